/-
  The contract of lab.Of.
-/
import Derived.Test.YtnmggnlndndbgabOfp
import Derived.Deep.QuietTactic
import Derived.BigQuiet
namespace Go.Proofs.Ytnmggnlndndbgab
open Go.RowKit

/-- The slice v holds the numbers l. -/
def Seg (w : World) (v : Value) (l : List Int) : Prop :=
  (l = [] ∧ ∃ p cap, v = .slice p 0 cap) ∨ ∃ b off cap, v = .slice (some ⟨b, off, none⟩) l.length cap ∧ ∀ j, j < l.length → w.cell? ⟨b, off + j, none⟩ = some (.int .i64 (l.getD j 0))

theorem seg_of_owns {w : World} {base n : Nat} {v : Value} {xs : List Value} {l : List Int} (h : w.ownsRow base 3 1 v n xs) (hn : n = l.length) (hx : xs = l.map (Value.int .i64)) : Seg w v l := by
  subst hn hx
  rcases h.2 with ⟨rfl, e⟩ | ⟨g, cap, cur, rfl, _, _, _, _, _, _⟩
  · exact .inl ⟨List.length_eq_zero_iff.1 e, none, 0, rfl⟩
  · refine .inr ⟨g, 0, cap, rfl, fun j hj => ?_⟩
    have := h.cells (g := g) rfl j (.int .i64 (l.getD j 0)) (by simp [hj])
    by_cases h0 : j = 0
    · subst h0; simpa [Addr.add] using this
    · simpa [Addr.add, h0] using this

theorem Seg.below {w w' : World} {v : Value} {l : List Int} {B : Nat} (h : Seg w v l) (hb : Below B w w') (hv : ∀ k, v.ownBlock = some k → k < B) : Seg w' v l := by
  rcases h with ⟨rfl, p1, c1, rfl⟩ | ⟨b1, o1, c1, rfl, g1⟩
  · exact .inl ⟨rfl, p1, c1, rfl⟩
  · exact .inr ⟨b1, o1, c1, rfl, fun j hj => (hb.cell (p := ⟨b1, o1 + j, none⟩) (hv b1 rfl)).trans (g1 j hj)⟩

/-- What Of answers of the branches l. -/
def ofAns (l : List Int) : Value :=
  if Plain.brs l l.length = true then (if Plain.tw l l.length = true then .tuple #[.int .i64 0, .int .i64 7] else .tuple #[.int .i64 (Plain.labOf l l.length : Nat), .int .i64 0])
  else .tuple #[.int .i64 0, .int .i64 2]

theorem ofAns_no {l : List Int} (h : Plain.brs l l.length = false) : ofAns l = .tuple #[.int .i64 0, .int .i64 2] := by simp [ofAns, h]
theorem ofAns_twice {l : List Int} (h : Plain.brs l l.length = true) (h2 : Plain.tw l l.length = true) : ofAns l = .tuple #[.int .i64 0, .int .i64 7] := by simp [ofAns, h, h2]
theorem ofAns_yes {l : List Int} (h : Plain.brs l l.length = true) (h2 : Plain.tw l l.length = false) : ofAns l = .tuple #[.int .i64 (Plain.labOf l l.length : Nat), .int .i64 0] := by simp [ofAns, h, h2]

theorem brs_false {l : List Int} {k : Nat} (hk : k < l.length) (hx : ¬ (0 ≤ l.getD k 0 ∧ l.getD k 0 ≤ 7)) : Plain.brs l l.length = false := by
  cases h : Plain.brs l l.length
  · rfl
  · have := Plain.brs_mono l (k + 1) l.length hk h
    rw [Plain.brs_succ l k hk] at this
    simp only [Bool.and_eq_true, decide_eq_true_eq] at this
    exact absurd this.2 hx

set_option maxHeartbeats 400000 in
theorem of_nil (p : Option Addr) (c : Nat) (w : World) : Calls Try.prog 13 #[.slice p 0 c] w fun e w' => e = .returned (ofAns []) ∧ w' = w := by
  go_enter Try.func13, Try.ntmps13
  go_wp2
  refine wp_loop_rounds 1 ?_
  rw [rounds_succ]
  go_wp2
  go_ret2
  exact ⟨rfl, rfl⟩

set_option maxHeartbeats 1000000 in
theorem of_any (b off cap : Nat) (l : List Int) (hl : l.length ≤ 9223372036854775807) (w : World)
    (h1 : ∀ j, j < l.length → w.cell? ⟨b, off + j, none⟩ = some (.int .i64 (l.getD j 0))) :
    Calls Try.prog 13 #[.slice (some ⟨b, off, none⟩) l.length cap] w fun e w' => e = .returned (ofAns l) ∧ w' = w := by
  have H1 : Hid _ := h1
  clear h1
  go_enter Try.func13, Try.ntmps13
  go_wp2
  go_loop [4, 5, 10] (fun s t i => ∃ k : Nat, k ≤ l.length ∧ s = .int .i64 (Plain.labOf l k : Nat) ∧ t = .bool (Plain.tw l k) ∧ i = .int .i64 k ∧ Hid (Plain.brs l k = true)) (fun _ _ i => l.length - (intOf i).toNat)
  case atStart => exact ⟨0, Nat.zero_le _, by rw [Plain.labOf_zero]; rfl, rfl, rfl, hid rfl⟩
  case round =>
    obtain ⟨k, hk, rfl, rfl, rfl, HB⟩ := hrel
    by_cases hlt : k < l.length
    · have hlt' : (k : Int) < (l.length : Int) := by omega
      by_cases hx : 0 ≤ l.getD k 0 ∧ l.getD k 0 ≤ 7
      · obtain ⟨n, hn⟩ := Int.eq_ofNat_of_zero_le hx.1
        have hn8 : n < 8 := by omega
        have hn8i : (n : Int) < 8 := by omega
        have g1 := H1.out k hlt
        rw [hn] at g1
        have e2 : (bits .and .i64 (Plain.labOf l k : Nat) (wrap64 (2 ^ n)) != 0) = Plain.hasB (l.take k) (n : Int) := by
          rw [Plain.wrap_pow n hn8, Plain.bit_ne _ n (Plain.labOf_lt l k) hn8, Plain.labOf_bit l k n hn8]
        have e3 : bits .or .i64 (Plain.labOf l k : Nat) (wrap64 (2 ^ n)) = (Plain.labOf l (k + 1) : Nat) := by
          have hp : ((2 : Int) ^ n) = ((2 ^ n : Nat) : Int) := by simp
          have h2 := Plain.pow_lt n hn8
          have h3 := Plain.labOf_lt l k
          rw [Plain.wrap_pow n hn8, hp, Plain.or_nat _ _ (by omega) (by omega), Plain.labOf_succ l k n hlt hn8 hn]
        have HT : Hid (Plain.tw l (k + 1) = (Plain.tw l k || Plain.hasB (l.take k) (n : Int))) := hid (by simp only [Plain.tw]; rw [hn])
        have HB2 : Hid (Plain.brs l (k + 1) = true) := hid (by rw [Plain.brs_succ l k hlt, HB.out]; simpa using hx)
        clear hx hn HB
        cases ht : Plain.tw l k
        · rw [ht] at HT
          go_wp2
          go_round
          case rel => exact ⟨k + 1, by omega, rfl, by rw [HT.out]; rfl, by go_num, HB2⟩
          case measure => simp [intOf]; omega
        · rw [ht] at HT
          go_wp2
          go_round
          case rel => exact ⟨k + 1, by omega, rfl, by rw [HT.out]; rfl, by go_num, HB2⟩
          case measure => simp [intOf]; omega
      · have g1 := H1.out k hlt
        have HN : Hid (ofAns l = .tuple #[.int .i64 0, .int .i64 2]) := hid (ofAns_no (brs_false hlt hx))
        obtain ⟨x, hx'⟩ : ∃ x, x = l.getD k 0 := ⟨_, rfl⟩
        rw [← hx'] at hx g1
        clear hx' HB
        by_cases h0 : 0 ≤ x
        · have h7 : ¬ x < 8 := fun h => hx ⟨h0, by omega⟩
          clear hx
          go_wp2
          go_ret2
          rw [HN.out]
          exact ⟨rfl, rfl⟩
        · clear hx
          go_wp2
          go_ret2
          rw [HN.out]
          exact ⟨rfl, rfl⟩
    · have hkl : k = l.length := by omega
      subst hkl
      cases ht : Plain.tw l l.length
      · have HN : Hid _ := ofAns_yes HB.out ht
        go_wp2
        go_ret2
        rw [HN.out]
        exact ⟨rfl, rfl⟩
      · have HN : Hid _ := ofAns_twice HB.out ht
        go_wp2
        go_ret2
        rw [HN.out]
        exact ⟨rfl, rfl⟩

theorem of_seg (v : Value) (l : List Int) (hl : l.length ≤ 9223372036854775807) (w : World) (h : Seg w v l) :
    Calls Try.prog 13 #[v] w fun e w' => e = .returned (ofAns l) ∧ w' = w := by
  rcases h with ⟨rfl, p, c, rfl⟩ | ⟨b, o, c, rfl, g⟩
  · exact of_nil p c w
  · exact of_any b o c l hl w g
end Go.Proofs.Ytnmggnlndndbgab

/-
  The contract of the document's answer to Of.
-/
import Derived.Test.YtnmggnlndndbgaaOfr
import Derived.WalkSmall
namespace Go.Proofs.Ytnmggnlndndbgaa
open Go.RowKit

theorem labOf_all (l : List Int) : Plain.label (fun j => Plain.hasB l (j : Int)) 8 = Plain.labOf l l.length := by
  unfold Plain.labOf; rw [List.take_of_length_le (Nat.le_refl _)]

theorem has_pre (b off cap k : Nat) (x : Int) (l : List Int) (hl : l.length ≤ 9223372036854775807) (hk : k ≤ l.length) (w : World)
    (h1 : ∀ j, j < l.length → w.cell? ⟨b, off + j, none⟩ = some (.int .i64 (l.getD j 0))) :
    Calls Try.prog 33 #[.slice (some ⟨b, off, none⟩) k cap, .int .i64 x] w fun e w' => e = .returned (.bool (Plain.hasB (l.take k) x)) ∧ w' = w := by
  have e : (l.take k).length = k := by simp [hk]
  have h := has_any b off cap x (l.take k) (by omega) w (fun j hj => by
    rw [e] at hj
    rw [h1 j (by omega)]
    simp [hj])
  rw [e] at h
  exact h

set_option maxHeartbeats 400000 in
theorem refOf_nil (p : Option Addr) (c : Nat) (w : World) : Calls Try.prog 21 #[.slice p 0 c] w fun e w' => e = .returned (ofAns []) ∧ Below w.heap.size w w' := by
  go_enter Try.func21, Try.ntmps21
  go_wp2
  refine wp_loop_rounds 1 ?_
  rw [rounds_succ]
  go_wp2
  refine wp_loop_rounds 1 ?_
  rw [rounds_succ]
  go_wp2_with fail
  refine (labelBy_34 #[.pointer (some ⟨w.heap.size, 0, none⟩)] (fun k => Plain.hasB [] (k : Int)) _ ?_).mono ?_
  · intro k hk
    exact of_so [] (by simp) k _ p 0 c _ (by simp [go_sem]) (.inl ⟨rfl, p, c, rfl⟩)
  rintro e w' ⟨rfl, rfl⟩
  go_wp2
  go_ret2
  exact ⟨rfl, (Below.refl _ _).alloc (Nat.le_refl _) _⟩

set_option maxHeartbeats 1000000 in
theorem refOf_any (b off cap : Nat) (l : List Int) (hl : l.length ≤ 9223372036854775807) (hcap : l.length ≤ cap) (w : World) (hb : b < w.heap.size)
    (h1 : ∀ j, j < l.length → w.cell? ⟨b, off + j, none⟩ = some (.int .i64 (l.getD j 0))) :
    Calls Try.prog 21 #[.slice (some ⟨b, off, none⟩) l.length cap] w fun e w' => e = .returned (ofAns l) ∧ Below w.heap.size w w' := by
  have H1 : Hid _ := h1
  clear h1
  go_enter Try.func21, Try.ntmps21
  go_wp2
  go_loop [9] (fun i => ∃ k : Nat, k ≤ l.length ∧ i = .int .i64 k ∧ Hid (Plain.brs l k = true)) (fun i => l.length - (intOf i).toNat)
  case atStart => exact ⟨0, Nat.zero_le _, rfl, hid rfl⟩
  case round =>
    obtain ⟨k, hk, rfl, HB⟩ := hrel
    by_cases hlt : k < l.length
    · have hlt' : (k : Int) < (l.length : Int) := by omega
      have g1 := H1.out k hlt
      by_cases hx : 0 ≤ l.getD k 0 ∧ l.getD k 0 ≤ 7
      · have HB2 : Hid (Plain.brs l (k + 1) = true) := hid (by rw [Plain.brs_succ l k hlt, HB.out]; simpa using hx)
        obtain ⟨x, hx'⟩ : ∃ x, x = l.getD k 0 := ⟨_, rfl⟩
        rw [← hx'] at hx g1
        obtain ⟨x0, x7⟩ := hx
        clear hx' HB
        go_wp2
        go_round
        case rel => exact ⟨k + 1, by omega, by go_num, HB2⟩
        case measure => simp [intOf]; omega
      · have HN : Hid (ofAns l = .tuple #[.int .i64 0, .int .i64 2]) := hid (ofAns_no (brs_false hlt hx))
        obtain ⟨x, hx'⟩ : ∃ x, x = l.getD k 0 := ⟨_, rfl⟩
        rw [← hx'] at hx g1
        clear hx' HB
        by_cases h0 : 0 ≤ x
        · have h7 : ¬ x ≤ 7 := fun h => hx ⟨h0, h⟩
          clear hx
          go_wp2
          go_ret2
          rw [HN.out]
          exact ⟨rfl, (Below.refl _ _).alloc (Nat.le_refl _) _⟩
        · clear hx
          go_wp2
          go_ret2
          rw [HN.out]
          exact ⟨rfl, (Below.refl _ _).alloc (Nat.le_refl _) _⟩
    · have hkl : k = l.length := by omega
      subst hkl
      go_wp2
      go_loopw [22] (fun i wr => ∃ k : Nat, k ≤ l.length ∧ i = .int .i64 k ∧ Hid (Plain.tw l k = false) ∧ Hid (Below w.heap.size w wr) ∧ wr.cell? ⟨w.heap.size, 0, none⟩ = some (.slice (some ⟨b, off, none⟩) l.length cap)) (fun i _ => l.length - (intOf i).toNat)
      case atStart => exact ⟨0, Nat.zero_le _, rfl, hid rfl, hid ((Below.refl _ _).alloc (Nat.le_refl _) _), by simp [go_sem]⟩
      case round =>
        obtain ⟨k, hk, rfl, HT, HW, g0⟩ := hrel
        have HC : Hid (∀ j, j < l.length → wr.cell? ⟨b, off + j, none⟩ = some (.int .i64 (l.getD j 0))) :=
          hid (fun j hj => (HW.out.cell (p := ⟨b, off + j, none⟩) hb).trans (H1.out j hj))
        by_cases hlt2 : k < l.length
        · have hlt' : (k : Int) < (l.length : Int) := by omega
          have hcap' : (k : Int) ≤ (cap : Int) := by omega
          have g1 := HC.out k hlt2
          have HS : Hid (Plain.tw l (k + 1) = (false || Plain.hasB (l.take k) (l.getD k 0))) := hid (by simp only [Plain.tw]; rw [HT.out])
          obtain ⟨x, hx'⟩ : ∃ x, x = l.getD k 0 := ⟨_, rfl⟩
          rw [← hx'] at HS g1
          clear hx'
          cases hh : Plain.hasB (l.take k) x
          · have HH : Hid _ := hh
            clear hh
            go_wp2
            go_quiet ((go_at_call 33; exact Calls.quiet_of_same (has_pre b off cap k x l hl (Nat.le_of_lt hlt2) _ HC.out)))
            rw [HH.out]
            go_wp2
            go_roundw
            case rel => exact ⟨k + 1, by omega, by go_num, hid (by rw [HS.out, HH.out]; rfl), hid (below_drewN HW.out _), by simpa using g0⟩
            case measure => simp [intOf]; omega
          · have HH : Hid _ := hh
            clear hh
            have HN : Hid _ := ofAns_twice HB.out (Plain.tw_mono l (k + 1) l.length hlt2 (by rw [HS.out, HH.out]; rfl))
            go_wp2
            go_quiet ((go_at_call 33; exact Calls.quiet_of_same (has_pre b off cap k x l hl (Nat.le_of_lt hlt2) _ HC.out)))
            rw [HH.out]
            go_wp2
            go_ret2
            rw [HN.out]
            exact ⟨rfl, below_drewN HW.out _⟩
        · have hkl : k = l.length := by omega
          subst hkl
          have HN : Hid _ := ofAns_yes HB.out HT.out
          go_wp2_with fail
          refine (labelBy_34 #[.pointer (some ⟨w.heap.size, 0, none⟩)] (fun k => Plain.hasB l (k : Int)) _ ?_).mono ?_
          · intro k hk
            exact of_so l hl k _ (some ⟨b, off, none⟩) l.length cap _ g0 (.inr ⟨b, off, cap, rfl, HC.out⟩)
          rintro e w' ⟨rfl, rfl⟩
          rw [labOf_all]
          go_wp2
          go_ret2
          rw [HN.out]
          exact ⟨rfl, HW.out⟩
end Go.Proofs.Ytnmggnlndndbgaa

/-
  lab.Members; slices.Contains; slices.ContainsFunc with view.Of's literal.
-/
import Derived.Test.YtlmiomfbpeondanTx
import Derived.Test.YtlmiomfbpeondanQ3
namespace Go.Proofs.Ytlmiomfbpeondan.Vi
open Go.RowKit Go.Shelf
namespace LabM
open LabP
/-- Those of the first n branches that are in the label s, ascending. -/
def mem (s n : Nat) : List Nat := (List.range n).filter (fun k => s / 2 ^ k % 2 == 1)

theorem mem_hit (s n : Nat) (h : (s / 2 ^ n % 2 == 1) = true) : mem s (n + 1) = mem s n ++ [n] := by
  simp [mem, List.range_succ, List.filter_append, h]
theorem mem_miss (s n : Nat) (h : (s / 2 ^ n % 2 == 1) = false) : mem s (n + 1) = mem s n := by
  simp [mem, List.range_succ, List.filter_append, h]
theorem mem_le (s n : Nat) : (mem s n).length ≤ n := by
  have := List.length_filter_le (fun k => s / 2 ^ k % 2 == 1) (List.range n)
  simpa [mem] using this

theorem pow_lt (n : Nat) (h : n < 8) : 2 ^ n ≤ 128 := by
  have : 2 ^ n ≤ 2 ^ 7 := Nat.pow_le_pow_right (by decide) (by omega)
  omega

theorem bit_ne (s n : Nat) (hs : s < 256) (hn : n < 8) : (bits .and .i64 (s : Int) (2 ^ n) != 0) = (s / 2 ^ n % 2 == 1) := by
  have hp := pow_lt n hn
  have e : ((2 : Int) ^ n) = ((2 ^ n : Nat) : Int) := by simp
  rw [e, and_nat s (2 ^ n) (by omega) (by omega), nat_bit]
  have hpos : 0 < 2 ^ n := Nat.two_pow_pos n
  have h2 : s / 2 ^ n % 2 = 0 ∨ s / 2 ^ n % 2 = 1 := by omega
  rcases h2 with h2 | h2
  · simp [h2]
  · rw [h2, Bool.eq_iff_iff, bne_iff_ne]
    constructor
    · intro _; rfl
    · intro _ h
      omega

theorem wrap_pow (n : Nat) (hn : n < 8) : wrap64 (2 ^ n) = 2 ^ n := by
  have hp := pow_lt n hn
  have e : ((2 : Int) ^ n) = ((2 ^ n : Nat) : Int) := by simp
  rw [e]
  generalize (2 ^ n : Nat) = x at hp
  unfold wrap64
  omega
end LabM

theorem rel_keep {B k s : Nat} {w wr w1 : World} {u v' : Value} {o : Obj} (hit : (s / 2 ^ k % 2 == 1) = true) (hB : B ≤ wr.heap.size)
    (hown : wr.ownsRow B 3 1 u (LabM.mem s k).length ((LabM.mem s k).map (fun j : Nat => Value.int .i64 j))) (hnx : Below B w wr)
    (hown' : w1.ownsRow B 3 1 v' ((LabM.mem s k).length + 1) ((LabM.mem s k).map (fun j : Nat => Value.int .i64 j) ++ [.int .i64 (k : Nat)])) (hgrow : (wr.alloc o).grownBy w1 u.ownBlock) :
    w1.ownsRow B 3 1 v' (LabM.mem s (k + 1)).length ((LabM.mem s (k + 1)).map (fun j : Nat => Value.int .i64 j)) ∧ Below B w w1 := by
  have e1 := LabM.mem_hit s k hit
  refine ⟨by rw [e1]; simpa using hown', (hnx.alloc (by omega) o).grown hgrow (by simp; omega) (fun j hj => by have := (hown.lt j hj).1; omega)⟩

set_option maxHeartbeats 400000 in
set_option maxRecDepth 100000 in
theorem members_yes (s : Nat) (hs : s < 256) (w : World) :
    Calls Try.prog 8 #[.int .i64 s] w fun e w' => ∃ v, e = .returned (.tuple #[v, .int .i64 0]) ∧
      w'.ownsRow w.heap.size 3 1 v (LabM.mem s 8).length ((LabM.mem s 8).map (fun j : Nat => Value.int .i64 j)) ∧ Below w.heap.size w w' := by
  obtain ⟨i0, hi, hz0, hz1, hz2⟩ := info_parts infoI
  have e1 := ma s hs
  go_enter Try.func8, Try.ntmps8
  go_wp2
  go_loopw [4, 9] (fun v i wr => ∃ k : Nat, k ≤ 8 ∧ i = .int .i64 k ∧ wr.ownsRow w.heap.size 3 1 v (LabM.mem s k).length ((LabM.mem s k).map (fun j : Nat => Value.int .i64 j)) ∧ Below w.heap.size w wr)
    (fun _ i _ => 8 - (intOf i).toNat)
  case atStart => exact ⟨0, Nat.zero_le _, rfl, World.ownsRow_nil _ _ _ _, Below.refl _ _⟩
  case round =>
    obtain ⟨k, hk, rfl, hown, hnx⟩ := hrel
    by_cases hlt : k < 8
    · cases eb : (s / 2 ^ k % 2 == 1)
      · have EB : Hid _ := eb
        have e2 := LabM.bit_ne s k hs hlt
        rw [eb, ← LabM.wrap_pow k hlt] at e2
        clear eb
        go_wp2
        go_roundw
        case rel => exact ⟨k + 1, by omega, by go_num, by rw [LabM.mem_miss s k EB.out]; exact hown, hnx⟩
        case measure => simp [intOf]; omega
      · have EB : Hid _ := eb
        have e2 := LabM.bit_ne s k hs hlt
        rw [eb, ← LabM.wrap_pow k hlt] at e2
        clear eb
        go_wp2_with (first
          | (at_builtin; refine wpList_append_own _ rfl _ _ 22 rfl w.heap.size 3 i0 (.int .i64 0) 1 8 Try.underlying22 hi hz0 hz1 hz2 rfl (by decide) _ _ _ rfl (hown.alloc _) ⟨wr.heap.size, 0, none⟩ 1 1 [.int .i64 k] rfl rfl ?c1 ?c2 ?c3 ?c4 ?c5 ?_)
          | go_in)
        case c1 =>
          intro j u hj
          match j, hj with
          | 0, hj => simp at hj; subst hj; simp [Addr.add]
        case c2 => intro u hu; simp at hu; subst hu; rfl
        case c3 => have := LabM.mem_le s k; unfold maxLen; omega
        case c4 => have := LabM.mem_le s k; omega
        case c5 => have := hnx.size; simp; omega
        intro v' w1 hown' hgrow _
        have R := rel_keep EB.out hnx.size hown hnx hown' hgrow
        clear hown' hgrow hown hnx
        go_wp2
        go_roundw
        case rel => first | exact ⟨k + 1, by omega, by go_num, R.1, R.2⟩ | ((repeat apply Exists.intro); exact ⟨⟨k + 1, by omega, by go_num, R.1, R.2⟩, rfl⟩)
        case measure => simp [intOf]; omega
    · go_wp2
      go_ret2
      have h8 : k = 8 := by omega
      subst h8
      exact ⟨_, rfl, hown, hnx⟩

theorem members_no (s : Int) (h1 : -9223372036854775808 ≤ s) (h2 : s ≤ 9223372036854775807) (h : ¬ (0 ≤ s ∧ s ≤ 255)) (w : World) :
    Calls Try.prog 8 #[.int .i64 s] w fun e w' => e = .returned (.tuple #[.slice none 0 0, .int .i64 2]) ∧ w' = w := by
  have e1 := ma_no s h1 h2 h
  clear h h1 h2
  go_enter Try.func8, Try.ntmps8
  go_wp2
  go_ret2
  exact ⟨rfl, rfl⟩


def geB (n x : Int) : Bool := decide (n ≤ x)
theorem of1_c (x : Int) (T : Nat) (c : Plain.Cf) (lv mv : Value) (w : World) (hc : CellC w T c lv mv) :
    Calls Try.prog 10 #[.int .i64 x, .pointer (some ⟨T, 0, none⟩)] w fun e w' => e = .returned (.bool (geB c.n x)) ∧ Below w.heap.size w w' := by
  obtain ⟨c0, c1, c2, c3, c4⟩ := hc
  obtain ⟨cn, ls, ct, ms, cap⟩ := c
  go_enter Try.func10, Try.ntmps10
  go_wp2
  go_ret
  exact ⟨rfl, Below.refl _ _⟩
set_option maxHeartbeats 2000000 in
theorem indexO (T : Nat) (cf : Plain.Cf) (lv mv : Value) (b off n c : Nat) (l : List Int) (w : World) (hT : CellC w T cf lv mv) (hn : l.length = n) (hbig : n ≤ 9223372036854775807) (hb : 0 < n → b < w.heap.size) (hc : ∀ j, j < n → w.cell? ⟨b, off + j, none⟩ = some (.int .i64 (l.getD j 0))) :
    Calls Try.prog 21 #[.slice (some ⟨b, off, none⟩) n c, .func (.func 10) #[] #[.pointer (some ⟨T, 0, none⟩)]] w fun e w' => e = .returned (.int .i64 (Plain.idxI (geB cf.n) l)) ∧ Below w.heap.size w w' := by
  have HC := hid hc
  clear hc
  have HT := hid hT
  clear hT
  go_enter Try.func21, Try.ntmps21
  go_wp2
  go_loopg [5, 8] n (fun gg _ s8 wr => ∃ k : Nat, k ≤ n ∧ n - k ≤ gg ∧ s8 = .int .i64 k ∧ Aside (Below w.heap.size w wr) ∧ Aside (∀ j, j < k → geB cf.n (l.getD j 0) = false))
  case atStart => exact ⟨0, Nat.zero_le _, by omega, rfl, Below.refl _ w, fun j hj => absurd hj (Nat.not_lt_zero _)⟩
  case round =>
    obtain ⟨k, hkk, hg, rfl, BW, A⟩ := hrel
    by_cases hlt : k < n
    · have hltz : (k : Int) < (n : Int) := by omega
      have c0 : wr.cell? ⟨b, off + k, none⟩ = some (.int .i64 (l.getD k 0)) := (BW.out.cell (p := ⟨b, off + k, none⟩) (hb (by omega))).trans (HC.out k hlt)
      have hcall := of1_c (l.getD k 0) T cf lv mv wr (HT.out.below BW.out HT.out.lt)
      generalize hy : l.getD k 0 = y at c0 hcall
      have HY : Aside (l.getD k 0 = y) := hy
      clear hy
      cases hq : geB cf.n y with
      | true =>
        rw [hq] at hcall
        go_wp2_with fail
        refine hcall.mono ?_
        rintro e w' ⟨rfl, hb'⟩
        have HB' := hid (BW.out.trans (hb'.mono BW.out.size))
        clear hcall hb'
        go_wp2
        go_ret
        refine ⟨?_, HB'.out⟩
        rw [Plain.idxI_hit (by omega) (by rw [HY.out]; exact hq) A.out]
        rfl
      | false =>
        rw [hq] at hcall
        go_wp2_with fail
        refine hcall.mono ?_
        rintro e w' ⟨rfl, hb'⟩
        have HB' := hid (BW.out.trans (hb'.mono BW.out.size))
        clear hcall hb'
        go_wp2
        go_roundg (n - (k + 1))
        case measure => omega
        case rel =>
          refine ⟨k + 1, by omega, by omega, by go_num, HB'.out, (show Aside _ from fun j hj => ?_)⟩
          by_cases e : j = k
          · subst e
            rw [HY.out]; exact hq
          · exact A.out j (by omega)
    · have hltz : ¬ (k : Int) < (n : Int) := by omega
      have : k = n := by omega
      subst this
      go_wp2
      go_ret
      refine ⟨?_, BW.out⟩
      rw [Plain.idxI_miss (fun j hj => A.out j (by omega))]
      rfl

theorem containsO (T : Nat) (cf : Plain.Cf) (lv mv : Value) (v : Value) (l : List Int) (w : World) (hbig : l.length ≤ 9223372036854775807) (hs : Seg w v l) (hl : Lies w.heap.size v) (hT : CellC w T cf lv mv) :
    Calls Try.prog 9 #[v, .func (.func 10) #[] #[.pointer (some ⟨T, 0, none⟩)]] w fun e w' => e = .returned (.bool (l.any (geB cf.n))) ∧ Below w.heap.size w w' := by
  rw [← Plain.idxI_any]
  have K : Calls Try.prog 21 #[v, .func (.func 10) #[] #[.pointer (some ⟨T, 0, none⟩)]] w fun e w' => e = .returned (.int .i64 (Plain.idxI (geB cf.n) l)) ∧ Below w.heap.size w w' := by
    rcases hs with ⟨rfl, q, c, rfl⟩ | ⟨b, off, c, rfl, hc⟩
    · exact (index_nilI q c _ w).mono fun e w' ⟨h1, h2⟩ => ⟨by rw [h1]; rfl, by rw [h2]; exact Below.refl _ _⟩
    · exact indexO T cf lv mv b off l.length c l w hT rfl hbig (fun h => hl ⟨b, off, none⟩ _ _ rfl h) hc
  generalize Plain.idxI (geB cf.n) l = r at K ⊢
  clear hs hl hT
  go_enter Try.func9, Try.ntmps9
  go_wp2_with fail
  refine K.mono ?_
  rintro e w' ⟨rfl, hb⟩
  go_wp2
  go_ret
  exact ⟨rfl, hb⟩


set_option maxHeartbeats 2000000 in
theorem indexX (x : Int) (b off n c : Nat) (l : List Int) (w : World) (hn : l.length = n) (hbig : n ≤ 9223372036854775807) (hc : ∀ j, j < n → w.cell? ⟨b, off + j, none⟩ = some (.int .i64 (l.getD j 0))) :
    Calls Try.prog 25 #[.slice (some ⟨b, off, none⟩) n c, .int .i64 x] w fun e w' => e = .returned (.int .i64 (Plain.idxI (fun y => x == y) l)) ∧ w' = w := by
  have HC := hid hc
  clear hc
  go_enter Try.func25, Try.ntmps25
  go_wp2
  go_loopg [5, 8] n (fun gg _ s8 wr => ∃ k : Nat, k ≤ n ∧ n - k ≤ gg ∧ s8 = .int .i64 k ∧ wr = w ∧ Aside (∀ j, j < k → (x == l.getD j 0) = false))
  case atStart => exact ⟨0, Nat.zero_le _, by omega, rfl, rfl, fun j hj => absurd hj (Nat.not_lt_zero _)⟩
  case round =>
    obtain ⟨k, hkk, hg, rfl, hw, A⟩ := hrel
    have hy := hw.symm
    clear hw
    subst hy
    by_cases hlt : k < n
    · have hltz : (k : Int) < (n : Int) := by omega
      have c0 := HC.out k hlt
      generalize hy : l.getD k 0 = y at c0
      have HY : Aside (l.getD k 0 = y) := hy
      clear hy
      cases hq : (x == y) with
      | true =>
        go_wp2
        go_ret
        refine ⟨?_, rfl⟩
        rw [Plain.idxI_hit (p := fun y => x == y) (by omega) (by rw [HY.out]; exact hq) A.out]
        rfl
      | false =>
        go_wp2
        go_roundg (n - (k + 1))
        case measure => omega
        case rel =>
          refine ⟨k + 1, by omega, by omega, by go_num, rfl, (show Aside _ from fun j hj => ?_)⟩
          by_cases e : j = k
          · subst e
            rw [HY.out]; exact hq
          · exact A.out j (by omega)
    · have hltz : ¬ (k : Int) < (n : Int) := by omega
      have : k = n := by omega
      subst this
      go_wp2
      go_ret
      refine ⟨?_, rfl⟩
      rw [Plain.idxI_miss (p := fun y => x == y) (fun j hj => A.out j (by omega))]
      rfl
set_option maxHeartbeats 1000000 in
theorem indexX_nil (x : Int) (p : Option Addr) (c : Nat) (w : World) :
    Calls Try.prog 25 #[.slice p 0 c, .int .i64 x] w fun e w' => e = .returned (.int .i64 (-1)) ∧ w' = w := by
  go_enter Try.func25, Try.ntmps25
  go_wp2
  refine wp_loop_rounds 1 ?_
  rw [rounds_succ]
  go_wp2
  go_ret
  exact ⟨rfl, rfl⟩
theorem contains_c (x : Int) (v : Value) (l : List Int) (w : World) (hbig : l.length ≤ 9223372036854775807) (hs : Seg w v l) :
    Calls Try.prog 12 #[v, .int .i64 x] w fun e w' => e = .returned (.bool (l.any (fun y => x == y))) ∧ w' = w := by
  rw [← Plain.idxI_any]
  have K : Calls Try.prog 25 #[v, .int .i64 x] w fun e w' => e = .returned (.int .i64 (Plain.idxI (fun y => x == y) l)) ∧ w' = w := by
    rcases hs with ⟨rfl, q, c, rfl⟩ | ⟨b, off, c, rfl, hc⟩
    · exact (indexX_nil x q c w).mono fun e w' ⟨h1, h2⟩ => ⟨by rw [h1]; rfl, h2⟩
    · exact indexX x b off l.length c l w rfl hbig hc
  generalize Plain.idxI (fun y => x == y) l = r at K ⊢
  clear hs
  go_enter Try.func12, Try.ntmps12
  go_wp2_with fail
  refine K.mono ?_
  rintro e w' ⟨rfl, hb⟩
  have hy := hb.symm
  clear hb K
  subst hy
  go_wp2
  go_ret
  exact ⟨rfl, rfl⟩
theorem seg_of_owns {w : World} {base n : Nat} {v : Value} {xs : List Value} {l : List Int} (h : w.ownsRow base 3 1 v n xs) (hn : n = l.length) (hx : xs = l.map (Value.int .i64)) : Seg w v l ∧ Lies w.heap.size v := by
  subst hn hx
  rcases h.2 with ⟨rfl, e⟩ | ⟨g, cap, cur, rfl, _, hb, _, _, _, _⟩
  · exact ⟨.inl ⟨List.length_eq_zero_iff.1 e, none, 0, rfl⟩, fun p n c e h => by injection e with _ e; omega⟩
  · refine ⟨.inr ⟨g, 0, cap, rfl, fun j hj => ?_⟩, lies_at (Array.getElem?_eq_some_iff.1 hb).1⟩
    have := h.cells (g := g) rfl j (.int .i64 (l.getD j 0)) (by simp [hj])
    by_cases h0 : j = 0
    · subst h0; simpa [Addr.add] using this
    · simpa [Addr.add, h0] using this
end Go.Proofs.Ytlmiomfbpeondan.Vi

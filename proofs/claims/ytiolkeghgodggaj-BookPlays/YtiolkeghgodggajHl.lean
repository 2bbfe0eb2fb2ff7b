/-
  A contract of sameInts (law): are the numbers of two slices the same?
-/
import Derived.Test.YtiolkeghgodggajHs
namespace Go.Proofs.Ytiolkeghgodggaj.Bo
open Go.RowKit
namespace law

theorem seg_form {w : World} {u : Value} {bl : List Int} (h : Seg w u bl) : ∃ p c, u = .slice p bl.length c := by
  rcases h with ⟨rfl, p, c, rfl⟩ | ⟨b, o, c, rfl, _⟩
  · exact ⟨p, c, rfl⟩
  · exact ⟨_, c, rfl⟩

theorem take_next {a b : List Int} {k : Nat} (ha : k < a.length) (hb : k < b.length) (h : a.take k = b.take k) (e : a.getD k 0 = b.getD k 0) : a.take (k + 1) = b.take (k + 1) := by
  rw [List.take_succ_eq_append_getElem ha, List.take_succ_eq_append_getElem hb, h]
  simp only [List.getD_eq_getElem?_getD, List.getElem?_eq_getElem ha, List.getElem?_eq_getElem hb, Option.getD_some] at e
  rw [e]

set_option maxHeartbeats 400000 in
theorem same_len (p1 p2 : Option Addr) (n m c1 c2 : Nat) (h : ¬ n = m) (w : World) :
    Calls Try.prog 16 #[.slice p1 n c1, .slice p2 m c2] w fun e w' => e = .returned (.bool false) ∧ ∃ q, w' = w.drewN q := by
  have h' : ¬ (n : Int) = (m : Int) := by omega
  go_enter Try.func16, Try.ntmps16
  go_wp2
  go_ret
  exact ⟨rfl, 0, rfl⟩

set_option maxHeartbeats 400000 in
theorem same_nil (p1 p2 : Option Addr) (c1 c2 : Nat) (w : World) :
    Calls Try.prog 16 #[.slice p1 0 c1, .slice p2 0 c2] w fun e w' => e = .returned (.bool true) ∧ ∃ q, w' = w.drewN q := by
  go_enter Try.func16, Try.ntmps16
  go_wp2
  refine wp_loop_rounds 1 ?_
  rw [rounds_succ]
  go_wp2
  go_ret
  exact ⟨rfl, 0, rfl⟩

set_option maxHeartbeats 800000 in
theorem same_two (b1 o1 c1 b2 o2 c2 n : Nat) (a b : List Int) (ha : a.length = n) (hb : b.length = n) (hl : n ≤ 1000000) (w : World)
    (h1 : ∀ j, j < n → w.cell? ⟨b1, o1 + j, none⟩ = some (.int .i64 (a.getD j 0)))
    (h2 : ∀ j, j < n → w.cell? ⟨b2, o2 + j, none⟩ = some (.int .i64 (b.getD j 0))) :
    Calls Try.prog 16 #[.slice (some ⟨b1, o1, none⟩) n c1, .slice (some ⟨b2, o2, none⟩) n c2] w fun e w' => e = .returned (.bool (decide (a = b))) ∧ ∃ q, w' = w.drewN q := by
  have H1 := hid h1
  have H2 := hid h2
  have HA := hid ha
  have HB := hid hb
  clear h1 h2 ha hb
  go_enter Try.func16, Try.ntmps16
  go_wp2
  go_loopw [5] (fun i wr => ∃ k q : Nat, k ≤ n ∧ i = .int .i64 k ∧ a.take k = b.take k ∧ wr = w.drewN q) (fun i _ => n - (intOf i).toNat)
  case atStart => exact ⟨0, 0, Nat.zero_le _, rfl, rfl, rfl⟩
  case round =>
    obtain ⟨k, q, hk, rfl, ht, hw⟩ := hrel
    have HT := hid ht
    have HW := hid hw
    clear ht hw
    by_cases hlt : k < n
    · have g1 : wr.cell? ⟨b1, o1 + k, none⟩ = some (.int .i64 (a.getD k 0)) := by rw [HW.out]; simpa using H1.out k hlt
      have g2 : wr.cell? ⟨b2, o2 + k, none⟩ = some (.int .i64 (b.getD k 0)) := by rw [HW.out]; simpa using H2.out k hlt
      have hlt' : (k : Int) < (n : Int) := by omega
      obtain ⟨x, hx⟩ : ∃ x, x = a.getD k 0 := ⟨_, rfl⟩
      obtain ⟨y, hy⟩ : ∃ y, y = b.getD k 0 := ⟨_, rfl⟩
      rw [← hx] at g1
      rw [← hy] at g2
      have HX := hid hx
      have HY := hid hy
      clear hx hy
      by_cases c : x = y
      · subst c
        have R := hid (take_next (by rw [HA.out]; exact hlt) (by rw [HB.out]; exact hlt) HT.out (by rw [← HX.out, ← HY.out]))
        go_wp2
        go_quiet (fail)
        go_wp2
        go_roundw
        case rel => exact ⟨k + 1, _, by omega, by go_num, R.out, by rw [HW.out, drewN_add]⟩
        case measure => simp [intOf]; omega
      · go_wp2
        go_quiet (fail)
        go_wp2
        go_ret
        exact ⟨ret_bool (by symm; rw [decide_eq_false_iff_not]; intro e; apply c; rw [HX.out, HY.out, e]), _, by rw [HW.out, drewN_add]⟩
    · have ek : k = n := by omega
      subst ek
      have R := HT.out
      rw [List.take_of_length_le (by rw [HA.out]; exact Nat.le_refl _), List.take_of_length_le (by rw [HB.out]; exact Nat.le_refl _)] at R
      have RR := hid R
      clear R
      go_wp2
      go_ret
      exact ⟨ret_bool (by symm; rw [decide_eq_true_iff]; exact RR.out), _, HW.out⟩

theorem same_any (v1 v2 : Value) (a b : List Int) (hl : a.length ≤ 1000000) (w : World) (h1 : Seg w v1 a) (h2 : Seg w v2 b) :
    Calls Try.prog 16 #[v1, v2] w fun e w' => e = .returned (.bool (decide (a = b))) ∧ ∃ q, w' = w.drewN q := by
  by_cases hn : a.length = b.length
  · rcases h1 with ⟨rfl, p1, c1, rfl⟩ | ⟨b1, o1, c1, rfl, g1⟩
    · have eb : b = [] := List.length_eq_zero_iff.1 hn.symm
      subst eb
      rcases h2 with ⟨_, p2, c2, rfl⟩ | ⟨b2, o2, c2, rfl, _⟩
      · exact same_nil p1 p2 c1 c2 w
      · exact same_nil p1 _ c1 c2 w
    · rcases h2 with ⟨rfl, p2, c2, rfl⟩ | ⟨b2, o2, c2, rfl, g2⟩
      · have ea : a = [] := List.length_eq_zero_iff.1 hn
        subst ea
        exact same_nil _ p2 c1 c2 w
      · rw [← hn] at g2 ⊢
        exact same_two b1 o1 c1 b2 o2 c2 a.length a b rfl hn.symm hl w g1 g2
  · have e : decide (a = b) = false := by rw [decide_eq_false_iff_not]; intro e; exact hn (by rw [e])
    rw [e]
    obtain ⟨p1, c1, rfl⟩ := seg_form h1
    obtain ⟨p2, c2, rfl⟩ := seg_form h2
    exact same_len p1 p2 _ _ c1 c2 hn w
end law
end Go.Proofs.Ytiolkeghgodggaj.Bo

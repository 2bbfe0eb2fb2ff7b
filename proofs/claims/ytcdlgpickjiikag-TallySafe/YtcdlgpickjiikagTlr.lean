/-
  Contracts of tally.Left, and of the document's answer.
-/
import Derived.Test.YtcdlgpickjiikagTg
namespace Go.Proofs.Ytcdlgpickjiikag
open Go.RowKit Go.Sort

/-- What a function that was handed a tally has: its box, and the tally, in a world that has only grown. -/
structure St (w0 w : World) (b : Nat) (vm vu : Value) (t : Plain.Ta) : Prop where
  bel : Below w0.heap.size w0 w
  has0 : HasT w0 vm vu t
  lt : b < w.heap.size
  x0 : w.cell? ⟨b, 0, none⟩ = some vm
  x1 : w.cell? ⟨b, 1, none⟩ = some vu
theorem St.has {w0 w : World} {b : Nat} {vm vu : Value} {t : Plain.Ta} (h : St w0 w b vm vu t) : HasT w vm vu t := h.has0.grow h.bel
theorem St.start {w : World} {vm vu : Value} {t : Plain.Ta} (h : HasT w vm vu t) : St w (w.alloc (boxT vm vu)) w.heap.size vm vu t :=
  ⟨(Below.refl _ _).alloc (Nat.le_refl _) _, h, by simp, (box_cells w vm vu).1, (box_cells w vm vu).2⟩
theorem St.step {w0 w w' : World} {b : Nat} {vm vu : Value} {t : Plain.Ta} (h : St w0 w b vm vu t) (g : Below w.heap.size w w') : St w0 w' b vm vu t :=
  ⟨h.bel.trans (g.mono h.bel.size), h.has0, Nat.lt_of_lt_of_le h.lt g.size, (g.cell (p := ⟨b, 0, none⟩) h.lt).trans h.x0, (g.cell (p := ⟨b, 1, none⟩) h.lt).trans h.x1⟩

set_option maxHeartbeats 1000000 in
theorem Left_c (vm vu : Value) (t : Plain.Ta) (o : Int) (w : World) (h : HasT w vm vu t) :
    Calls Try.prog 12 #[aggT vm vu, .int .i64 o] w fun e w' => e = .returned (.tuple #[.int .i64 (Plain.leftV t o), .int .i64 (Plain.leftE t o : Nat)]) ∧ Below w.heap.size w w' := by
  have S := hid (St.start h)
  clear h
  by_cases hm : Plain.mayT t = true
  · by_cases hr : 0 ≤ o ∧ o < t.used.length
    · have e0 : Plain.leftE t o = 0 := by unfold Plain.leftE; rw [if_pos hm, if_pos hr]
      have e1 : Plain.leftV t o = Plain.leftT t o.toNat := by unfold Plain.leftV; rw [if_pos e0]
      rw [e0, e1]
      have R := hid hr
      have M := hid hm
      clear e0 e1 hm hr
      go_enter Try.func12, Try.ntmps12
      go_wp2_with fail
      refine (may_g _ _ t _ S.out.has).mono ?_
      rw [M.out]
      rintro e w1 ⟨rfl, q1, os1, h1⟩
      have S1 := hid (S.out.step (w' := w1) (by rw [h1]; exact grow_below _ _ _))
      have x0 := S1.out.x0
      have x1 := S1.out.x1
      clear h1 S
      go_wp2_with fail
      refine (isBranch_g _ _ t o _ S1.out.has).mono ?_
      rw [decide_eq_true R.out]
      rintro e w2 ⟨rfl, q2, os2, h2⟩
      have S2 := hid (S1.out.step (w' := w2) (by rw [h2]; exact grow_below _ _ _))
      clear x0 x1
      have x0 := S2.out.x0
      have x1 := S2.out.x1
      clear h2 S1
      go_wp2_with fail
      refine (left_g _ _ t _ (Plain.mayT_iff.1 M.out) o R.out.1 R.out.2 _ S2.out.has).mono ?_
      generalize hz : Plain.leftT t o.toNat = z
      have HZ := hid hz
      clear hz
      rintro e w3 ⟨rfl, q3, os3, h3⟩
      have S3 := hid (S2.out.step (w' := w3) (by rw [h3]; exact grow_below _ _ _))
      clear x0 x1 h3 S2
      go_wp2
      go_ret2
      exact ⟨by rw [HZ.out]; rfl, S3.out.bel⟩
    · have e0 : Plain.leftE t o = 2 := by unfold Plain.leftE; rw [if_pos hm, if_neg hr]
      have e1 : Plain.leftV t o = 0 := by unfold Plain.leftV; rw [if_neg (by rw [e0]; omega)]
      rw [e0, e1]
      have R := hid hr
      have M := hid hm
      clear e0 e1 hm hr
      go_enter Try.func12, Try.ntmps12
      go_wp2_with fail
      refine (may_g _ _ t _ S.out.has).mono ?_
      rw [M.out]
      rintro e w1 ⟨rfl, q1, os1, h1⟩
      have S1 := hid (S.out.step (w' := w1) (by rw [h1]; exact grow_below _ _ _))
      have x0 := S1.out.x0
      have x1 := S1.out.x1
      clear h1 S
      go_wp2_with fail
      refine (isBranch_g _ _ t o _ S1.out.has).mono ?_
      rw [decide_eq_false R.out]
      rintro e w2 ⟨rfl, q2, os2, h2⟩
      have S2 := hid (S1.out.step (w' := w2) (by rw [h2]; exact grow_below _ _ _))
      clear x0 x1 h2 S1
      go_wp2
      go_ret2
      exact ⟨rfl, S2.out.bel⟩
  · have e0 : Plain.leftE t o = 4 := by unfold Plain.leftE; rw [if_neg hm]
    have e1 : Plain.leftV t o = 0 := by unfold Plain.leftV; rw [if_neg (by rw [e0]; omega)]
    rw [e0, e1]
    have M := hid (show Plain.mayT t = false by simpa using hm)
    clear e0 e1 hm
    go_enter Try.func12, Try.ntmps12
    go_wp2_with fail
    refine (may_g _ _ t _ S.out.has).mono ?_
    rw [M.out]
    rintro e w1 ⟨rfl, q1, os1, h1⟩
    have S1 := hid (S.out.step (w' := w1) (by rw [h1]; exact grow_below _ _ _))
    clear h1 S
    go_wp2
    go_ret2
    exact ⟨rfl, S1.out.bel⟩
end Go.Proofs.Ytcdlgpickjiikag

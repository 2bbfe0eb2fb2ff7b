/-
  Boxes of tallies beside three tallies; a cut around a region that merges two.
-/
import Derived.Test.YtcdlgpickjiikagTki
namespace Go.Proofs.Ytcdlgpickjiikag
open Go.RowKit Go.Sort

/-- Boxes, each with a tally that its two cells hold. -/
abbrev Bxs := List (Nat × Value × Value × Plain.Ta)
structure AI (w0 w : World) (g : Nat) (VM VU : Nat → Value) (T : Nat → Plain.Ta) (L : Bxs) : Prop where
  ki : KI w0 w g VM VU T
  bx : ∀ e, e ∈ L → Res w e.1 e.2.1 e.2.2.1 ∧ HasT w e.2.1 e.2.2.1 e.2.2.2
theorem AI.step {w0 w w' : World} {g : Nat} {VM VU : Nat → Value} {T : Nat → Plain.Ta} {L : Bxs} (h : AI w0 w g VM VU T L) (b : Below w.heap.size w w') : AI w0 w' g VM VU T L :=
  ⟨h.ki.step b, fun e he => ⟨(h.bx e he).1.below b (h.bx e he).1.lt, (h.bx e he).2.grow b⟩⟩
theorem AI.push {w0 w : World} {g mb : Nat} {VM VU : Nat → Value} {T : Nat → Plain.Ta} {L : Bxs} {x y : Value} {t : Plain.Ta} (h : AI w0 w g VM VU T L) (hr : Res w mb x y) (ht : HasT w x y t) : AI w0 w g VM VU T ((mb, x, y, t) :: L) :=
  ⟨h.ki, fun e he => by
    rcases List.mem_cons.1 he with rfl | he
    · exact ⟨hr, ht⟩
    · exact h.bx e he⟩
theorem KI.has' {w0 w : World} {g : Nat} {VM VU : Nat → Value} {T : Nat → Plain.Ta} (h : KI w0 w g VM VU T) (j : Nat) (hj : j < 3) : HasT w (VM j) (VU j) (T j) := (h.has j hj).has
/-- Behind a call that was made ahead of the box, or behind it. -/
theorem box_late {W w' : World} {x y : Value} {t : Plain.Ta} (b : Below W.heap.size W w') (h : HasT w' x y t) :
    Below W.heap.size W (w'.alloc (boxT x y)) ∧ Res (w'.alloc (boxT x y)) w'.heap.size x y ∧ HasT (w'.alloc (boxT x y)) x y t :=
  ⟨b.alloc b.size _, Deep.blk_alloc_new _ _, h.grow ((Below.refl _ _).alloc (Nat.le_refl _) _)⟩
theorem box_early {W w' : World} {x y z1 z2 : Value} {t : Plain.Ta} {P : Nat → Prop} (b : Below W.heap.size W w') (r : Res w' W.heap.size z1 z2) (h : HasP P w' x y t) (hP : ∀ b, P b → W.heap.size + 1 ≤ b) :
    Below W.heap.size W ((w'.setCell ⟨W.heap.size, 0, none⟩ x).setCell ⟨W.heap.size, 1, none⟩ y) ∧ Res ((w'.setCell ⟨W.heap.size, 0, none⟩ x).setCell ⟨W.heap.size, 1, none⟩ y) W.heap.size x y ∧ HasT ((w'.setCell ⟨W.heap.size, 0, none⟩ x).setCell ⟨W.heap.size, 1, none⟩ y) x y t :=
  ⟨below_res b (Nat.le_refl _), r.set _ _, ((h.apart (fun b hb => by have := hP b hb; omega)).apart (fun b hb => by have := hP b hb; omega)).has⟩
end Go.Proofs.Ytcdlgpickjiikag

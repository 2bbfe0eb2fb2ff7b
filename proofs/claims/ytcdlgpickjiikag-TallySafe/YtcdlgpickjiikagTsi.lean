/-
  Three tallies, and what all know together in a box that is written again.
-/
import Derived.Test.YtcdlgpickjiikagTki
namespace Go.Proofs.Ytcdlgpickjiikag
open Go.RowKit Go.Sort

structure SI (w0 w : World) (g ab : Nat) (VM VU : Nat → Value) (xA yA : Value) (T : Nat → Plain.Ta) (tA : Plain.Ta) : Prop where
  bel : Below w0.heap.size w0 w
  g0 : w0.heap.size ≤ g
  ga : g < ab
  tri : Tri3 w g VM VU
  has : ∀ j, j < 3 → HasP (· < ab) w (VM j) (VU j) (T j)
  box : Res w ab xA yA
  all : HasP (· ≠ ab) w xA yA tA
theorem SI.step {w0 w w' : World} {g ab : Nat} {VM VU : Nat → Value} {xA yA : Value} {T : Nat → Plain.Ta} {tA : Plain.Ta} (h : SI w0 w g ab VM VU xA yA T tA) (b : Below w.heap.size w w') : SI w0 w' g ab VM VU xA yA T tA :=
  ⟨h.bel.trans (b.mono h.bel.size), h.g0, h.ga, h.tri.below b h.tri.lt, fun j hj => (h.has j hj).grow b, h.box.below b h.box.lt, h.all.grow b⟩
theorem SI.set {w0 w : World} {g ab : Nat} {VM VU : Nat → Value} {xA yA x y : Value} {T : Nat → Plain.Ta} {tA t : Plain.Ta} (h : SI w0 w g ab VM VU xA yA T tA) (ht : HasP (· ≠ ab) w x y t) :
    SI w0 ((w.setCell ⟨ab, 0, none⟩ x).setCell ⟨ab, 1, none⟩ y) g ab VM VU x y T t := by
  have ga := h.ga
  have g0 := h.g0
  refine ⟨below_res h.bel (by omega), h.g0, h.ga, ?_, fun j hj => ((h.has j hj).apart (fun _ hb => Nat.ne_of_lt hb)).apart (fun _ hb => Nat.ne_of_lt hb), h.box.set _ _, ht.other.other⟩
  obtain ⟨c, hb, h1, h2⟩ := h.tri
  exact ⟨c, ((Below.heap_setCell _ _ _ _ (show g ≠ (⟨ab, 1, none⟩ : Addr).block from Nat.ne_of_lt ga)).trans (Below.heap_setCell _ _ _ _ (show g ≠ (⟨ab, 0, none⟩ : Addr).block from Nat.ne_of_lt ga))).trans hb, h1, h2⟩
theorem SI.start {w0 w : World} {g : Nat} {VM VU : Nat → Value} {x y : Value} {T : Nat → Plain.Ta} {t : Plain.Ta} (h : KI w0 w g VM VU T) (hb : HasT w x y t) :
    SI w0 (w.alloc (boxT x y)) g w.heap.size VM VU x y T t :=
  have b : Below w.heap.size w (w.alloc (boxT x y)) := (Below.refl _ _).alloc (Nat.le_refl _) _
  ⟨h.bel.trans (b.mono h.bel.size), h.g0, h.tri.lt, h.tri.below b h.tri.lt, fun j hj => (h.has j hj).has.below.grow b, Deep.blk_alloc_new _ _, (hb.below.mono fun _ hb => Nat.ne_of_lt hb).grow b⟩
/-- The numbers that a branch used, where they lie. -/
theorem HasT.usedAt {w : World} {vm vu : Value} {t : Plain.Ta} {n : Nat} (h : HasT w vm vu t) (s : Plain.Sq n t) : ∃ b o c, vu = .slice (some ⟨b, o, none⟩) n c ∧ ∀ j, j < n → w.cell? ⟨b, o + j, none⟩ = some (.int .i64 (Plain.us t j)) := by
  obtain ⟨b, o, c, e, _, hc⟩ := h.u.at (by rw [s.u]; exact s.n1)
  rw [s.u] at e hc
  exact ⟨b, o, c, e, hc⟩
end Go.Proofs.Ytcdlgpickjiikag

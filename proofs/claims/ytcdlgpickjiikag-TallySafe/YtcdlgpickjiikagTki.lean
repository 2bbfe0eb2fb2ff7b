/-
  Three tallies in a row of their own.
-/
import Derived.Test.YtcdlgpickjiikagTc
import Derived.Test.YtcdlgpickjiikagTq
namespace Go.Proofs.Ytcdlgpickjiikag
open Go.RowKit Go.Sort

/-- A row of three tallies, two cells each. -/
def Tri3 (w : World) (g : Nat) (VM VU : Nat → Value) : Prop :=
  ∃ cur, w.heap[g]? = some (.cells cur 25 (0, 0)) ∧ cur.size = 6 ∧ ∀ j, j < 3 → cur[j * 2]? = some (VM j) ∧ cur[j * 2 + 1]? = some (VU j)
theorem Tri3.lt {w : World} {g : Nat} {VM VU : Nat → Value} (h : Tri3 w g VM VU) : g < w.heap.size := by
  obtain ⟨c, hb, _⟩ := h
  exact (Array.getElem?_eq_some_iff.1 hb).1
theorem Tri3.below {w w' : World} {g B : Nat} {VM VU : Nat → Value} (h : Tri3 w g VM VU) (b : Below B w w') (hg : g < B) : Tri3 w' g VM VU := by
  obtain ⟨c, hb, h1, h2⟩ := h
  exact ⟨c, (b.block g hg).trans hb, h1, h2⟩
theorem Tri3.frozen {w : World} {g : Nat} {VM VU : Nat → Value} (h : Tri3 w g VM VU) (i : Nat) : w.frozen? ⟨g, i, none⟩ = false := by
  obtain ⟨c, hb, _⟩ := h
  simp [World.frozen?, hb]
theorem Tri3.c0 {w : World} {g : Nat} {VM VU : Nat → Value} (h : Tri3 w g VM VU) (j : Nat) (hj : j < 3) : w.cell? ⟨g, j * 2, none⟩ = some (VM j) := by
  obtain ⟨c, hb, _, h2⟩ := h
  simp only [World.cell?, hb, (h2 j hj).1]
  rfl
theorem Tri3.c1 {w : World} {g : Nat} {VM VU : Nat → Value} (h : Tri3 w g VM VU) (j : Nat) (hj : j < 3) : w.cell? ⟨g, j * 2 + 1, none⟩ = some (VU j) := by
  obtain ⟨c, hb, _, h2⟩ := h
  simp only [World.cell?, hb, (h2 j hj).2]
  rfl
def updV (V : Nat → Value) (j : Nat) (x : Value) : Nat → Value := fun i => if i = j then x else V i
theorem Tri3.set {w : World} {g : Nat} {VM VU : Nat → Value} (h : Tri3 w g VM VU) (j : Nat) (hj : j < 3) (x y : Value) : Tri3 ((w.setCell ⟨g, j * 2, none⟩ x).setCell ⟨g, j * 2 + 1, none⟩ y) g (updV VM j x) (updV VU j y) := by
  obtain ⟨c, hb, h1, h2⟩ := h
  refine ⟨(c.setIfInBounds (j * 2) x).setIfInBounds (j * 2 + 1) y, ?_, by simpa using h1, fun i hi => ?_⟩
  · simp [World.setCell, Array.getElem?_modify, hb]
  · unfold updV
    obtain ⟨e1, e2⟩ := h2 i hi
    by_cases e : i = j
    · subst e
      rw [if_pos rfl, if_pos rfl]
      constructor
      · rw [Array.getElem?_setIfInBounds, if_neg (by omega), Array.getElem?_setIfInBounds, if_pos rfl, if_pos (by omega)]
      · rw [Array.getElem?_setIfInBounds, if_pos rfl, if_pos (by simp; omega)]
    · rw [if_neg e, if_neg e]
      constructor
      · rw [Array.getElem?_setIfInBounds, if_neg (by omega), Array.getElem?_setIfInBounds, if_neg (by omega)]; exact e1
      · rw [Array.getElem?_setIfInBounds, if_neg (by omega), Array.getElem?_setIfInBounds, if_neg (by omega)]; exact e2

/-- What each of three branches knows, in memory. -/
structure KI (w0 w : World) (g : Nat) (VM VU : Nat → Value) (T : Nat → Plain.Ta) : Prop where
  bel : Below w0.heap.size w0 w
  g0 : w0.heap.size ≤ g
  tri : Tri3 w g VM VU
  has : ∀ j, j < 3 → HasP (· ≠ g) w (VM j) (VU j) (T j)
theorem KI.step {w0 w w' : World} {g : Nat} {VM VU : Nat → Value} {T : Nat → Plain.Ta} (h : KI w0 w g VM VU T) (b : Below w.heap.size w w') : KI w0 w' g VM VU T :=
  ⟨h.bel.trans (b.mono h.bel.size), h.g0, h.tri.below b h.tri.lt, fun j hj => (h.has j hj).grow b⟩
theorem KI.set {w0 w : World} {g : Nat} {VM VU : Nat → Value} {T : Nat → Plain.Ta} (h : KI w0 w g VM VU T) (j : Nat) (hj : j < 3) (x y : Value) (t : Plain.Ta) (ht : HasP (· ≠ g) w x y t) :
    KI w0 ((w.setCell ⟨g, j * 2, none⟩ x).setCell ⟨g, j * 2 + 1, none⟩ y) g (updV VM j x) (updV VU j y) (Plain.upd T j t) := by
  refine ⟨(h.bel.setCell (p := ⟨g, j * 2, none⟩) h.g0 _).setCell (p := ⟨g, j * 2 + 1, none⟩) h.g0 _, h.g0, h.tri.set j hj x y, fun i hi => ?_⟩
  unfold updV Plain.upd
  by_cases e : i = j
  · rw [if_pos e, if_pos e, if_pos e]; exact ht.other.other
  · rw [if_neg e, if_neg e, if_neg e]; exact (h.has i hi).other.other
theorem KI.forms {w0 w : World} {g : Nat} {VM VU : Nat → Value} {T : Nat → Plain.Ta} (h : KI w0 w g VM VU T) (j : Nat) (hj : j < 3) : ∃ pm nm cm pu nu cu, VM j = .slice pm nm cm ∧ VU j = .slice pu nu cu := by
  obtain ⟨pu, cu, e1, _⟩ := (h.has j hj).has.u.form
  obtain ⟨_, pm, cm, e2, _⟩ := (h.has j hj).has.m
  exact ⟨_, _, _, _, _, _, e2, e1⟩
theorem HasT.forms {w : World} {vm vu : Value} {t : Plain.Ta} (h : HasT w vm vu t) : ∃ pm nm cm pu nu cu, vm = .slice pm nm cm ∧ vu = .slice pu nu cu := by
  obtain ⟨pu, cu, e1, _⟩ := h.u.form
  obtain ⟨_, pm, cm, e2, _⟩ := h.m
  exact ⟨_, _, _, _, _, _, e2, e1⟩
/-- The row as it is made. -/
theorem KI.start {w0 w : World} {f : Int} {m0 u0 m1 u1 m2 u2 : Value} (b : Below w0.heap.size w0 w) (h0 : HasT w m0 u0 (Plain.begin3 f)) (h1 : HasT w m1 u1 (Plain.blank 3)) (h2 : HasT w m2 u2 (Plain.blank 3)) :
    KI w0 (w.alloc (.cells #[m0, u0, m1, u1, m2, u2] 25)) w.heap.size (fun j => if j = 0 then m0 else if j = 1 then m1 else m2) (fun j => if j = 0 then u0 else if j = 1 then u1 else u2) (Plain.first3 f) := by
  have g : Below w.heap.size w (w.alloc (.cells #[m0, u0, m1, u1, m2, u2] 25)) := (Below.refl _ _).alloc (Nat.le_refl _) _
  refine ⟨b.trans (g.mono b.size), b.size, ⟨#[m0, u0, m1, u1, m2, u2], Deep.blk_alloc_new _ _, rfl, Plain.cases3 ⟨rfl, rfl⟩ ⟨rfl, rfl⟩ ⟨rfl, rfl⟩⟩, Plain.cases3 ?_ ?_ ?_⟩
  · exact (h0.below.mono fun b hb => Nat.ne_of_lt hb).grow g
  · exact (h1.below.mono fun b hb => Nat.ne_of_lt hb).grow g
  · exact (h2.below.mono fun b hb => Nat.ne_of_lt hb).grow g
/-- Tallies in which nothing is, one behind the other. -/
def Blk (w : World) (ps : List (Value × Value)) : Prop := ∀ p ∈ ps, HasT w p.1 p.2 (Plain.blank 3)
theorem Blk.nil (w : World) : Blk w [] := fun _ h => by cases h
theorem Blk.cons {w w' : World} {ps : List (Value × Value)} {x y : Value} (h : Blk w ps) (b : Below w.heap.size w w') (hx : HasT w' x y (Plain.blank 3)) : Blk w' ((x, y) :: ps) := fun p hp => by
  rcases List.mem_cons.1 hp with rfl | hp
  · exact hx
  · exact (h p hp).grow b
end Go.Proofs.Ytcdlgpickjiikag

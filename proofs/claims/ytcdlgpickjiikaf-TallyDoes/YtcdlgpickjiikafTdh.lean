/-
  A contract of the document's answer to Do.
-/
import Derived.Test.YtcdlgpickjiikafTd
import Derived.Test.YtcdlgpickjiikafTls
import Derived.Test.YtcdlgpickjiikafTow
namespace Go.Proofs.Ytcdlgpickjiikaf
open Go.RowKit Go.Sort

/-- What the document's Do has: its arguments' boxes, the result's cell, a tally that is none. -/
structure DK (w0 w : World) (X Y R Nn : Nat) (vm vu : Value) (t : Plain.Ta) (d : Plain.De) : Prop where
  di : DI w0 w X Y R vm vu t d
  nn : Res w Nn (.slice none 0 0) (.slice none 0 0)
theorem DK.start {w : World} {vm vu : Value} {t : Plain.Ta} (h : HasT w vm vu t) (d : Plain.De) :
    DK w ((((w.alloc (boxT vm vu)).alloc (boxD d)).alloc (.cells #[.slice none 0 0, .slice none 0 0] 41)).alloc (.cells #[.slice none 0 0, .slice none 0 0] 41)) w.heap.size (w.heap.size + 1) (w.heap.size + 1 + 1) (w.heap.size + 1 + 1 + 1) vm vu t d :=
  ⟨(DI.start h d).step ((Below.refl _ _).alloc (Nat.le_refl _) _), by
    have := Deep.blk_alloc_new (((w.alloc (boxT vm vu)).alloc (boxD d)).alloc (.cells #[.slice none 0 0, .slice none 0 0] 41)) (.cells #[.slice none 0 0, .slice none 0 0] 41)
    simp only [World.size_alloc] at this
    exact this⟩
theorem DK.step {w0 w w' : World} {X Y R Nn : Nat} {vm vu : Value} {t : Plain.Ta} {d : Plain.De} (h : DK w0 w X Y R Nn vm vu t d) (g : Below w.heap.size w w') : DK w0 w' X Y R Nn vm vu t d :=
  ⟨h.di.step g, h.nn.below g h.nn.lt⟩
/-- The copy beside them, in its box. -/
structure DL (w0 w : World) (B n b bu cm cu R Hb X Y Nn : Nat) (G C : Nat → Nat) (vm vu : Value) (t0 t : Plain.Ta) (d : Plain.De) : Prop where
  dj : DJ w0 w B n b bu cm cu R Hb X Y G C vm vu t0 t d
  nn : Res w Nn (.slice none 0 0) (.slice none 0 0)
  nB : Nn < B
theorem DL.step {w0 w w' : World} {B n b bu cm cu R Hb X Y Nn : Nat} {G C : Nat → Nat} {vm vu : Value} {t0 t : Plain.Ta} {d : Plain.De} (h : DL w0 w B n b bu cm cu R Hb X Y Nn G C vm vu t0 t d) (g : Below w.heap.size w w') : DL w0 w' B n b bu cm cu R Hb X Y Nn G C vm vu t0 t d :=
  ⟨h.dj.step g, h.nn.below g h.nn.lt, h.nB⟩
/-- A number of the copy is written. -/
theorem DL.set {w0 w : World} {B n b bu cm cu R Hb X Y Nn g i : Nat} {v : Value} {G C : Nat → Nat} {vm vu : Value} {t0 t t' : Plain.Ta} {d : Plain.De} (h : DL w0 w B n b bu cm cu R Hb X Y Nn G C vm vu t0 t d) (hX : X < B) (hB : B ≤ g) (hH : g < Hb) (ho : OwnT (w.setCell ⟨g, i, none⟩ v) B n b bu G C t') :
    DL w0 (w.setCell ⟨g, i, none⟩ v).drew B n b bu cm cu R Hb X Y Nn G C vm vu t0 t' d := by
  have bg : Below g w (w.setCell ⟨g, i, none⟩ v) := (Below.refl g w).setCell (p := ⟨g, i, none⟩) (Nat.le_refl _) _
  have lo := h.dj.lo
  have yB := h.dj.yB
  have rB := h.dj.rB
  have nB := h.nB
  refine DL.step ⟨⟨⟨⟨⟨h.dj.di.sd.st.bel.trans (bg.mono (by omega)), h.dj.di.sd.st.has0, by simpa [World.setCell] using h.dj.di.sd.st.lt, (bg.cell (p := ⟨X, 0, none⟩) (by show X < g; omega)).trans h.dj.di.sd.st.x0, (bg.cell (p := ⟨X, 1, none⟩) (by show X < g; omega)).trans h.dj.di.sd.st.x1⟩, by simpa [World.setCell] using h.dj.di.sd.lt, h.dj.di.sd.d.below bg (by omega)⟩, h.dj.di.res.below bg (by omega), h.dj.di.r0⟩, ho, h.dj.box.other (a := ⟨g, i, none⟩) (by show Hb ≠ g; omega), h.dj.lo, h.dj.rB, h.dj.yB, h.dj.hB, h.dj.hu, h.dj.hg⟩, h.nn.below bg (by omega), h.nB⟩ (Below.refl _ _).drew
end Go.Proofs.Ytcdlgpickjiikaf

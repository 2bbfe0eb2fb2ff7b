/-
  What lies there while merges are held against each other.
-/
import Derived.Test.YthdhcnjebigdfafEg
namespace Go.Proofs.Ythdhcnjebigdfaf
open Go.RowKit

/-- Three lists of entries in memory, beside what lay there. -/
structure Three (w0 w : World) (va vb vc : Value) (a b c : List Plain.En) : Prop where
  a : Held w va a
  b : Held w vb b
  c : Held w vc c
  bel : Below w0.heap.size w0 w
theorem Three.grow {w0 w w' : World} {va vb vc : Value} {a b c : List Plain.En} (h : Three w0 w va vb vc a b c) (g : Below w.heap.size w w') : Three w0 w' va vb vc a b c :=
  ⟨h.a.grow g, h.b.grow g, h.c.grow g, h.bel.trans (g.mono h.bel.size)⟩
theorem below_draw (w : World) (q : Nat) : Below w.heap.size w (w.drewN q) := below_drewN (Below.refl _ _) q
end Go.Proofs.Ythdhcnjebigdfaf

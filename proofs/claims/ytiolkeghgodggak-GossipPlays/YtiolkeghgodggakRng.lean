/-
  The document's Newer inside a region that draws its order.
-/
import Derived.Test.YtiolkeghgodggakGw
import Derived.Test.YtiolkeghgodggakRn
namespace Go.Proofs.Ytiolkeghgodggak
open Go.RowKit Go.Sort

theorem rnewer_g (a b : Plain.En) (w : World) :
    Calls Try.prog 53 #[aggE a, aggE b] w fun e w' => e = .returned (.bool (Plain.newer a b)) ∧ ∃ q os', w' = grow (w.drewN q) os' :=
  (rnewer_c a b w).mono fun _ _ ⟨h1, h2⟩ => ⟨h1, 0, _, h2.trans (two_grown _ _ _)⟩
theorem box_cellN (w : World) (e : Plain.En) : CellN (w.alloc (boxE e)) w.heap.size 0 e := ⟨by simp, by simp, by simp, by simp, by simp⟩
end Go.Proofs.Ytiolkeghgodggak

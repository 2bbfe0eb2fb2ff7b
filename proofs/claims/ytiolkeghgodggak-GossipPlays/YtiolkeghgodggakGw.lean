/-
  Calls that lay blocks of their own, inside a region that draws its order.
-/
import Derived.Test.YtiolkeghgodggakNw
import Derived.Shelf.SlSortCmp.QuietGrown
namespace Go.Proofs.Ytiolkeghgodggak
open Go.RowKit Go.Sort

theorem two_grown (w : World) (a b : Obj) : (w.alloc a).alloc b = grow (w.drewN 0) #[a, b] := by
  rw [alloc_eq_grow, alloc_eq_grow, grow_grow]
  rfl
/-- The cells of an entry, whatever is laid behind. -/
theorem CellN.grown {w : World} {b o : Nat} {e : Plain.En} (h : CellN w b o e) (n : Nat) (os : Array Obj) : CellN (grow (w.drewN n) os) b o e :=
  ⟨cell_grown h.lt h.c0 n os, cell_grown h.lt h.c1 n os, cell_grown h.lt h.c2 n os, cell_grown h.lt h.c3 n os, cell_grown h.lt h.c4 n os⟩
theorem below_grow {B : Nat} {w w' : World} (h : Below B w w') (hB : B ≤ w'.heap.size) (n : Nat) (os : Array Obj) : Below B w (grow (w'.drewN n) os) :=
  h.trans ⟨rfl, rfl, rfl, by show w'.heap.size ≤ (w'.heap ++ os).size; simp, fun k hk => by
    show (w'.heap ++ os)[k]? = w'.heap[k]?
    rw [Array.getElem?_append_left (by omega)]⟩
theorem newer_g (a b : Plain.En) (w : World) :
    Calls Try.prog 62 #[aggE a, aggE b] w fun e w' => e = .returned (.bool (Plain.newer a b)) ∧ ∃ q os', w' = grow (w.drewN q) os' :=
  (newer_c a b w).mono fun _ _ ⟨h1, h2⟩ => ⟨h1, 0, _, h2.trans (two_grown _ _ _)⟩
end Go.Proofs.Ytiolkeghgodggak

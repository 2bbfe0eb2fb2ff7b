/-
  Calls that lay blocks of their own, inside a region that draws its order.
-/
import Derived.Test.YtcdlgpickjiikagTl
import Derived.Test.YtcdlgpickjiikagTr
import Derived.Shelf.SlSortCmp.QuietGrown
namespace Go.Proofs.Ytcdlgpickjiikag
open Go.RowKit Go.Sort

theorem below_grow {B : Nat} {w w' : World} (h : Below B w w') (hB : B ≤ w'.heap.size) (n : Nat) (os : Array Obj) : Below B w (grow (w'.drewN n) os) :=
  h.trans ⟨rfl, rfl, rfl, by show w'.heap.size ≤ (w'.heap ++ os).size; simp, fun k hk => by
    show (w'.heap ++ os)[k]? = w'.heap[k]?
    rw [Array.getElem?_append_left (by omega)]⟩
theorem grow_below (w : World) (n : Nat) (os : Array Obj) : Below w.heap.size w (grow (w.drewN n) os) := below_grow (Below.refl _ _) (Nat.le_refl _) n os
theorem two_grown (w : World) (a b : Obj) : (w.alloc a).alloc b = grow (w.drewN 0) #[a, b] := by
  rw [alloc_eq_grow, alloc_eq_grow, grow_grow]
  rfl
theorem one_grown (w : World) (a : Obj) : w.alloc a = grow (w.drewN 0) #[a] := by
  rw [alloc_eq_grow]
  rfl
theorem one_drew (w : World) (a : Obj) (q : Nat) : (w.alloc a).drewN q = grow (w.drewN q) #[a] := by
  rw [alloc_eq_grow]
  rfl
theorem HasT.grown {w : World} {vm vu : Value} {t : Plain.Ta} (h : HasT w vm vu t) (n : Nat) (os : Array Obj) : HasT (Sort.grow (w.drewN n) os) vm vu t := HasT.grow h (grow_below w n os)

theorem may_g (vm vu : Value) (t : Plain.Ta) (w : World) (h : HasT w vm vu t) :
    Calls Try.prog 14 #[aggT vm vu] w fun e w' => e = .returned (.bool (Plain.mayT t)) ∧ ∃ q os', w' = grow (w.drewN q) os' :=
  (may_c vm vu t w h).mono fun _ _ ⟨h1, h2⟩ => ⟨h1, 0, _, h2.trans (two_grown _ _ _)⟩
theorem rmay_g (vm vu : Value) (t : Plain.Ta) (w : World) (h : HasT w vm vu t) :
    Calls Try.prog 19 #[aggT vm vu] w fun e w' => e = .returned (.bool (Plain.mayT t)) ∧ ∃ q os', w' = grow (w.drewN q) os' :=
  (rmay_c vm vu t w h).mono fun _ _ ⟨h1, h2⟩ => ⟨h1, 0, _, h2.trans (one_grown _ _)⟩
theorem isBranch_g (vm vu : Value) (t : Plain.Ta) (o : Int) (w : World) (h : HasT w vm vu t) :
    Calls Try.prog 23 #[aggT vm vu, .int .i64 o] w fun e w' => e = .returned (.bool (decide (0 ≤ o ∧ o < t.used.length))) ∧ ∃ q os', w' = grow (w.drewN q) os' :=
  (isBranch_c vm vu t o w h).mono fun _ _ ⟨h1, h2⟩ => ⟨h1, 0, _, h2.trans (one_grown _ _)⟩
theorem left_g (vm vu : Value) (t : Plain.Ta) (n : Nat) (s : Plain.Sq n t) (o : Int) (h0 : 0 ≤ o) (h1 : o < n) (w : World) (h : HasT w vm vu t) :
    Calls Try.prog 24 #[aggT vm vu, .int .i64 o] w fun e w' => e = .returned (.int .i64 (Plain.leftT t o.toNat)) ∧ ∃ q os', w' = grow (w.drewN q) os' := by
  obtain ⟨b, off, cap, bu, ou, cu, G, O, C, rfl, rfl, hc⟩ := h.open s
  have e : ((o.toNat : Nat) : Int) = o := Int.toNat_of_nonneg h0
  have K := left_c n b off cap bu ou cu G O C t s o.toNat (by omega) w hc
  rw [e] at K
  exact K.mono fun _ _ ⟨h1, q, h2⟩ => ⟨h1, q, _, h2.trans (one_drew _ _ _)⟩
end Go.Proofs.Ytcdlgpickjiikag

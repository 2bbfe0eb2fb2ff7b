/-
  Entries in boxes: three of them.
-/
import Derived.Test.YthdhcnjebigdfafEf
import Derived.Test.YthdhcnjebigdfafEr
import Derived.Test.YthdhcnjebigdfafGw
namespace Go.Proofs.Ythdhcnjebigdfaf
open Go.RowKit Go.Sort

/-- A box with an entry (T: the type of its block). -/
def BoxT (w : World) (b T : Nat) (e : Plain.En) : Prop := w.heap[b]? = some (.cells #[.int .i64 e.key, .int .i64 e.value, .int .i64 e.time, .int .i64 e.who, .bool e.gone] T (0, 0))
namespace BoxT
variable {w w' : World} {b T : Nat} {e : Plain.En}
theorem lt (h : BoxT w b T e) : b < w.heap.size := (Array.getElem?_eq_some_iff.1 h).1
theorem cells (h : BoxT w b T e) : CellN w b 0 e := by
  unfold BoxT at h
  exact ⟨by simp [World.cell?, h], by simp [World.cell?, h], by simp [World.cell?, h], by simp [World.cell?, h], by simp [World.cell?, h]⟩
theorem frozen (h : BoxT w b T e) (o : Nat) : w.frozen? ⟨b, o, none⟩ = false := by
  unfold BoxT at h
  simp [World.frozen?, h]
theorem below {B : Nat} (h : BoxT w b T e) (g : Below B w w') (hb : b < B) : BoxT w' b T e := (g.block b hb).trans h
theorem grow (h : BoxT w b T e) (g : Below w.heap.size w w') : BoxT w' b T e := h.below g h.lt
theorem other (h : BoxT w b T e) {c o : Nat} (hne : b ≠ c) (v : Value) : BoxT (w.setCell ⟨c, o, none⟩ v) b T e := (Below.heap_setCell _ _ _ _ hne).trans h
theorem key (h : BoxT w b T e) (k : Int) : BoxT (w.setCell ⟨b, 0, none⟩ (.int .i64 k)) b T ⟨k, e.value, e.time, e.who, e.gone⟩ := by
  unfold BoxT at h ⊢
  rw [setCell_row h]
  rfl
end BoxT
theorem box_new (w : World) (T : Nat) (e : Plain.En) : BoxT (w.alloc (.cells #[.int .i64 e.key, .int .i64 e.value, .int .i64 e.time, .int .i64 e.who, .bool e.gone] T)) w.heap.size T e := Deep.blk_alloc_new w _

/-- Three entries in boxes, beside what lay there. -/
structure Tri (w0 w : World) (ba bb bc : Nat) (a b c : Plain.En) : Prop where
  a : BoxT w ba 31 a
  b : BoxT w bb 31 b
  c : BoxT w bc 31 c
  bel : Below w0.heap.size w0 w
theorem Tri.grow {w0 w w' : World} {ba bb bc : Nat} {a b c : Plain.En} (h : Tri w0 w ba bb bc a b c) (g : Below w.heap.size w w') : Tri w0 w' ba bb bc a b c :=
  ⟨h.a.grow g, h.b.grow g, h.c.grow g, h.bel.trans (g.mono h.bel.size)⟩
theorem newer_b (a b : Plain.En) (w : World) : Calls Try.prog 11 #[aggE a, aggE b] w fun e w' => e = .returned (.bool (Plain.newer a b)) ∧ Below w.heap.size w w' :=
  (newer_c a b w).mono fun _ _ ⟨h1, h2⟩ => ⟨h1, by rw [h2]; exact ((Below.refl _ _).alloc (Nat.le_refl _) _).alloc (by simp) _⟩

namespace Plain
theorem differ {a b : En} (hk : a.key = b.key) : (a != b) = (newer a b || newer b a) := by
  cases h1 : newer a b with
  | true =>
    have : a ≠ b := fun e => by rw [e, newer_irr] at h1; cases h1
    simpa using this
  | false =>
    cases h2 : newer b a with
    | true =>
      have : a ≠ b := fun e => by rw [e, newer_irr] at h2; cases h2
      simpa using this
    | false =>
      have := newer_total hk h1 h2
      subst this
      simp
end Plain
end Go.Proofs.Ythdhcnjebigdfaf

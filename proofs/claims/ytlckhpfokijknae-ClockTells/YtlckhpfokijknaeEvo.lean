/-
  A slice of structs of three numbers that came in, as a list.
-/
import Derived.Test.YtlckhpfokijknaeOs
import Derived.Test.YtlckhpfokijknaeCe
namespace Go.Proofs.Ytlckhpfokijknae
open Go.ChangeShapes Go.WideShapes Go.ChangeAt Go.RowKit Go.Deep

theorem trips_open {H : Type} {enc : TypeId × Value → H} {W : World} {d : DataW H} {p : List MemPlace} {a : Option Addr} {len cap : Nat} {t e : TypeId} {fs : Array Field}
    (ht : Try.prog.underlying t = some (.slice e)) (he : Try.prog.underlying e = some (.struct fs)) (ce : Try.prog.cellsOf e = 3) (hfs : fs.size = 3) (hf : ∀ (j : Nat) (f : Field), fs[j]? = some f → f.offset = j ∧ Try.prog.cellsOf f.type = 1 ∧ Try.prog.underlying f.type = some (.int .i64))
    (h : DataW.Trod enc Try.prog W 0 (fun _ => true) true t (.slice a len cap) d p) :
    ∃ l : List Plain.Ev, l.length = len ∧ len ≤ 9223372036854775807 ∧ SegE W (.slice a len cap) l ∧ Lies W.heap.size (.slice a len cap) ∧
      (∀ j, j < l.length → (-9223372036854775808 ≤ (Plain.ev l j).1 ∧ (Plain.ev l j).1 ≤ 9223372036854775807) ∧ (-9223372036854775808 ≤ (Plain.ev l j).2.1 ∧ (Plain.ev l j).2.1 ≤ 9223372036854775807) ∧ (-9223372036854775808 ≤ (Plain.ev l j).2.2 ∧ (Plain.ev l j).2.2 ≤ 9223372036854775807)) := by
  obtain ⟨fuel, hfu⟩ := h
  obtain ⟨A, hA, hlc, hcm, _, hc⟩ := open_struct_ints ht he ce (by decide) hfs hf hfu
  have hat : ∀ j, j < len → Plain.ev ((List.range len).map (fun i => (A i 0, A i 1, A i 2))) j = (A j 0, A j 1, A j 2) := by
    intro j hj
    unfold Plain.ev
    rw [Plain.getD_map_range _ _ _ _ hj]
  refine ⟨(List.range len).map (fun i => (A i 0, A i 1, A i 2)), by simp, by omega, ?_, ?_, ?_⟩
  · by_cases h0 : len = 0
    · subst h0; exact .inl ⟨rfl, _, _, rfl⟩
    · obtain ⟨b, off, rfl, _, hcell⟩ := hc (by omega)
      refine .inr ⟨b, off, cap, by simp, by simpa using hlc, fun j hj => ?_⟩
      rw [List.length_map, List.length_range] at hj
      rw [hat j hj]
      exact ⟨hcell j 0 hj (by omega), hcell j 1 hj (by omega), hcell j 2 hj (by omega)⟩
  · by_cases h0 : len = 0
    · subst h0; exact lies_nil _ _ _
    · obtain ⟨b, off, rfl, hb, _⟩ := hc (by omega)
      exact lies_at hb
  · intro j hj
    rw [List.length_map, List.length_range] at hj
    rw [hat j hj]
    exact ⟨hA j 0 hj (by omega), hA j 1 hj (by omega), hA j 2 hj (by omega)⟩
end Go.Proofs.Ytlckhpfokijknae

/-
  Turns that came in.
-/
import Derived.Test.YtiolkeghgodggakOs
import Derived.Test.YtiolkeghgodggakGm
namespace Go.Proofs.Ytiolkeghgodggak
open Go.ChangeShapes Go.WideShapes Go.ChangeAt Go.RowKit Go.Deep

/-- The numbers of a turn are integers of the machine. -/
structure InT (d : Plain.Tu) : Prop where
  k : -9223372036854775808 ≤ d.kind ∧ d.kind ≤ 9223372036854775807
  w : -9223372036854775808 ≤ d.who ∧ d.who ≤ 9223372036854775807
  t : -9223372036854775808 ≤ d.to ∧ d.to ≤ 9223372036854775807
  l : -9223372036854775808 ≤ d.label ∧ d.label ≤ 9223372036854775807
  y : -9223372036854775808 ≤ d.key ∧ d.key ≤ 9223372036854775807
  v : -9223372036854775808 ≤ d.value ∧ d.value ≤ 9223372036854775807
def FieldsT (fs : Array Field) : Prop := fs.size = 6 ∧ ∀ (j : Nat) (f : Field), fs[j]? = some f → f.offset = j ∧ Try.prog.cellsOf f.type = 1 ∧ Try.prog.underlying f.type = some (.int .i64)
/-- The slice v holds the turns l. -/
def SegT (w : World) (v : Value) (l : List Plain.Tu) : Prop := l.length ≤ 9223372036854775807 ∧ ∃ p cap, v = .slice p l.length cap ∧ encT.Holds w p l
theorem tus_open {H : Type} {enc : TypeId × Value → H} {W : World} {d : DataW H} {p : List MemPlace} {a : Option Addr} {len cap : Nat} {t e : TypeId} {fs : Array Field}
    (ht : Try.prog.underlying t = some (.slice e)) (he : Try.prog.underlying e = some (.struct fs)) (ce : Try.prog.cellsOf e = 6) (hf : FieldsT fs)
    (h : DataW.Trod enc Try.prog W 0 (fun _ => true) true t (.slice a len cap) d p) :
    ∃ l : List Plain.Tu, SegT W (.slice a len cap) l ∧ ∀ j, j < l.length → InT (l.getD j default) := by
  obtain ⟨fuel, hfu⟩ := h
  obtain ⟨A, hA, hlc, hcm, _, hc⟩ := open_struct_ints ht he ce (by decide) hf.1 hf.2 hfu
  have hat : ∀ j, j < len → ((List.range len).map (fun i => (⟨A i 0, A i 1, A i 2, A i 3, A i 4, A i 5⟩ : Plain.Tu))).getD j default = ⟨A j 0, A j 1, A j 2, A j 3, A j 4, A j 5⟩ := by
    intro j hj
    rw [List.getD_eq_getElem?_getD, List.getElem?_eq_getElem (by simpa using hj)]
    simp
  refine ⟨(List.range len).map (fun i => ⟨A i 0, A i 1, A i 2, A i 3, A i 4, A i 5⟩), ⟨by simp; omega, a, cap, by simp, fun h0 => ?_⟩, fun j hj => ?_⟩
  · rw [List.length_map, List.length_range] at h0
    obtain ⟨b, off, rfl, hb, hcell⟩ := hc h0
    refine ⟨b, off, rfl, hb, fun j u hu => ?_⟩
    have hj4 : j < len * 6 := by
      rcases Nat.lt_or_ge j (len * 6) with h1 | h1
      · exact h1
      · rw [List.getElem?_eq_none (by rw [encT.vals_len, List.length_map, List.length_range]; exact h1)] at hu; cases hu
    have hd : j / 6 < len := by omega
    have hm : j % 6 < 6 := Nat.mod_lt _ (by decide)
    have ej : j = j / 6 * encT.n + j % 6 := by show j = j / 6 * 6 + j % 6; omega
    rw [ej, encT.vals_at default _ _ _ (by simpa using hd) hm, hat _ hd] at hu
    have hcl := hcell (j / 6) (j % 6) hd hm
    rw [show off + j / 6 * 6 + j % 6 = off + j by omega] at hcl
    rw [hcl, ← hu]
    have : j % 6 = 0 ∨ j % 6 = 1 ∨ j % 6 = 2 ∨ j % 6 = 3 ∨ j % 6 = 4 ∨ j % 6 = 5 := by omega
    rcases this with h4 | h4 | h4 | h4 | h4 | h4 <;> rw [h4] <;> rfl
  · rw [List.length_map, List.length_range] at hj
    rw [hat j hj]
    exact ⟨hA j 0 hj (by omega), hA j 1 hj (by omega), hA j 2 hj (by omega), hA j 3 hj (by omega), hA j 4 hj (by omega), hA j 5 hj (by omega)⟩
end Go.Proofs.Ytiolkeghgodggak

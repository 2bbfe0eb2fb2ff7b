/-
  Calls that came in.
-/
import Derived.Test.YtiolkeghgodggajOs
import Derived.Test.YtiolkeghgodggajY0
namespace Go.Proofs.Ytiolkeghgodggaj.Bo
open Go.ChangeShapes Go.WideShapes Go.ChangeAt Go.RowKit Go.Deep

/-- The numbers of a call are integers of the machine. -/
structure InC (d : Plain.Ca) : Prop where
  k : -9223372036854775808 ≤ d.kind ∧ d.kind ≤ 9223372036854775807
  w : -9223372036854775808 ≤ d.who ∧ d.who ≤ 9223372036854775807
  c : -9223372036854775808 ≤ d.count ∧ d.count ≤ 9223372036854775807
def FieldsC (fs : Array Field) : Prop := fs.size = 3 ∧ ∀ (j : Nat) (f : Field), fs[j]? = some f → f.offset = j ∧ Try.prog.cellsOf f.type = 1 ∧ Try.prog.underlying f.type = some (.int .i64)
/-- The slice v holds the calls l. -/
def SegC (w : World) (v : Value) (l : List Plain.Ca) : Prop := l.length ≤ 9223372036854775807 ∧ ∃ p cap, v = .slice p l.length cap ∧ encC.Holds w p l
theorem cas_open {H : Type} {enc : TypeId × Value → H} {W : World} {d : DataW H} {p : List MemPlace} {a : Option Addr} {len cap : Nat} {t e : TypeId} {fs : Array Field}
    (ht : Try.prog.underlying t = some (.slice e)) (he : Try.prog.underlying e = some (.struct fs)) (ce : Try.prog.cellsOf e = 3) (hf : FieldsC fs)
    (h : DataW.Trod enc Try.prog W 0 (fun _ => true) true t (.slice a len cap) d p) :
    ∃ l : List Plain.Ca, SegC W (.slice a len cap) l ∧ ∀ j, j < l.length → InC (l.getD j default) := by
  obtain ⟨fuel, hfu⟩ := h
  obtain ⟨A, hA, hlc, hcm, _, hc⟩ := open_struct_ints ht he ce (by decide) hf.1 hf.2 hfu
  have hat : ∀ j, j < len → ((List.range len).map (fun i => (⟨A i 0, A i 1, A i 2⟩ : Plain.Ca))).getD j default = ⟨A j 0, A j 1, A j 2⟩ := by
    intro j hj
    rw [Plain.getD_lt _ _ _ (by simpa using hj)]
    simp
  refine ⟨(List.range len).map (fun i => ⟨A i 0, A i 1, A i 2⟩), ⟨by simp; omega, a, cap, by simp, fun h0 => ?_⟩, fun j hj => ?_⟩
  · rw [List.length_map, List.length_range] at h0
    obtain ⟨b, off, rfl, hb, hcell⟩ := hc h0
    refine ⟨b, off, rfl, hb, fun j u hu => ?_⟩
    have hj4 : j < len * 3 := by
      rcases Nat.lt_or_ge j (len * 3) with h1 | h1
      · exact h1
      · rw [List.getElem?_eq_none (by rw [encC.vals_len, List.length_map, List.length_range]; exact h1)] at hu; cases hu
    have hd : j / 3 < len := by omega
    have hm : j % 3 < 3 := Nat.mod_lt _ (by decide)
    have ej : j = j / 3 * encC.n + j % 3 := by show j = j / 3 * 3 + j % 3; omega
    rw [ej, encC.vals_at default _ _ _ (by simpa using hd) hm, hat _ hd] at hu
    have hcl := hcell (j / 3) (j % 3) hd hm
    rw [show off + j / 3 * 3 + j % 3 = off + j by omega] at hcl
    rw [hcl, ← hu]
    have : j % 3 = 0 ∨ j % 3 = 1 ∨ j % 3 = 2 := by omega
    rcases this with h4 | h4 | h4 <;> rw [h4] <;> rfl
  · rw [List.length_map, List.length_range] at hj
    rw [hat j hj]
    exact ⟨hA j 0 hj (by omega), hA j 1 hj (by omega), hA j 2 hj (by omega)⟩
end Go.Proofs.Ytiolkeghgodggaj.Bo

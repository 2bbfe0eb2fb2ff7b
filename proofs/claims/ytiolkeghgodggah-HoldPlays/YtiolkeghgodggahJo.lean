/-
  Orders and what is told of them, in memory; orders that came in.
-/
import Derived.Test.YtiolkeghgodggahJp
import Derived.Test.YtiolkeghgodggahGx
import Derived.Test.YtiolkeghgodggahOs
namespace Go.Proofs.Ytiolkeghgodggah.Hd
open Go.ChangeShapes Go.WideShapes Go.ChangeAt Go.RowKit Go.Deep

theorem Plain.getD_lt' {α : Type} (l : List α) (d : α) (k : Nat) (hk : k < l.length) : l.getD k d = l[k] := by
  rw [List.getD_eq_getElem?_getD, List.getElem?_eq_getElem hk]; rfl
def encO : Enc Plain.Or := ⟨4, fun o => [.int .i64 o.kind, .int .i64 o.count, .int .i64 o.life, .int .i64 o.id], fun _ => rfl, fun a u hu => by
  simp only [List.mem_cons, List.not_mem_nil, or_false] at hu
  rcases hu with rfl | rfl | rfl | rfl <;> rfl, by decide⟩
def encS : Enc Plain.St := ⟨5, fun s => [.int .i64 (s.code : Nat), .int .i64 s.id, .int .i64 s.free, .int .i64 s.held, .int .i64 s.used], fun _ => rfl, fun a u hu => by
  simp only [List.mem_cons, List.not_mem_nil, or_false] at hu
  rcases hu with rfl | rfl | rfl | rfl | rfl <;> rfl, by decide⟩
abbrev aggO (o : Plain.Or) : Value := .agg #[.int .i64 o.kind, .int .i64 o.count, .int .i64 o.life, .int .i64 o.id]
abbrev aggS (s : Plain.St) : Value := .agg #[.int .i64 (s.code : Nat), .int .i64 s.id, .int .i64 s.free, .int .i64 s.held, .int .i64 s.used]

/-- The four cells of an order. -/
structure CellO (w : World) (b o : Nat) (d : Plain.Or) : Prop where
  c0 : w.cell? ⟨b, o, none⟩ = some (.int .i64 d.kind)
  c1 : w.cell? ⟨b, o + 1, none⟩ = some (.int .i64 d.count)
  c2 : w.cell? ⟨b, o + 2, none⟩ = some (.int .i64 d.life)
  c3 : w.cell? ⟨b, o + 3, none⟩ = some (.int .i64 d.id)
/-- The five cells of what is told. -/
structure CellS (w : World) (b o : Nat) (s : Plain.St) : Prop where
  c0 : w.cell? ⟨b, o, none⟩ = some (.int .i64 (s.code : Nat))
  c1 : w.cell? ⟨b, o + 1, none⟩ = some (.int .i64 s.id)
  c2 : w.cell? ⟨b, o + 2, none⟩ = some (.int .i64 s.free)
  c3 : w.cell? ⟨b, o + 3, none⟩ = some (.int .i64 s.held)
  c4 : w.cell? ⟨b, o + 4, none⟩ = some (.int .i64 s.used)
theorem CellO.below {w w' : World} {b o B : Nat} {d : Plain.Or} (h : CellO w b o d) (g : Below B w w') (hlt : b < B) : CellO w' b o d :=
  ⟨(g.cell (p := ⟨b, o, none⟩) hlt).trans h.c0, (g.cell (p := ⟨b, o + 1, none⟩) hlt).trans h.c1, (g.cell (p := ⟨b, o + 2, none⟩) hlt).trans h.c2, (g.cell (p := ⟨b, o + 3, none⟩) hlt).trans h.c3⟩
/-- Where orders stand, and their cells. -/
theorem holdsO {w : World} {p : Option Addr} {l : List Plain.Or} (h : encO.Holds w p l) (h0 : 0 < l.length) : ∃ b off, p = some ⟨b, off, none⟩ ∧ b < w.heap.size ∧ ∀ j, j < l.length → CellO w b (off + j * 4) (l.getD j default) := by
  obtain ⟨b, off, rfl, hb, hc⟩ := h.at default h0
  refine ⟨b, off, rfl, hb, fun j hj => ⟨?_, ?_, ?_, ?_⟩⟩
  · exact hc j 0 _ hj (by decide) rfl
  · exact hc j 1 _ hj (by decide) rfl
  · exact hc j 2 _ hj (by decide) rfl
  · exact hc j 3 _ hj (by decide) rfl
theorem holdsS {w : World} {p : Option Addr} {l : List Plain.St} (h : encS.Holds w p l) (h0 : 0 < l.length) : ∃ b off, p = some ⟨b, off, none⟩ ∧ b < w.heap.size ∧ ∀ j, j < l.length → CellS w b (off + j * 5) (l.getD j default) := by
  obtain ⟨b, off, rfl, hb, hc⟩ := h.at default h0
  refine ⟨b, off, rfl, hb, fun j hj => ⟨?_, ?_, ?_, ?_, ?_⟩⟩
  · exact hc j 0 _ hj (by decide) rfl
  · exact hc j 1 _ hj (by decide) rfl
  · exact hc j 2 _ hj (by decide) rfl
  · exact hc j 3 _ hj (by decide) rfl
  · exact hc j 4 _ hj (by decide) rfl

/-- The numbers of an order are integers of the machine. -/
structure InO (d : Plain.Or) : Prop where
  k : -9223372036854775808 ≤ d.kind ∧ d.kind ≤ 9223372036854775807
  c : -9223372036854775808 ≤ d.count ∧ d.count ≤ 9223372036854775807
  l : -9223372036854775808 ≤ d.life ∧ d.life ≤ 9223372036854775807
  i : -9223372036854775808 ≤ d.id ∧ d.id ≤ 9223372036854775807
def FieldsO (fs : Array Field) : Prop := fs.size = 4 ∧ ∀ (j : Nat) (f : Field), fs[j]? = some f → f.offset = j ∧ Try.prog.cellsOf f.type = 1 ∧ Try.prog.underlying f.type = some (.int .i64)
/-- The slice v holds the orders l. -/
def SegO (w : World) (v : Value) (l : List Plain.Or) : Prop := l.length ≤ 9223372036854775807 ∧ ∃ p cap, v = .slice p l.length cap ∧ encO.Holds w p l
theorem SegO.grow {w w' : World} {v : Value} {l : List Plain.Or} (h : SegO w v l) (g : Below w.heap.size w w') : SegO w' v l := by
  obtain ⟨hm, p, cap, rfl, hp⟩ := h
  exact ⟨hm, p, cap, rfl, hp.grow g⟩
theorem ors_open {H : Type} {enc : TypeId × Value → H} {W : World} {d : DataW H} {p : List MemPlace} {a : Option Addr} {len cap : Nat} {t e : TypeId} {fs : Array Field}
    (ht : Try.prog.underlying t = some (.slice e)) (he : Try.prog.underlying e = some (.struct fs)) (ce : Try.prog.cellsOf e = 4) (hf : FieldsO fs)
    (h : DataW.Trod enc Try.prog W 0 (fun _ => true) true t (.slice a len cap) d p) :
    ∃ l : List Plain.Or, SegO W (.slice a len cap) l ∧ ∀ j, j < l.length → InO (l.getD j default) := by
  obtain ⟨fuel, hfu⟩ := h
  obtain ⟨A, hA, hlc, hcm, _, hc⟩ := open_struct_ints ht he ce (by decide) hf.1 hf.2 hfu
  have hat : ∀ j, j < len → ((List.range len).map (fun i => (⟨A i 0, A i 1, A i 2, A i 3⟩ : Plain.Or))).getD j default = ⟨A j 0, A j 1, A j 2, A j 3⟩ := by
    intro j hj
    rw [Plain.getD_lt' _ _ _ (by simpa using hj)]
    simp
  refine ⟨(List.range len).map (fun i => ⟨A i 0, A i 1, A i 2, A i 3⟩), ⟨by simp; omega, a, cap, by simp, fun h0 => ?_⟩, fun j hj => ?_⟩
  · rw [List.length_map, List.length_range] at h0
    obtain ⟨b, off, rfl, hb, hcell⟩ := hc h0
    refine ⟨b, off, rfl, hb, fun j u hu => ?_⟩
    have hj4 : j < len * 4 := by
      rcases Nat.lt_or_ge j (len * 4) with h1 | h1
      · exact h1
      · rw [List.getElem?_eq_none (by rw [encO.vals_len, List.length_map, List.length_range]; exact h1)] at hu; cases hu
    have hd : j / 4 < len := by omega
    have hm : j % 4 < 4 := Nat.mod_lt _ (by decide)
    have ej : j = j / 4 * encO.n + j % 4 := by show j = j / 4 * 4 + j % 4; omega
    rw [ej, encO.vals_at default _ _ _ (by simpa using hd) hm, hat _ hd] at hu
    have hcl := hcell (j / 4) (j % 4) hd hm
    rw [show b = b from rfl, show off + j / 4 * 4 + j % 4 = off + j by omega] at hcl
    rw [hcl, ← hu]
    have : j % 4 = 0 ∨ j % 4 = 1 ∨ j % 4 = 2 ∨ j % 4 = 3 := by omega
    rcases this with h4 | h4 | h4 | h4 <;> rw [h4] <;> rfl
  · rw [List.length_map, List.length_range] at hj
    rw [hat j hj]
    exact ⟨hA j 0 hj (by omega), hA j 1 hj (by omega), hA j 2 hj (by omega), hA j 3 hj (by omega)⟩
end Go.Proofs.Ytiolkeghgodggah.Hd

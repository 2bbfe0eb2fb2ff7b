/-
  Moves, letters and what is told, in memory.
-/
import Derived.Test.YtiolkeghgodggaiS1
namespace Go.Proofs.Ytiolkeghgodggai.Se
open Go.RowKit Go.Shelf Go.Sort

/-- A move, and where its bytes lie. -/
structure RL where
  x : Plain.Le
  p : Option Addr
  c : Nat
  deriving Inhabited
/-- What is told, and where its bytes lie. -/
structure RD where
  d : Plain.Od
  p : Option Addr
  c : Nat
  deriving Inhabited
/-- A letter that was posted, and where its bytes lie. -/
structure RP where
  y : Plain.Po
  p : Option Addr
  c : Nat
  deriving Inhabited
abbrev aggL (r : RL) : Value := .agg #[.int .i64 r.x.kind, .int .i64 r.x.frm, .int .i64 r.x.to, .int .i64 r.x.id, .slice r.p r.x.data.length r.c]
abbrev aggD (r : RD) : Value := .agg #[.int .i64 (r.d.code : Nat), .int .i64 r.d.id, .int .i64 r.d.size, .slice r.p r.d.data.length r.c]
abbrev aggP (r : RP) : Value := .agg #[.int .i64 r.y.frm, .int .i64 r.y.to, .slice r.p r.y.data.length r.c]
abbrev boxL (r : RL) : Obj := .cells #[.int .i64 r.x.kind, .int .i64 r.x.frm, .int .i64 r.x.to, .int .i64 r.x.id, .slice r.p r.x.data.length r.c] 53
def encL : Enc RL := ⟨5, fun r => [.int .i64 r.x.kind, .int .i64 r.x.frm, .int .i64 r.x.to, .int .i64 r.x.id, .slice r.p r.x.data.length r.c], fun _ => rfl, fun a u hu => by
  simp only [List.mem_cons, List.not_mem_nil, or_false] at hu
  rcases hu with rfl | rfl | rfl | rfl | rfl <;> rfl, by decide⟩
def encD : Enc RD := ⟨4, fun r => [.int .i64 (r.d.code : Nat), .int .i64 r.d.id, .int .i64 r.d.size, .slice r.p r.d.data.length r.c], fun _ => rfl, fun a u hu => by
  simp only [List.mem_cons, List.not_mem_nil, or_false] at hu
  rcases hu with rfl | rfl | rfl | rfl <;> rfl, by decide⟩
/-- The cells of a move. -/
structure CellL (w : World) (b o : Nat) (r : RL) : Prop where
  c0 : w.cell? ⟨b, o, none⟩ = some (.int .i64 r.x.kind)
  c1 : w.cell? ⟨b, o + 1, none⟩ = some (.int .i64 r.x.frm)
  c2 : w.cell? ⟨b, o + 2, none⟩ = some (.int .i64 r.x.to)
  c3 : w.cell? ⟨b, o + 3, none⟩ = some (.int .i64 r.x.id)
  c4 : w.cell? ⟨b, o + 4, none⟩ = some (.slice r.p r.x.data.length r.c)
/-- The cells of what is told. -/
structure CellD (w : World) (b o : Nat) (r : RD) : Prop where
  c0 : w.cell? ⟨b, o, none⟩ = some (.int .i64 (r.d.code : Nat))
  c1 : w.cell? ⟨b, o + 1, none⟩ = some (.int .i64 r.d.id)
  c2 : w.cell? ⟨b, o + 2, none⟩ = some (.int .i64 r.d.size)
  c3 : w.cell? ⟨b, o + 3, none⟩ = some (.slice r.p r.d.data.length r.c)
theorem CellL.below {w w' : World} {b o B : Nat} {d : RL} (h : CellL w b o d) (g : Below B w w') (hlt : b < B) : CellL w' b o d :=
  ⟨(g.cell (p := ⟨b, o, none⟩) hlt).trans h.c0, (g.cell (p := ⟨b, o + 1, none⟩) hlt).trans h.c1, (g.cell (p := ⟨b, o + 2, none⟩) hlt).trans h.c2, (g.cell (p := ⟨b, o + 3, none⟩) hlt).trans h.c3, (g.cell (p := ⟨b, o + 4, none⟩) hlt).trans h.c4⟩
theorem CellD.below {w w' : World} {b o B : Nat} {d : RD} (h : CellD w b o d) (g : Below B w w') (hlt : b < B) : CellD w' b o d :=
  ⟨(g.cell (p := ⟨b, o, none⟩) hlt).trans h.c0, (g.cell (p := ⟨b, o + 1, none⟩) hlt).trans h.c1, (g.cell (p := ⟨b, o + 2, none⟩) hlt).trans h.c2, (g.cell (p := ⟨b, o + 3, none⟩) hlt).trans h.c3⟩
theorem CellL.drewN {w : World} {b o : Nat} {d : RL} (h : CellL w b o d) (q : Nat) : CellL (w.drewN q) b o d :=
  ⟨by simpa using h.c0, by simpa using h.c1, by simpa using h.c2, by simpa using h.c3, by simpa using h.c4⟩
theorem CellD.drewN {w : World} {b o : Nat} {d : RD} (h : CellD w b o d) (q : Nat) : CellD (w.drewN q) b o d :=
  ⟨by simpa using h.c0, by simpa using h.c1, by simpa using h.c2, by simpa using h.c3⟩
theorem holdsL {w : World} {p : Option Addr} {l : List RL} (h : encL.Holds w p l) (h0 : 0 < l.length) : ∃ b off, p = some ⟨b, off, none⟩ ∧ b < w.heap.size ∧ ∀ j, j < l.length → CellL w b (off + j * 5) (l.getD j default) := by
  obtain ⟨b, off, rfl, hb, hc⟩ := h.at default h0
  refine ⟨b, off, rfl, hb, fun j hj => ⟨?_, ?_, ?_, ?_, ?_⟩⟩
  · exact hc j 0 _ hj (by decide) rfl
  · exact hc j 1 _ hj (by decide) rfl
  · exact hc j 2 _ hj (by decide) rfl
  · exact hc j 3 _ hj (by decide) rfl
  · exact hc j 4 _ hj (by decide) rfl
theorem holdsD {w : World} {p : Option Addr} {l : List RD} (h : encD.Holds w p l) (h0 : 0 < l.length) : ∃ b off, p = some ⟨b, off, none⟩ ∧ b < w.heap.size ∧ ∀ j, j < l.length → CellD w b (off + j * 4) (l.getD j default) := by
  obtain ⟨b, off, rfl, hb, hc⟩ := h.at default h0
  refine ⟨b, off, rfl, hb, fun j hj => ⟨?_, ?_, ?_, ?_⟩⟩
  · exact hc j 0 _ hj (by decide) rfl
  · exact hc j 1 _ hj (by decide) rfl
  · exact hc j 2 _ hj (by decide) rfl
  · exact hc j 3 _ hj (by decide) rfl
/-- Moves that lie in memory. -/
structure Mv (w : World) (p : Option Addr) (R : List RL) : Prop where
  hd : encL.Holds w p R
  bs : ∀ r, r ∈ R → By w.heap.size w r.p r.c r.x.data
theorem Mv.grow {w w' : World} {p : Option Addr} {R : List RL} (h : Mv w p R) (g : Below w.heap.size w w') : Mv w' p R :=
  ⟨h.hd.grow g, fun r hr => ((h.bs r hr).grow g).top⟩
/-- What is told, in memory. -/
structure An (w : World) (p : Option Addr) (D : List RD) : Prop where
  hd : encD.Holds w p D
  bs : ∀ r, r ∈ D → By w.heap.size w r.p r.c r.d.data
theorem An.grow {w w' : World} {p : Option Addr} {D : List RD} (h : An w p D) (g : Below w.heap.size w w') : An w' p D :=
  ⟨h.hd.grow g, fun r hr => ((h.bs r hr).grow g).top⟩
theorem getD_mem {α : Type} (l : List α) (d : α) {k : Nat} (h : k < l.length) : l.getD k d ∈ l := by
  rw [List.getD_eq_getElem?_getD, List.getElem?_eq_getElem h]; exact List.getElem_mem _
theorem getD_map {α β : Type} (f : α → β) (l : List α) (d : α) (e : β) {k : Nat} (h : k < l.length) : (l.map f).getD k e = f (l.getD k d) := by
  rw [List.getD_eq_getElem?_getD, List.getElem?_map, List.getD_eq_getElem?_getD, List.getElem?_eq_getElem h]; rfl
end Go.Proofs.Ytiolkeghgodggai.Se

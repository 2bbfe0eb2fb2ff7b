/-
  Calls and rulings at a broker, in memory.
-/
import Derived.Test.YtiolkeghgodggajSy
import Derived.Test.YtiolkeghgodggajBq
namespace Go.Proofs.Ytiolkeghgodggaj.Bo
open Go.RowKit Go.Shelf Go.Sort

/-- Blocks of which F does not hold are as they were. -/
structure Un (F : Nat → Prop) (w w' : World) : Prop where
  os : w'.os = w.os
  tape : w'.tape = w.tape
  output : w'.output = w.output
  size : w.heap.size ≤ w'.heap.size
  block : ∀ k, k < w.heap.size → ¬ F k → w'.heap[k]? = w.heap[k]?
namespace Un
variable {F : Nat → Prop} {w w' w'' : World}
theorem of_below (h : Below w.heap.size w w') : Un F w w' := ⟨h.os, h.tape, h.output, h.size, fun k hk _ => h.block k hk⟩
theorem refl (F : Nat → Prop) (w : World) : Un F w w := of_below (Below.refl _ _)
theorem trans (h : Un F w w') (g : Un F w' w'') : Un F w w'' :=
  ⟨g.os.trans h.os, g.tape.trans h.tape, g.output.trans h.output, Nat.le_trans h.size g.size, fun k hk hp => (g.block k (Nat.lt_of_lt_of_le hk h.size) hp).trans (h.block k hk hp)⟩
/-- What came later may turn besides. -/
theorem thenU {F' : Nat → Prop} (h : Un F w w') (g : Un F' w' w'') (hf : ∀ k, k < w.heap.size → F' k → F k) : Un F w w'' :=
  ⟨g.os.trans h.os, g.tape.trans h.tape, g.output.trans h.output, Nat.le_trans h.size g.size, fun k hk hp => (g.block k (Nat.lt_of_lt_of_le hk h.size) (fun x => hp (hf k hk x))).trans (h.block k hk hp)⟩
theorem set {b : Nat} (h : F b) (i : Nat) (v : Value) : Un F w (w.setCell ⟨b, i, none⟩ v) :=
  ⟨rfl, rfl, rfl, by simp, fun k _ hp => Below.heap_setCell w ⟨b, i, none⟩ v k (fun e => hp (by have e' : k = b := e; rw [e']; exact h))⟩
theorem below {B : Nat} (h : Un F w w') (hB : B ≤ w.heap.size) (hF : ∀ k, F k → B ≤ k) : Below B w w' :=
  ⟨h.os, h.tape, h.output, h.size, fun k hk => h.block k (by omega) (fun x => by have := hF k x; omega)⟩
theorem rowIs {b t n : Nat} {f : Nat → Value} (h : Un F w w') (r : w.rowIs b t n f) (hb : ¬ F b) : w'.rowIs b t n f := r.of_block (h.block b r.lt hb)
theorem rowI {b : Nat} {l : List Int} (h : Un F w w') (r : RowI w b l) (hb : ¬ F b) : RowI w' b l := r.of_block (h.block b r.lt hb)
end Un
/-- The slice '.slice p l.length c' holds the numbers l, in a block of which F does not hold. -/
structure Ns (F : Nat → Prop) (w : World) (p : Option Addr) (c : Nat) (l : List Int) : Prop where
  nl : p = none → c = 0
  cl : 0 < l.length → ∃ b off, p = some ⟨b, off, none⟩ ∧ b < w.heap.size ∧ ¬ F b ∧ ∀ j, j < l.length → w.cell? ⟨b, off + j, none⟩ = some (.int .i64 (l.getD j 0))
namespace Ns
variable {F : Nat → Prop} {w w' : World} {p : Option Addr} {c : Nat} {l : List Int}
theorem keep {F' : Nat → Prop} (h : Ns F w p c l) (g : Un F w w') (hf : ∀ k, k < w.heap.size → F' k → F k) : Ns F' w' p c l := ⟨h.nl, fun h0 => by
  obtain ⟨b, off, rfl, hb, hk, hc⟩ := h.cl h0
  have e := g.block b hb hk
  refine ⟨b, off, rfl, Nat.lt_of_lt_of_le hb g.size, fun x => hk (hf b hb x), fun j hj => ?_⟩
  rw [← hc j hj]
  simp only [World.cell?, e]⟩
theorem grow (h : Ns F w p c l) (g : Below w.heap.size w w') : Ns F w' p c l := h.keep (Un.of_below g) (fun _ _ x => x)
theorem free (h : Ns F w p c l) : Ns (fun _ => False) w p c l := ⟨h.nl, fun h0 => by
  obtain ⟨b, off, e, hb, _, hc⟩ := h.cl h0
  exact ⟨b, off, e, hb, fun x => x, hc⟩⟩
theorem nil (F : Nat → Prop) (w : World) : Ns F w none 0 [] := ⟨fun _ => rfl, fun h => by simp at h⟩
theorem of_row {g c : Nat} (h : RowI w g l) (hF : ¬ F g) : Ns F w (some ⟨g, 0, none⟩) c l := ⟨(fun e => by cases e), fun _ => ⟨g, 0, rfl, h.lt, hF, fun j hj => by rw [Nat.zero_add]; exact h.cell hj⟩⟩
theorem wants (h : Ns F w p c l) : Wants w p l := fun h0 => by
  obtain ⟨b, off, e, hb, _, hc⟩ := h.cl h0
  exact ⟨b, off, e, hb, hc⟩
end Ns

/-- What is told, and where its grants lie. -/
structure RU where
  d : Plain.Ru
  p : Option Addr
  c : Nat
  deriving Inhabited
abbrev aggU (r : RU) : Value := .agg #[.int .i64 (r.d.code : Nat), .slice r.p r.d.grants.length r.c, .int .i64 r.d.report]
abbrev aggC (x : Plain.Ca) : Value := .agg #[.int .i64 x.kind, .int .i64 x.who, .int .i64 x.count]
abbrev boxC (x : Plain.Ca) : Obj := .cells #[.int .i64 x.kind, .int .i64 x.who, .int .i64 x.count] 52
def encC : Enc Plain.Ca := ⟨3, fun x => [.int .i64 x.kind, .int .i64 x.who, .int .i64 x.count], fun _ => rfl, fun a u hu => by
  simp only [List.mem_cons, List.not_mem_nil, or_false] at hu
  rcases hu with rfl | rfl | rfl <;> rfl, by decide⟩
def encU : Enc RU := ⟨3, fun r => [.int .i64 (r.d.code : Nat), .slice r.p r.d.grants.length r.c, .int .i64 r.d.report], fun _ => rfl, fun a u hu => by
  simp only [List.mem_cons, List.not_mem_nil, or_false] at hu
  rcases hu with rfl | rfl | rfl <;> rfl, by decide⟩
/-- The cells of a call. -/
structure CellC (w : World) (b o : Nat) (x : Plain.Ca) : Prop where
  c0 : w.cell? ⟨b, o, none⟩ = some (.int .i64 x.kind)
  c1 : w.cell? ⟨b, o + 1, none⟩ = some (.int .i64 x.who)
  c2 : w.cell? ⟨b, o + 2, none⟩ = some (.int .i64 x.count)
/-- The cells of what is told. -/
structure CellU (w : World) (b o : Nat) (r : RU) : Prop where
  c0 : w.cell? ⟨b, o, none⟩ = some (.int .i64 (r.d.code : Nat))
  c1 : w.cell? ⟨b, o + 1, none⟩ = some (.slice r.p r.d.grants.length r.c)
  c2 : w.cell? ⟨b, o + 2, none⟩ = some (.int .i64 r.d.report)
theorem CellC.below {w w' : World} {b o B : Nat} {d : Plain.Ca} (h : CellC w b o d) (g : Below B w w') (hlt : b < B) : CellC w' b o d :=
  ⟨(g.cell (p := ⟨b, o, none⟩) hlt).trans h.c0, (g.cell (p := ⟨b, o + 1, none⟩) hlt).trans h.c1, (g.cell (p := ⟨b, o + 2, none⟩) hlt).trans h.c2⟩
theorem CellU.below {w w' : World} {b o B : Nat} {d : RU} (h : CellU w b o d) (g : Below B w w') (hlt : b < B) : CellU w' b o d :=
  ⟨(g.cell (p := ⟨b, o, none⟩) hlt).trans h.c0, (g.cell (p := ⟨b, o + 1, none⟩) hlt).trans h.c1, (g.cell (p := ⟨b, o + 2, none⟩) hlt).trans h.c2⟩
theorem CellC.drewN {w : World} {b o : Nat} {d : Plain.Ca} (h : CellC w b o d) (q : Nat) : CellC (w.drewN q) b o d :=
  ⟨by simpa using h.c0, by simpa using h.c1, by simpa using h.c2⟩
theorem CellU.drewN {w : World} {b o : Nat} {d : RU} (h : CellU w b o d) (q : Nat) : CellU (w.drewN q) b o d :=
  ⟨by simpa using h.c0, by simpa using h.c1, by simpa using h.c2⟩
theorem holdsC {w : World} {p : Option Addr} {l : List Plain.Ca} (h : encC.Holds w p l) (h0 : 0 < l.length) : ∃ b off, p = some ⟨b, off, none⟩ ∧ b < w.heap.size ∧ ∀ j, j < l.length → CellC w b (off + j * 3) (l.getD j default) := by
  obtain ⟨b, off, rfl, hb, hc⟩ := h.at default h0
  refine ⟨b, off, rfl, hb, fun j hj => ⟨?_, ?_, ?_⟩⟩
  · exact hc j 0 _ hj (by decide) rfl
  · exact hc j 1 _ hj (by decide) rfl
  · exact hc j 2 _ hj (by decide) rfl
theorem holdsU {w : World} {p : Option Addr} {l : List RU} (h : encU.Holds w p l) (h0 : 0 < l.length) : ∃ b off, p = some ⟨b, off, none⟩ ∧ b < w.heap.size ∧ ∀ j, j < l.length → CellU w b (off + j * 3) (l.getD j default) := by
  obtain ⟨b, off, rfl, hb, hc⟩ := h.at default h0
  refine ⟨b, off, rfl, hb, fun j hj => ⟨?_, ?_, ?_⟩⟩
  · exact hc j 0 _ hj (by decide) rfl
  · exact hc j 1 _ hj (by decide) rfl
  · exact hc j 2 _ hj (by decide) rfl
/-- What is told, in memory. -/
structure An (w : World) (p : Option Addr) (D : List RU) : Prop where
  hd : encU.Holds w p D
  bs : ∀ r, r ∈ D → Ns (fun _ => False) w r.p r.c r.d.grants
theorem An.grow {w w' : World} {p : Option Addr} {D : List RU} (h : An w p D) (g : Below w.heap.size w w') : An w' p D :=
  ⟨h.hd.grow g, fun r hr => (h.bs r hr).grow g⟩
theorem getD_mem {α : Type} (l : List α) (d : α) {k : Nat} (h : k < l.length) : l.getD k d ∈ l := by
  rw [List.getD_eq_getElem?_getD, List.getElem?_eq_getElem h]; exact List.getElem_mem _
theorem getD_map {α β : Type} (f : α → β) (l : List α) (d : α) (e : β) {k : Nat} (h : k < l.length) : (l.map f).getD k e = f (l.getD k d) := by
  rw [List.getD_eq_getElem?_getD, List.getElem?_map, List.getD_eq_getElem?_getD, List.getElem?_eq_getElem h]; rfl

/-! ### What is told, in a box -/
def ruF (r : RU) (j : Nat) : Value := if j = 0 then .int .i64 (r.d.code : Nat) else if j = 1 then .slice r.p r.d.grants.length r.c else .int .i64 r.d.report
theorem row3 {c : Array Value} {x0 x1 x2 : Value} (hs : c.size = 3) (h0 : c[0]? = some x0) (h1 : c[1]? = some x1) (h2 : c[2]? = some x2) : c = #[x0, x1, x2] := by
  apply Array.ext_getElem?
  intro i
  match i with
  | 0 => simpa using h0
  | 1 => simpa using h1
  | 2 => simpa using h2
  | i + 3 => rw [Array.getElem?_eq_none (by omega), Array.getElem?_eq_none (by simp)]
/-- What is told, returned from its box. -/
theorem bodyPost_U {fn : Func} {p : Tmp} {Q : Ending → World → Prop} {a : Act} {w : World} (h : fn.results = #[.cell p 44]) (G : Nat) (r : RU) (hp : a.tmps.getD p undef = .pointer (some ⟨G, 0, none⟩))
    (hg : w.rowIs G 44 3 (ruF r)) (hd : a.defers = []) (hR : Q (.returned (aggU r)) w) : bodyPost Try.prog fn Q .ret a w := by
  obtain ⟨c, hb, hs, hc⟩ := hg
  have e := row3 hs (hc 0 (by omega)) (hc 1 (by omega)) (hc 2 (by omega))
  subst e
  exact bodyPost_ret (results_cell_row (P := Try.prog) h _ _ G 44 _ (0, 0) _ hp hb Try.underlying44 rfl (by kernel_rfl)) hd hR
/-- What is laid over the cells of one that is told. -/
def putU (W : World) (g o : Nat) (r : RU) : World :=
  ((W.setCell ⟨g, o, none⟩ (.int .i64 (r.d.code : Nat))).setCell ⟨g, o + 1, none⟩ (.slice r.p r.d.grants.length r.c)).setCell ⟨g, o + 2, none⟩ (.int .i64 r.d.report)
theorem putU_un {F : Nat → Prop} (W : World) (g o : Nat) (r : RU) (hF : F g) : Un F W (putU W g o r) := ((Un.set hF _ _).trans (Un.set hF _ _)).trans (Un.set hF _ _)
theorem putU_size (W : World) (g o : Nat) (r : RU) : (putU W g o r).heap.size = W.heap.size := by simp [putU, World.setCell]
theorem putU_row {W : World} {G : Nat} {f : Nat → Value} (h : W.rowIs G 44 3 f) (r : RU) : (putU W G 0 r).rowIs G 44 3 (ruF r) := by
  have e := ((h.set 0 (.int .i64 (r.d.code : Nat))).set 1 (.slice r.p r.d.grants.length r.c)).set 2 (.int .i64 r.d.report)
  refine e.congr fun j hj => ?_
  have : j = 0 ∨ j = 1 ∨ j = 2 := by omega
  rcases this with rfl | rfl | rfl <;> rfl
theorem rowU_new (w : World) (r : RU) : (w.alloc (.cells #[.int .i64 (r.d.code : Nat), .slice r.p r.d.grants.length r.c, .int .i64 r.d.report] 44)).rowIs w.heap.size 44 3 (ruF r) := by
  refine World.rowIs_alloc _ _ 44 _ fun i hi => ?_
  have hi4 : i < 3 := hi
  have : i = 0 ∨ i = 1 ∨ i = 2 := by omega
  rcases this with rfl | rfl | rfl <;> rfl
end Go.Proofs.Ytiolkeghgodggaj.Bo

/-
  What steps came to, as it lies in memory: eleven cells each, and three slices.
-/
import Derived.Test.YtlmiomfbpeondanGx
import Derived.Test.YtlmiomfbpeondanAp
import Derived.Below
import Derived.Shelf.Abstract
namespace Go.Proofs.Ytlmiomfbpeondan.Vi
open Go.RowKit Go.Shelf

structure Ev where
  id : Int
  frm : Int
  dst : Int
  size : Int
  deriving Inhabited, DecidableEq
structure Sk where
  code : Int
  id : Int
  free : Int
  held : Int
  used : Int
  deriving Inhabited, DecidableEq
structure Td where
  code : Int
  who : Int
  k : Sk
  val : Int
  sent : List Ev
  frame : List Int
  report : List Int
  deriving Inhabited, DecidableEq
/-- What was told, and where its slices lie. -/
structure RT where
  x : Td
  ps : Option Addr
  cs : Nat
  pf : Option Addr
  cf : Nat
  pr : Option Addr
  cr : Nat
  deriving Inhabited
def RT.cell (r : RT) : Nat → Value
  | 0 => .int .i64 r.x.code
  | 1 => .int .i64 r.x.who
  | 2 => .int .i64 r.x.k.code
  | 3 => .int .i64 r.x.k.id
  | 4 => .int .i64 r.x.k.free
  | 5 => .int .i64 r.x.k.held
  | 6 => .int .i64 r.x.k.used
  | 7 => .int .i64 r.x.val
  | 8 => .slice r.ps r.x.sent.length r.cs
  | 9 => .slice r.pf r.x.frame.length r.cf
  | _ => .slice r.pr r.x.report.length r.cr
abbrev aggT (v : Nat → Value) : Value := .agg #[v 0, v 1, v 2, v 3, v 4, v 5, v 6, v 7, v 8, v 9, v 10]
abbrev boxT (v : Nat → Value) : Obj := .cells #[v 0, v 1, v 2, v 3, v 4, v 5, v 6, v 7, v 8, v 9, v 10] 41
def encT : Enc RT := ⟨11, fun r => [r.cell 0, r.cell 1, r.cell 2, r.cell 3, r.cell 4, r.cell 5, r.cell 6, r.cell 7, r.cell 8, r.cell 9, r.cell 10], fun _ => rfl, fun a u hu => by
  simp only [List.mem_cons, List.not_mem_nil, or_false] at hu
  rcases hu with rfl | rfl | rfl | rfl | rfl | rfl | rfl | rfl | rfl | rfl | rfl <;> rfl, by decide⟩
theorem encT_at (r : RT) (j : Nat) (h : j < 11) : (encT.enc r)[j]? = some (r.cell j) := by
  have : j = 0 ∨ j = 1 ∨ j = 2 ∨ j = 3 ∨ j = 4 ∨ j = 5 ∨ j = 6 ∨ j = 7 ∨ j = 8 ∨ j = 9 ∨ j = 10 := by omega
  rcases this with rfl | rfl | rfl | rfl | rfl | rfl | rfl | rfl | rfl | rfl | rfl <;> rfl
def encV : Enc Ev := ⟨4, fun r => [.int .i64 r.id, .int .i64 r.frm, .int .i64 r.dst, .int .i64 r.size], fun _ => rfl, fun a u hu => by
  simp only [List.mem_cons, List.not_mem_nil, or_false] at hu
  rcases hu with rfl | rfl | rfl | rfl <;> rfl, by decide⟩
def encI : Enc Int := ⟨1, fun z => [.int .i64 z], fun _ => rfl, fun a u hu => by simp only [List.mem_singleton] at hu; subst hu; rfl, by decide⟩
def encB : Enc Int := ⟨1, fun z => [.int .u8 z], fun _ => rfl, fun a u hu => by simp only [List.mem_singleton] at hu; subst hu; rfl, by decide⟩

/-- A block that holds nothing told. -/
def NoT (w : World) (b : Nat) : Prop := ∀ cs z, w.heap[b]? ≠ some (.cells cs 41 z)
/-- A slice that lies in a block that holds nothing told. -/
structure Sl {α : Type} (E : Enc α) (w : World) (p : Option Addr) (c : Nat) (l : List α) : Prop where
  nil : p = none → c = 0
  hd : 0 < l.length → ∃ b off, p = some ⟨b, off, none⟩ ∧ b < w.heap.size ∧ NoT w b ∧ ∀ j u, (E.vals l)[j]? = some u → w.cell? ⟨b, off + j, none⟩ = some u
/-- Blocks that hold nothing told are as they were. -/
structure Kt (w w' : World) : Prop where
  size : w.heap.size ≤ w'.heap.size
  block : ∀ b, b < w.heap.size → NoT w b → w'.heap[b]? = w.heap[b]?
theorem NoT.keep {w w' : World} {b : Nat} (h : NoT w b) (e : w'.heap[b]? = w.heap[b]?) : NoT w' b := fun cs z => by rw [e]; exact h cs z
namespace Kt
variable {w w' w'' : World}
theorem refl (w : World) : Kt w w := ⟨Nat.le_refl _, fun _ _ _ => rfl⟩
theorem trans (h : Kt w w') (g : Kt w' w'') : Kt w w'' := ⟨Nat.le_trans h.size g.size, fun b hb hn => (g.block b (Nat.lt_of_lt_of_le hb h.size) (hn.keep (h.block b hb hn))).trans (h.block b hb hn)⟩
theorem of_below (h : Below w.heap.size w w') : Kt w w' := ⟨h.size, fun b hb _ => h.block b hb⟩
theorem of_one {g : Nat} (hg : ¬ NoT w g) (hs : w'.heap.size = w.heap.size) (h : ∀ b, b ≠ g → w'.heap[b]? = w.heap[b]?) : Kt w w' := ⟨by omega, fun b _ hn => h b (fun e => hg (e ▸ hn))⟩
end Kt
theorem Sl.keep {α : Type} {E : Enc α} {w w' : World} {p : Option Addr} {c : Nat} {l : List α} (h : Sl E w p c l) (k : Kt w w') : Sl E w' p c l := ⟨h.nil, fun h0 => by
  obtain ⟨b, off, rfl, hb, hn, hc⟩ := h.hd h0
  have e := k.block b hb hn
  refine ⟨b, off, rfl, Nat.lt_of_lt_of_le hb k.size, hn.keep e, fun j u hu => ?_⟩
  rw [← hc j u hu]
  simp only [World.cell?, e]⟩
theorem Sl.none {α : Type} (E : Enc α) (w : World) : Sl E w .none 0 [] := ⟨fun _ => rfl, fun h => by simp at h⟩
theorem Sl.holds {α : Type} {E : Enc α} {w : World} {p : Option Addr} {c : Nat} {l : List α} (h : Sl E w p c l) : E.Holds w p l := fun h0 => by
  obtain ⟨b, off, e, hb, _, hc⟩ := h.hd h0
  exact ⟨b, off, e, hb, hc⟩
/-- The slices of what was told, in blocks that hold nothing told. -/
structure TdI (w : World) (y : RT) : Prop where
  s : Sl encV w y.ps y.cs y.x.sent
  f : Sl encB w y.pf y.cf y.x.frame
  r : Sl encI w y.pr y.cr y.x.report
theorem TdI.keep {w w' : World} {r : RT} (h : TdI w r) (k : Kt w w') : TdI w' r := ⟨h.s.keep k, h.f.keep k, h.r.keep k⟩
/-- The slices of what was told, wherever they lie, and how long they may be. -/
structure TdO (w : World) (y : RT) : Prop where
  s : encV.Holds w y.ps y.x.sent
  sn : y.ps = none → y.cs = 0
  sl : y.x.sent.length * 32 ≤ 140737488355328
  f : encB.Holds w y.pf y.x.frame
  fn : y.pf = none → y.cf = 0
  fl : y.x.frame.length ≤ 140737488355328
  r : encI.Holds w y.pr y.x.report
  rn : y.pr = none → y.cr = 0
  rl : y.x.report.length * 8 ≤ 140737488355328
theorem TdO.grow {w w' : World} {r : RT} (h : TdO w r) (g : Below w.heap.size w w') : TdO w' r := ⟨h.s.grow g, h.sn, h.sl, h.f.grow g, h.fn, h.fl, h.r.grow g, h.rn, h.rl⟩

/-- append of what a slice holds onto nothing. -/
theorem app_none {α : Type} {E : Enc α} {w : World} {m c t e bytes : Nat} {i : TypeInfo} {z : Value} {p : Option Addr} {q : List α} (ht : Try.prog.underlying t = some (.slice e)) (hi : Try.prog.info? e = some i) (hz : i.zero = some z) (hsize : i.size = E.n) (hby : i.bytes = bytes) (hzs : z.cells.size = E.n)
    (hq : E.Holds w p q) (hm : q.length = m) (hnil : p = none → c = 0) (hlen : m ≤ maxLen) (hbytes : m * bytes ≤ 140737488355328) (heT : e ≠ 41) :
    ∃ p' c' w', (Builtin.append_ #[t, t] t #[.slice none 0 0, .slice p m c]).run Try.prog w = .ok (.slice p' m c') w' ∧ Sl E w' p' c' q ∧ Below w.heap.size w w' := by
  have hown : w.ownsRow w.heap.size e E.n (.slice none 0 0) 0 [] := World.ownsRow_nil _ _ _ _
  have key : ∃ v' w', (Builtin.append_ #[t, t] t #[.slice none 0 0, .slice p m c]).run Try.prog w = .ok v' w' ∧ w'.ownsRow w.heap.size e E.n v' m (E.vals q) ∧ w.grownBy w' none := by
    subst hm
    cases p with
    | none =>
      have h0 : q = [] := by
        by_cases h : 0 < q.length
        · obtain ⟨_, _, e, _⟩ := hq h; cases e
        · exact List.length_eq_zero_iff.1 (by omega)
      subst h0
      have hc := hnil rfl
      subst hc
      refine ⟨_, w, ?_, hown, ⟨rfl, rfl, rfl, Nat.le_refl _, fun _ _ _ => rfl⟩⟩
      exact run_append_owned_none (P := Try.prog) (w := w) w.heap.size t t e i E.n ht hi _ 0 _ hown
    | some a =>
      obtain ⟨v', w', h1, h2, h3, _⟩ := run_append_own (P := Try.prog) w w.heap.size t t e i z E.n bytes ht hi hz hsize hby hzs E.pos _ 0 _ hown a q.length c (E.vals q)
        (E.vals_len q) (fun j u hu => by
          have hpos : 0 < q.length := by
            rcases Nat.eq_zero_or_pos q.length with h | h
            · have : q = [] := List.length_eq_zero_iff.1 h
              subst this
              simp [Enc.vals] at hu
            · exact h
          obtain ⟨b, o, e, _, g⟩ := hq hpos
          have e' := Option.some.inj e
          subst e'
          rw [add_at']
          exact g j u hu) (E.vals_cell q) (by omega) (by rw [Nat.zero_add]; exact hbytes) (Nat.le_refl _)
      rw [Nat.zero_add, List.nil_append] at h2
      exact ⟨v', w', h1, h2, h3⟩
  obtain ⟨v', w', h1, h2, h3⟩ := key
  have hb : Below w.heap.size w w' := ⟨h3.os, h3.tape, h3.output, h3.size, fun k hk => h3.block k hk (by simp)⟩
  rcases h2.2 with ⟨rfl, h0⟩ | ⟨g, cap, cur, rfl, hg, hb2, k1, k2, k3, k4⟩
  · have : q = [] := List.length_eq_zero_iff.1 (by omega)
    subst this
    subst h0
    exact ⟨none, 0, w', h1, Sl.none _ _, hb⟩
  · refine ⟨_, cap, w', h1, ⟨(fun e => by cases e), fun h0 => ⟨g, 0, rfl, (Array.getElem?_eq_some_iff.1 hb2).1, fun cs z e => ?_, fun j u hu => ?_⟩⟩, hb⟩
    · rw [hb2] at e
      injection e with e
      injection e with _ e _
      exact heT e
    · have := h2.cells rfl j u hu
      rw [add_at'] at this
      exact this
theorem infoV : (Try.prog.info? 52).map (fun i => (i.zero, i.size, i.bytes)) = some (some (.agg #[.int .i64 0, .int .i64 0, .int .i64 0, .int .i64 0]), 4, 32) := by kernel_rfl
theorem infoI : (Try.prog.info? 3).map (fun i => (i.zero, i.size, i.bytes)) = some (some (.int .i64 0), 1, 8) := by kernel_rfl
theorem infoB : (Try.prog.info? 5).map (fun i => (i.zero, i.size, i.bytes)) = some (some (.int .u8 0), 1, 1) := by kernel_rfl
theorem infoT : (Try.prog.info? 41).map (fun i => (i.zero, i.size, i.bytes)) = some (some (.agg #[.int .i64 0, .int .i64 0, .int .i64 0, .int .i64 0, .int .i64 0, .int .i64 0, .int .i64 0, .int .i64 0, .slice none 0 0, .slice none 0 0, .slice none 0 0]), 11, 136) := by kernel_rfl
theorem appV {w : World} {c : Nat} {p : Option Addr} {q : List Ev} (hq : encV.Holds w p q) (hnil : p = none → c = 0) (hb : q.length * 32 ≤ 140737488355328) :
    ∃ p' c' w', (Builtin.append_ #[38, 38] 38 #[.slice none 0 0, .slice p q.length c]).run Try.prog w = .ok (.slice p' q.length c') w' ∧ Sl encV w' p' c' q ∧ Below w.heap.size w w' := by
  obtain ⟨i0, hi, hz0, hz1, hz2⟩ := info_parts infoV
  exact app_none Try.underlying38 hi hz0 hz1 hz2 rfl hq rfl hnil (by unfold maxLen; omega) hb (by decide)
theorem appI {w : World} {c : Nat} {p : Option Addr} {q : List Int} (hq : encI.Holds w p q) (hnil : p = none → c = 0) (hb : q.length * 8 ≤ 140737488355328) :
    ∃ p' c' w', (Builtin.append_ #[22, 22] 22 #[.slice none 0 0, .slice p q.length c]).run Try.prog w = .ok (.slice p' q.length c') w' ∧ Sl encI w' p' c' q ∧ Below w.heap.size w w' := by
  obtain ⟨i0, hi, hz0, hz1, hz2⟩ := info_parts infoI
  exact app_none Try.underlying22 hi hz0 hz1 hz2 rfl hq rfl hnil (by unfold maxLen; omega) hb (by decide)
theorem appB {w : World} {c : Nat} {p : Option Addr} {q : List Int} (hq : encB.Holds w p q) (hnil : p = none → c = 0) (hb : q.length ≤ 140737488355328) :
    ∃ p' c' w', (Builtin.append_ #[39, 39] 39 #[.slice none 0 0, .slice p q.length c]).run Try.prog w = .ok (.slice p' q.length c') w' ∧ Sl encB w' p' c' q ∧ Below w.heap.size w w' := by
  obtain ⟨i0, hi, hz0, hz1, hz2⟩ := info_parts infoB
  exact app_none Try.underlying39 hi hz0 hz1 hz2 rfl hq rfl hnil (by unfold maxLen; omega) (by omega) (by decide)

/-- Eleven cells are written. -/
def putT (W : World) (g o : Nat) (v : Nat → Value) : World := (((((((((((W.setCell ⟨g, o, none⟩ (v 0)).setCell ⟨g, o + 1, none⟩ (v 1)).setCell ⟨g, o + 2, none⟩ (v 2)).setCell ⟨g, o + 3, none⟩ (v 3)).setCell ⟨g, o + 4, none⟩ (v 4)).setCell ⟨g, o + 5, none⟩ (v 5)).setCell ⟨g, o + 6, none⟩ (v 6)).setCell ⟨g, o + 7, none⟩ (v 7)).setCell ⟨g, o + 8, none⟩ (v 8)).setCell ⟨g, o + 9, none⟩ (v 9)).setCell ⟨g, o + 10, none⟩ (v 10))
theorem putT_other (W : World) (g o : Nat) (v : Nat → Value) (b : Nat) (hb : b ≠ g) : (putT W g o v).heap[b]? = W.heap[b]? := by
  unfold putT
  rw [Below.heap_setCell _ ⟨g, _, none⟩ _ b hb, Below.heap_setCell _ ⟨g, _, none⟩ _ b hb, Below.heap_setCell _ ⟨g, _, none⟩ _ b hb, Below.heap_setCell _ ⟨g, _, none⟩ _ b hb, Below.heap_setCell _ ⟨g, _, none⟩ _ b hb, Below.heap_setCell _ ⟨g, _, none⟩ _ b hb, Below.heap_setCell _ ⟨g, _, none⟩ _ b hb, Below.heap_setCell _ ⟨g, _, none⟩ _ b hb, Below.heap_setCell _ ⟨g, _, none⟩ _ b hb, Below.heap_setCell _ ⟨g, _, none⟩ _ b hb, Below.heap_setCell _ ⟨g, _, none⟩ _ b hb]
theorem putT_size (W : World) (g o : Nat) (v : Nat → Value) : (putT W g o v).heap.size = W.heap.size := by simp [putT, World.setCell]
theorem set_os (W : World) (a : Addr) (v : Value) : (W.setCell a v).os = W.os := rfl
theorem set_tape (W : World) (a : Addr) (v : Value) : (W.setCell a v).tape = W.tape := rfl
theorem set_output (W : World) (a : Addr) (v : Value) : (W.setCell a v).output = W.output := rfl
theorem putT_below {B : Nat} {W : World} {g : Nat} (hg : B ≤ g) (o : Nat) (v : Nat → Value) : Below B W (putT W g o v) :=
  ⟨by unfold putT; simp only [set_os], by unfold putT; simp only [set_tape], by unfold putT; simp only [set_output], by rw [putT_size]; exact Nat.le_refl _, fun b hb => putT_other W g o v b (by omega)⟩
set_option maxHeartbeats 1000000 in
theorem putT_row {W : World} {g o N : Nat} {f : Nat → Value} (h : W.rowIs g 41 N f) (v : Nat → Value) : (putT W g o v).rowIs g 41 N (fun j => if o ≤ j ∧ j < o + 11 then v (j - o) else f j) := by
  have e0 := h.set o (v 0)
  have e1 := e0.set (o + 1) (v 1)
  have e2 := e1.set (o + 2) (v 2)
  have e3 := e2.set (o + 3) (v 3)
  have e4 := e3.set (o + 4) (v 4)
  have e5 := e4.set (o + 5) (v 5)
  have e6 := e5.set (o + 6) (v 6)
  have e7 := e6.set (o + 7) (v 7)
  have e8 := e7.set (o + 8) (v 8)
  have e9 := e8.set (o + 9) (v 9)
  have e10 := e9.set (o + 10) (v 10)
  clear e0 e1 e2 e3 e4 e5 e6 e7 e8 e9
  unfold putT
  refine e10.congr fun j hj => ?_
  by_cases hh : o ≤ j ∧ j < o + 11
  · obtain ⟨k, rfl⟩ : ∃ k, j = o + k := ⟨j - o, by omega⟩
    have hk : k = 0 ∨ k = 1 ∨ k = 2 ∨ k = 3 ∨ k = 4 ∨ k = 5 ∨ k = 6 ∨ k = 7 ∨ k = 8 ∨ k = 9 ∨ k = 10 := by omega
    rw [if_pos hh, show o + k - o = k by omega]
    rcases hk with rfl | rfl | rfl | rfl | rfl | rfl | rfl | rfl | rfl | rfl | rfl <;> simp
  · rw [if_neg hh]
    simp only [show ¬ j = o by omega, show ¬ j = o + 1 by omega, show ¬ j = o + 2 by omega, show ¬ j = o + 3 by omega, show ¬ j = o + 4 by omega, show ¬ j = o + 5 by omega, show ¬ j = o + 6 by omega, show ¬ j = o + 7 by omega, show ¬ j = o + 8 by omega, show ¬ j = o + 9 by omega, show ¬ j = o + 10 by omega, if_false]
theorem row11 {c : Array Value} {v : Nat → Value} (hs : c.size = 11) (h : ∀ i, i < 11 → c[i]? = some (v i)) : c = #[v 0, v 1, v 2, v 3, v 4, v 5, v 6, v 7, v 8, v 9, v 10] := by
  apply Array.ext_getElem?
  intro i
  match i with
  | 0 => simpa using h 0 (by omega)
  | 1 => simpa using h 1 (by omega)
  | 2 => simpa using h 2 (by omega)
  | 3 => simpa using h 3 (by omega)
  | 4 => simpa using h 4 (by omega)
  | 5 => simpa using h 5 (by omega)
  | 6 => simpa using h 6 (by omega)
  | 7 => simpa using h 7 (by omega)
  | 8 => simpa using h 8 (by omega)
  | 9 => simpa using h 9 (by omega)
  | 10 => simpa using h 10 (by omega)
  | i + 11 => rw [Array.getElem?_eq_none (by omega), Array.getElem?_eq_none (by simp)]
/-- What is told, returned from its box. -/
theorem bodyPost_T {fn : Func} {p : Tmp} {Q : Ending → World → Prop} {a : Act} {w : World} (h : fn.results = #[.cell p 41]) (G : Nat) (v : Nat → Value) (hp : a.tmps.getD p undef = .pointer (some ⟨G, 0, none⟩))
    (hg : w.rowIs G 41 11 v) (hd : a.defers = []) (hR : Q (.returned (aggT v)) w) : bodyPost Try.prog fn Q .ret a w := by
  obtain ⟨c, hb, hs, hc⟩ := hg
  have e := row11 hs hc
  subst e
  exact bodyPost_ret (results_cell_row (P := Try.prog) h _ _ G 41 _ (0, 0) _ hp hb Try.underlying41 rfl (by kernel_rfl)) hd hR
theorem rowT_new (w : World) (v : Nat → Value) : (w.alloc (boxT v)).rowIs w.heap.size 41 11 v := by
  refine World.rowIs_alloc w _ 41 _ fun j hi => ?_
  have hi5 : j < 11 := hi
  have : j = 0 ∨ j = 1 ∨ j = 2 ∨ j = 3 ∨ j = 4 ∨ j = 5 ∨ j = 6 ∨ j = 7 ∨ j = 8 ∨ j = 9 ∨ j = 10 := by omega
  rcases this with rfl | rfl | rfl | rfl | rfl | rfl | rfl | rfl | rfl | rfl | rfl <;> rfl
theorem row_told {w : World} {b n : Nat} {f : Nat → Value} (h : w.rowIs b 41 n f) : ¬ NoT w b := fun hn => by
  obtain ⟨c, hb, _⟩ := h
  exact hn _ _ hb
/-- The cells of what was told. -/
theorem holdsT {w : World} {p : Option Addr} {l : List RT} (h : encT.Holds w p l) (h0 : 0 < l.length) : ∃ b off, p = some ⟨b, off, none⟩ ∧ b < w.heap.size ∧ ∀ j, j < l.length → ∀ i, i < 11 → w.cell? ⟨b, off + (j * 11 + i), none⟩ = some ((l.getD j default).cell i) := by
  obtain ⟨b, off, rfl, hb, hc⟩ := h.at default h0
  exact ⟨b, off, rfl, hb, fun j hj i hi => hc j i _ hj hi (encT_at _ i hi)⟩
end Go.Proofs.Ytlmiomfbpeondan.Vi

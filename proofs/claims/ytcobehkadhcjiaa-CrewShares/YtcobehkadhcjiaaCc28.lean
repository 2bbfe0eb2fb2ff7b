/-
  Goroutines among others: part 28 of what the law's own text rests on.
-/
import Derived.Test.YtcobehkadhcjiaaCc27
/-
  crew.Splits: a round's two boxes; the rows are handed over.
-/
namespace Go.Proofs.Ytcobehkadhcjiaa
open Go Go.Conc Go.ConcN Go.Conc.Lib Go.RowKit Go.Shelf
open Go.ConcR (Payload wgBlock)

noncomputable def c5 : Code := seqL (seqR (seqR tail7))
noncomputable def ops5 : Array Oper := opsC c5
noncomputable def t5c : Code := seqR (seqR (seqR tail7))
noncomputable def c6 : Code := seqL (seqL t5c)
noncomputable def rnd : Code := lopC (blkC (seqR (seqL t5c)))
noncomputable def ops6 : Array Oper := opsC c6
noncomputable def c7 : Code := seqL rnd
noncomputable def ops7 : Array Oper := opsC c7
noncomputable def in1 : Code := blkC (seqL (seqR (seqR rnd)))
noncomputable def c8 : Code := seqL in1
noncomputable def c9 : Code := seqL (seqR in1)
noncomputable def c10 : Code := seqR (seqR in1)
noncomputable def c11 : Code := seqR (seqR (seqR rnd))
noncomputable def ops8 : Array Oper := opsC c8
noncomputable def ops9 : Array Oper := opsC c9
noncomputable def ops10 : Array Oper := opsC c10
noncomputable def ops11 : Array Oper := opsC c11
noncomputable def tail12 : Code := seqR t5c
theorem tail7_is : tail7 = .seq c3 (.seq c4 (.seq c5 (.seq (.seq c6 (.block 0 (.loop rnd))) tail12))) := rfl
theorem rnd_is : rnd = .seq c7 (.seq (.cond (.tmp 31) .skip (.exit 0)) (.seq (.block 1 in1) c11)) := rfl
theorem in1_is : in1 = .seq c8 (.seq c9 c10) := rfl
theorem c5_is : c5 = .region 5 ops5 false := rfl
theorem c6_is : c6 = .region 6 ops6 false := rfl
theorem c7_is : c7 = .region 7 ops7 false := rfl
theorem c8_is : c8 = .region 8 ops8 false := rfl
theorem c9_is : c9 = .region 9 ops9 false := rfl
theorem c10_is : c10 = .region 10 ops10 false := rfl
theorem c11_is : c11 = .region 11 ops11 false := rfl
theorem ops5_size : ops5.size = 1 := by kernel_rfl
theorem ops6_size : ops6.size = 3 := by kernel_rfl
theorem ops7_size : ops7.size = 1 := by kernel_rfl
theorem ops8_size : ops8.size = 7 := by kernel_rfl
theorem ops9_size : ops9.size = 1 := by kernel_rfl
theorem ops10_size : ops10.size = 2 := by kernel_rfl
theorem ops11_size : ops11.size = 2 := by kernel_rfl

theorem new5 (e : Act) (w : World) (es : Array Event) : (execOp e.eval (ops5[0]'(by rw [ops5_size]; decide))).run Try.prog w = .ok (.value (.pointer (some ⟨w.heap.size, 0, none⟩))) (w.alloc (wgBlock wgL.tWg 0 0)) ∧ (execOp e.eval (ops5[0]'(by rw [ops5_size]; decide))).events Try.prog w es = es := by
  have ho : (ops5[0]'(by rw [ops5_size]; decide)).op = Op.alloc 57 := rfl
  unfold execOp
  rw [ho]
  exact ⟨by simp [go_sem, wgBlock], by simp [go_sem]⟩
theorem add9 (e : Act) (w : World) (es : Array Event) : (execOp e.eval (ops9[0]'(by rw [ops9_size]; decide))).run Try.prog w = .ok (.enter wgL.add #[e.eval (.tmp 8), .int .i64 1]) w ∧ (execOp e.eval (ops9[0]'(by rw [ops9_size]; decide))).events Try.prog w es = es := by
  have ho : (ops9[0]'(by rw [ops9_size]; decide)).op = Op.call { callee := .value (.func 19), args := #[.tmp 8, .const (.int .i64 1)], argTypes := #[57, 3] } := rfl
  have e0 : e.eval (.func 19) = .func (.func 19) #[] #[] := rfl
  have e1 : e.eval (.const (.int .i64 1)) = .int .i64 1 := rfl
  have nm : (Try.f19.name == "runtime.NumGoroutine") = false := by kernel_rfl
  have n19 : ¬ Try.f19.name = "runtime.NumGoroutine" := by simpa using nm
  have hb : Try.f19.body.isSome = true := by kernel_rfl
  obtain ⟨b, b19⟩ := Option.isSome_iff_exists.1 hb
  constructor
  · unfold execOp
    rw [ho]
    simp [resolve, Deferred.ofValue, invoke, e0, e1, callFunc, Try.func19, n19, b19]
  · unfold execOp
    rw [ho]
    simp [resolve, Deferred.ofValue, invoke, e0, e1, callFunc, Try.func19, n19, b19]
def xs10 : Array Operand := #[.tmp 8, .tmp 10, .tmp 3, .tmp 9, .tmp 6, .tmp 7]
theorem make10 (e : Act) (w : World) (es : Array Event) : (execOp e.eval (ops10[0]'(by rw [ops10_size]; decide))).run Try.prog w = .ok (.value (.func (.func 20) #[] (xs10.map e.eval))) w ∧ (execOp e.eval (ops10[0]'(by rw [ops10_size]; decide))).events Try.prog w es = es := by
  have ho : (ops10[0]'(by rw [ops10_size]; decide)).op = Op.makeFunc (.func 20) #[] xs10 := rfl
  unfold execOp
  rw [ho]
  exact ⟨by simp [go_sem], by simp [go_sem]⟩
theorem go10 (e : Act) (w : World) (es : Array Event) (c : Array Value) (h : e.eval (.tmp 36) = .func (.func 20) #[] c) : (execOp e.eval (ops10[1]'(by rw [ops10_size]; decide))).run Try.prog w = .ok (.spawn (closure 20 c)) w ∧ (execOp e.eval (ops10[1]'(by rw [ops10_size]; decide))).events Try.prog w es = es := by
  have ho : (ops10[1]'(by rw [ops10_size]; decide)).op = Op.go { callee := .value (.tmp 36), args := #[], argTypes := #[] } := rfl
  unfold execOp
  rw [ho]
  exact ⟨by simp [resolve, Deferred.ofValue, h], by simp [resolve, Deferred.ofValue, h]⟩
end Go.Proofs.Ytcobehkadhcjiaa

/-
  crew.Splits: a round's two boxes.
-/
namespace Go.Proofs.Ytcobehkadhcjiaa
open Go Go.Conc Go.ConcN Go.Conc.Lib Go.RowKit Go.Shelf
open Go.ConcR (Payload wgBlock)

theorem sz3 (w : World) : (sizeOf 3).run Try.prog w = .ok 1 w := by simp [go_sem]
theorem sze3 (w : World) (es : Array Event) : (sizeOf 3).events Try.prog w es = es := by simp [go_sem]
theorem alloc8 {o : Oper} (ho : o.op = .alloc 3) (e : Operand → Value) (w : World) : (execOp e o).run Try.prog w = .ok (.value (.pointer (some ⟨w.heap.size, 0, none⟩))) (w.alloc (.cells #[.int .i64 0] 3 (0, 0))) := by
  unfold execOp
  rw [ho]
  simp [go_sem]
theorem box8_mj [Shift] [Payload] {L : WgLink} {ρ : Rj} {k : List Item} {cs : List Frame} {t : Array Value} {l : List (Nat × Value)} {w : World} (hS : Sl t 45 l) (ba oa n ca j : Nat) (x : Int) (h28 : (28, .slice (some ⟨ba, oa, none⟩) n ca) ∈ l) (h30 : (30, .int .i64 j) ∈ l) (hj : j < n)
    (hx : w.cell? ⟨ba, oa + j, none⟩ = some (.int .i64 x))
    (K : ∀ (t' : Array Value) (w' : World), Sl t' 45 (setS 10 (.pointer (some ⟨w.heap.size + 1, 0, none⟩)) (setS 9 (.pointer (some ⟨w.heap.size, 0, none⟩)) (setS 34 (.int .i64 x) (setS 33 (.pointer (some ⟨ba, oa + j, none⟩)) (setS 32 (.int .i64 j) l))))) → Kc w w' → w'.heap.size = w.heap.size + 2 →
      w'.cell? ⟨w.heap.size, 0, none⟩ = some (.int .i64 j) → w'.cell? ⟨w.heap.size + 1, 0, none⟩ = some (.int .i64 x) → (∀ a, a < w.heap.size → w'.heap[a]? = w.heap[a]?) → MJ Try.prog L S1 V1 ρ (bare 7 t') [] k cs w') :
    MJ Try.prog L S1 V1 ρ (bare 7 t) [] (.code c8 :: k) cs w := by
  rw [c8_is]
  refine MJ.reg (r := [0, 1, 2, 3, 4, 5, 6]) (by rw [ops8_size]; rfl) ?_
  refine MJ.mv hS (o := ops8[0]'(by rw [ops8_size]; decide)) 30 32 (.int .i64 j) rfl (.inl rfl) rfl rfl (by omega) h30 fun t1 U1 hS1 => ?_
  have h28' : (28, Value.slice (some ⟨ba, oa, none⟩) n ca) ∈ setS 32 (.int .i64 j) l := List.mem_cons_of_mem _ (List.mem_filter.2 ⟨h28, rfl⟩)
  have h30' : (30, Value.int .i64 (j : Int)) ∈ setS 32 (.int .i64 j) l := List.mem_cons_of_mem _ (List.mem_filter.2 ⟨h30, rfl⟩)
  refine MJ.vl hS1 (o := ops8[1]'(by rw [ops8_size]; decide)) 33 (.pointer (some ⟨ba, oa + j, none⟩)) rfl rfl rfl (by omega) (by kernel_rfl) (fun T => run_ix (ty := 22) (el := 3) rfl Try.underlying22 (by kernel_rfl) ba oa n ca j (hS1.ev h28') (hS1.ev h30') hj) fun t2 U2 hS2 => ?_
  refine MJ.vl hS2 (o := ops8[2]'(by rw [ops8_size]; decide)) 34 (.int .i64 x) rfl rfl rfl (by omega) (by kernel_rfl) (fun T => run_ld3 rfl _ _ (hS2.ev (by simp [setS])) hx) fun t3 U3 hS3 => ?_
  obtain ⟨wx, hwx⟩ : ∃ wx, wx = onT (onT (onT w U1) U2) U3 := ⟨_, rfl⟩
  have hh : wx.heap = w.heap := by rw [hwx]; rfl
  rw [← hwx]
  clear hwx
  refine MJ.ow hS3 (o := ops8[3]'(by rw [ops8_size]; decide)) 9 rfl rfl rfl (by omega) (by kernel_rfl) fun T => ⟨_, _, alloc8 rfl _ _, fun t4 hS4 => ?_⟩
  obtain ⟨wa, hwa⟩ : ∃ wa, wa = (retape wx T).alloc (.cells #[.int .i64 0] 3 (0, 0)) := ⟨_, rfl⟩
  have ea : (retape wx T).heap.size = w.heap.size := by rw [← hh]; rfl
  have sa : wa.heap.size = w.heap.size + 1 := by rw [hwa, al_size, ea]
  have ra : wa.heap[w.heap.size]? = some (.cells #[.int .i64 0] 3 (0, 0)) := by rw [hwa, ← ea]; exact al_heap _ _
  have oa' : ∀ a, a < w.heap.size → wa.heap[a]? = w.heap[a]? := fun a ha => by rw [hwa, ← hh]; exact Below.heap_alloc (retape wx T) _ _ (by rw [ea]; exact ha)
  rw [ea] at hS4
  rw [← hwa]
  clear hwa ea
  refine MJ.ow hS4 (o := ops8[4]'(by rw [ops8_size]; decide)) 10 rfl rfl rfl (by omega) (by kernel_rfl) fun T => ⟨_, _, alloc8 rfl _ _, fun t5 hS5 => ?_⟩
  obtain ⟨wb, hwb⟩ : ∃ wb, wb = (retape wa T).alloc (.cells #[.int .i64 0] 3 (0, 0)) := ⟨_, rfl⟩
  have eb : (retape wa T).heap.size = w.heap.size + 1 := sa
  have sb : wb.heap.size = w.heap.size + 2 := by rw [hwb, al_size, eb]
  have rb : wb.heap[w.heap.size + 1]? = some (.cells #[.int .i64 0] 3 (0, 0)) := by rw [hwb, ← eb]; exact al_heap _ _
  have ob : ∀ a, a < w.heap.size + 1 → wb.heap[a]? = wa.heap[a]? := fun a ha => by rw [hwb]; exact Below.heap_alloc (retape wa T) _ _ (by rw [eb]; exact ha)
  rw [eb] at hS5
  rw [← hwb]
  clear hwb eb
  have ra' : wb.heap[w.heap.size]? = some (.cells #[.int .i64 0] 3 (0, 0)) := (ob _ (by omega)).trans ra
  have st : ∀ (W : World) (a : Nat) (y z : Int), W.heap[a]? = some (.cells #[.int .i64 z] 3 (0, 0)) → (W.setCell ⟨a, 0, none⟩ (.int .i64 y)).heap[a]? = some (.cells #[.int .i64 y] 3 (0, 0)) ∧ (W.setCell ⟨a, 0, none⟩ (.int .i64 y)).heap.size = W.heap.size ∧ W.cell? ⟨a, 0, none⟩ = some (.int .i64 z) ∧ W.frozen? ⟨a, 0, none⟩ = false := fun W a y z h => by
    refine ⟨by simp [World.setCell, Array.getElem?_modify, h], by simp [World.setCell], by simp [World.cell?, h], by simp [World.frozen?, h]⟩
  refine MJ.opS (o := ops8[5]'(by rw [ops8_size]; decide)) rfl rfl (by kernel_rfl) fun T => ?_
  obtain ⟨p1, p2, p3, p4⟩ := st (retape wb T) w.heap.size j 0 ra'
  refine ⟨_, (store_one (e := Act.eval ⟨t5, []⟩) (x := .tmp 9) (y := .tmp 32) sz3 sze3 rfl (retape wb T) #[] ⟨w.heap.size, 0, none⟩ (.int .i64 j) _ (hS5.ev (by simp [setS])) (hS5.ev (by simp [setS])) rfl p3 p4).1, ?_⟩
  obtain ⟨wc, hwc⟩ : ∃ wc, wc = (retape wb T).setCell ⟨w.heap.size, 0, none⟩ (.int .i64 j) := ⟨_, rfl⟩
  have oc : ∀ a, a ≠ w.heap.size → wc.heap[a]? = wb.heap[a]? := fun a ha => by rw [hwc]; exact Below.heap_setCell (retape wb T) ⟨w.heap.size, 0, none⟩ _ a ha
  rw [← hwc] at p1 p2
  rw [show putT t5 (ops8[5]'(by rw [ops8_size]; decide)).dst undef = t5 from rfl, ← hwc]
  clear hwc p3 p4
  have rb' : wc.heap[w.heap.size + 1]? = some (.cells #[.int .i64 0] 3 (0, 0)) := (oc _ (by omega)).trans rb
  refine MJ.opS (o := ops8[6]'(by rw [ops8_size]; decide)) rfl rfl (by kernel_rfl) fun T => ?_
  obtain ⟨q1, q2, q3, q4⟩ := st (retape wc T) (w.heap.size + 1) x 0 rb'
  refine ⟨_, (store_one (e := Act.eval ⟨t5, []⟩) (x := .tmp 10) (y := .tmp 34) sz3 sze3 rfl (retape wc T) #[] ⟨w.heap.size + 1, 0, none⟩ (.int .i64 x) _ (hS5.ev (by simp [setS])) (hS5.ev (by simp [setS])) rfl q3 q4).1, ?_⟩
  obtain ⟨wd, hwd⟩ : ∃ wd, wd = (retape wc T).setCell ⟨w.heap.size + 1, 0, none⟩ (.int .i64 x) := ⟨_, rfl⟩
  have od : ∀ a, a ≠ w.heap.size + 1 → wd.heap[a]? = wc.heap[a]? := fun a ha => by rw [hwd]; exact Below.heap_setCell (retape wc T) ⟨w.heap.size + 1, 0, none⟩ _ a ha
  rw [← hwd] at q1 q2
  rw [show putT t5 (ops8[6]'(by rw [ops8_size]; decide)).dst undef = t5 from rfl, ← hwd]
  clear hwd q3 q4
  refine MJ.regE ?_
  have old : ∀ a, a < w.heap.size → wd.heap[a]? = w.heap[a]? := fun a ha => by rw [od a (by omega), oc a (by omega), ob a (by omega), oa' a ha]
  have sd : wd.heap.size = w.heap.size + 2 := by
    rw [q2]
    show wc.heap.size = _
    rw [p2]
    exact sb
  refine K t5 wd hS5 ⟨by omega, fun a v hv => ?_⟩ sd ?_ ?_ old
  · have hlt := World.block_lt_of_cell? (h := hv)
    rw [World.cell?_of_block (old _ hlt)]; exact hv
  · have : wd.heap[w.heap.size]? = some (.cells #[.int .i64 j] 3 (0, 0)) := by rw [od _ (by omega)]; exact p1
    simp [World.cell?, this]
  · simp [World.cell?, q1]
end Go.Proofs.Ytcobehkadhcjiaa

/-
  crew.Splits: a round of its loop: two boxes, Add(1), a worker.
-/
namespace Go.Proofs.Ytcobehkadhcjiaa
open Go Go.Conc Go.ConcN Go.Conc.Lib Go.RowKit Go.Shelf
open Go.ConcR (Payload wgBlock)

/-- What stays the same in the loop. -/
structure LDt where
  W0 : World
  pa : Option Addr
  n : Nat
  ca : Nat
  pb : Option Addr
  cb : Nat
  b3 : Nat
  b6 : Nat
  b7 : Nat
  wg : Nat
  r1 : Nat
  r2 : Nat
  ts : List Int
  ws : List (List Int)
def LDt.rw (D : LDt) : Rw := ⟨fun z => if z then D.r2 else D.r1, D.n, fun z => if z then 24 else 22⟩
def LDt.sl (D : LDt) (j : Nat) : List (Nat × Value) := [(3, .pointer (some ⟨D.b3, 0, none⟩)), (6, .pointer (some ⟨D.b6, 0, none⟩)), (7, .pointer (some ⟨D.b7, 0, none⟩)), (8, .pointer (some ⟨D.wg, 0, none⟩)), (28, .slice D.pa D.n D.ca), (29, .int .i64 D.n), (30, .int .i64 j)]
def LDt.st (D : LDt) (j : Nat) : Sj := ⟨some D.wg, false, if j = 0 then none else some D.rw, spc D.ts D.ws j⟩
structure LOk [Shift] [Payload] (D : LDt) : Prop where
  ht : D.ts.length = D.n
  hw : D.ws.length = D.n
  hn : D.n ≤ 200
  seg : Seg D.W0 (.slice D.pa D.n D.ca) D.ts
  tab : TabW D.W0 D.pb D.ws
  big : ∀ j, (D.ws.getD j []).length ≤ 9223372036854775807
  l1 : D.W0.heap.size ≤ D.r1
  l2 : D.W0.heap.size ≤ D.r2
  ne : D.r1 ≠ D.r2
  n31 : D.b3 ≠ D.r1
  n32 : D.b3 ≠ D.r2
  n61 : D.b6 ≠ D.r1
  n62 : D.b6 ≠ D.r2
  n71 : D.b7 ≠ D.r1
  n72 : D.b7 ≠ D.r2
  low : Shift.n ≤ D.W0.heap.size
  pay : Payload.ety = 24
/-- At the head of the loop. -/
structure StL (D : LDt) (t : Array Value) (w : World) (j : Nat) : Prop where
  sl : Sl t 45 (D.sl j)
  kc : Kc D.W0 w
  c3 : w.cell? ⟨D.b3, 0, none⟩ = some (.slice D.pb D.n D.cb)
  c6 : w.cell? ⟨D.b6, 0, none⟩ = some (.slice (some ⟨D.r1, 0, none⟩) D.n D.n)
  c7 : w.cell? ⟨D.b7, 0, none⟩ = some (.slice (some ⟨D.r2, 0, none⟩) D.n D.n)
  rows : j = 0 → w.heap[D.r1]? = some (.cells (madeCells #[.slice none 0 0] D.n) 22 (0, 0)) ∧ w.heap[D.r2]? = some (.cells (madeCells #[.int .i64 0] D.n) 24 (0, 0))

theorem hide_size (w : World) (rw : Rw) : (hideW w rw).heap.size = w.heap.size := by simp [hideW]
theorem hide_cell (w : World) (rw : Rw) (a : Addr) (h1 : a.block ≠ rw.b false) (h2 : a.block ≠ rw.b true) : (hideW w rw).cell? a = w.cell? a := by
  refine World.cell?_of_block ?_
  simp only [hideW]
  rw [Array.getElem?_setIfInBounds_ne (fun e => h2 e.symm), Array.getElem?_setIfInBounds_ne (fun e => h1 e.symm)]

variable [Shift] [Payload]
/-- The world in which a worker begins. -/
theorem begin_w {D : LDt} (hD : LOk D) {t : Array Value} {w : World} {j : Nat} (hkc : Kc D.W0 w) (c3 : w.cell? ⟨D.b3, 0, none⟩ = some (.slice D.pb D.n D.cb)) (c6 : w.cell? ⟨D.b6, 0, none⟩ = some (.slice (some ⟨D.r1, 0, none⟩) D.n D.n)) (c7 : w.cell? ⟨D.b7, 0, none⟩ = some (.slice (some ⟨D.r2, 0, none⟩) D.n D.n))
    (rows : j = 0 → w.heap[D.r1]? = some (.cells (madeCells #[.slice none 0 0] D.n) 22 (0, 0)) ∧ w.heap[D.r2]? = some (.cells (madeCells #[.int .i64 0] D.n) 24 (0, 0))) (hj : j < D.n) {b9 b10 : Nat} {x : Int} (c9 : w.cell? ⟨b9, 0, none⟩ = some (.int .i64 j)) (c10 : w.cell? ⟨b10, 0, none⟩ = some (.int .i64 x))
    (h9 : j = 0 → b9 ≠ D.r1 ∧ b9 ≠ D.r2) (h10 : j = 0 → b10 ≠ D.r1 ∧ b10 ≠ D.r2)
    (e6 : Act.eval ⟨t, []⟩ (.tmp 6) = .pointer (some ⟨D.b6, 0, none⟩)) (e7 : Act.eval ⟨t, []⟩ (.tmp 7) = .pointer (some ⟨D.b7, 0, none⟩)) :
    ∃ w1, ((D.st j).rows = some D.rw ∧ w1 = w ∨ (D.st j).rows = none ∧ spc D.ts D.ws j = [] ∧ Hides w D.rw w1 ∧ Sees (xs10.map (Act.eval ⟨t, []⟩)) w D.rw) ∧ Kc D.W0 w1 ∧ w1.heap.size = w.heap.size ∧
      w1.cell? ⟨D.b3, 0, none⟩ = some (.slice D.pb D.n D.cb) ∧ w1.cell? ⟨D.b6, 0, none⟩ = some (.slice (some ⟨D.r1, 0, none⟩) D.n D.n) ∧ w1.cell? ⟨D.b7, 0, none⟩ = some (.slice (some ⟨D.r2, 0, none⟩) D.n D.n) ∧ w1.cell? ⟨b9, 0, none⟩ = some (.int .i64 j) ∧ w1.cell? ⟨b10, 0, none⟩ = some (.int .i64 x) := by
  by_cases h0 : j = 0
  · obtain ⟨r1, r2⟩ := rows h0
    have hc : ∀ a : Nat, a ≠ D.r1 → a ≠ D.r2 → (hideW w D.rw).cell? ⟨a, 0, none⟩ = w.cell? ⟨a, 0, none⟩ := fun a h1 h2 => hide_cell w D.rw ⟨a, 0, none⟩ h1 h2
    refine ⟨hideW w D.rw, .inr ⟨by simp [LDt.st, h0], by rw [h0]; rfl, ⟨rfl, hD.ne, fun z => ?_, fun z => ?_, ?_, ?_, hD.pay.symm⟩, fun z => ?_⟩, ⟨by rw [hide_size]; exact hkc.size, fun a v hv => ?_⟩, hide_size _ _, ?_, ?_, ?_, ?_, ?_⟩
    · cases z
      · exact Nat.le_trans hD.low hD.l1
      · exact Nat.le_trans hD.low hD.l2
    · cases z
      · exact ⟨_, r1, by simp [LDt.rw, madeCells]⟩
      · exact ⟨_, r2, by simp [LDt.rw, madeCells]⟩
    · show 0 < D.n
      omega
    · show D.n < 1000000
      have := hD.hn
      omega
    · have mem : ∀ s, s ∈ xs10 → Act.eval ⟨t, []⟩ s ∈ xs10.map (Act.eval ⟨t, []⟩) := fun s hs => Array.mem_map.2 ⟨s, hs, rfl⟩
      cases z
      · obtain ⟨cc, e, f, k1, k2⟩ := cell_of c6
        exact ⟨D.b6, cc, e, f, D.n, D.n, by rw [← e6]; exact mem _ (by simp [xs10]), k1, k2, by omega⟩
      · obtain ⟨cc, e, f, k1, k2⟩ := cell_of c7
        exact ⟨D.b7, cc, e, f, D.n, D.n, by rw [← e7]; exact mem _ (by simp [xs10]), k1, k2, by omega⟩
    · have hlt := World.block_lt_of_cell? (h := hv)
      have := hD.l1
      have := hD.l2
      rw [hide_cell w D.rw a (show a.block ≠ D.r1 by omega) (show a.block ≠ D.r2 by omega)]
      exact hkc.cell a v hv
    · rw [hc _ hD.n31 hD.n32]; exact c3
    · rw [hc _ hD.n61 hD.n62]; exact c6
    · rw [hc _ hD.n71 hD.n72]; exact c7
    · rw [hc _ (h9 h0).1 (h9 h0).2]; exact c9
    · rw [hc _ (h10 h0).1 (h10 h0).2]; exact c10
  · exact ⟨w, .inl ⟨by simp [LDt.st, h0], rfl⟩, hkc, rfl, c3, c6, c7, c9, c10⟩
end Go.Proofs.Ytcobehkadhcjiaa

/-
  crew.Splits: its loop.
-/
namespace Go.Proofs.Ytcobehkadhcjiaa
open Go Go.Conc Go.ConcN Go.Conc.Lib Go.RowKit Go.Shelf
open Go.ConcR (Payload wgBlock)
variable [Shift] [Payload]

set_option maxHeartbeats 1000000 in
theorem round_mj (hP : OkP Try.prog S1 V1) {D : LDt} (hD : LOk D) {post : Value → World → Prop} {k : List Item} {cs : List Frame} (t : Array Value) (w : World) (j : Nat) (hj : j < D.n) (h : StL D t w j)
    (K : ∀ (t' : Array Value) (w' : World), StL D t' w' (j + 1) → MJ Try.prog wgL S1 V1 (.main post (D.st (j + 1))) (bare 7 t') [] k cs w') :
    MJ Try.prog wgL S1 V1 (.main post (D.st j)) (bare 7 t) [] (.code (.seq (.block 1 in1) c11) :: k) cs w := by
  refine MJ.seq (MJ.ctl (k1 := .code in1 :: .inBlock 1 :: .code c11 :: k) (fun _ _ _ _ _ _ => stepG_block) ?_)
  rw [in1_is]
  refine MJ.seq ?_
  have hts : D.ts.length = D.n := hD.ht
  obtain ⟨ba, oa, hpa, hx⟩ : ∃ ba oa, D.pa = some ⟨ba, oa, none⟩ ∧ D.W0.cell? ⟨ba, oa + j, none⟩ = some (.int .i64 (D.ts.getD j 0)) := by
    rcases hD.seg with ⟨e, _⟩ | ⟨b, off, c, hv, hc⟩
    · rw [e] at hts; simp at hts; omega
    · injection hv with e1 e2 e3
      exact ⟨b, off, e1, hc j (by omega)⟩
  have hS := h.sl
  have h28 : (28, Value.slice (some ⟨ba, oa, none⟩) D.n D.ca) ∈ D.sl j := by rw [← hpa]; simp [LDt.sl]
  refine box8_mj hS ba oa D.n D.ca j (D.ts.getD j 0) h28 (by simp [LDt.sl]) hj (h.kc.cell _ _ hx) fun t1 w1 hS1 k1 s1 c9 c10 o1 => ?_
  have kc1 := h.kc.trans k1
  refine MJ.seq ?_
  rw [c9_is]
  refine MJ.reg (r := [0]) (by rw [ops9_size]; rfl) ?_
  refine MJ.add (o := ops9[0]'(by rw [ops9_size]; decide)) (x := .tmp 8) (wg := D.wg) rfl rfl rfl (hS1.ev (by simp [setS, LDt.sl])) (by rw [spc_len]; have := hD.hn; omega) (fun e w' es => add9 e w' es) ?_
  have hS2 : Sl (putT t1 (ops9[0]'(by rw [ops9_size]; decide)).dst (.tuple #[])) 45 _ := hS1.put (d := 35) (by omega) (.tuple #[])
  generalize putT t1 (ops9[0]'(by rw [ops9_size]; decide)).dst (.tuple #[]) = t2 at hS2
  clear hS1
  refine MJ.regE ?_
  rw [c10_is]
  refine MJ.reg (r := [0, 1]) (by rw [ops10_size]; rfl) ?_
  have e8 : Act.eval ⟨t2, []⟩ (.tmp 8) = .pointer (some ⟨D.wg, 0, none⟩) := hS2.ev (by simp [setS, LDt.sl])
  have e10 : Act.eval ⟨t2, []⟩ (.tmp 10) = .pointer (some ⟨w.heap.size + 1, 0, none⟩) := hS2.ev (by simp [setS, LDt.sl])
  have e3 : Act.eval ⟨t2, []⟩ (.tmp 3) = .pointer (some ⟨D.b3, 0, none⟩) := hS2.ev (by simp [setS, LDt.sl])
  have e9 : Act.eval ⟨t2, []⟩ (.tmp 9) = .pointer (some ⟨w.heap.size, 0, none⟩) := hS2.ev (by simp [setS, LDt.sl])
  have e6 : Act.eval ⟨t2, []⟩ (.tmp 6) = .pointer (some ⟨D.b6, 0, none⟩) := hS2.ev (by simp [setS, LDt.sl])
  have e7 : Act.eval ⟨t2, []⟩ (.tmp 7) = .pointer (some ⟨D.b7, 0, none⟩) := hS2.ev (by simp [setS, LDt.sl])
  have hr1 : j = 0 → D.r1 < w.heap.size ∧ D.r2 < w.heap.size := fun h0 => ⟨(Array.getElem?_eq_some_iff.1 (h.rows h0).1).1, (Array.getElem?_eq_some_iff.1 (h.rows h0).2).1⟩
  have rows1 : j = 0 → w1.heap[D.r1]? = some (.cells (madeCells #[.slice none 0 0] D.n) 22 (0, 0)) ∧ w1.heap[D.r2]? = some (.cells (madeCells #[.int .i64 0] D.n) 24 (0, 0)) := fun h0 =>
    ⟨by rw [o1 _ (hr1 h0).1]; exact (h.rows h0).1, by rw [o1 _ (hr1 h0).2]; exact (h.rows h0).2⟩
  obtain ⟨w2, h13, kc2, s2, d3, d6, d7, d9, d10⟩ := begin_w hD (t := t2) kc1 (k1.cell _ _ h.c3) (k1.cell _ _ h.c6) (k1.cell _ _ h.c7) rows1 hj c9 c10 (fun h0 => ⟨by have := (hr1 h0).1; omega, by have := (hr1 h0).2; omega⟩) (fun h0 => ⟨by have := (hr1 h0).1; omega, by have := (hr1 h0).2; omega⟩) e6 e7
  obtain ⟨bw, ow, vi, hpb, hvi, hsg, hly⟩ := hD.tab.at_ j (by rw [hD.hw]; exact hj)
  have hxs : xs10.map (Act.eval ⟨t2, []⟩) = #[.pointer (some ⟨D.wg, 0, none⟩), .pointer (some ⟨w.heap.size + 1, 0, none⟩), .pointer (some ⟨D.b3, 0, none⟩), .pointer (some ⟨w.heap.size, 0, none⟩), .pointer (some ⟨D.b6, 0, none⟩), .pointer (some ⟨D.b7, 0, none⟩)] := by
    simp only [xs10, List.map_toArray, List.map_cons, List.map_nil, e8, e10, e3, e9, e6, e7]
  have hsz2 : t2.size = 45 := hS2.size
  have kf2 : Kc w2 (frz w2) := Kc.frz w2
  refine MJ.go (o := ops10[0]'(by rw [ops10_size]; decide)) (o2 := ops10[1]'(by rw [ops10_size]; decide)) (d := 36) (h := 20) (xs := xs10) (fn := Try.f20) (q := 5) (rw := D.rw) (w1 := w2) (spec := specS (D.ts.getD j 0) (D.ws.getD j [])) (k0 := [.code codeW]) rfl rfl rfl rfl rfl (show 36 < t2.size by omega) (by kernel_rfl)
    (fun e w' es => make10 e w' es) (fun e w' es c he => go10 e w' es c he) (by rw [hxs]; rfl) Try.func20 (fun c p hc h0 => leads20 c p hc h0) h13 (by rw [spc_len]; exact hj) (moves_specS _ _) ?_ ?_
  · refine workW (d := ⟨w.heap.size + 1, D.b3, w.heap.size, D.b6, D.b7, bw, ow, D.n, D.cb, D.n, D.n, D.n, D.n, vi⟩) (tot := D.ts.getD j 0) (l := D.ws.getD j []) hP ?_ (frz_size w2).symm rfl
    have hi : (spc D.ts D.ws j).length = j := spc_len _ _ _
    have kz := kc2.trans kf2
    have hz20 : Try.f20.ntmps - xs10.size = 15 := by kernel_rfl
    rw [hz20, hxs]
    refine ⟨by simp, by rw [Array.getElem?_append_left (by simp)]; rfl, by rw [Array.getElem?_append_left (by simp)]; rfl, by rw [Array.getElem?_append_left (by simp)]; rfl, by rw [Array.getElem?_append_left (by simp)]; rfl, by rw [Array.getElem?_append_left (by simp)]; rfl, kf2.cell _ _ d10, ?_, ?_, kf2.cell _ _ d6, kf2.cell _ _ d7, ?_, ?_, ?_, ?_, hsg.kc kz, hly.mono kz.size, hD.big j⟩
    · have := kf2.cell _ _ d3
      rw [hpb] at this
      exact this
    · show (frz w2).cell? _ = some (.int .i64 ((spc D.ts D.ws j).length : Nat))
      rw [hi]; exact kf2.cell _ _ d9
    · show (spc D.ts D.ws j).length < D.n
      rw [hi]; exact hj
    · show (spc D.ts D.ws j).length < D.n
      rw [hi]; exact hj
    · show (spc D.ts D.ws j).length < D.n
      rw [hi]; exact hj
    · show (frz w2).cell? ⟨bw, ow + (spc D.ts D.ws j).length, none⟩ = some vi
      rw [hi]; exact kz.cell _ _ hvi
  · refine MJ.regE ?_
    refine MJ.ctl (k1 := .code c11 :: k) (fun _ _ _ _ _ _ => stepG_inBlock) ?_
    have hS3 : Sl (putT (putT t2 (some 36) undef) (ops10[1]'(by rw [ops10_size]; decide)).dst undef) 45 _ := hS2.put (d := 36) (by omega) undef
    generalize putT (putT t2 (some 36) undef) (ops10[1]'(by rw [ops10_size]; decide)).dst undef = t3 at hS3
    rw [c11_is]
    refine MJ.reg (r := [0, 1]) (by rw [ops11_size]; rfl) ?_
    refine MJ.vl hS3 (o := ops11[0]'(by rw [ops11_size]; decide)) 37 (.int .i64 (j + 1 : Nat)) rfl rfl rfl (by omega) (by kernel_rfl) (fun T => ?_) fun t4 U4 hS4 => ?_
    · have := run_addi (P := Try.prog) (e := Act.eval ⟨t3, []⟩) (w := retape (frz w2) T) (o := ops11[0]'(by rw [ops11_size]; decide)) (x := .tmp 30) (y := .const (.int .i64 1)) rfl j 1 (hS3.ev (by simp [setS, LDt.sl])) rfl (by rw [IntKind.wrap_i64]; have := hD.hn; omega)
      rw [this]
      simp
    refine MJ.mv hS4 (o := ops11[1]'(by rw [ops11_size]; decide)) 37 30 (.int .i64 (j + 1 : Nat)) rfl (.inl rfl) rfl rfl (by omega) (by simp [setS]) fun t5 U5 hS5 => MJ.regE ?_
    have hw : (⟨some D.wg, false, some D.rw, spc D.ts D.ws j ++ [specS (D.ts.getD j 0) (D.ws.getD j [])]⟩ : Sj) = D.st (j + 1) := by
      simp [LDt.st, spc_succ]
    rw [hw]
    refine K t5 _ ⟨hS5.sub (by simp [setS, LDt.sl]), (kc2.trans kf2).trans (Kc.heap rfl), kf2.cell _ _ d3, kf2.cell _ _ d6, kf2.cell _ _ d7, fun e => by omega⟩

theorem loop_mj (hP : OkP Try.prog S1 V1) {D : LDt} (hD : LOk D) {post : Value → World → Prop} {k : List Item} {cs : List Frame} :
    ∀ (r : Nat) (t : Array Value) (w : World) (j : Nat), j + r = D.n → StL D t w j → (∀ (t' : Array Value) (w' : World), StL D t' w' D.n → MJ Try.prog wgL S1 V1 (.main post (D.st D.n)) (bare 7 t') [] k cs w') →
    MJ Try.prog wgL S1 V1 (.main post (D.st j)) (bare 7 t) [] (.code rnd :: .inLoop rnd :: .inBlock 0 :: k) cs w := by
  have head : ∀ (t : Array Value) (w : World) (j : Nat) (k' : List Item), StL D t w j → (∀ (t' : Array Value) U, Sl t' 45 (setS 31 (.bool (decide ((j : Int) < (D.n : Int)))) (D.sl j)) → MJ Try.prog wgL S1 V1 (.main post (D.st j)) (bare 7 t') [] k' cs (onT w U)) →
      MJ Try.prog wgL S1 V1 (.main post (D.st j)) (bare 7 t) [] (.code c7 :: k') cs w := fun t w j k' h K => by
    rw [c7_is]
    refine MJ.reg (r := [0]) (by rw [ops7_size]; rfl) ?_
    exact MJ.vl h.sl (o := ops7[0]'(by rw [ops7_size]; decide)) 31 (.bool (decide ((j : Int) < (D.n : Int)))) rfl rfl rfl (by omega) (by kernel_rfl) (fun T => run_lss rfl j D.n (h.sl.ev (by simp [LDt.sl])) (h.sl.ev (by simp [LDt.sl]))) fun t1 U1 hS1 => MJ.regE (K t1 U1 hS1)
  have stay : ∀ {t t' : Array Value} {w : World} {j : Nat} {U : Tape'}, StL D t w j → Sl t' 45 (setS 31 (.bool (decide ((j : Int) < (D.n : Int)))) (D.sl j)) → StL D t' (onT w U) j := fun h hS => ⟨hS.sub (by simp [setS, LDt.sl]), h.kc.trans (Kc.heap rfl), h.c3, h.c6, h.c7, h.rows⟩
  intro r
  induction r with
  | zero =>
    intro t w j hr h K
    have hj : j = D.n := by omega
    subst hj
    rw [rnd_is]
    refine MJ.seq (head t w _ _ h fun t1 U1 hS1 => ?_)
    refine MJ.seq (MJ.cond (q := decide ((D.n : Int) < (D.n : Int))) rfl (hS1.ev (by simp [setS])) ?_)
    rw [decide_eq_false (by omega)]
    refine MJ.ctl (k1 := k) (fun _ _ _ _ _ _ => stepG_exit rfl) ?_
    exact K _ _ (stay h hS1)
  | succ r ih =>
    intro t w j hr h K
    rw [rnd_is]
    refine MJ.seq (head t w _ _ h fun t1 U1 hS1 => ?_)
    refine MJ.seq (MJ.cond (q := decide ((j : Int) < (D.n : Int))) rfl (hS1.ev (by simp [setS])) ?_)
    rw [decide_eq_true (by omega)]
    refine MJ.ctl (k1 := .code (.seq (.block 1 in1) c11) :: .inLoop rnd :: .inBlock 0 :: k) (fun _ _ _ _ _ _ => stepG_skip) ?_
    refine round_mj hP hD t1 _ j (by omega) (stay h hS1) fun t2 w2 h2 => ?_
    refine MJ.ctl (k1 := .code rnd :: .inLoop rnd :: .inBlock 0 :: k) (fun _ _ _ _ _ _ => stepG_inLoop) ?_
    exact ih t2 w2 (j + 1) (by omega) h2 K
end Go.Proofs.Ytcobehkadhcjiaa

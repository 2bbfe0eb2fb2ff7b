/-
  Goroutines among others: part 15 of what the law's own text rests on.
-/
import Derived.Test.YtcobehkadhcjiaaCc11
import Derived.Test.YtcobehkadhcjiaaCc14
import Derived.Conc.CrowdTrace
import Derived.Conc.CrowdBase
import Derived.Conc.CrowdStepC
/-
  PROCESSES beside sync.WaitGroup: what a goroutine does by itself, as a tree: the first, which adds, starts others and waits; and one that works, which writes one cell of each of two rows and says that it is done.
-/
namespace Go.Proofs.Ytcobehkadhcjiaa
open Go Go.Conc Go.ConcN Go.Conc.Lib
open Go.ConcR (KK WgAt wgBlock stA smA Payload DC0)
variable [Shift] [Payload]

/-- The two rows: their blocks on the left, how long they are, of what. -/
structure Rw where
  b : Bool → Nat
  n : Nat
  y : Bool → TypeId
/-- How far the first is: the group's block on the left; an Add that no go statement has followed yet; the rows, once one works; what each that works will tell. -/
structure Sj where
  wg : Option Nat
  pend : Bool
  rows : Option Rw
  l : List Spec
/-- One that works: which of them; where its world ends that was the first's; what it tells; the rows. -/
structure Wc where
  i : Nat
  s : Nat
  spec : Spec
  rw : Rw
inductive Rj
  | main (post : Value → World → Prop) (σ : Sj)
  | wk (c : Wc) (u : Bool → Option Value)

def hideW (w : World) (rw : Rw) : World := { w with heap := (w.heap.setIfInBounds (rw.b false) (.coro none)).setIfInBounds (rw.b true) (.coro none) }
/-- From here on the rows are not the first's own. -/
structure Hides (w : World) (rw : Rw) (w1 : World) : Prop where
  eq : w1 = hideW w rw
  ne : rw.b false ≠ rw.b true
  low : ∀ z, Shift.n ≤ rw.b z
  row : ∀ z, ∃ c, w.heap[rw.b z]? = some (.cells c (rw.y z) (0, 0)) ∧ c.size = rw.n
  pos : 0 < rw.n
  few : rw.n < 1000000
  ety : rw.y true = Payload.ety
/-- The rows are seen from what is handed on. -/
def Sees (vs : Array Value) (w : World) (rw : Rw) : Prop := ∀ z, ∃ a cc e f m c0, .pointer (some ⟨a, 0, none⟩) ∈ vs ∧ w.heap[a]? = some (.cells cc e f) ∧ cc[0]? = some (.slice (some ⟨rw.b z, 0, none⟩) m c0) ∧ 0 < m
/-- What the others have told. -/
structure Told (rw : Rw) (l : List Spec) (w w1 : World) (vs : List (Value × Value)) : Prop where
  size : w.heap.size ≤ w1.heap.size
  old : ∀ a, a < w.heap.size → a ≠ rw.b false → a ≠ rw.b true → w1.heap[a]? = w.heap[a]?
  row1 : w1.heap[rw.b false]? = some (.cells (vs.map (·.1)).toArray (rw.y false) (0, 0))
  row2 : w1.heap[rw.b true]? = some (.cells (vs.map (·.2)).toArray (rw.y true) (0, 0))
  os : w1.os = w.os
  output : w1.output = w.output
  len : vs.length = l.length
  told : ∀ (i : Nat) spec v, l[i]? = some spec → vs[i]? = some v → ∃ u : World, spec u (.agg #[v.1, v.2]) ∧ Nwv w.heap.size (.agg #[v.1, v.2]) ∧ ∀ (a : Nat) c e f, u.heap[a]? = some (.cells c e f) → w1.heap[a]? = some (.cells c e f)

/-- It goes from here to there whatever the world. -/
inductive Leads (P : Program) : Nat → Goroutine → Goroutine → Prop
  | refl (g : Goroutine) : Leads P 0 g g
  | step {n : Nat} {g g1 g2 : Goroutine} : g.status = .running → (∀ w, stepG P false g w = .go g1 w #[]) → Leads P n g1 g2 → Leads P (n + 1) g g2
abbrev closure (h : FuncId) (c : Array Value) : Deferred := { target := .fn (.func h) c, args := #[] }
abbrev noP : Nat → Loc → Prop := fun _ _ => False

inductive Jm (P : Program) (L : WgLink) (S V : FuncId → Bool) : Bool → Rj → Mt → Frame → List Frame → List Item → List Frame → World → Prop
  | step {b1 : Tape' → Bool} {ρ : Rj} {g : Ix → Mt} {fr : Frame} {ct : List Frame} {k : List Item} {cs : List Frame} {w : World} (F : Tape' → Frame) (C : Tape' → List Frame) (W : Tape' → World) :
      (fr.mode = .returning → ct ≠ []) → (ct = [] → fr.todo ≠ [] ∧ ∀ k2, fr.todo ≠ .code .ret :: k2) → (∀ T, Step1 P fr ct (retape w T) (F T) (C T) (W T)) →
      (∀ T, GLc P S V (F T) (C T) cs (W T) → Jm P L S V (b1 T) ρ (g (.tp T)) (F T) (C T) k cs (W T)) → Jm P L S V false ρ (.node g) fr ct k cs w
  | shift {b1 : Bool} {ρ : Rj} {g : Ix → Mt} {f : FuncId} {t : Array Value} {c : Item} {k : List Item} {cs : List Frame} {w : World} : okItem P S V c = true →
      Jm P L S V b1 ρ (g .un) ((base f).at ⟨t, []⟩ [c]) [] k cs w → Jm P L S V false ρ (.node g) (bare f t) [] (c :: k) cs w
  | unshift {b1 : Bool} {ρ : Rj} {g : Ix → Mt} {f : FuncId} {t : Array Value} {c : Item} {k : List Item} {cs : List Frame} {w : World} :
      Jm P L S V b1 ρ (g .un) (bare f t) [] (c :: k) cs w → Jm P L S V false ρ (.node g) ((base f).at ⟨t, []⟩ [c]) [] k cs w
  | ctl {b1 : Bool} {ρ : Rj} {g : Ix → Mt} {f : FuncId} {t : Array Value} {k k1 : List Item} {cs : List Frame} {w : World} :
      (∀ main kd t' ds cs' w', stepG P main (G ((baseK kd f).at ⟨t', ds⟩ k) cs') w' = .go (G ((baseK kd f).at ⟨t', ds⟩ k1) cs') w') → Jm P L S V b1 ρ (g .un) (bare f t) [] k1 cs w → Jm P L S V false ρ (.node g) (bare f t) [] k cs w
  | cond {b1 : Bool} {ρ : Rj} {g : Ix → Mt} {f : FuncId} {t : Array Value} {c : Operand} {a b : Code} {q : Bool} {k : List Item} {cs : List Frame} {w : World} : okX S c = true → Act.eval ⟨t, []⟩ c = .bool q →
      Jm P L S V b1 ρ (g .un) (bare f t) [] (.code (if q then a else b) :: k) cs w → Jm P L S V false ρ (.node g) (bare f t) [] (.code (.cond c a b) :: k) cs w
  | op {b1 : Tape' → Bool} {ρ : Rj} {g : Ix → Mt} {f : FuncId} {t : Array Value} {ops : Array Oper} {i : Nat} {rest : List Nat} {o : Oper} {k : List Item} {cs : List Frame} {w : World} (v : Tape' → Option Value) (W : Tape' → World) :
      ops[i]? = some o → Region.wanted o (yielded ops t) = true → okOp P S o.op = true →
      (∀ T, (execOp (Act.eval ⟨t, []⟩) o).run P (retape w T) = .ok (match v T with | some v => .value v | none => .skip) (W T)) →
      (∀ T, GLc P S V (bare f (putT t o.dst ((v T).getD undef))) [] cs (W T) → Jm P L S V (b1 T) ρ (g (.tp T)) (bare f (putT t o.dst ((v T).getD undef))) [] (.inRegion ops rest :: k) cs (W T)) →
      Jm P L S V false ρ (.node g) (bare f t) [] (.inRegion ops (i :: rest) :: k) cs w
  | draw {b1 : Nat → Bool} {ρ : Rj} {g : Ix → Mt} {f : FuncId} {t : Array Value} {id : Nat} {ops : Array Oper} {k : List Item} {cs : List Frame} {w : World} :
      (∀ T : Nat, Jm P L S V (b1 T) ρ (g (.nm T)) (bare f t) [] (.inRegion ops (Region.schedule (P.follows .mixedOrders) ops T) :: k) cs w) → Jm P L S V false ρ (.node g) (bare f t) [] (.code (.region id ops true) :: k) cs w
  | enter {b1 : Bool} {post : Value → World → Prop} {σ : Sj} {g : Ix → Mt} {f : FuncId} {t : Array Value} {ops : Array Oper} {i : Nat} {rest : List Nat} {o : Oper} {k : List Item} {cs : List Frame} {w : World} {h : FuncId} {xs : Array Operand} {fn : Func} {c : Code} :
      ops[i]? = some o → Region.wanted o (yielded ops t) = true → xs.all (okX S) = true → P.funcs[h]? = some fn → fn.body = some c →
      (∀ (e : Act) (w' : World) es, (execOp e.eval o).run P w' = .ok (.enter h (xs.map e.eval)) w' ∧ (execOp e.eval o).events P w' es = es) →
      (GLc P S V (bare h (xs.map (Act.eval ⟨t, []⟩) ++ Array.replicate (fn.ntmps - xs.size) undef)) [] ((base f).at ⟨t, []⟩ (.inRegion ops (i :: rest) :: k) :: cs) w →
        Jm P L S V b1 (.main post σ) (g .un) (bare h (xs.map (Act.eval ⟨t, []⟩) ++ Array.replicate (fn.ntmps - xs.size) undef)) [] [.code c] ((base f).at ⟨t, []⟩ (.inRegion ops (i :: rest) :: k) :: cs) w) →
      Jm P L S V false (.main post σ) (.node g) (bare f t) [] (.inRegion ops (i :: rest) :: k) cs w
  | toret {b1 : Bool} {post : Value → World → Prop} {σ : Sj} {g : Ix → Mt} {f : FuncId} {t : Array Value} {k : List Item} {cs : List Frame} {w : World} : (k = [] ∨ ∃ k2, k = .code .ret :: k2) →
      Jm P L S V b1 (.main post σ) (g .un) (bareR f t) [] [] cs w → Jm P L S V false (.main post σ) (.node g) (bare f t) [] k cs w
  | ret {b1 : Bool} {post : Value → World → Prop} {σ : Sj} {g : Ix → Mt} {f : FuncId} {t : Array Value} {fn : Func} {v : Value} {f2 : FuncId} {t2 : Array Value} {ops : Array Oper} {i : Nat} {rest : List Nat} {o : Oper} {k2 : List Item} {cs : List Frame} {w : World} :
      P.funcs[f]? = some fn → (∀ w0, (results fn t).run P w0 = .ok v w0) → ops[i]? = some o →
      (GLc P S V (bare f2 (putT t2 o.dst v)) [] cs w → Jm P L S V b1 (.main post σ) (g .un) (bare f2 (putT t2 o.dst v)) [] (.inRegion ops rest :: k2) cs w) →
      Jm P L S V false (.main post σ) (.node g) (bareR f t) [] [] ((base f2).at ⟨t2, []⟩ (.inRegion ops (i :: rest) :: k2) :: cs) w
  | fin {post : Value → World → Prop} {m : Mt} {wg : Option Nat} {f : FuncId} {t : Array Value} {fn : Func} {v : Value} {w : World} : P.funcs[f]? = some fn → P.inits.idxOf? f = none → (∀ w0, (results fn t).run P w0 = .ok v w0) → post v w →
      Jm P L S V true (.main post ⟨wg, false, none, []⟩) m (bareR f t) [] [] [] w
  | wgnew {b1 : Bool} {post : Value → World → Prop} {g : Ix → Mt} {f : FuncId} {t : Array Value} {ops : Array Oper} {i : Nat} {rest : List Nat} {o : Oper} {k : List Item} {cs : List Frame} {w : World} :
      ops[i]? = some o → Region.wanted o (yielded ops t) = true →
      (∀ (e : Act) (w' : World) es, (execOp e.eval o).run P w' = .ok (.value (.pointer (some ⟨w'.heap.size, 0, none⟩))) (w'.alloc (wgBlock L.tWg 0 0)) ∧ (execOp e.eval o).events P w' es = es) →
      (GLc P S V (bare f (putT t o.dst (.pointer (some ⟨w.heap.size, 0, none⟩)))) [] cs (w.alloc (.coro none)) →
        Jm P L S V b1 (.main post ⟨some w.heap.size, false, none, []⟩) (g .un) (bare f (putT t o.dst (.pointer (some ⟨w.heap.size, 0, none⟩)))) [] (.inRegion ops rest :: k) cs (w.alloc (.coro none))) →
      Jm P L S V true (.main post ⟨none, false, none, []⟩) (.node g) (bare f t) [] (.inRegion ops (i :: rest) :: k) cs w
  | add {b1 : Bool} {post : Value → World → Prop} {g : Ix → Mt} {wg : Nat} {rows : Option Rw} {l : List Spec} {f : FuncId} {t : Array Value} {ops : Array Oper} {i : Nat} {rest : List Nat} {o : Oper} {k : List Item} {cs : List Frame} {w : World} {x : Operand} :
      ops[i]? = some o → Region.wanted o (yielded ops t) = true → okX S x = true → Act.eval ⟨t, []⟩ x = .pointer (some ⟨wg, 0, none⟩) → l.length < 1000000 →
      (∀ (e : Act) (w' : World) es, (execOp e.eval o).run P w' = .ok (.enter L.add #[e.eval x, .int .i64 1]) w' ∧ (execOp e.eval o).events P w' es = es) →
      (GLc P S V (bare f (putT t o.dst (.tuple #[]))) [] cs w → Jm P L S V b1 (.main post ⟨some wg, true, rows, l⟩) (g .un) (bare f (putT t o.dst (.tuple #[]))) [] (.inRegion ops rest :: k) cs w) →
      Jm P L S V true (.main post ⟨some wg, false, rows, l⟩) (.node g) (bare f t) [] (.inRegion ops (i :: rest) :: k) cs w
  | go {b1 : Bool} {b2 : Bool} {post : Value → World → Prop} {g : Ix → Mt} {wg : Nat} {rows : Option Rw} {l : List Spec} {spec : Spec} {f : FuncId} {t : Array Value} {ops : Array Oper} {i j : Nat} {rest : List Nat} {o o2 : Oper} {d : Tmp} {k k0 : List Item} {cs : List Frame} {w w1 : World} {h : FuncId} {xs : Array Operand} {fn : Func} {q : Nat} {mk : Mt} {rw : Rw} :
      ops[i]? = some o → ops[j]? = some o2 → o.guard = none → o2.guard = none → o.dst = some d → d < t.size → xs.all (okX S) = true →
      (∀ (e : Act) (w' : World) es, (execOp e.eval o).run P w' = .ok (.value (.func (.func h) #[] (xs.map e.eval))) w' ∧ (execOp e.eval o).events P w' es = es) →
      (∀ (e : Act) (w' : World) es c, e.eval (.tmp d) = .func (.func h) #[] c → (execOp e.eval o2).run P w' = .ok (.spawn (closure h c)) w' ∧ (execOp e.eval o2).events P w' es = es) →
      (xs.map (Act.eval ⟨t, []⟩))[0]? = some (.pointer (some ⟨wg, 0, none⟩)) → P.funcs[h]? = some fn →
      (∀ (c : Array Value) p, c.size = xs.size → c[0]? = some p → Leads P q (born P (closure h c)) (G ((baseK .deferred h).at ⟨c ++ Array.replicate (fn.ntmps - xs.size) undef, [dcall L.done #[p]]⟩ k0) [botF P])) →
      (rows = some rw ∧ w1 = w ∨ rows = none ∧ l = [] ∧ Hides w rw w1 ∧ Sees (xs.map (Act.eval ⟨t, []⟩)) w rw) → l.length < rw.n → Moves spec →
      (GLc P S V (bare h (xs.map (Act.eval ⟨t, []⟩) ++ Array.replicate (fn.ntmps - xs.size) undef)) [] [] (frz w1) →
        Jm P L S V b1 (.wk ⟨l.length, w1.heap.size, spec, rw⟩ fun _ => none) mk (bare h (xs.map (Act.eval ⟨t, []⟩) ++ Array.replicate (fn.ntmps - xs.size) undef)) [] k0 [] (frz w1)) →
      (GLc P S V (bare f (putT (putT t (some d) undef) o2.dst undef)) [] cs (frz w1) →
        Jm P L S V b2 (.main post ⟨some wg, false, some rw, l ++ [spec]⟩) (g .un) (bare f (putT (putT t (some d) undef) o2.dst undef)) [] (.inRegion ops rest :: k) cs (frz w1)) →
      Jm P L S V true (.main post ⟨some wg, true, rows, l⟩) (.node fun _ => .node g) (bare f t) [] (.inRegion ops (i :: j :: rest) :: k) cs w
  | wait {b1 : World → Bool} {post : Value → World → Prop} {g : Ix → Mt} {wg : Nat} {rows : Option Rw} {l : List Spec} {f : FuncId} {t : Array Value} {ops : Array Oper} {i : Nat} {rest : List Nat} {o : Oper} {k : List Item} {cs : List Frame} {w : World} {x : Operand} :
      ops[i]? = some o → Region.wanted o (yielded ops t) = true → okX S x = true → Act.eval ⟨t, []⟩ x = .pointer (some ⟨wg, 0, none⟩) → (∀ rw, rows = some rw → l.length = rw.n) →
      (∀ (e : Act) (w' : World) es, (execOp e.eval o).run P w' = .ok (.enter L.wait #[e.eval x]) w' ∧ (execOp e.eval o).events P w' es = es) →
      (∀ w1, (rows = none ∧ l = [] ∧ w1 = w ∨ ∃ rw vs, rows = some rw ∧ Told rw l w w1 vs) → GLc P S V (bare f (putT t o.dst (.tuple #[]))) [] cs w1 →
        Jm P L S V (b1 w1) (.main post ⟨none, false, none, []⟩) (g (.wv w1 undef)) (bare f (putT t o.dst (.tuple #[]))) [] (.inRegion ops rest :: k) cs w1) →
      Jm P L S V true (.main post ⟨some wg, false, rows, l⟩) (.node fun _ => .node g) (bare f t) [] (.inRegion ops (i :: rest) :: k) cs w
  | put {b1 : Bool} {g : Ix → Mt} {c : Wc} {u : Bool → Option Value} {z : Bool} {f : FuncId} {t : Array Value} {ops : Array Oper} {i : Nat} {rest : List Nat} {o : Oper} {k : List Item} {w : World} {x y : Operand} {v : Value} :
      ops[i]? = some o → Region.wanted o (yielded ops t) = true → okX S x = true → okX S y = true → Act.eval ⟨t, []⟩ x = .pointer (some ⟨c.rw.b z, c.i, none⟩) → Act.eval ⟨t, []⟩ y = v → (Plnv v ∨ ∃ a n cp, v = .slice a n cp) →
      (∀ (e : Act) (w' : World) es (a : Addr) v' u', e.eval x = .pointer (some a) → e.eval y = v' → v'.oneCell' = true → w'.cell? a = some u' → w'.frozen? a = false →
        (execOp e.eval o).run P w' = .ok .skip (w'.setCell a v') ∧ (execOp e.eval o).events P w' es = es.push ⟨.cell a, true, false⟩) →
      Jm P L S V b1 (.wk c fun z' => if z' = z then some v else u z') (g .un) (bare f (putT t o.dst undef)) [] (.inRegion ops rest :: k) [] w →
      Jm P L S V true (.wk c u) (.node g) (bare f t) [] (.inRegion ops (i :: rest) :: k) [] w
  | done {c : Wc} {u : Bool → Option Value} {v1 v2 : Value} {m : Mt} {f : FuncId} {t : Array Value} {k : List Item} {w : World} : u false = some v1 → u true = some v2 → c.spec w (.agg #[v1, v2]) → Nwv c.s (.agg #[v1, v2]) →
      (∀ (t' : Array Value) (Wg C n j : Nat) (v : Value) (w' : World), WgLive L.tWg Wg w' ∧ Has C (j - 1) v w' →
        ∃ q, Goes P false (RW L.tWg Wg C n 0 (j - 1)) (DWs Wg noP noP C n j) (AtR0 P L.tWg Wg C n 0 j v) q (G ((baseK .deferred f).at ⟨t', [dcall L.done #[.pointer (some ⟨Wg, 0, none⟩)]]⟩ k) [botF P]) w') →
      Jm P L S V true (.wk c u) m (bare f t) [] k [] w
end Go.Proofs.Ytcobehkadhcjiaa

/-
  A PROCESS AMONG OTHERS, beside sync.WaitGroup: it takes a step of its own, or it stands at one that others have to do with.
-/
namespace Go.Proofs.Ytcobehkadhcjiaa
open Go Go.Conc Go.ConcN Go.Conc.Lib
open Go.ConcR (KK WgAt wgBlock stA smA Payload DC0)
variable [Shift] [Payload]

def botD (ds : List Deferred) (kd : CallKind) (h : kd ≠ .early) (k : List Item) : Bot := ⟨ds, k, kd, h⟩
section
variable {P : Program} {L : WgLink} {S V : FuncId → Bool}
omit [Shift] [Payload] in
theorem put_bareD (bb : Frame) (t : Array Value) (ds : List Deferred) (d : Option Tmp) (v : Value) (k : List Item) : bb.at (Act.put ⟨t, ds⟩ d v) k = bb.at ⟨putT t d v, ds⟩ k := congrArg (fun a => bb.at a k) (put_eq t ds d v)
omit [Payload] in
theorem Sit.bareD {ds : List Deferred} {kd : CallKind} {hkd : kd ≠ .early} {bs : List Frame} {r : BR} {f : FuncId} {t : Array Value} {k : List Item} {cs : List Frame} {w w' : World} {a : Goroutine} (h : Sit P S V (botD ds kd hkd k) bs r (Ytcobehkadhcjiaa.bare f t) [] cs w a w') :
    ∃ t' cs', a = G ((baseK kd f).at ⟨t', ds⟩ k) (cs' ++ bs) ∧ RR S r t t' ∧ MRs S r cs cs' := by
  obtain ⟨fr', ct', cs', rfl, h1, h2, h3⟩ := h.at_
  cases h2
  generalize hg : Ytcobehkadhcjiaa.bare f t = g at h1
  cases h1 with
  | @run f2 t2 t' k2 tt kk =>
    have e1 := congrArg Frame.fn hg
    have e2 := congrArg Frame.tmps hg
    have e3 := congrArg Frame.todo hg
    simp only [Ytcobehkadhcjiaa.bare, Frame.at, base] at e1 e2 e3
    subst e1 e2 e3
    exact ⟨t', cs', rfl, tt, h3⟩
  | ret tt =>
    have e1 := congrArg Frame.mode hg
    simp [Ytcobehkadhcjiaa.bare, Frame.at] at e1
omit [Payload] in
theorem Sit.oneD {ds : List Deferred} {kd : CallKind} {hkd : kd ≠ .early} {bs : List Frame} {r : BR} {f : FuncId} {t : Array Value} {c : Item} {k : List Item} {cs : List Frame} {w w' : World} {a : Goroutine} (h : Sit P S V (botD ds kd hkd k) bs r ((base f).at ⟨t, []⟩ [c]) [] cs w a w') :
    ∃ t' cs', a = G ((baseK kd f).at ⟨t', ds⟩ (c :: k)) (cs' ++ bs) ∧ RR S r t t' ∧ MRs S r cs cs' := by
  obtain ⟨fr', ct', cs', rfl, h1, h2, h3⟩ := h.at_
  cases h2
  generalize hg : (base f).at ⟨t, []⟩ [c] = g at h1
  cases h1 with
  | @run f2 t2 t' k2 tt kk =>
    have e1 := congrArg Frame.fn hg
    have e2 := congrArg Frame.tmps hg
    have e3 := congrArg Frame.todo hg
    simp only [Frame.at, base] at e1 e2 e3
    subst e1 e2 e3
    exact ⟨t', cs', rfl, tt, h3⟩
  | ret tt =>
    have e1 := congrArg Frame.mode hg
    simp [Frame.at, base] at e1
omit [Payload] in
theorem Sit.mkD {ds : List Deferred} {kd : CallKind} {hkd : kd ≠ .early} {bs : List Frame} {r : BR} {f : FuncId} {t t' : Array Value} {k : List Item} {cs cs' : List Frame} {w w' : World} (tt : RR S r t t') (hc : MRs S r cs cs') (hw : HR0 S r w w') :
    Sit P S V (botD ds kd hkd k) bs r (Ytcobehkadhcjiaa.bare f t) [] cs w (G ((baseK kd f).at ⟨t', ds⟩ k) (cs' ++ bs)) w' :=
  ⟨⟨_, [], cs', rfl, FrR.run (b := botD ds kd hkd k) (k := []) tt (by simp), .nil, hc⟩, hw⟩
omit [Payload] in
theorem Sit.bareRD {ds : List Deferred} {kd : CallKind} {hkd : kd ≠ .early} {bs : List Frame} {r : BR} {f : FuncId} {t : Array Value} {k : List Item} {cs : List Frame} {w w' : World} {a : Goroutine} (h : Sit P S V (botD ds kd hkd k) bs r (Ytcobehkadhcjiaa.bareR f t) [] cs w a w') :
    ∃ t' cs' k', a = G { (base f).at ⟨t', []⟩ k' with mode := .returning } (cs' ++ bs) ∧ RR S r t t' ∧ MRs S r cs cs' := by
  obtain ⟨fr', ct', cs', rfl, h1, h2, h3⟩ := h.at_
  cases h2
  generalize hg : Ytcobehkadhcjiaa.bareR f t = g at h1
  cases h1 with
  | run tt kk =>
    have e1 := congrArg Frame.mode hg
    simp [Frame.at] at e1
  | @ret f2 t2 t' k2 k' tt =>
    have e1 := congrArg Frame.fn hg
    have e2 := congrArg Frame.tmps hg
    simp only [Frame.at, base] at e1 e2
    subst e1 e2
    exact ⟨t', cs', k', rfl, tt, h3⟩
omit [Payload] in
theorem Sit.mkRD {ds : List Deferred} {kd : CallKind} {hkd : kd ≠ .early} {bs : List Frame} {r : BR} {f : FuncId} {t t' : Array Value} {k k' : List Item} {cs cs' : List Frame} {w w' : World} (tt : RR S r t t') (hc : MRs S r cs cs') (hw : HR0 S r w w') :
    Sit P S V (botD ds kd hkd k) bs r (Ytcobehkadhcjiaa.bareR f t) [] cs w (G { (base f).at ⟨t', []⟩ k' with mode := .returning } (cs' ++ bs)) w' :=
  ⟨⟨_, [], cs', rfl, FrR.ret (k := []) tt, .nil, hc⟩, hw⟩

/-- A step of its own. -/
def GoesJ (P : Program) (L : WgLink) (S V : FuncId → Bool) (ds : List Deferred) (kd : CallKind) (hkd : kd ≠ .early) (bs : List Frame) (main : Bool) (ρ : Rj) (m : Mt) (r : BR) (w : World) (a : Goroutine) (w' : World) (cs : List Frame) : Prop :=
  ∃ b1 m1 r1 fr1 ct1 k1 cs1 w1 a1 w1' es, stepG P main a w' = .go a1 w1' es ∧ Relation.TransGen Mt.Lt m1 m ∧ Jm P L S V b1 ρ m1 fr1 ct1 k1 cs1 w1 ∧ Sit P S V (botD ds kd hkd k1) bs r1 fr1 ct1 cs1 w1 a1 w1' ∧ LF w w1 ∧ FR r r1 w w' w1' ∧ (∀ e ∈ es, EvS r1 w e) ∧ ∀ c u, ρ = .wk c u → cs1 = cs
abbrev Mle (m1 m : Mt) : Prop := m1 = m ∨ Relation.TransGen Mt.Lt m1 m
omit [Shift] [Payload] in
theorem Mle.trans {a b c : Mt} (h : Mle a b) (k : Relation.TransGen Mt.Lt b c) : Mle a c := .inr (h.elim (fun e => e ▸ k) fun h => h.trans k)
/-- It stands at a step that others have to do with. -/
def PrJ (P : Program) (L : WgLink) (S V : FuncId → Bool) (ds : List Deferred) (kd : CallKind) (hkd : kd ≠ .early) (bs : List Frame) (ρ : Rj) (m : Mt) (r : BR) (w : World) (a : Goroutine) (w' : World) : Prop :=
  ∃ m1 fr ct k cs1, Mle m1 m ∧ Jm P L S V true ρ m1 fr ct k cs1 w ∧ Sit P S V (botD ds kd hkd k) bs r fr ct cs1 w a w'

/-- Whatever it comes to. -/
theorem jm_res (hP : OkP P S V) {b : Bool} {ρ : Rj} {m : Mt} {fr : Frame} {ct : List Frame} {k : List Item} {cs : List Frame} {w : World} (h : Jm P L S V b ρ m fr ct k cs w) (ds : List Deferred) (kd : CallKind) (hkd : kd ≠ .early) (hmn : ∀ post σ, ρ = .main post σ → kd = .normal ∧ ds = []) (bs : List Frame) (main : Bool) :
    ∀ {r : BR} {a : Goroutine} {w' : World}, Sit P S V (botD ds kd hkd k) bs r fr ct cs w a w' → GoesJ P L S V ds kd hkd bs main ρ m r w a w' cs ∨ PrJ P L S V ds kd hkd bs ρ m r w a w' := by
  induction h with
  | @step b1 ρ g fr ct k cs w F C W hne hend h1 hI _ =>
    intro r a w' hs
    left
    have hgl := hs.gl
    obtain ⟨fr', ct', cs', rfl, hf, hc, hm⟩ := hs.at_
    obtain ⟨T, hT⟩ := sim_step (P := P) (main := main) (bs := cs' ++ bs) hP hf hc hs.hr hne (by
      cases ct with
      | nil => exact .inr (hend rfl)
      | cons c ct => exact .inl rfl)
    have h2 := h1 T
    obtain ⟨es, hg⟩ := h2.go (retape w T).tape (fun _ _ _ => rfl) true []
    rw [List.append_nil, List.append_nil, onT_self] at hg
    have ew : onT (W T) (retape w T).tape = W T := by rw [← h2.drawn.tape]; rfl
    rw [ew] at hg
    obtain ⟨r1, fr1', cs1', w1', es', k1, k2, k3, k4, k5, k6, k7⟩ := hT _ _ _ _ hg h2.calm
    have hs' : Sit P S V (botD ds kd hkd k) bs r1 (F T) (C T) cs (W T) (G fr1' (cs1' ++ (cs' ++ bs))) w1' := ⟨⟨fr1', cs1', cs', rfl, k2, k3, hm.mono k6.ext⟩, k4⟩
    exact ⟨_, _, r1, _, _, _, _, _, _, w1', es', k1, lt_one g _, hI T hs'.gl, hs', k5, k6, k7, fun _ _ _ => rfl⟩
  | @shift b1 ρ g f t c k cs w hc _ ih =>
    intro r a w' hs
    obtain ⟨t', cs', rfl, tt, hm⟩ := hs.bareD
    have hs' : Sit P S V (botD ds kd hkd k) bs r ((base f).at ⟨t, []⟩ [c]) [] cs w (G ((baseK kd f).at ⟨t', ds⟩ (c :: k)) (cs' ++ bs)) w' :=
      ⟨⟨_, [], cs', rfl, FrR.run (b := botD ds kd hkd k) (k := [c]) tt (fun i hi => by simp at hi; subst hi; exact hc), .nil, hm⟩, hs.hr⟩
    rcases ih hmn hs' with ⟨bb, m1, r1, fr1, ct1, k1, cs1, w1, a1, w1', es, h1, h2, h3⟩ | hp
    · exact .inl ⟨bb, m1, r1, fr1, ct1, k1, cs1, w1, a1, w1', es, h1, h2.trans (lt_one g _), h3⟩
    · obtain ⟨m1, fr1, ct1, k1, cs1, h1, h2, h3⟩ := hp
      exact .inr ⟨m1, fr1, ct1, k1, cs1, h1.trans (lt_one g _), h2, h3⟩
  | @unshift b1 ρ g f t c k cs w _ ih =>
    intro r a w' hs
    obtain ⟨t', cs', rfl, tt, hm⟩ := hs.oneD
    have hs' : Sit P S V (botD ds kd hkd (c :: k)) bs r (Ytcobehkadhcjiaa.bare f t) [] cs w (G ((baseK kd f).at ⟨t', ds⟩ (c :: k)) (cs' ++ bs)) w' := Sit.mkD tt hm hs.hr
    rcases ih hmn hs' with ⟨bb, m1, r1, fr1, ct1, k1, cs1, w1, a1, w1', es, h1, h2, h3⟩ | hp
    · exact .inl ⟨bb, m1, r1, fr1, ct1, k1, cs1, w1, a1, w1', es, h1, h2.trans (lt_one g _), h3⟩
    · obtain ⟨m1, fr1, ct1, k1, cs1, h1, h2, h3⟩ := hp
      exact .inr ⟨m1, fr1, ct1, k1, cs1, h1.trans (lt_one g _), h2, h3⟩
  | @ctl b1 ρ g f t k k1 cs w hst hI _ =>
    intro r a w' hs
    left
    obtain ⟨t', cs', rfl, tt, hm⟩ := hs.bareD
    exact ⟨_, _, r, _, _, k1, _, w, _, w', _, hst main kd t' ds _ w', lt_one g _, hI, Sit.mkD tt hm hs.hr, .refl _, .refl _ _ _, (by simp), fun _ _ _ => rfl⟩
  | @cond b1 ρ g f t c x y q k cs w hx he hI _ =>
    intro r a w' hs
    left
    obtain ⟨t', cs', rfl, tt, hm⟩ := hs.bareD
    have hv := ER.of (a := ⟨t, []⟩) (a' := ⟨t', ds⟩) tt c hx
    rw [he] at hv
    have he' : Act.eval ⟨t', ds⟩ c = .bool q := by generalize Act.eval ⟨t', ds⟩ c = u at hv; cases hv; rfl
    exact ⟨_, _, r, _, _, _, _, w, _, w', _, stepG_cond he', lt_one g _, hI, Sit.mkD tt hm hs.hr, .refl _, .refl _ _ _, (by simp), fun _ _ _ => rfl⟩
  | @op b1 ρ g f t ops i rest o k cs w v W ho hw hok hrun hI _ =>
    intro r a w' hs
    left
    obtain ⟨t', cs', rfl, tt, hm⟩ := hs.bareD
    obtain ⟨T, hT⟩ : ∃ T : Tape', T = fun n q => w'.tape (w'.drawn + n) q := ⟨_, rfl⟩
    have hl : HR S r (retape w T) w' := ⟨hs.hr.retape _, fun n q => by
      rw [hT]
      have : ¬ (w.drawn + n < w.drawn) := by omega
      show (if w.drawn + n < w.drawn then w.tape (w.drawn + n) q else w'.tape (w'.drawn + (w.drawn + n - w.drawn)) q) = _
      rw [if_neg this, Nat.add_sub_cancel_left]⟩
    have hwt' : Region.wanted o (yielded ops t') = true := by rw [wanted_rr tt]; exact hw
    obtain ⟨r1, n', w2', l, h1, h2, hn, h4, h5, h6, h7⟩ := sr_exec hP.globals hP.bog hP.okS hok (ER.of (a := ⟨t, []⟩) (a' := ⟨t', ds⟩) tt) (retape w T) w' #[] hl _ _ (hrun T)
    have hli : ∀ e ∈ listed P f ⟨t', ds⟩ o w', EvS r1 w e := fun e he => by
      unfold listed at he
      rw [h2] at he
      obtain ⟨m1, m2⟩ := mem_seen he
      exact ⟨h7 e (by simpa using m1), m2⟩
    have hI' := hI T
    cases hv : v T with
    | some u =>
      rw [hv] at hn hI'
      cases hn with
      | @value _ u' huv =>
        have hs' : Sit P S V (botD ds kd hkd (.inRegion ops rest :: k)) bs r1 (bare f (putT t o.dst u)) [] cs (W T) (G ((baseK kd f).at ⟨putT t' o.dst u', ds⟩ (.inRegion ops rest :: k)) (cs' ++ bs)) w2' := Sit.mkD ((tt.mono h6.ext).put _ huv) (hm.mono h6.ext) h4.toHR0
        refine ⟨_, _, r1, _, _, _, _, _, _, w2', _, (stepG_value ho hwt' hkd h1).trans (by rw [put_bareD]; rfl), lt_one g _, hI' hs'.gl, hs', h5.untape, h6.untape, hli, fun _ _ _ => rfl⟩
    | none =>
      rw [hv] at hn hI'
      cases hn with
      | skip =>
        have hs' : Sit P S V (botD ds kd hkd (.inRegion ops rest :: k)) bs r1 (bare f (putT t o.dst undef)) [] cs (W T) (G ((baseK kd f).at ⟨putT t' o.dst undef, ds⟩ (.inRegion ops rest :: k)) (cs' ++ bs)) w2' := Sit.mkD ((tt.mono h6.ext).put _ VR.undef) (hm.mono h6.ext) h4.toHR0
        refine ⟨_, _, r1, _, _, _, _, _, _, w2', _, (stepG_none ho hwt' hkd h1).trans (by rw [put_bareD]; rfl), lt_one g _, hI' hs'.gl, hs', h5.untape, h6.untape, hli, fun _ _ _ => rfl⟩
  | @draw b1 ρ g f t id ops k cs w hI _ =>
    intro r a w' hs
    left
    obtain ⟨t', cs', rfl, tt, hm⟩ := hs.bareD
    have key : stepG P main (G ((baseK kd f).at ⟨t', ds⟩ (.code (.region id ops true) :: k)) (cs' ++ bs)) w' = .go (G ((baseK kd f).at ⟨t', ds⟩ (.inRegion ops (Region.schedule (P.follows .mixedOrders) ops (w'.tape w'.drawn (.order f id))) :: k)) (cs' ++ bs)) { w' with drawn := w'.drawn + 1 } := by
      simp [G, stepG, stepG.exec, Frame.at, baseK, base, choose, Sem.run, Question.forced, Question.cut]
    refine ⟨_, _, r, _, _, _, _, w, _, _, _, key, lt_one g (.nm (w'.tape w'.drawn (.order f id))), hI _, Sit.mkD tt hm ⟨hs.hr.fn, hs.hr.inj, hs.hr.obj, hs.hr.low⟩, .refl _, .of_heap _ rfl rfl rfl rfl, (by simp), fun _ _ _ => rfl⟩
  | @enter b1 post σ g f t ops i rest o k cs w h xs fn c ho hw hx hf hb hex hI _ =>
    intro r a w' hs
    left
    obtain ⟨t', cs', rfl, tt, hm⟩ := hs.bareD
    obtain ⟨rfl, rfl⟩ := hmn _ _ rfl
    have hwt' : Region.wanted o (yielded ops t') = true := by rw [wanted_rr tt]; exact hw
    have ha := (ER.of (a := ⟨t, []⟩) (a' := ⟨t', []⟩) tt).all xs hx
    have hrep : RR S r (xs.map (Act.eval ⟨t, []⟩) ++ Array.replicate (fn.ntmps - xs.size) undef) (xs.map (Act.eval ⟨t', []⟩) ++ Array.replicate (fn.ntmps - xs.size) undef) := ha.append (RR.replicate _ VR.undef)
    have hs' : Sit P S V (botD [] .normal hkd [.code c]) bs r (bare h (xs.map (Act.eval ⟨t, []⟩) ++ Array.replicate (fn.ntmps - xs.size) undef)) [] ((base f).at ⟨t, []⟩ (.inRegion ops (i :: rest) :: k) :: cs) w
        (G ((base h).at ⟨xs.map (Act.eval ⟨t', []⟩) ++ Array.replicate (fn.ntmps - xs.size) undef, []⟩ [.code c]) (((base f).at ⟨t', []⟩ (.inRegion ops (i :: rest) :: k) :: cs') ++ bs)) w' := Sit.mkD hrep (.cons tt hm) hs.hr
    refine ⟨_, _, r, _, _, _, _, w, _, w', listed P f ⟨t', []⟩ o w', ?_, lt_one g .un, hI hs'.gl, hs', .refl _, .refl _ _ _, ?_, fun _ _ h => by cases h⟩
    · have e0 := enter_at (P := P) (xs.map (Act.eval ⟨t', []⟩)) hf hb
      rw [Array.size_map] at e0
      rw [← e0]
      exact stepG_enter ho hwt' hkd (hex _ w' #[]).1
    · intro e he
      unfold listed at he
      rw [(hex _ w' #[]).2] at he
      obtain ⟨m1, _⟩ := mem_seen he
      simp at m1
  | @toret b1 post σ g f t k cs w hk hI _ =>
    intro r a w' hs
    left
    obtain ⟨t', cs', rfl, tt, hm⟩ := hs.bareD
    obtain ⟨rfl, rfl⟩ := hmn _ _ rfl
    rcases hk with rfl | ⟨k2, rfl⟩
    · exact ⟨_, _, r, _, _, [], _, w, _, w', _, by exact stepG_end, lt_one g .un, hI, Sit.mkRD (k' := []) tt hm hs.hr, .refl _, .refl _ _ _, (by simp), fun _ _ h => by cases h⟩
    · exact ⟨_, _, r, _, _, [], _, w, _, w', _, by exact stepG_ret', lt_one g .un, hI, Sit.mkRD (k' := .code .ret :: k2) tt hm hs.hr, .refl _, .refl _ _ _, (by simp), fun _ _ h => by cases h⟩
  | @ret b1 post σ g f t fn v f2 t2 ops i rest o k2 cs w hf hres ho hI _ =>
    intro r a w' hs
    left
    obtain ⟨t', cs', k', rfl, tt, hm⟩ := hs.bareRD
    obtain ⟨rfl, rfl⟩ := hmn _ _ rfl
    cases hm with
    | @cons _ _ t2' _ _ cs2' tt2 hm =>
      have hl : HR S r (retape w fun k q => w'.tape (w'.drawn + k) q) w' := ⟨hs.hr.retape _, fun n q => by
        have : ¬ (w.drawn + n < w.drawn) := by omega
        show (if w.drawn + n < w.drawn then w.tape (w.drawn + n) q else w'.tape (w'.drawn + (w.drawn + n - w.drawn)) q) = _
        rw [if_neg this, Nat.add_sub_cancel_left]⟩
      obtain ⟨r1, v', w2', l, h1, h2, hv, h4, h5, h6, h7⟩ := sr_results fn tt _ w' #[] hl _ _ (hres _)
      have ha : ∀ (es' : Array Event) (g : Goroutine) (w3 : World) (es3 : Array Event), GStep.after es' (.go g w3 es3) = .go g w3 (es' ++ es3) := fun _ _ _ _ => rfl
      have hs' : Sit P S V (botD [] .normal hkd (.inRegion ops rest :: k2)) bs r1 (bare f2 (putT t2 o.dst v)) [] cs w (G ((base f2).at ⟨putT t2' o.dst v', []⟩ (.inRegion ops rest :: k2)) (cs2' ++ bs)) w2' := Sit.mkD ((tt2.mono h6.ext).put _ hv) (hm.mono h6.ext) ⟨h4.fn, h4.inj, h4.obj, h4.low⟩
      refine ⟨_, _, r1, _, _, _, _, w, _, w2', seen P f ((results fn t').events P w' #[]), ?_, lt_one g .un, hI hs'.gl, hs', .refl _, h6.untape, ?_, fun _ _ h => by cases h⟩
      · rw [List.cons_append, stepG_ret_some hf, h1, ha, Frame.finish_at, ho]
        simp only [Option.bind_some, Array.append_empty]
        rw [put_bareD]
      · intro e he
        rw [h2] at he
        obtain ⟨m1, m2⟩ := mem_seen he
        exact ⟨h7 e (by simpa using m1), m2⟩
  | fin h1 h2 h3 h4 => exact fun hs => .inr ⟨_, _, _, _, _, .inl rfl, .fin h1 h2 h3 h4, hs⟩
  | wgnew h1 h2 h3 h4 _ => exact fun hs => .inr ⟨_, _, _, _, _, .inl rfl, .wgnew h1 h2 h3 h4, hs⟩
  | add h1 h2 h3 h4 h5 h6 h7 _ => exact fun hs => .inr ⟨_, _, _, _, _, .inl rfl, .add h1 h2 h3 h4 h5 h6 h7, hs⟩
  | go h1 h2 h3 h4 h5 h6 h7 h8 h9 h10 h11 h12 h13 h14 h15 h16 h17 _ _ => exact fun hs => .inr ⟨_, _, _, _, _, .inl rfl, .go h1 h2 h3 h4 h5 h6 h7 h8 h9 h10 h11 h12 h13 h14 h15 h16 h17, hs⟩
  | wait h1 h2 h3 h4 h5 h6 h7 _ => exact fun hs => .inr ⟨_, _, _, _, _, .inl rfl, .wait h1 h2 h3 h4 h5 h6 h7, hs⟩
  | put h1 h2 h3 h4 h5 h6 h7 h8 h9 _ => exact fun hs => .inr ⟨_, _, _, _, _, .inl rfl, .put h1 h2 h3 h4 h5 h6 h7 h8 h9, hs⟩
  | done h1 h2 h3 h4 h5 => exact fun hs => .inr ⟨_, _, _, _, _, .inl rfl, .done h1 h2 h3 h4 h5, hs⟩
end
end Go.Proofs.Ytcobehkadhcjiaa

/-
  THE TRACE beside sync.WaitGroup: the places that each of the others has for itself, and those that it reads; what is handed over where the first has waited.
-/
namespace Go.Proofs.Ytcobehkadhcjiaa
open Go Go.Conc Go.ConcN
open Go.ConcR (KK WgAt wgBlock stA smA Payload DC0)

def ShG (Gs : Nat → Prop) (l : Loc) : Prop := ∃ a, l = .cell a ∧ Gs a.block

theorem mem_of_act {t : Trace} {i : Nat} {op : MemOp} (h : t[i]? = some op) : t.act? i = some op.act := act?_of h

/-- Other families: what is new was never touched. -/
theorem CT.fam {Sh Sh' : Loc → Prop} {Own Rd Own' Rd' : Nat → Loc → Prop} {t : Trace} {j N : Nat} (h : CT Sh Own Rd t j) (hs : ∀ op ∈ t, ∀ x, op.act.touch? = some x → ∀ b, blkOf x.loc = some b → b < N)
    (hsh : ∀ l, Sh l → Sh' l) (hsh' : ∀ l, Sh' l → Sh l ∨ ∃ b, blkOf l = some b ∧ N ≤ b)
    (o1 : ∀ k, 1 ≤ k → k ≤ j → ∀ l, Own k l → Own' k l) (o2 : ∀ k, 1 ≤ k → k ≤ j → ∀ l, Own' k l → Own k l ∨ ∃ b, blkOf l = some b ∧ N ≤ b)
    (r1 : ∀ k, 1 ≤ k → k ≤ j → ∀ l, Rd k l → Rd' k l) (r2 : ∀ k, 1 ≤ k → k ≤ j → ∀ l, Rd' k l → Rd k l) : CT Sh' Own' Rd' t j := by
  have fresh : ∀ {i : Nat} {a : Touch} {b : Nat}, touchAt t i = some a → blkOf a.loc = some b → ¬ N ≤ b := fun {i a b} ha hb => by
    obtain ⟨x, hx, hxa⟩ := touch_of ha
    have := hs x (Array.mem_of_getElem? hx) _ hxa b hb
    omega
  refine ⟨fun i op x hi hx hq => ?_, fun k k1 kj l hl i a ha e => ?_, fun k k1 kj l hl => h.rd k k1 kj l (r2 k k1 kj l hl), fun l hl hn => h.free l (fun e => hl (hsh l e)) fun k k1 kj => ⟨fun e => (hn k k1 kj).1 (o1 k k1 kj l e), fun e => (hn k k1 kj).2 (r1 k k1 kj l e)⟩,
    fun l hl hn => h.mine l (fun e => hl (hsh l e)) fun k k1 kj e => hn k k1 kj (o1 k k1 kj l e), h.nr, h.gs⟩
  · rcases hsh' _ hq with e | ⟨b, hb, hN⟩
    · exact h.quiet i op x hi hx e
    · exact absurd hN (fresh (i := i) (a := x) (by rw [touchAt, act?_of hi]; exact hx) hb)
  · rcases o2 k k1 kj l hl with e' | ⟨b, hb, hN⟩
    · exact h.own k k1 kj l e' i a ha e
    · exact absurd hN (fresh ha (by rw [e]; exact hb))

/-- q: so many have been waited for; n: so many there are in all. -/
structure JT (Gs : Nat → Prop) (Own Rd : Nat → Loc → Prop) (t : Trace) (q n N : Nat) : Prop where
  ct : CT (ShG Gs) Own Rd t n
  seen : ∀ op ∈ t, ∀ x, op.act.touch? = some x → ∀ b, blkOf x.loc = some b → b < N
  plain : ∀ i a, touchAt t i = some a → ¬ ShG Gs a.loc → a.kind = .plain ∧ a.loc.isMemory = true
  over : ∀ i g, t.g? i = some g → g ≠ 0 → t.counts i → (∃ j, t.g? j = some 0 ∧ HappensBefore t i j) ∨ q < g

section
variable {Gs : Nat → Prop} {Own Rd : Nat → Loc → Prop} {t u : Trace} {q n N N' : Nat}

theorem JT.app (h : JT Gs Own Rd t q n N) (hN : N ≤ N') {Gs' : Nat → Prop} {Own' Rd' : Nat → Loc → Prop} {n' : Nat} (hct : CT (ShG Gs') Own' Rd' (t ++ u) n') (hG : ∀ l, ShG Gs l → ShG Gs' l) (hl : ∀ op ∈ u, ∀ x, op.act.touch? = some x → ∀ b, blkOf x.loc = some b → b < N')
    (hp : ∀ op ∈ u, ∀ x, op.act.touch? = some x → ¬ ShG Gs' x.loc → x.kind = .plain ∧ x.loc.isMemory = true)
    (ho : ∀ op ∈ u, op.g = 0 ∨ q < op.g ∨ op.act.touch? = none) : JT Gs' Own' Rd' (t ++ u) q n' N' := by
  refine ⟨hct, fun op hop => ?_, fun i a ha hs => ?_, fun i g hg h0 hc => ?_⟩
  · rcases Array.mem_append.1 hop with ho | ho
    · exact fun x hx b hb => Nat.lt_of_lt_of_le (h.seen op ho x hx b hb) hN
    · exact hl op ho
  · obtain ⟨x, hx, hxa⟩ := touch_of ha
    rcases getElem?_append_cases hx with ⟨hi, hx'⟩ | ⟨_, hxu⟩
    · exact h.plain i a (by rw [touchAt_of hx']; exact hxa) fun e => hs (hG _ e)
    · exact hp x hxu a hxa hs
  · rcases Nat.lt_or_ge i t.size with hlt | hge
    · rw [g?_old hlt] at hg
      rw [counts_old hlt] at hc
      rcases h.over i g hg h0 hc with ⟨j, hj, hb⟩ | hA
      · exact .inl ⟨j, g?_app hj, hb_app u hb⟩
      · exact .inr hA
    · unfold Trace.g? at hg
      obtain ⟨op, hop, he⟩ := Option.map_eq_some_iff.1 hg
      rcases getElem?_append_cases hop with ⟨hlt, _⟩ | ⟨_, hou⟩
      · omega
      · rcases ho op hou with e | e | e
        · omega
        · exact .inr (by omega)
        · exfalso
          obtain ⟨x, hx, _⟩ := hc
          rw [act?_of hop] at hx
          simp only [Option.bind_some] at hx
          rw [e] at hx
          cases hx

/-- Behind the wait: all that the others have done the first knows. -/
theorem JT.join {Wg p : Nat} (h : JT Gs Own Rd t q n N) (hp : t.act? p = some (.mark (.acquire (stA Wg)))) (hg : t.g? p = some 0) (hh : t.heard p) {p0 : Nat} (hn : ∀ i, p0 ≤ i → t.act? i ≠ some (.mark (.release (stA Wg))))
    (hrel : ∀ k, q < k → k ≤ n → ∃ r, p0 ≤ r ∧ RelBy (stA Wg) t k r ∧ r < p) {Own' Rd' : Nat → Loc → Prop} (ho : ∀ k l, k ≤ n → ¬ Own' k l) (hrd : ∀ k l, k ≤ n → ¬ Rd' k l) :
    JT Gs Own' Rd' t n n N := by
  have hb : ∀ i g, t.g? i = some g → q < g → t.counts i → HappensBefore t i p := fun i g hgi hq hc => by
    have hgn : g ≤ n := by
      obtain ⟨op, ho, he⟩ := Option.map_eq_some_iff.1 (show (t[i]?).map (·.g) = some g from hgi)
      have := h.ct.gs i op ho
      omega
    obtain ⟨r, hr0, hr, hrp⟩ := hrel g hq hgn
    have edge : HappensBefore t r p := .single (.inr ⟨.marked hrp (.inr hr.act) hp (fun k hk _ => hn k (by omega)), hr.heard, hh⟩)
    have hle : i ≤ r := Nat.le_of_not_lt fun hlt => hr.after i hlt hgi hc
    rcases Nat.lt_or_ge i r with hlt | hge
    · exact .trans (.single (.inl ⟨hlt, g, hgi, hr.g⟩)) edge
    · obtain rfl : i = r := by omega
      exact edge
  have know : ∀ l, ¬ ShG Gs l → ∀ i a, touchAt t i = some a → a.loc = l → (a.write = true ∨ True) → Knows t 0 i := fun l hs i a ha hl _ => by
    obtain ⟨x, hx, hxa⟩ := touch_of ha
    have hgx : t.g? i = some x.g := by simp [Trace.g?, hx]
    by_cases h0 : x.g = 0
    · have := knows_own hx
      rw [h0] at this
      exact this
    · have hpl := h.plain i a ha (by rw [hl]; exact hs)
      have hc : t.counts i := ⟨a, by rw [act?_of hx]; exact hxa, hpl.2, .inl (by rw [hpl.1]; simp)⟩
      rcases h.over i x.g hgx h0 hc with ⟨j, hj, hbj⟩ | hq
      · obtain ⟨y, hy, hyg⟩ := Option.map_eq_some_iff.1 (show (t[j]?).map (·.g) = some 0 from hj)
        exact ⟨j, y, hy, hyg, .inr hbj⟩
      · obtain ⟨y, hy, hyg⟩ := Option.map_eq_some_iff.1 (show (t[p]?).map (·.g) = some 0 from hg)
        exact ⟨p, y, hy, hyg, .inr (hb i x.g hgx hq hc)⟩
  refine ⟨⟨h.ct.quiet, fun k k1 kj l hl => absurd hl (ho k l kj), fun k k1 kj l hl => absurd hl (hrd k l kj), fun l hs _ i a ha hl => know l hs i a ha hl (.inr trivial), fun l hs _ i a ha hl hw => know l hs i a ha hl (.inl hw), h.ct.nr, h.ct.gs⟩,
    h.seen, h.plain, fun i g hgi h0 hc => ?_⟩
  rcases h.over i g hgi h0 hc with e | e
  · exact .inl e
  · exact .inl ⟨p, hg, hb i g hgi e hc⟩
end
end Go.Proofs.Ytcobehkadhcjiaa

/-
  THE CREW beside sync.WaitGroup: where each stands.
-/
namespace Go.Proofs.Ytcobehkadhcjiaa
open Go Go.Conc Go.ConcN Go.Conc.Lib
open Go.ConcR (KK WgAt wgBlock stA smA Payload DC0)
variable [Shift] [Payload]

abbrev Ej := Mt × (Nat × Nat)
abbrev Ej.Lt : Ej → Ej → Prop := Prod.Lex (Relation.TransGen Mt.Lt) (Prod.Lex (· < ·) (· < ·))
omit [Shift] [Payload] in
theorem ej_wf : WellFounded Ej.Lt := (Prod.lex ⟨_, mt_wf.transGen⟩ (Prod.lex Nat.lt_wfRel Nat.lt_wfRel)).wf
inductive LLj : List Ej → List Ej → Prop
  | head {a b : Ej} {l : List Ej} : Ej.Lt a b → LLj (a :: l) (b :: l)
  | tail {a : Ej} {l l' : List Ej} : LLj l l' → LLj (a :: l) (a :: l')
omit [Shift] [Payload] in
theorem llj_acc : ∀ l, Acc LLj l
  | [] => ⟨_, fun y h => by cases h⟩
  | a :: l => by
    have hl := llj_acc l
    have ha := ej_wf.apply a
    induction ha generalizing l with
    | intro a _ iha =>
      induction hl with
      | intro l hl ihl =>
        refine ⟨_, fun y h => ?_⟩
        cases h with
        | head h => exact iha _ h _ ⟨_, hl⟩
        | tail h => exact ihl _ h
/-- The first's tree and rank; the others; what the first has to go yet. -/
abbrev Mj := (Mt × Nat) × (List Ej × Nat)
abbrev Mj.Lt : Mj → Mj → Prop := Prod.Lex Em.Lt (Prod.Lex LLj (· < ·))
omit [Shift] [Payload] in
theorem mj_wf : WellFounded Mj.Lt := (Prod.lex ⟨_, em_wf⟩ (Prod.lex ⟨_, ⟨llj_acc⟩⟩ Nat.lt_wfRel)).wf

structure Dj where
  s : Nat
  spec : Spec
  r : BR
  w : World
  e : Ej
  wd : WD
def elj (D : Nat → Dj) : Nat → List Ej
  | 0 => []
  | n + 1 => (D n).e :: elj D n
omit [Shift] [Payload] in
theorem elj_congr {D D' : Nat → Dj} : ∀ {n : Nat}, (∀ i, i < n → (D i).e = (D' i).e) → elj D n = elj D' n
  | 0, _ => rfl
  | n + 1, h => by simp only [elj, h n (Nat.lt_succ_self n), elj_congr fun i hi => h i (Nat.lt_succ_of_lt hi)]
omit [Shift] [Payload] in
theorem elj_lt {D : Nat → Dj} {x : Dj} {i : Nat} (hx : Ej.Lt x.e (D i).e) : ∀ {n : Nat}, i < n → LLj (elj (upd D i x) n) (elj D n)
  | 0, h => absurd h (Nat.not_lt_zero i)
  | n + 1, h => by
    by_cases e : i = n
    · subst e
      have : elj (upd D i x) i = elj D i := elj_congr fun j hj => by rw [upd_ne _ _ (by omega)]
      simp only [elj, this, upd_same]
      exact .head hx
    · simp only [elj, upd_ne D x (i := i) (a := n) (by omega)]
      exact .tail (elj_lt hx (by omega))

section
variable (P : Program) (L : WgLink) (S V : FuncId → Bool)

/-- Within Add. -/
inductive AddSt (Wg : Nat) (B : Goroutine) : Nat → Nat → Nat → Nat → Goroutine → World → Prop
  | kd {m : Nat} {g : Goroutine} {w : World} : Goes P true (RL L.tWg Wg) DC0 (JKd P L.tWg Wg B) m g w → AddSt Wg B 5 0 5 m g w
  | a1 {m : Nat} {g : Goroutine} {w : World} : Goes P true (RL L.tWg Wg) DC0 (JA1 P L.tWg Wg B) m g w → AddSt Wg B 4 1 4 m g w
  | rd {m : Nat} {g : Goroutine} {w : World} : Goes P true (RL L.tWg Wg) DC0 (JRd P L.tWg Wg B) m g w → AddSt Wg B 3 1 3 m g w
  | ke {m : Nat} {g : Goroutine} {w : World} : Goes P true (RL L.tWg Wg) DC0 (JKe P L.tWg Wg B) m g w → AddSt Wg B 3 1 2 m g w
/-- Within Wait. -/
inductive WaitSt (Wg : Nat) (B : Goroutine) (c : Frame) (cs : List Frame) : CTag → Nat → Nat → Nat → Goroutine → World → Prop
  | kd {m : Nat} {g : Goroutine} {w : World} : Goes P true (RL L.tWg Wg) DC0 (WKd P L.tWg Wg (WHd L Wg c cs)) m g w → WaitSt Wg B c cs .kd 0 5000000 m g w
  | anch {rk m : Nat} {g : Goroutine} {w : World} : Goes P true (RL L.tWg Wg) DC0 (WHd L Wg c cs) m g w → WaitSt Wg B c cs .anch 1 rk m g w
  | w1 {rk m : Nat} {g : Goroutine} {w : World} : Goes P true (RL L.tWg Wg) DC0 (W1 P L.tWg Wg B (WHd L Wg c cs)) m g w → WaitSt Wg B c cs .w1 1 rk m g w
  | w2 {vs m : Nat} {g : Goroutine} {w : World} : Goes P true (RL L.tWg Wg) DC0 (W2 P L.tWg Wg B (WHd L Wg c cs) vs) m g w → WaitSt Wg B c cs (.w2 vs) 1 (4 * vs + 4) m g w
  | wr {m : Nat} {g : Goroutine} {w : World} : Goes P true (RL L.tWg Wg) DC0 (WWr P L.tWg Wg B) m g w → WaitSt Wg B c cs .w3 1 6 (m + 1) g w
  | w3 {m : Nat} {g : Goroutine} {w : World} : Goes P true (RL L.tWg Wg) DC0 (W3 P L.tWg Wg B) m g w → WaitSt Wg B c cs .w3 1 5 (m + 1) g w
  | blk {g : Goroutine} {w : World} : (∀ w₁, RL L.tWg Wg w w₁ → W3 P L.tWg Wg B g w₁) → WaitSt Wg B c cs .blk 1 5 0 { g with status := .blocked } w
  | w4 {m : Nat} {g : Goroutine} {w : World} : Goes P true (RL L.tWg Wg) DC0 (W4 P L.tWg Wg B) m g w → WaitSt Wg B c cs .w4 1 4 m g w
  | ke {m : Nat} {g : Goroutine} {w : World} : Goes P true (RL L.tWg Wg) DC0 (WKe P L.tWg Wg B) m g w → WaitSt Wg B c cs .ke 1 3 m g w
  | acq {m : Nat} {g : Goroutine} {w : World} : Goes P true (RL L.tWg Wg) DC0 (WAc P L.tWg Wg B) m g w → WaitSt Wg B c cs .acq 0 2 m g w

/-- It goes on so. -/
def Back (post : Value → World → Prop) (σ : Sj) (m : Mt) (r : BR) (w : World) (B : Goroutine) (w2' : World) : Prop :=
  HR0 S r w w2' → ∃ b m1 fr ct k cs, Mle m1 m ∧ Jm P L S V b (.main post σ) m1 fr ct k cs w ∧ Sit P S V (botD [] .normal (by decide) k) [] r fr ct cs w B w2'

/-- The first: what it is at. -/
inductive MAj (post : Value → World → Prop) (Wg : Nat) (r : BR) (w w' : World) : Sj → CTag → Nat → Mt × Nat → Nat → Goroutine → Prop
  | runs {b : Bool} {σ : Sj} {m : Mt} {fr : Frame} {ct cs : List Frame} {k : List Item} {a : Goroutine} : Jm P L S V b (.main post σ) m fr ct k cs w → Sit P S V (botD [] .normal (by decide) k) [] r fr ct cs w a w' → MAj post Wg r w w' σ (.sp 0 (if σ.pend then 2 else 5)) 0 (m, 0) 0 a
  | mid {wg : Nat} {rows : Option Rw} {l : List Spec} {g : Ix → Mt} {b1 b2 : Bool} {spec : Spec} {f : FuncId} {t t' : Array Value} {ops : Array Oper} {j : Nat} {rest : List Nat} {o2 : Oper} {d : Tmp} {k k0 : List Item} {cs cs' : List Frame} {w1 : World} {h : FuncId} {xs : Array Operand} {fn : Func} {q : Nat} {mk : Mt} {rw : Rw} :
      ops[j]? = some o2 → o2.guard = none → d < t.size → xs.all (okX S) = true →
      (∀ (e : Act) (w' : World) es c, e.eval (.tmp d) = .func (.func h) #[] c → (execOp e.eval o2).run P w' = .ok (.spawn (closure h c)) w' ∧ (execOp e.eval o2).events P w' es = es) →
      (xs.map (Act.eval ⟨t, []⟩))[0]? = some (.pointer (some ⟨wg, 0, none⟩)) → P.funcs[h]? = some fn →
      (∀ (c : Array Value) p, c.size = xs.size → c[0]? = some p → Leads P q (born P (closure h c)) (G ((baseK .deferred h).at ⟨c ++ Array.replicate (fn.ntmps - xs.size) undef, [dcall L.done #[p]]⟩ k0) [botF P])) →
      (rows = some rw ∧ w1 = w ∨ rows = none ∧ l = [] ∧ Hides w rw w1 ∧ Sees (xs.map (Act.eval ⟨t, []⟩)) w rw) → l.length < rw.n → Moves spec →
      (GLc P S V (bare h (xs.map (Act.eval ⟨t, []⟩) ++ Array.replicate (fn.ntmps - xs.size) undef)) [] [] (frz w1) →
        Jm P L S V b1 (.wk ⟨l.length, w1.heap.size, spec, rw⟩ fun _ => none) mk (bare h (xs.map (Act.eval ⟨t, []⟩) ++ Array.replicate (fn.ntmps - xs.size) undef)) [] k0 [] (frz w1)) →
      (GLc P S V (bare f (putT (putT t (some d) undef) o2.dst undef)) [] cs (frz w1) →
        Jm P L S V b2 (.main post ⟨some wg, false, some rw, l ++ [spec]⟩) (g .un) (bare f (putT (putT t (some d) undef) o2.dst undef)) [] (.inRegion ops rest :: k) cs (frz w1)) →
      RR S r t t' → MRs S r cs cs' →
      MAj post Wg r w w' ⟨some wg, true, rows, l⟩ (.sp 0 2) 0 (.node g, 0) 0 (G ((baseK .normal f).at ⟨putT t' (some d) (.func (.func h) #[] (xs.map (Act.eval ⟨t', []⟩))), []⟩ (.inRegion ops (j :: rest) :: k)) (cs' ++ []))
  | adds {wg : Nat} {rows : Option Rw} {l : List Spec} {m : Mt} {s d rk f : Nat} {a B : Goroutine} : AddSt P L Wg B s d rk f a w' → l.length < 1000000 → (∀ w2', Back P L S V post ⟨some wg, true, rows, l⟩ m r w B w2') → MAj post Wg r w w' ⟨some wg, true, rows, l⟩ (.sp 0 s) d (m, rk) f a
  | waits {wg : Nat} {rows : Option Rw} {l : List Spec} {m : Mt} {tag : CTag} {d rk f : Nat} {a B : Goroutine} {b0 : Frame} {a0 : Act} {ops0 : Array Oper} {i0 : Nat} {rest0 : List Nat} {k0 : List Item} {cs : List Frame} : WaitSt P L Wg B (b0.at a0 (.inRegion ops0 (i0 :: rest0) :: k0)) cs tag d rk f a w' →
      B = G (b0.at (a0.put ((ops0[i0]?).bind (·.dst)) (.tuple #[])) (.inRegion ops0 rest0 :: k0)) cs → l.length < 1000000 → (∀ rw, rows = some rw → l.length = rw.n) →
      (∀ r1 w1 w2', (∀ a b, r a b → r1 a b) → (rows = none ∧ l = [] ∧ w1 = w ∨ ∃ rw vs, rows = some rw ∧ Told rw l w w1 vs) → Back P L S V post ⟨none, false, none, []⟩ m r1 w1 B w2') →
      MAj post Wg r w w' ⟨some wg, false, rows, l⟩ tag d (m, rk) f a
  | backs {σ : Sj} {m : Mt} {f : Nat} {a B : Goroutine} : Goes P true (RL L.tWg Wg) DC0 (JBk B) f a w' → (∀ w2', Back P L S V post σ m r w B w2') → MAj post Wg r w w' σ (.sp 0 (if σ.pend then 2 else 5)) 0 (m, 1) f a

abbrev dDone (Wg : Nat) : List Deferred := [dcall L.done #[.pointer (some ⟨Wg, 0, none⟩)]]
/-- One of the others: what it is at. -/
inductive WAj (Wg : Nat) (R : Bool → Nat) (c : Wc) (r : BR) (w w' : World) : Ej → WD → Goroutine → Prop
  | born {b : Bool} {m : Mt} {q : Nat} {g : Goroutine} {f : FuncId} {t t' : Array Value} {k0 : List Item} : Leads P q g (G ((baseK .deferred f).at ⟨t', dDone L Wg⟩ k0) [botF P]) → RR S r t t' → (g.status = .running) →
      (GLc P S V (bare f t) [] [] w → Jm P L S V b (.wk c fun _ => none) m (bare f t) [] k0 [] w) → WAj Wg R c r w w' (m, 9, q) ⟨7, 0, 0⟩ g
  | runs {b : Bool} {m : Mt} {u : Bool → Option Value} {fr : Frame} {ct : List Frame} {k : List Item} {g : Goroutine} : Jm P L S V b (.wk c u) m fr ct k [] w → Sit P S V (botD (dDone L Wg) .deferred (by decide) k) [botF P] r fr ct [] w g w' →
      (∀ z v, u z = some v → ∃ v', VR S r v v' ∧ w'.cell? ⟨R z, c.i, none⟩ = some v') → WAj Wg R c r w w' (m, 8, 0) ⟨7, 0, 0⟩ g
  | ends {m : Mt} {v1 v2 u1 u2 : Value} {s f d : Nat} {g : Goroutine} : c.spec w (.agg #[v1, v2]) → Nwv c.s (.agg #[v1, v2]) → VR S r v1 u1 → VR S r v2 u2 → w'.cell? ⟨R false, c.i, none⟩ = some u1 →
      WSit P L.tWg Wg (R true) c.rw.n noP noP 0 (c.i + 1) u2 s f d g w' → (s ≤ 6 → w'.cell? ⟨R true, c.i, none⟩ = some u2) → s ≤ 7 → WAj Wg R c r w w' (m, s, f) ⟨s, f, d⟩ g
end

/-- Places of one's own. -/
def OwnF (Pv : Nat → Nat → Prop) (q n : Nat) (R : Bool → Nat) (k : Nat) (l : Loc) : Prop := (∃ b, blkOf l = some b ∧ Pv k b) ∨ (q < k ∧ k ≤ n ∧ ∃ z, l = .cell ⟨R z, k - q - 1, none⟩)
def RdF (Rb : Nat → Nat → Prop) (k : Nat) (l : Loc) : Prop := ∃ b, blkOf l = some b ∧ Rb k b
def need (v : Nat) : CTag → Nat
  | .anch => 4 * v + 6
  | .w1 => 4 * v + 5
  | _ => 0

/-- How one of the others lies to the first. -/
structure Side (Pv Rb : Nat → Nat → Prop) (Gs : Nat → Prop) (R : Bool → Nat) (rw : Rw) (k : Nat) (x : Dj) (r : BR) (w : World) : Prop where
  sn : Shift.n ≤ x.s
  sle : x.s ≤ x.w.heap.size
  slem : x.s ≤ w.heap.size
  old : ∀ a b, x.r a b → a < x.s → r a b
  fro : ∀ a o, a < x.s → ¬ Wr w a o
  wfro : ∀ a o, a < x.s → ¬ Wr x.w a o
  priv : ∀ a b, x.r a b → x.s ≤ a → Pv k b
  rd : ∀ a b, x.r a b → a < x.s → ¬ Gs b → (∀ z, b ≠ R z) → Rb k b
  hid : ∀ a b, x.r a b → (Gs b ∨ ∃ z, b = R z) → x.w.heap[a]? = some (.coro none)
  wrow : ∀ z, x.r (rw.b z) (R z)
/-- Where the rows lie. -/
structure RowsAt (N0 : Nat) (Gs : Nat → Prop) (R : Bool → Nat) (rw : Rw) (r : BR) (w' : World) : Prop where
  rel : ∀ z, r (rw.b z) (R z)
  n0 : ∀ z, N0 ≤ R z
  gs : ∀ z, ¬ Gs (R z)
  row : ∀ z, ∃ c, w'.heap[R z]? = some (.cells c (rw.y z) (0, 0)) ∧ c.size = rw.n
  ne : R false ≠ R true
  pos : 0 < rw.n
  few : rw.n < 1000000
  ety : rw.y true = Payload.ety
  low : ∀ z, Shift.n ≤ rw.b z

structure Cj (P : Program) (L : WgLink) (S V : FuncId → Bool) (post : Value → World → Prop) (N0 : Nat) (W0 : World) (μ : Mj) (gs : Array Goroutine) (w' : World) (t : Trace) (n q : Nat) (D : Nat → Dj) (Pv Rb : Nat → Nat → Prop) (Gs : Nat → Prop) (Wg : Nat) (R : Bool → Nat) (p0 : Nat) (st sm : Int) (tag : CTag) (d0 : Nat) (σ : Sj) (r : BR) (w : World) (a : Goroutine) : Prop where
  size : gs.size = n + 1
  list : σ.l.length + q = n
  zero : gs[0]? = some a
  main : MAj P L S V post Wg r w w' σ tag d0 μ.1 μ.2.2 a
  hr : HR0 S r w w'
  gone : ∀ i, i < q → ∃ g, gs[i + 1]? = some g ∧ (D i).e.2.2 = (D i).wd.fuel ∧ QuitsD P (D i).wd.fuel (D i).wd.deaf g
  work : ∀ i, q ≤ i → i < n → ∃ rw g, σ.rows = some rw ∧ gs[i + 1]? = some g ∧ HR0 S (D i).r (D i).w w' ∧ WAj P L S V Wg R ⟨i - q, (D i).s, (D i).spec, rw⟩ (D i).r (D i).w w' (D i).e (D i).wd g ∧
    σ.l[i - q]? = some (D i).spec ∧ Moves (D i).spec ∧ Side Pv Rb Gs R rw (i + 1) (D i) r w
  wg : ∀ b, σ.wg = some b → r b Wg ∧ Gs Wg ∧ WgAt L.tWg Wg w' st sm ∧ ConcN.Mode (n - q) (fun i => (D (q + i)).wd) tag st sm
  nowg : σ.wg = none → σ.rows = none
  norows : σ.rows = none → σ.l = []
  rows : ∀ rw, σ.rows = some rw → RowsAt N0 Gs R rw r w' ∧ σ.l.length ≤ rw.n
  hid : ∀ x b, r x b → (Gs b ∨ σ.rows ≠ none ∧ ∃ z, b = R z) → w.heap[x]? = some (.coro none)
  gsN : ∀ b, Gs b → N0 ≤ b ∧ b < w'.heap.size
  pv : ∀ k b, Pv k b → (q < k ∧ k ≤ n) ∧ (N0 ≤ b ∧ b < w'.heap.size) ∧ ¬ Gs b ∧ (∀ z, b ≠ R z) ∧ ∀ x, ¬ r x b
  pvp : ∀ k k' b, Pv k b → Pv k' b → k = k'
  rb : ∀ k b, Rb k b → (q < k ∧ k ≤ n) ∧ (∃ x, x < (D (k - 1)).s ∧ r x b) ∧ ¬ Gs b ∧ ∀ z, b ≠ R z
  base : ∀ b, b < N0 → w'.heap[b]? = W0.heap[b]?
  low : ∀ x b, r x b → b < N0 → x < Shift.n
  n0 : N0 ≤ w'.heap.size
  os : w'.os = W0.os
  output : w'.output = W0.output
  jt : JT Gs (OwnF Pv q n R) (RdF Rb) t q n w'.heap.size
  deaf0 : Deaf t 0 = d0
  deafW : ∀ i, i < n → Deaf t (i + 1) = (D i).wd.deaf
  rel : ∀ i, q ≤ i → i < n → (D i).wd.stage ≤ 6 → ∃ p, p0 ≤ p ∧ RelBy (stA Wg) t (i + 1) p
  nrel : ∀ i, p0 ≤ i → t.act? i ≠ some (.mark (.release (stA Wg)))
  p0le : p0 ≤ t.size
  need : need (Vc (n - q) fun i => (D (q + i)).wd) tag ≤ μ.1.2
  mu : μ.2.1 = elj D n
end Go.Proofs.Ytcobehkadhcjiaa

/-
  Goroutines among others: part 21 of what the law's own text rests on.
-/
import Derived.Test.YtcobehkadhcjiaaCc12
import Derived.Test.YtcobehkadhcjiaaCc20
import Derived.Laws.Tables
/-
  HOW A TREE OF A PROCESS IS HAD, beside sync.WaitGroup.
-/
namespace Go.Proofs.Ytcobehkadhcjiaa
open Go Go.Conc Go.ConcN Go.Conc.Lib
open Go.ConcR (KK WgAt wgBlock stA smA Payload DC0)
variable [Shift] [Payload]

def MJ (P : Program) (L : WgLink) (S V : FuncId → Bool) (ρ : Rj) (fr : Frame) (ct : List Frame) (k : List Item) (cs : List Frame) (w : World) : Prop := GLc P S V fr ct cs w → ∃ b m, Jm P L S V b ρ m fr ct k cs w

section
variable {P : Program} {L : WgLink} {S V : FuncId → Bool} {ρ : Rj}

theorem MJ.get {fr : Frame} {ct : List Frame} {k : List Item} {cs : List Frame} {w : World} (h : MJ P L S V ρ fr ct k cs w) : ∃ x : Bool × Mt, GLc P S V fr ct cs w → Jm P L S V x.1 ρ x.2 fr ct k cs w := by
  by_cases hg : GLc P S V fr ct cs w
  · obtain ⟨b, m, hm⟩ := h hg
    exact ⟨(b, m), fun _ => hm⟩
  · exact ⟨(true, .leaf), fun k => absurd k hg⟩
omit [Shift] [Payload] in
/-- Trees, one for each. -/
theorem pick2 {α : Type} {Q : α → Bool × Mt → Prop} (h : ∀ x, ∃ m, Q x m) : ∃ g : α → Bool × Mt, ∀ x, Q x (g x) := Classical.axiomOfChoice h

theorem MJ.step {fr : Frame} {ct : List Frame} {k : List Item} {cs : List Frame} {w : World} (F : Tape' → Frame) (C : Tape' → List Frame) (W : Tape' → World) (h1 : fr.mode = .returning → ct ≠ []) (h2 : ct = [] → fr.todo ≠ [] ∧ ∀ k2, fr.todo ≠ .code .ret :: k2)
    (h3 : ∀ T, Step1 P fr ct (retape w T) (F T) (C T) (W T)) (h : ∀ T, MJ P L S V ρ (F T) (C T) k cs (W T)) : MJ P L S V ρ fr ct k cs w := fun _ => by
  obtain ⟨g, hg⟩ := pick2 fun T => (h T).get
  exact ⟨_, _, Jm.step (b1 := fun T => (g T).1) (g := fun | .tp T => (g T).2 | _ => .leaf) F C W h1 h2 h3 hg⟩
theorem MJ.ctl {f : FuncId} {t : Array Value} {k k1 : List Item} {cs : List Frame} {w : World} (hst : ∀ main kd t' ds cs' w', stepG P main (G ((baseK kd f).at ⟨t', ds⟩ k) cs') w' = .go (G ((baseK kd f).at ⟨t', ds⟩ k1) cs') w')
    (h : MJ P L S V ρ (bare f t) [] k1 cs w) : MJ P L S V ρ (bare f t) [] k cs w := fun hg => by
  obtain ⟨b, m, hm⟩ := h hg
  exact ⟨_, _, Jm.ctl (g := fun _ => m) hst hm⟩
theorem MJ.cond {f : FuncId} {t : Array Value} {c : Operand} {a b : Code} {q : Bool} {k : List Item} {cs : List Frame} {w : World} (hx : okX S c = true) (he : Act.eval ⟨t, []⟩ c = .bool q)
    (h : MJ P L S V ρ (bare f t) [] (.code (if q then a else b) :: k) cs w) : MJ P L S V ρ (bare f t) [] (.code (.cond c a b) :: k) cs w := fun hg => by
  obtain ⟨b, m, hm⟩ := h hg
  exact ⟨_, _, Jm.cond (g := fun _ => m) hx he hm⟩
theorem MJ.op {f : FuncId} {t : Array Value} {ops : Array Oper} {i : Nat} {rest : List Nat} {o : Oper} {k : List Item} {cs : List Frame} {w : World} (v : Tape' → Option Value) (W : Tape' → World) (h1 : ops[i]? = some o) (h2 : Region.wanted o (yielded ops t) = true)
    (h3 : okOp P S o.op = true) (h4 : ∀ T, (execOp (Act.eval ⟨t, []⟩) o).run P (retape w T) = .ok (match v T with | some v => .value v | none => .skip) (W T))
    (h : ∀ T, MJ P L S V ρ (bare f (putT t o.dst ((v T).getD undef))) [] (.inRegion ops rest :: k) cs (W T)) : MJ P L S V ρ (bare f t) [] (.inRegion ops (i :: rest) :: k) cs w := fun _ => by
  obtain ⟨g, hg⟩ := pick2 fun T => (h T).get
  exact ⟨_, _, Jm.op (b1 := fun T => (g T).1) (g := fun | .tp T => (g T).2 | _ => .leaf) v W h1 h2 h3 h4 hg⟩
theorem MJ.draw {f : FuncId} {t : Array Value} {id : Nat} {ops : Array Oper} {k : List Item} {cs : List Frame} {w : World}
    (h : ∀ T : Nat, MJ P L S V ρ (bare f t) [] (.inRegion ops (Region.schedule (P.follows .mixedOrders) ops T) :: k) cs w) : MJ P L S V ρ (bare f t) [] (.code (.region id ops true) :: k) cs w := fun hgl => by
  obtain ⟨g, hg⟩ := pick2 fun T => (h T).get
  exact ⟨_, _, Jm.draw (b1 := fun T => (g T).1) (g := fun | .nm n => (g n).2 | _ => .leaf) fun T => hg T hgl⟩
theorem MJ.enter {post : Value → World → Prop} {σ : Sj} {f : FuncId} {t : Array Value} {ops : Array Oper} {i : Nat} {rest : List Nat} {o : Oper} {k : List Item} {cs : List Frame} {w : World} {h : FuncId} {xs : Array Operand} {fn : Func} {c : Code}
    (h1 : ops[i]? = some o) (h2 : Region.wanted o (yielded ops t) = true) (h3 : xs.all (okX S) = true) (h4 : P.funcs[h]? = some fn) (h5 : fn.body = some c)
    (h6 : ∀ (e : Act) (w' : World) es, (execOp e.eval o).run P w' = .ok (.enter h (xs.map e.eval)) w' ∧ (execOp e.eval o).events P w' es = es)
    (hI : MJ P L S V (.main post σ) (bare h (xs.map (Act.eval ⟨t, []⟩) ++ Array.replicate (fn.ntmps - xs.size) undef)) [] [.code c] ((base f).at ⟨t, []⟩ (.inRegion ops (i :: rest) :: k) :: cs) w) :
    MJ P L S V (.main post σ) (bare f t) [] (.inRegion ops (i :: rest) :: k) cs w := fun _ => by
  obtain ⟨m, hm⟩ := hI.get
  exact ⟨_, _, Jm.enter (g := fun _ => m.2) h1 h2 h3 h4 h5 h6 hm⟩
omit [Payload] in
theorem gl_bareR {f : FuncId} {t : Array Value} {cs : List Frame} {w : World} (hg : GLc P S V (bare f t) [] cs w) : GLc P S V (bareR f t) [] cs w := by
  obtain ⟨r, fr', ct', cs', w', h1, h2, h3, h4⟩ := hg
  have e : ∃ t', RR S r t t' := by
    generalize hq : bare f t = g at h1
    cases h1 with
    | @run f2 t2 t' k2 tt kk =>
      have e2 := congrArg Frame.tmps hq
      simp only [bare, Frame.at, base] at e2
      subst e2
      exact ⟨_, tt⟩
    | ret tt =>
      have e1 := congrArg Frame.mode hq
      simp [bare, Frame.at] at e1
  obtain ⟨t', tt⟩ := e
  exact ⟨r, _, [], cs', w', FrR.ret (k := []) (k' := []) tt, .nil, h3, h4⟩
theorem MJ.toret {post : Value → World → Prop} {σ : Sj} {f : FuncId} {t : Array Value} {k : List Item} {cs : List Frame} {w : World} (hk : k = [] ∨ ∃ k2, k = .code .ret :: k2) (h : MJ P L S V (.main post σ) (bareR f t) [] [] cs w) :
    MJ P L S V (.main post σ) (bare f t) [] k cs w := fun hg => by
  obtain ⟨b, m, hm⟩ := h (gl_bareR hg)
  exact ⟨_, _, Jm.toret (g := fun _ => m) hk hm⟩
theorem MJ.ret {post : Value → World → Prop} {σ : Sj} {f : FuncId} {t : Array Value} {fn : Func} {v : Value} {f2 : FuncId} {t2 : Array Value} {ops : Array Oper} {i : Nat} {rest : List Nat} {o : Oper} {k2 : List Item} {cs : List Frame} {w : World}
    (h1 : P.funcs[f]? = some fn) (h2 : ∀ w0, (results fn t).run P w0 = .ok v w0) (h3 : ops[i]? = some o) (h : MJ P L S V (.main post σ) (bare f2 (putT t2 o.dst v)) [] (.inRegion ops rest :: k2) cs w) :
    MJ P L S V (.main post σ) (bareR f t) [] [] ((base f2).at ⟨t2, []⟩ (.inRegion ops (i :: rest) :: k2) :: cs) w := fun _ => by
  obtain ⟨m, hm⟩ := h.get
  exact ⟨_, _, Jm.ret (g := fun _ => m.2) h1 h2 h3 hm⟩
theorem MJ.fin {post : Value → World → Prop} {wg : Option Nat} {f : FuncId} {t : Array Value} {fn : Func} {v : Value} {w : World} (h1 : P.funcs[f]? = some fn) (h2 : P.inits.idxOf? f = none) (h3 : ∀ w0, (results fn t).run P w0 = .ok v w0) (h4 : post v w) :
    MJ P L S V (.main post ⟨wg, false, none, []⟩) (bareR f t) [] [] [] w := fun _ => ⟨_, .leaf, .fin h1 h2 h3 h4⟩
theorem MJ.wgnew {post : Value → World → Prop} {f : FuncId} {t : Array Value} {ops : Array Oper} {i : Nat} {rest : List Nat} {o : Oper} {k : List Item} {cs : List Frame} {w : World} (h1 : ops[i]? = some o) (h2 : Region.wanted o (yielded ops t) = true)
    (h3 : ∀ (e : Act) (w' : World) es, (execOp e.eval o).run P w' = .ok (.value (.pointer (some ⟨w'.heap.size, 0, none⟩))) (w'.alloc (wgBlock L.tWg 0 0)) ∧ (execOp e.eval o).events P w' es = es)
    (h : MJ P L S V (.main post ⟨some w.heap.size, false, none, []⟩) (bare f (putT t o.dst (.pointer (some ⟨w.heap.size, 0, none⟩)))) [] (.inRegion ops rest :: k) cs (w.alloc (.coro none))) :
    MJ P L S V (.main post ⟨none, false, none, []⟩) (bare f t) [] (.inRegion ops (i :: rest) :: k) cs w := fun _ => by
  obtain ⟨m, hm⟩ := h.get
  exact ⟨_, _, Jm.wgnew (g := fun _ => m.2) h1 h2 h3 hm⟩
theorem MJ.add {post : Value → World → Prop} {wg : Nat} {rows : Option Rw} {l : List Spec} {f : FuncId} {t : Array Value} {ops : Array Oper} {i : Nat} {rest : List Nat} {o : Oper} {k : List Item} {cs : List Frame} {w : World} {x : Operand}
    (h1 : ops[i]? = some o) (h2 : Region.wanted o (yielded ops t) = true) (h3 : okX S x = true) (h4 : Act.eval ⟨t, []⟩ x = .pointer (some ⟨wg, 0, none⟩)) (h5 : l.length < 1000000)
    (h6 : ∀ (e : Act) (w' : World) es, (execOp e.eval o).run P w' = .ok (.enter L.add #[e.eval x, .int .i64 1]) w' ∧ (execOp e.eval o).events P w' es = es)
    (h : MJ P L S V (.main post ⟨some wg, true, rows, l⟩) (bare f (putT t o.dst (.tuple #[]))) [] (.inRegion ops rest :: k) cs w) :
    MJ P L S V (.main post ⟨some wg, false, rows, l⟩) (bare f t) [] (.inRegion ops (i :: rest) :: k) cs w := fun _ => by
  obtain ⟨m, hm⟩ := h.get
  exact ⟨_, _, Jm.add (g := fun _ => m.2) h1 h2 h3 h4 h5 h6 hm⟩
theorem MJ.go {post : Value → World → Prop} {wg : Nat} {rows : Option Rw} {l : List Spec} {spec : Spec} {f : FuncId} {t : Array Value} {ops : Array Oper} {i j : Nat} {rest : List Nat} {o o2 : Oper} {d : Tmp} {k k0 : List Item} {cs : List Frame} {w w1 : World} {h : FuncId} {xs : Array Operand} {fn : Func} {q : Nat} {rw : Rw}
    (h1 : ops[i]? = some o) (h2 : ops[j]? = some o2) (h3 : o.guard = none) (h4 : o2.guard = none) (h5 : o.dst = some d) (h6 : d < t.size) (h7 : xs.all (okX S) = true)
    (h8 : ∀ (e : Act) (w' : World) es, (execOp e.eval o).run P w' = .ok (.value (.func (.func h) #[] (xs.map e.eval))) w' ∧ (execOp e.eval o).events P w' es = es)
    (h9 : ∀ (e : Act) (w' : World) es c, e.eval (.tmp d) = .func (.func h) #[] c → (execOp e.eval o2).run P w' = .ok (.spawn (closure h c)) w' ∧ (execOp e.eval o2).events P w' es = es)
    (h10 : (xs.map (Act.eval ⟨t, []⟩))[0]? = some (.pointer (some ⟨wg, 0, none⟩))) (h11 : P.funcs[h]? = some fn)
    (h12 : ∀ (c : Array Value) p, c.size = xs.size → c[0]? = some p → Leads P q (born P (closure h c)) (G ((baseK .deferred h).at ⟨c ++ Array.replicate (fn.ntmps - xs.size) undef, [dcall L.done #[p]]⟩ k0) [botF P]))
    (h13 : rows = some rw ∧ w1 = w ∨ rows = none ∧ l = [] ∧ Hides w rw w1 ∧ Sees (xs.map (Act.eval ⟨t, []⟩)) w rw) (h14 : l.length < rw.n) (h15 : Moves spec)
    (hw : MJ P L S V (.wk ⟨l.length, w1.heap.size, spec, rw⟩ fun _ => none) (bare h (xs.map (Act.eval ⟨t, []⟩) ++ Array.replicate (fn.ntmps - xs.size) undef)) [] k0 [] (frz w1))
    (hI : MJ P L S V (.main post ⟨some wg, false, some rw, l ++ [spec]⟩) (bare f (putT (putT t (some d) undef) o2.dst undef)) [] (.inRegion ops rest :: k) cs (frz w1)) :
    MJ P L S V (.main post ⟨some wg, true, rows, l⟩) (bare f t) [] (.inRegion ops (i :: j :: rest) :: k) cs w := fun _ => by
  obtain ⟨mk, hk⟩ := hw.get
  obtain ⟨m, hm⟩ := hI.get
  exact ⟨_, _, Jm.go (g := fun _ => m.2) h1 h2 h3 h4 h5 h6 h7 h8 h9 h10 h11 h12 h13 h14 h15 hk hm⟩
theorem MJ.wait {post : Value → World → Prop} {wg : Nat} {rows : Option Rw} {l : List Spec} {f : FuncId} {t : Array Value} {ops : Array Oper} {i : Nat} {rest : List Nat} {o : Oper} {k : List Item} {cs : List Frame} {w : World} {x : Operand}
    (h1 : ops[i]? = some o) (h2 : Region.wanted o (yielded ops t) = true) (h3 : okX S x = true) (h4 : Act.eval ⟨t, []⟩ x = .pointer (some ⟨wg, 0, none⟩)) (h5 : ∀ rw, rows = some rw → l.length = rw.n)
    (h6 : ∀ (e : Act) (w' : World) es, (execOp e.eval o).run P w' = .ok (.enter L.wait #[e.eval x]) w' ∧ (execOp e.eval o).events P w' es = es)
    (h : ∀ w1, (rows = none ∧ l = [] ∧ w1 = w ∨ ∃ rw vs, rows = some rw ∧ Told rw l w w1 vs) → MJ P L S V (.main post ⟨none, false, none, []⟩) (bare f (putT t o.dst (.tuple #[]))) [] (.inRegion ops rest :: k) cs w1) :
    MJ P L S V (.main post ⟨some wg, false, rows, l⟩) (bare f t) [] (.inRegion ops (i :: rest) :: k) cs w := fun _ => by
  have : ∀ w1, ∃ m : Bool × Mt, (rows = none ∧ l = [] ∧ w1 = w ∨ ∃ rw vs, rows = some rw ∧ Told rw l w w1 vs) → GLc P S V (bare f (putT t o.dst (.tuple #[]))) [] cs w1 → Jm P L S V m.1 (.main post ⟨none, false, none, []⟩) m.2 (bare f (putT t o.dst (.tuple #[]))) [] (.inRegion ops rest :: k) cs w1 := fun w1 => by
    by_cases hq : rows = none ∧ l = [] ∧ w1 = w ∨ ∃ rw vs, rows = some rw ∧ Told rw l w w1 vs
    · obtain ⟨m, hm⟩ := (h w1 hq).get
      exact ⟨m, fun _ => hm⟩
    · exact ⟨(true, .leaf), fun q => absurd q hq⟩
  obtain ⟨g, hg⟩ := pick2 this
  exact ⟨_, _, Jm.wait (b1 := fun w1 => (g w1).1) (g := fun | .wv w _ => (g w).2 | _ => .leaf) h1 h2 h3 h4 h5 h6 hg⟩
theorem MJ.put {c : Wc} {u : Bool → Option Value} {z : Bool} {f : FuncId} {t : Array Value} {ops : Array Oper} {i : Nat} {rest : List Nat} {o : Oper} {k : List Item} {w : World} {x y : Operand} {v : Value}
    (h1 : ops[i]? = some o) (h2 : Region.wanted o (yielded ops t) = true) (h3 : okX S x = true) (h4 : okX S y = true) (h5 : Act.eval ⟨t, []⟩ x = .pointer (some ⟨c.rw.b z, c.i, none⟩)) (h6 : Act.eval ⟨t, []⟩ y = v) (h7 : Plnv v ∨ ∃ a n cp, v = .slice a n cp)
    (h8 : ∀ (e : Act) (w' : World) es (a : Addr) v' u', e.eval x = .pointer (some a) → e.eval y = v' → v'.oneCell' = true → w'.cell? a = some u' → w'.frozen? a = false → (execOp e.eval o).run P w' = .ok .skip (w'.setCell a v') ∧ (execOp e.eval o).events P w' es = es.push ⟨.cell a, true, false⟩)
    (h : GLc P S V (bare f t) [] [] w → MJ P L S V (.wk c fun z' => if z' = z then some v else u z') (bare f (putT t o.dst undef)) [] (.inRegion ops rest :: k) [] w) :
    MJ P L S V (.wk c u) (bare f t) [] (.inRegion ops (i :: rest) :: k) [] w := fun hg => by
  have hg2 : GLc P S V (bare f (putT t o.dst undef)) [] [] w := by
    obtain ⟨r, fr', ct', cs', w', g1, g2, g3, g4⟩ := hg
    have e : ∃ t', RR S r t t' := by
      generalize hq : bare f t = g at g1
      cases g1 with
      | @run f2 t2 t' k2 tt kk =>
        have e2 := congrArg Frame.tmps hq
        simp only [bare, Frame.at, base] at e2
        subst e2
        exact ⟨_, tt⟩
      | ret tt =>
        have e1 := congrArg Frame.mode hq
        simp [bare, Frame.at] at e1
    obtain ⟨t', tt⟩ := e
    exact ⟨r, _, [], cs', w', FrR.run (b := Bot.nil) (k := []) (tt.put o.dst VR.undef) (by simp), .nil, g3, g4⟩
  obtain ⟨b, m, hm⟩ := h hg hg2
  exact ⟨_, _, Jm.put (g := fun _ => m) h1 h2 h3 h4 h5 h6 h7 h8 hm⟩
theorem MJ.done {c : Wc} {u : Bool → Option Value} {v1 v2 : Value} {f : FuncId} {t : Array Value} {k : List Item} {w : World} (h1 : u false = some v1) (h2 : u true = some v2) (h3 : c.spec w (.agg #[v1, v2])) (h4 : Nwv c.s (.agg #[v1, v2]))
    (h5 : ∀ (t' : Array Value) (Wg C n j : Nat) (v : Value) (w' : World), WgLive L.tWg Wg w' ∧ Has C (j - 1) v w' →
        ∃ q, Goes P false (RW L.tWg Wg C n 0 (j - 1)) (DWs Wg noP noP C n j) (AtR0 P L.tWg Wg C n 0 j v) q (G ((baseK .deferred f).at ⟨t', [dcall L.done #[.pointer (some ⟨Wg, 0, none⟩)]]⟩ k) [botF P]) w') :
    MJ P L S V (.wk c u) (bare f t) [] k [] w := fun _ => ⟨_, .leaf, .done h1 h2 h3 h4 h5⟩
end

section
variable {P : Program} {L : WgLink} {S V : FuncId → Bool} {ρ : Rj} {k : List Item} {cs : List Frame} {Z : Frame → List Frame → World → Prop}

theorem isz_mj (hm : ∀ fr ct w, Z fr ct w → fr.mode = .run) (hz : ∀ fr ct w, Z fr ct w → MJ P L S V ρ fr ct k cs w) {t : Tr} {fr : Frame} {ct : List Frame} {w : World} (h : IsZ P Z t fr ct w) : MJ P L S V ρ fr ct k cs w := by
  induction h with
  | stop h => exact hz _ _ _ h
  | @node g fr ct w F C W h1 h2 h3 ih =>
    intro hgl
    refine MJ.step F C W h1 (fun hct => ?_) h2 ih hgl
    subst hct
    obtain ⟨r, fr', ct', cs', w', k1, _⟩ := hgl
    have T0 : Tape' := fun _ _ => 0
    obtain ⟨es, hg⟩ := (h2 T0).go (retape w T0).tape (fun _ _ _ => rfl) true []
    cases k1 with
    | @run f t t' k0 tt hk =>
      refine ⟨fun e => ?_, fun k2 e => ?_⟩
      · have e' : k0 = [] := e
        subst e'
        rw [stepG_end] at hg
        simp only [GStep.go.injEq, G, Goroutine.mk.injEq, List.append_nil] at hg
        obtain ⟨⟨e1, e2, _⟩, _⟩ := hg
        have := h3 T0
        rw [← e2] at this
        exact isz_no hm this (by rw [← e1])
      · have e' : k0 = .code .ret :: k2 := e
        subst e'
        rw [stepG_ret'] at hg
        simp only [GStep.go.injEq, G, Goroutine.mk.injEq, List.append_nil] at hg
        obtain ⟨⟨e1, e2, _⟩, _⟩ := hg
        have := h3 T0
        rw [← e2] at this
        exact isz_no hm this (by rw [← e1])
    | ret tt => exact absurd rfl (h1 rfl)

/-- From the walk of a piece. -/
theorem MJ.piece (hP : OkP P S V) {f : FuncId} {t : Array Value} {c : Item} {w : World} (hc : okItem P S V c = true)
    (h : ∀ T (b : Frame) (k1 : List Item) (cs1 : List Frame), ∃ e a' w', (e = Exit.normal ∧ a'.defers = [] ∧ ∀ U, MJ P L S V ρ (bare f a'.tmps) [] k cs (onT w' U)) ∧ Arrives P (lone (b.at ⟨t, []⟩ (c :: k1)) cs1 (retape w T)) b k1 cs1 e a' w') : MJ P L S V ρ (bare f t) [] (c :: k) cs w := by
  intro hgl
  have hgl0 : GLc P S V ((base f).at ⟨t, []⟩ [c]) [] cs w ∧ GL P S V ((base f).at ⟨t, []⟩ [c]) [] w := by
    obtain ⟨r, fr', ct', cs', w', h1, h2, h3, h4⟩ := hgl
    have e : ∃ t', RR S r t t' := by
      generalize hq : bare f t = g at h1
      cases h1 with
      | @run f2 t2 t' k2 tt kk =>
        have e2 := congrArg Frame.tmps hq
        simp only [bare, Frame.at, base] at e2
        subst e2
        exact ⟨_, tt⟩
      | ret tt =>
        have e1 := congrArg Frame.mode hq
        simp [bare, Frame.at] at e1
    obtain ⟨t', tt⟩ := e
    have hk : ∀ i ∈ ([c] : List Item), okItem P S V i = true := fun i hi => by simp at hi; subst hi; exact hc
    exact ⟨⟨r, _, [], cs', w', FrR.run (b := Bot.nil) (k := [c]) tt hk, .nil, h3, h4⟩, r, _, [], w', FrR.run (b := Bot.nil) (k := [c]) tt hk, .nil, h4⟩
  let Z : Frame → List Frame → World → Prop := fun fr ct w => ct = [] ∧ ∃ t, fr = bare f t ∧ ∀ U, MJ P L S V ρ (bare f t) [] k cs (onT w U)
  have hzm : ∀ fr ct w, Z fr ct w → fr.mode = .run := fun fr ct w ⟨_, t, e, _⟩ => by rw [e]; rfl
  have hs : Stp Z := ⟨fun fr ct w T ⟨e1, t, e2, h⟩ => ⟨e1, t, e2, fun U => h U⟩, fun fr ct w hz ch e => by rw [hzm fr ct w hz] at e; cases e⟩
  have hr : RunsZ P S V Z ((base f).at ⟨t, []⟩ [c]) [] w := ⟨hgl0.2, fun T => by
    obtain ⟨e, a', w', ⟨rfl, hd, hK⟩, n, hn⟩ := h T (base f) [] ([] ++ [endC])
    obtain ⟨ts, ds⟩ := a'
    simp only at hd
    subst hd
    exact ⟨n, _, [], w', hn, rfl, ts, rfl, hK⟩⟩
  obtain ⟨tr, ht⟩ := tree_of_runsz hP hs hr
  obtain ⟨b, m, hm⟩ := isz_mj (ρ := ρ) (k := k) (cs := cs) hzm (fun fr ct w ⟨e1, t, e2, hK⟩ => by
    rw [e1, e2]
    have := hK w.tape
    exact this) ht hgl0.1
  exact ⟨_, _, Jm.shift (g := fun _ => m) hc hm⟩
/-- From the walk of a piece of code. -/
theorem MJ.frag (hP : OkP P S V) {f : FuncId} {t : Array Value} {c : Code} {w : World} (hc : okCode P S V c = true)
    (h : ∀ T, c.wp P (fun e a' w' => e = .normal ∧ a'.defers = [] ∧ ∀ U, MJ P L S V ρ (bare f a'.tmps) [] k cs (onT w' U)) ⟨t, []⟩ (retape w T)) : MJ P L S V ρ (bare f t) [] (.code c :: k) cs w :=
  MJ.piece hP (c := .code c) hc fun T => h T
/-- .. of what is left of a region. -/
theorem MJ.fragR (hP : OkP P S V) {f : FuncId} {t : Array Value} {ops : Array Oper} {rest : List Nat} {w : World} (hc : ops.all (okO P S V) = true)
    (h : ∀ T, wpOps P ops (fun e a' w' => e = .normal ∧ a'.defers = [] ∧ ∀ U, MJ P L S V ρ (bare f a'.tmps) [] k cs (onT w' U)) rest ⟨t, []⟩ (retape w T)) : MJ P L S V ρ (bare f t) [] (.inRegion ops rest :: k) cs w :=
  MJ.piece hP (c := .inRegion ops rest) hc fun T => wp_ops _ _ _ (h T)
end
end Go.Proofs.Ytcobehkadhcjiaa

/-
  Slots by name; entries and regions of trees in being, beside sync.WaitGroup.
-/
namespace Go.Proofs.Ytcobehkadhcjiaa
open Go Go.Conc Go.ConcN Go.Conc.Lib Go.RowKit

noncomputable def seqL : Code → Code | .seq a _ => a | c => c
noncomputable def seqR : Code → Code | .seq _ b => b | c => c
noncomputable def blkC : Code → Code | .block _ c => c | c => c
noncomputable def lopC : Code → Code | .loop c => c | c => c
noncomputable def opsC : Code → Array Oper | .region _ o _ => o | _ => #[]
theorem ev_at {t : Array Value} {i : Nat} {v : Value} (h : t[i]? = some v) : Act.eval ⟨t, []⟩ (.tmp i) = v := by
  show t.getD i undef = v
  rw [Array.getD_eq_getD_getElem?, h]
  rfl
theorem putT_size (t : Array Value) (d : Nat) (v : Value) : (putT t (some d) v).size = t.size := by simp [putT, Act.put]

structure Sl (t : Array Value) (n : Nat) (l : List (Nat × Value)) : Prop where
  size : t.size = n
  at_ : ∀ p ∈ l, t[p.1]? = some p.2
def setS (d : Nat) (v : Value) (l : List (Nat × Value)) : List (Nat × Value) := (d, v) :: l.filter fun p => p.1 != d
theorem Sl.get {t : Array Value} {n : Nat} {l : List (Nat × Value)} (h : Sl t n l) {s : Nat} {v : Value} (hm : (s, v) ∈ l) : t[s]? = some v := h.at_ _ hm
theorem Sl.ev {t : Array Value} {n : Nat} {l : List (Nat × Value)} (h : Sl t n l) {s : Nat} {v : Value} (hm : (s, v) ∈ l) : Act.eval ⟨t, []⟩ (.tmp s) = v := ev_at (h.get hm)
theorem Sl.put {t : Array Value} {n d : Nat} {l : List (Nat × Value)} (h : Sl t n l) (hd : d < n) (v : Value) : Sl (putT t (some d) v) n (setS d v l) := by
  refine ⟨by rw [putT_size]; exact h.size, fun p hp => ?_⟩
  rw [put_get (by rw [h.size]; exact hd)]
  unfold setS at hp
  rcases List.mem_cons.1 hp with rfl | hp
  · simp
  · obtain ⟨h1, h2⟩ := List.mem_filter.1 hp
    rw [if_neg (by simpa using h2)]
    exact h.at_ p h1
theorem Sl.sub {t : Array Value} {n : Nat} {l l' : List (Nat × Value)} (h : Sl t n l) (hs : ∀ p ∈ l', p ∈ l) : Sl t n l' := ⟨h.size, fun p hp => h.at_ p (hs p hp)⟩

section
variable [Shift] [Go.ConcR.Payload] {P : Program} {L : WgLink} {S V : FuncId → Bool} {ρ : Rj}
theorem MJ.move {f : FuncId} {t : Array Value} {ops : Array Oper} {i : Nat} {rest : List Nat} {o : Oper} {k : List Item} {cs : List Frame} {w : World} {x : Operand} (ho : ops[i]? = some o) (hop : o.op = .move x ∨ o.op = .assign x) (hg : o.guard = none) (hx : okX S x = true)
    (h : ∀ U, MJ P L S V ρ (bare f (putT t o.dst (Act.eval ⟨t, []⟩ x))) [] (.inRegion ops rest :: k) cs (onT w U)) : MJ P L S V ρ (bare f t) [] (.inRegion ops (i :: rest) :: k) cs w := by
  refine MJ.op (fun _ => some (Act.eval ⟨t, []⟩ x)) (fun T => retape w T) ho (by simp [Region.wanted, hg]) (by rcases hop with e | e <;> rw [e] <;> exact hx) (fun T => ?_) fun T => h _
  unfold execOp
  rcases hop with e | e <;> rw [e] <;> rfl
theorem MJ.val {f : FuncId} {t : Array Value} {ops : Array Oper} {i : Nat} {rest : List Nat} {o : Oper} {k : List Item} {cs : List Frame} {w : World} (v : Value) (ho : ops[i]? = some o) (hg : o.guard = none) (hok : okOp P S o.op = true)
    (hr : ∀ w', (execOp (Act.eval ⟨t, []⟩) o).run P w' = .ok (.value v) w') (h : ∀ U, MJ P L S V ρ (bare f (putT t o.dst v)) [] (.inRegion ops rest :: k) cs (onT w U)) : MJ P L S V ρ (bare f t) [] (.inRegion ops (i :: rest) :: k) cs w :=
  MJ.op (fun _ => some v) (fun T => retape w T) ho (by simp [Region.wanted, hg]) hok (fun T => hr _) fun T => h _
/-- An entry of which it is known that there is an outcome. -/
theorem MJ.opE {f : FuncId} {t : Array Value} {ops : Array Oper} {i : Nat} {rest : List Nat} {o : Oper} {k : List Item} {cs : List Frame} {w : World} (ho : ops[i]? = some o) (hg : o.guard = none) (hok : okOp P S o.op = true)
    (h : ∀ T, ∃ v w1, (execOp (Act.eval ⟨t, []⟩) o).run P (retape w T) = .ok (.value v) w1 ∧ MJ P L S V ρ (bare f (putT t o.dst v)) [] (.inRegion ops rest :: k) cs w1) : MJ P L S V ρ (bare f t) [] (.inRegion ops (i :: rest) :: k) cs w := by
  obtain ⟨v, hv⟩ := Classical.axiomOfChoice h
  obtain ⟨W, hW⟩ := Classical.axiomOfChoice hv
  exact MJ.op (fun T => some (v T)) W ho (by simp [Region.wanted, hg]) hok (fun T => (hW T).1) fun T => (hW T).2
/-- .. that yields nothing, as a store of the first's own. -/
theorem MJ.opS {f : FuncId} {t : Array Value} {ops : Array Oper} {i : Nat} {rest : List Nat} {o : Oper} {k : List Item} {cs : List Frame} {w : World} (ho : ops[i]? = some o) (hg : o.guard = none) (hok : okOp P S o.op = true)
    (h : ∀ T, ∃ w1, (execOp (Act.eval ⟨t, []⟩) o).run P (retape w T) = .ok .skip w1 ∧ MJ P L S V ρ (bare f (putT t o.dst undef)) [] (.inRegion ops rest :: k) cs w1) : MJ P L S V ρ (bare f t) [] (.inRegion ops (i :: rest) :: k) cs w := by
  obtain ⟨W, hW⟩ := Classical.axiomOfChoice h
  exact MJ.op (fun _ => none) W ho (by simp [Region.wanted, hg]) hok (fun T => (hW T).1) fun T => (hW T).2
end

section
variable [Shift] [Go.ConcR.Payload] {P : Program} {L : WgLink} {S V : FuncId → Bool} {ρ : Rj} {f : FuncId} {t : Array Value} {ops : Array Oper} {i : Nat} {rest : List Nat} {k : List Item} {cs : List Frame} {w : World} {n : Nat} {l : List (Nat × Value)}
/-- A move. -/
theorem MJ.mv (hS : Sl t n l) {o : Oper} (s d : Nat) (v : Value) (ho : ops[i]? = some o) (hop : o.op = .move (.tmp s) ∨ o.op = .assign (.tmp s)) (hd : o.dst = some d) (hg : o.guard = none) (hn : d < n) (hm : (s, v) ∈ l)
    (h : ∀ t' U, Sl t' n (setS d v l) → MJ P L S V ρ (bare f t') [] (.inRegion ops rest :: k) cs (onT w U)) : MJ P L S V ρ (bare f t) [] (.inRegion ops (i :: rest) :: k) cs w := by
  refine MJ.move ho hop hg rfl fun U => ?_
  rw [hd, hS.ev hm]
  exact h _ U (hS.put hn v)
/-- A constant. -/
theorem MJ.cst (hS : Sl t n l) {o : Oper} (d : Nat) (v : Value) (ho : ops[i]? = some o) (hop : o.op = .move (.const v) ∨ o.op = .assign (.const v)) (hd : o.dst = some d) (hg : o.guard = none) (hn : d < n) (hx : okX S (.const v) = true)
    (h : ∀ t' U, Sl t' n (setS d v l) → MJ P L S V ρ (bare f t') [] (.inRegion ops rest :: k) cs (onT w U)) : MJ P L S V ρ (bare f t) [] (.inRegion ops (i :: rest) :: k) cs w := by
  refine MJ.move ho hop hg hx fun U => ?_
  rw [hd]
  exact h _ U (hS.put hn v)
/-- An entry that yields a value and leaves the world as it is. -/
theorem MJ.vl (hS : Sl t n l) {o : Oper} (d : Nat) (v : Value) (ho : ops[i]? = some o) (hd : o.dst = some d) (hg : o.guard = none) (hn : d < n) (hok : okOp P S o.op = true)
    (hr : ∀ T, (execOp (Act.eval ⟨t, []⟩) o).run P (retape w T) = .ok (.value v) (retape w T))
    (h : ∀ t' U, Sl t' n (setS d v l) → MJ P L S V ρ (bare f t') [] (.inRegion ops rest :: k) cs (onT w U)) : MJ P L S V ρ (bare f t) [] (.inRegion ops (i :: rest) :: k) cs w := by
  refine MJ.op (fun _ => some v) (fun T => retape w T) ho (by simp [Region.wanted, hg]) hok hr fun T => ?_
  rw [hd]
  exact h _ _ (hS.put hn v)
/-- An entry that yields a value and a world. -/
theorem MJ.ow (hS : Sl t n l) {o : Oper} (d : Nat) (ho : ops[i]? = some o) (hd : o.dst = some d) (hg : o.guard = none) (hn : d < n) (hok : okOp P S o.op = true)
    (hr : ∀ T, ∃ v w1, (execOp (Act.eval ⟨t, []⟩) o).run P (retape w T) = .ok (.value v) w1 ∧ ∀ t', Sl t' n (setS d v l) → MJ P L S V ρ (bare f t') [] (.inRegion ops rest :: k) cs w1) : MJ P L S V ρ (bare f t) [] (.inRegion ops (i :: rest) :: k) cs w := by
  refine MJ.opE ho hg hok fun T => ?_
  obtain ⟨v, w1, h1, h2⟩ := hr T
  refine ⟨v, w1, h1, ?_⟩
  rw [hd]
  exact h2 _ (hS.put hn v)
/-- A region that draws nothing. -/
theorem MJ.reg {id : Nat} {r : List Nat} (hr : List.range ops.size = r) (h : MJ P L S V ρ (bare f t) [] (.inRegion ops r :: k) cs w) : MJ P L S V ρ (bare f t) [] (.code (.region id ops false) :: k) cs w :=
  MJ.ctl (k1 := .inRegion ops r :: k) (fun _ _ _ _ _ _ => by rw [← hr]; exact stepG_region) h
theorem MJ.regE (h : MJ P L S V ρ (bare f t) [] k cs w) : MJ P L S V ρ (bare f t) [] (.inRegion ops [] :: k) cs w := MJ.ctl (k1 := k) (fun _ _ _ _ _ _ => stepG_region_end) h
theorem MJ.seq {a b : Code} (h : MJ P L S V ρ (bare f t) [] (.code a :: .code b :: k) cs w) : MJ P L S V ρ (bare f t) [] (.code (.seq a b) :: k) cs w := MJ.ctl (fun _ _ _ _ _ _ => stepG_seq) h
end

/-! ### Entries -/
theorem run_ix {P : Program} {e : Operand → Value} {w : World} {o : Oper} {x y : Operand} {ty el : TypeId} (ho : o.op = .indexAddr ty x y) (hu : P.underlying ty = some (.slice el)) (hs : (P.info? el).map (·.size) = some 1) (b off n cap i : Nat)
    (h1 : e x = .slice (some ⟨b, off, none⟩) n cap) (h2 : e y = .int .i64 i) (hi : i < n) : (execOp e o).run P w = .ok (.value (.pointer (some ⟨b, off + i, none⟩))) w := by
  have he : P.elem ty = el := by simp [Program.elem, hu]
  subst he
  have hz : (sizeOf (P.elem ty)).run P w = .ok 1 w := by
    cases hi' : P.info? (P.elem ty) with
    | none => rw [hi'] at hs; cases hs
    | some ie =>
      rw [hi'] at hs
      simp only [Option.map_some, Option.some.injEq] at hs
      simp [sizeOf, typeInfo, hi', hs]
  unfold execOp
  simp only [ho, h1, h2, Sem.run_bind]
  rw [run_indexAt_slice (P := P) (h := hu), if_pos ⟨by omega, by omega⟩, hz]
  simp only [Result.andThen_ok, Int.toNat_natCast, Nat.mul_one, Addr.add]
  by_cases i0 : i = 0
  · subst i0; rfl
  · rw [if_neg i0]; rfl
theorem run_len {P : Program} {e : Operand → Value} {w : World} {o : Oper} {x : Operand} {ty el : TypeId} (ho : o.op = .call { callee := .builtin .len, args := #[x], argTypes := #[ty] }) (hu : P.underlying ty = some (.slice el)) (p : Option Addr) (n c : Nat) (h : e x = .slice p n c) :
    (execOp e o).run P w = .ok (.value (goInt n)) w := by
  have he : P.elem ty = el := by simp [Program.elem, hu]
  subst he
  unfold execOp
  rw [ho]
  simp [go_sem, resolve, invoke, builtin, h, run_len_slice (P := P) (h := hu)]
theorem run_lss {P : Program} {e : Operand → Value} {w : World} {o : Oper} {x y : Operand} (ho : o.op = .binOp .lss 3 x y 3) (i j : Int) (h1 : e x = .int .i64 i) (h2 : e y = .int .i64 j) : (execOp e o).run P w = .ok (.value (.bool (decide (i < j)))) w := by
  unfold execOp
  rw [ho]
  simp only [h1, h2]
  simp [go_sem]
theorem run_addi {P : Program} {e : Operand → Value} {w : World} {o : Oper} {x y : Operand} (ho : o.op = .binOp .add 3 x y 3) (i j : Int) (h1 : e x = .int .i64 i) (h2 : e y = .int .i64 j) (hw : IntKind.i64.wrap (i + j) = i + j) : (execOp e o).run P w = .ok (.value (.int .i64 (i + j))) w := by
  unfold execOp
  rw [ho]
  simp only [h1, h2]
  simp [go_sem, hw]
theorem run_muli {P : Program} {e : Operand → Value} {w : World} {o : Oper} {x y : Operand} (ho : o.op = .binOp .mul 3 x y 3) (i j : Int) (h1 : e x = .int .i64 i) (h2 : e y = .int .i64 j) (hw : IntKind.i64.wrap (i * j) = i * j) : (execOp e o).run P w = .ok (.value (.int .i64 (i * j))) w := by
  unfold execOp
  rw [ho]
  simp only [h1, h2]
  simp [go_sem, hw]
theorem run_ld3 {e : Operand → Value} {w : World} {o : Oper} {x : Operand} (ho : o.op = .load 3 x) (a : Addr) (v : Value) (h1 : e x = .pointer (some a)) (h2 : w.cell? a = some v) : (execOp e o).run Try.prog w = .ok (.value v) w := by
  unfold execOp
  simp only [ho, h1]
  simp [go_sem, h2]
theorem run_ld22 {e : Operand → Value} {w : World} {o : Oper} {x : Operand} (ho : o.op = .load 22 x) (a : Addr) (v : Value) (h1 : e x = .pointer (some a)) (h2 : w.cell? a = some v) : (execOp e o).run Try.prog w = .ok (.value v) w := by
  unfold execOp
  simp only [ho, h1]
  simp [go_sem, h2]
theorem run_ld23 {e : Operand → Value} {w : World} {o : Oper} {x : Operand} (ho : o.op = .load 23 x) (a : Addr) (v : Value) (h1 : e x = .pointer (some a)) (h2 : w.cell? a = some v) : (execOp e o).run Try.prog w = .ok (.value v) w := by
  unfold execOp
  simp only [ho, h1]
  simp [go_sem, h2]
theorem run_ld47 {e : Operand → Value} {w : World} {o : Oper} {x : Operand} (ho : o.op = .load 47 x) (a : Addr) (v : Value) (h1 : e x = .pointer (some a)) (h2 : w.cell? a = some v) : (execOp e o).run Try.prog w = .ok (.value v) w := by
  unfold execOp
  simp only [ho, h1]
  simp [go_sem, h2]
theorem run_ext {P : Program} {e : Operand → Value} {w : World} {o : Oper} {x : Operand} {i : Nat} (ho : o.op = .extract x i) (vs : Array Value) (v : Value) (h1 : e x = .tuple vs) (h2 : vs[i]? = some v) : (execOp e o).run P w = .ok (.value v) w := by
  unfold execOp
  rw [ho]
  simp [go_sem, h1, h2]
end Go.Proofs.Ytcobehkadhcjiaa

/-
  A REGION THAT DRAWS ITS ORDER, whatever its entries do; a call in its midst.
-/
namespace Go.Proofs.Ytcobehkadhcjiaa
open Go Go.Conc Go.ConcN Go.Conc.Lib
open Go.ConcR (KK WgAt wgBlock stA smA Payload DC0)
variable [Shift] [Payload]

section
variable {P : Program} {L : WgLink} {S V : FuncId → Bool} {ρ : Rj} {k : List Item} {cs : List Frame}
theorem MJ.unshift {f : FuncId} {t : Array Value} {c : Item} {w : World} (h : MJ P L S V ρ (bare f t) [] (c :: k) cs w) : MJ P L S V ρ ((base f).at ⟨t, []⟩ [c]) [] k cs w := fun hg => by
  have hg2 : GLc P S V (bare f t) [] cs w := by
    obtain ⟨r, fr', ct', cs', w', g1, g2, g3, g4⟩ := hg
    have e : ∃ t', RR S r t t' := by
      generalize hq : (base f).at ⟨t, []⟩ [c] = g at g1
      cases g1 with
      | @run f2 t2 t' k2 tt kk =>
        have e2 := congrArg Frame.tmps hq
        simp only [Frame.at, base] at e2
        subst e2
        exact ⟨_, tt⟩
      | ret tt =>
        have e1 := congrArg Frame.mode hq
        simp [Frame.at, base] at e1
    obtain ⟨t', tt⟩ := e
    exact ⟨r, _, [], cs', w', FrR.run (b := Bot.nil) (k := []) tt (by simp), .nil, g3, g4⟩
  obtain ⟨b, m, hm⟩ := h hg2
  exact ⟨_, _, Jm.unshift (g := fun _ => m) hm⟩

/-- A call that nobody else has to do with, in the midst of a region. -/
theorem MJ.call (hP : OkP P S V) {f : FuncId} {t : Array Value} {ops : Array Oper} {i : Nat} {rest : List Nat} {o : Oper} {w : World} {h : FuncId} {args : Array Value} (hc : ops.all (okO P S V) = true) (ho : ops[i]? = some o) (hw : Region.wanted o (yielded ops t) = true)
    (hr : ∀ w', (execOp (Act.eval ⟨t, []⟩) o).run P w' = .ok (.enter h args) w')
    (hC : ∀ T, Calls P h args (retape w T) fun e w' => ∃ v, e = .returned v ∧ ∀ U, MJ P L S V ρ (bare f (putT t o.dst v)) [] (.inRegion ops rest :: k) cs (onT w' U)) : MJ P L S V ρ (bare f t) [] (.inRegion ops (i :: rest) :: k) cs w := by
  intro hgl
  have hc' : okItem P S V (.inRegion ops (i :: rest)) = true := hc
  have hgl0 : GLc P S V ((base f).at ⟨t, []⟩ [.inRegion ops (i :: rest)]) [] cs w ∧ GL P S V ((base f).at ⟨t, []⟩ [.inRegion ops (i :: rest)]) [] w := by
    obtain ⟨r, fr', ct', cs', w', h1, h2, h3, h4⟩ := hgl
    have e : ∃ t', RR S r t t' := by
      generalize hq : bare f t = g at h1
      cases h1 with
      | @run f2 t2 t' k2 tt kk =>
        have e2 := congrArg Frame.tmps hq
        simp only [bare, Frame.at, base] at e2
        subst e2
        exact ⟨_, tt⟩
      | ret tt =>
        have e1 := congrArg Frame.mode hq
        simp [bare, Frame.at] at e1
    obtain ⟨t', tt⟩ := e
    have hk : ∀ j ∈ ([.inRegion ops (i :: rest)] : List Item), okItem P S V j = true := fun j hj => by simp at hj; subst hj; exact hc'
    exact ⟨⟨r, _, [], cs', w', FrR.run (b := Bot.nil) (k := [.inRegion ops (i :: rest)]) tt hk, .nil, h3, h4⟩, r, _, [], w', FrR.run (b := Bot.nil) (k := [.inRegion ops (i :: rest)]) tt hk, .nil, h4⟩
  let Z : Frame → List Frame → World → Prop := fun fr ct w => ct = [] ∧ ∃ t, fr = (base f).at ⟨t, []⟩ [.inRegion ops rest] ∧ ∀ U, MJ P L S V ρ (bare f t) [] (.inRegion ops rest :: k) cs (onT w U)
  have hzm : ∀ fr ct w, Z fr ct w → fr.mode = .run := fun fr ct w ⟨_, t, e, _⟩ => by rw [e]; rfl
  have hs : Stp Z := ⟨fun fr ct w T ⟨e1, t, e2, h⟩ => ⟨e1, t, e2, fun U => h U⟩, fun fr ct w hz ch e => by rw [hzm fr ct w hz] at e; cases e⟩
  have hr2 : RunsZ P S V Z ((base f).at ⟨t, []⟩ [.inRegion ops (i :: rest)]) [] w := ⟨hgl0.2, fun T => by
    obtain ⟨e, w', fr, ⟨v, rfl, hK⟩, hsteps, _, hleave⟩ := hC T ((base f).at ⟨t, []⟩ [.inRegion ops (i :: rest)] :: ([] ++ [endC]))
    have hg := stepG_op (P := P) (b := base f) (a := ⟨t, []⟩) (k := []) (cs := [] ++ [endC]) (w := retape w T) (rest := rest) ho hw
    have henter : _root_.Go.step P (lone ((base f).at ⟨t, []⟩ [.inRegion ops (i :: rest)]) ([] ++ [endC]) (retape w T)) = .next (lone (Frame.enter P h args .normal) ((base f).at ⟨t, []⟩ [.inRegion ops (i :: rest)] :: ([] ++ [endC])) (retape w T)) :=
      step_lone_go (by rw [hg]; simp [stepG.apply, hr, Frame.at])
    have hst : Steps P (lone ((base f).at ⟨t, []⟩ [.inRegion ops (i :: rest)]) ([] ++ [endC]) (retape w T)) (lone ((base f).at ⟨putT t o.dst v, []⟩ [.inRegion ops rest]) ([] ++ [endC]) w') := by
      refine .head henter (Steps.trans hsteps (.one ?_))
      have := step_leave_returned (P := P) (c := (base f).at ⟨t, []⟩ [.inRegion ops (i :: rest)]) (cs := [] ++ [endC]) hleave
      rw [this]
      have e1 : ((base f).at ⟨t, []⟩ [.inRegion ops (i :: rest)]).finish v = (base f).at ⟨putT t o.dst v, []⟩ [.inRegion ops rest] := by
        rw [Frame.finish_at, ho]
        exact put_bare (base f) t _ _ _
      rw [e1]
    obtain ⟨n, hn⟩ := hst
    exact ⟨n, _, [], w', hn, rfl, _, rfl, hK⟩⟩
  obtain ⟨tr, ht⟩ := tree_of_runsz hP hs hr2
  obtain ⟨b, m, hm⟩ := isz_mj (ρ := ρ) (k := k) (cs := cs) hzm (fun fr ct w ⟨e1, t, e2, hK⟩ => by
    rw [e1, e2]
    exact MJ.unshift (hK w.tape)) ht hgl0.1
  exact ⟨_, _, Jm.shift (g := fun _ => m) hc' hm⟩

/-- A region that draws its order: an invariant, entry by entry, in whichever order; one entry comes last. -/
theorem MJ.draw_all (hm : P.follows .mixedOrders = true) {id n : Nat} {ops : Array Oper} {f : FuncId} {t : Array Value} {w : World} (hz : ops.size = n + 1) (hs : Region.sinkB .any ops n = true)
    (hd : ∀ i o, ops[i]? = some o → ∀ e ∈ o.after, Region.binds .any e = true → e.on < i) (J : Array Bool → Array Value → World → Rj → Prop) (hJ : J (Array.replicate (n + 1) false) t w ρ)
    (hstep : ∀ i, i < n → ∀ (l : Array Bool) t' w' ρ' rest, J l t' w' ρ' → l.size = n + 1 → l.getD i true = false → (∀ j, Region.waitsFor .any ops i j = true → l.getD j false = true) →
      (∀ t'' w'' ρ'', J (l.setIfInBounds i true) t'' w'' ρ'' → MJ P L S V ρ'' (bare f t'') [] (.inRegion ops rest :: k) cs w'') → MJ P L S V ρ' (bare f t') [] (.inRegion ops (i :: rest) :: k) cs w')
    (hgo : ∀ (l : Array Bool) t' w' ρ', J l t' w' ρ' → (∀ j, j < n → l.getD j false = true) → MJ P L S V ρ' (bare f t') [] (.inRegion ops [n] :: k) cs w') : MJ P L S V ρ (bare f t) [] (.code (.region id ops true) :: k) cs w := by
  refine MJ.draw fun T => ?_
  have key : ∀ fuel u l (t' : Array Value) w' ρ', Up .any ops n l → leftN n l ≤ fuel → J l t' w' ρ' → MJ P L S V ρ' (bare f t') [] (.inRegion ops (Region.linearise.go .any ops fuel u l []) :: k) cs w' := by
    intro fuel
    induction fuel with
    | zero =>
      intro u listed t' w' ρ' h1 h2
      have h6 := ConcN.le_sumTo (f := fun a => if listed.getD a true then 0 else 1) (i := n) (j := n + 1) (by omega)
      have h7 : (if listed.getD n true then 0 else 1) = 1 := by rw [h1.last]; rfl
      have h8 : leftN n listed = ConcN.sumTo (n + 1) fun a => if listed.getD a true then 0 else 1 := rfl
      rw [← h8] at h6
      rw [h7] at h6
      omega
    | succ fuel ih =>
      intro u listed t' w' ρ' h1 h2 h3
      rw [go_cons]
      have hne := h1.any hz hd
      cases hi : (Region.ready .any ops listed)[u % (Region.ready .any ops listed).length]? with
      | none =>
        have hlt : u % (Region.ready .any ops listed).length < (Region.ready .any ops listed).length := Nat.mod_lt _ (List.length_pos_iff.2 hne)
        rw [List.getElem?_eq_none_iff] at hi
        omega
      | some i =>
        have hmem := List.mem_of_getElem? hi
        simp only []
        by_cases e : i = n
        · subst e
          rw [go_nil _ _ _ (h1.done hz hs hmem)]
          exact hgo listed t' w' ρ' h3 fun j hj => h1.sink hs hmem i j (by omega) hj
        · obtain ⟨hl, oi, hoi, hall⟩ := mem_ready.1 hmem
          have hin : i < n := by have := (Array.getElem?_eq_some_iff.1 hoi).1; omega
          have dep : ∀ j, Region.waitsFor .any ops i j = true → listed.getD j false = true := fun j hwj => by
            obtain ⟨oj, r1, ed, r2, r3, rfl⟩ := Region.waitsFor_spec hwj
            obtain rfl : oi = oj := Option.some.inj (hoi.symm.trans r1)
            exact hall ed r2 r3
          exact hstep i hin listed t' w' ρ' _ h3 h1.size hl dep fun t'' w'' ρ'' hJ' => ih _ _ _ _ _ (h1.set hmem e) (by have := leftN_set h1.size hl; omega) hJ'
  have e0 : Region.schedule (P.follows .mixedOrders) ops T = Region.linearise.go .any ops ops.size T (Array.replicate ops.size false) [] := by
    simp only [Region.schedule, hm, Bool.true_or, if_true]
    rfl
  rw [e0]
  refine key ops.size T (Array.replicate ops.size false) t w ρ ⟨by simp [hz], fun j oj hj hl => ?_, by simp [hz]⟩ ?_ (by rw [hz]; exact hJ)
  · have hjn := (Array.getElem?_eq_some_iff.1 hj).1
    simp [hjn] at hl
  · have : ConcN.sumTo (n + 1) (fun a => if (Array.replicate ops.size false).getD a true then 0 else 1) ≤ 1 * (n + 1) := ConcN.sumTo_le fun i _ => by split <;> omega
    simp only [leftN]
    omega
end
end Go.Proofs.Ytcobehkadhcjiaa

/-
  A worker's end (Done, deferred) and its beginning.
-/
namespace Go.Proofs.Ytcobehkadhcjiaa
open Go Go.Conc Go.ConcN Go.ConcN.Gen Go.RowKit Go.Conc.Lib Go.ConcR.Gen
open Go.ConcR (KK wgBlock WgAt stA smA rd wr mk Payload Aside2 DC0)

theorem leave_fn {P : Program} {f : FuncId} {fn : Func} {t : Array Value} (hf : P.funcs[f]? = some fn) (hr : fn.results = #[]) : QuitsD P 2 0 (G { (baseK .deferred f).at ⟨t, []⟩ [] with mode := .returning } [botF P]) := by
  refine QuitsD.ctl (g' := G (botF P) []) rfl (fun w => ?_) ?_
  · have h1 := results_none hr t P w
    have h2 := events_results_none (P := P) (w := w) hr t #[]
    simp [G, stepG, unwind, doReturn, Frame.at, baseK, base, hf, h1, h2, botF, goexitEntry, seen_none, GStep.after]
  · refine QuitsD.ctl (g' := { G (botF P) [] with status := .finished }) rfl (fun w => ?_) ⟨rfl, rfl⟩
    have hn : P.funcs[P.funcs.size]? = none := by simp
    have hc : Frame.catches P (botF P) = false := by
      unfold Frame.catches
      have h2 : (botF P).todo = [] := rfl
      have h3 : P.funcs[(botF P).fn]? = none := hn
      rw [h2, h3]
    simp only [botF, goexitEntry] at hc
    simp [G, stepG, unwind, botF, goexitEntry]
    exact hc

variable [Payload]
theorem done_goes {P : Program} {L : WgLink} (H : WgLib P L) {f : FuncId} {fn : Func} (hf : P.funcs[f]? = some fn) (hr : fn.results = #[]) (t : Array Value) (Wg C n j : Nat) (v : Value) (w : World) (hK : WgLive L.tWg Wg w ∧ Has C (j - 1) v w) :
    ∃ q, Goes P false (RW L.tWg Wg C n 0 (j - 1)) (DWs Wg noP noP C n j) (AtR0 P L.tWg Wg C n 0 j v) q (G ((baseK .deferred f).at ⟨t, [dcall L.done #[.pointer (some ⟨Wg, 0, none⟩)]]⟩ []) [botF P]) w := by
  refine ⟨25, ?_⟩
  u_c stepG_end kn_rely hK
  u_in kn_rely hK
  rw [stepG_unwind_enter rfl H.f_done (nm_done L) rfl]
  simp only [goes_go]
  refine ⟨by u_nil, ?_⟩
  exact doneN H rfl (leave_fn hf hr) _ hK
end Go.Proofs.Ytcobehkadhcjiaa

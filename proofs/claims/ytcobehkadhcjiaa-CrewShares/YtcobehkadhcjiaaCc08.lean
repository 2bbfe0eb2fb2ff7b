/-
  Goroutines among others: part 8 of what the law's own text rests on.
-/
import Derived.Test.YtcobehkadhcjiaaCc07
/-
  WHAT A STEP ALONE COMES TO: it goes on, it panics, or it is at its end; and of the tape what it draws alone matters.
-/
namespace Go.Proofs.Ytcobehkadhcjiaa
open Go Go.Conc
variable [Shift]

section
variable {P : Program} {S V : FuncId → Bool} {r : BR}

omit [Shift] in
theorem mild_of {α : Type} {s : Sem α} (h : Tm P s) (n : Never P s) (w : World) : ∃ e w1, s.run P w = .halt e w1 ∧ Mild e := by
  have := h w
  cases hs : s.run P w with
  | ok a w1 => exact absurd hs (n w a w1)
  | halt e w1 => rw [hs] at this; exact ⟨e, w1, rfl, this⟩
omit [Shift] in
theorem tm_never {α : Type} {s : Sem α} (h : ∀ w : World, ∃ e w1, s.run P w = .halt e w1 ∧ Mild e) : Tm P s := tm_of fun w => .inr (h w)
omit [Shift] in
theorem tm_panic (v : Value) : Tm P (Instr.panic v) := by
  unfold Instr.panic
  split
  · exact tm_goPanic _
  · refine tm_never fun w => ?_
    unfold Instr.panicnil
    have last : ∀ (n : Int) (w : World), ∃ e w1, (if (n == 1) = true then (goPanic .nilIface : Sem Value) else runtimePanic .panicNil).run P w = .halt e w1 ∧ Mild e := fun n w => by
      split
      · exact ⟨_, _, rfl, trivial⟩
      · exact mild_of (tm_runtimePanic _) (nv_runtimePanic _) w
    have rs : (sys .env).run P w = .ok (w.sys .env).1 (w.sys .env).2 := rfl
    rw [Sem.run_bind, Sem.run_bind, rs, Result.andThen_ok]
    generalize (w.sys .env).2 = w2
    cases (w.sys .env).1 with
    | strings env =>
      dsimp only
      rw [Sem.run_bind, run_program, Result.andThen_ok, Sem.run_pure, Result.andThen_ok]
      exact last _ _
    | _ => exact ⟨_, _, rfl, trivial⟩
  · exact tm_stuck _

omit [Shift] in
theorem tm_stuckB {α β : Type} (m : String) (f : α → Sem β) : Tm P ((stuck m : Sem α) >>= f) := tm_of fun _ => .inr ⟨_, _, rfl, trivial⟩
omit [Shift] in
theorem tm_v {s : Sem Value} (h : Tm P s) : Tm P (do pure (Next.value (← s)) : Sem Next) := tm_bind h fun _ => tm_pure _
omit [Shift] in
theorem tm_u {s : Sem Unit} (h : Tm P s) : Tm P (do s; pure Next.skip : Sem Next) := tm_bind h fun _ => tm_pure _
omit [Shift] in
theorem tm_builtin {b : Builtin} {ts : Array TypeId} (h : okBuiltin P S b ts = true) (ty : TypeId) (cs : Array Bool) (a : Array Value) : Tm P (builtin b ts ty cs a) := by
  cases b <;> first | (cases h; done) | skip
  all_goals unfold builtin
  · by_cases hi : ∃ xt kk, ts[1]? = some xt ∧ P.underlying xt = some (.int kk)
    · obtain ⟨xt, kk, h1, h2⟩ := hi
      exact tm_v (tm_append_zeros h1 h2 ty a)
    · exact tm_v (tm_append (fun t k ht e => hi ⟨t, k, ht, e⟩) ty a)
  all_goals first
    | exact tm_v (tm_len _ ty a)
    | exact tm_v (tm_cap _ ty a)
    | exact tm_v (tm_copy _ ty a)
    | exact tm_v (tm_min _ ty a)
omit [Shift] in
theorem tm_callFunc (hS : OkS P S) {f : FuncId} (hf : S f = true) (a : Array Value) : Tm P (callFunc f a) := by
  obtain ⟨fn, h1, h2, h3⟩ := hS f hf
  unfold callFunc
  refine tm_of fun w => .inl ⟨.enter f a, w, ?_, .refl w, fun T _ => ?_⟩ <;> rw [Sem.run_bind, run_program, Result.andThen_ok, h1] <;> dsimp only <;> rw [h2, h3] <;> rfl
theorem tm_call (hS : OkS P S) {c : Call} (h : okCallee P S c = true) (t : TypeId) {e e' : Operand → Value} (he : ER S r e e') : Tm P (do let d ← resolve e c t; invoke d.target d.args : Sem Next) := by
  simp only [okCallee, Bool.and_eq_true] at h
  obtain ⟨h1, h2⟩ := h
  unfold resolve
  cases hc : c.callee with
  | builtin b =>
    rw [hc] at h2
    exact tm_builtin h2 t _ _
  | invoke r m => rw [hc] at h2; cases h2
  | value f =>
    rw [hc] at h2
    have hf := he f h2
    dsimp only
    generalize e f = v at hf
    generalize e' f = v' at hf
    unfold Deferred.ofValue
    cases hf with
    | @func g cs cs' hg es hcs => exact tm_callFunc hS hg _
    | nilFunc => exact tm_runtimePanic (α := Next) .nilDeref
    | _ => exact tm_stuckB _ _

theorem tm_exec (hS : OkS P S) {o : Oper} (h : okOp P S o.op = true) {e e' : Operand → Value} (he : ER S r e e') : Tm P (execOp e o) := by
  unfold execOp
  cases ho : o.op <;> rw [ho] at h <;> simp only [okOp, Bool.and_eq_true] at h <;> first | (cases h; done) | skip
  all_goals dsimp only
  case move => exact tm_pure _
  case pick => exact tm_bind (tm_asBool _) fun _ => tm_pure _
  case alloc => exact tm_v (tm_alloc _ _ _)
  case box => exact tm_v (tm_box _ _)
  case build => exact tm_v (tm_build _ _)
  case buildSlice => exact tm_v (tm_buildSlice _ _ _)
  case load => exact tm_v (tm_loadAt _ _)
  case store => exact tm_u (tm_storeAt _ _ _)
  case unOp => exact tm_v (tm_unary _ _)
  case makeInterface => exact tm_v (tm_makeInterface _ _)
  case makeFunc => exact tm_v (tm_makeFunc _ _ _)
  case makeSlice => exact tm_v (tm_makeSlice _ _ _)
  case slice => exact tm_v (tm_sliceAt _ _ _ _ _)
  case fieldAddr => exact tm_v (tm_fieldAt _ _ _)
  case indexAddr => exact tm_v (tm_indexAt _ _ _)
  case extract => exact tm_v (tm_extract _ _)
  case call => exact tm_call hS h _ he
  case panic => exact tm_v (tm_panic _)
  case assign => exact tm_pure _
  case binOp =>
    rename_i op t x y ty
    have hv := he _ h.1.2
    exact tm_v (tm_bind (tm_eqGuard _ _ _ _ _ _) fun _ => tm_binOp _ _ (fun k a b e => by rw [e] at hv; cases hv) _)
  case convert =>
    rename_i a b x
    refine tm_v ?_
    unfold convert
    refine tm_bind' (tm_underlying a) fun d hd => tm_bind' (tm_underlying b) fun e2 he2 => ?_
    have e1 : P.underlying a = some d := by
      obtain ⟨w, w1, hd⟩ := hd
      obtain ⟨rfl, _⟩ := hf_underlying (P := P) a w d w1 hd
      exact underlying_of ⟨_, hd⟩
    have e3 : P.underlying b = some e2 := by
      obtain ⟨w, w1, hd⟩ := he2
      obtain ⟨rfl, _⟩ := hf_underlying (P := P) b w e2 w1 hd
      exact underlying_of ⟨_, hd⟩
    have h1 := h.1
    unfold okConv at h1
    rw [e1, e3] at h1
    cases d <;> first | (simp at h1; done) | skip
    cases e2 <;> first | (simp at h1; done) | skip
    have hv := he x h.2
    generalize e x = v at hv
    generalize e' x = v' at hv
    cases hv <;> first
      | exact tm_intToInt _ _
      | exact tm_unsupported _
      | exact tm_stuck _
end
end Go.Proofs.Ytcobehkadhcjiaa

/-
  WHAT A STEP ALONE COMES TO: it goes on, it panics, or it is at its end.
-/
namespace Go.Proofs.Ytcobehkadhcjiaa
open Go Go.Conc
variable [Shift]

section
variable {P : Program} {S V : FuncId → Bool} {r : BR}

/-- It goes on, whoever called, whoever it is; and of the tape what it draws alone matters. -/
structure Step1 (P : Program) (fr : Frame) (cs : List Frame) (w : World) (fr1 : Frame) (cs1 : List Frame) (w1 : World) : Prop where
  drawn : Drawn w w1
  calm : ∀ ch, fr1.mode ≠ .panicking ch
  go : ∀ T, Agree T w.tape w.drawn w1.drawn → ∀ main bs, ∃ es, stepG P main (G fr (cs ++ bs)) (onT w T) = .go (G fr1 (cs1 ++ bs)) (onT w1 T) es
def Pan1 (P : Program) (fr : Frame) (cs : List Frame) (w : World) : Prop := fr.mode = .run ∧ ∃ ch w1, ∀ main bs, ∃ es, stepG P main (G fr (cs ++ bs)) w = .go (G { fr with mode := .panicking ch } (cs ++ bs)) w1 es
def End1 (P : Program) (fr : Frame) (cs : List Frame) (w : World) : Prop := ∀ main bs, ∃ o w1 es, stepG P main (G fr (cs ++ bs)) w = .ended o w1 es
def Kinds (P : Program) (fr : Frame) (cs : List Frame) (w : World) : Prop := (∃ fr1 cs1 w1, Step1 P fr cs w fr1 cs1 w1) ∨ Pan1 P fr cs w ∨ End1 P fr cs w

omit [Shift] in
theorem onT_self (w : World) : onT w w.tape = w := rfl
omit [Shift] in
theorem kinds_ctl {fr fr1 : Frame} {cs : List Frame} {w : World} (hm : ∀ ch, fr1.mode ≠ .panicking ch) (h : ∀ main cs w, stepG P main (G fr cs) w = .go (G fr1 cs) w) : Kinds P fr cs w :=
  .inl ⟨fr1, cs, w, .refl w, hm, fun _ _ main bs => ⟨_, h main (cs ++ bs) _⟩⟩
omit [Shift] in
theorem kinds_end {fr : Frame} {cs : List Frame} {w : World} (h : ∀ main cs, ∃ o, stepG P main (G fr cs) w = .ended o w) : Kinds P fr cs w :=
  .inr (.inr fun main bs => let ⟨o, e⟩ := h main (cs ++ bs); ⟨o, w, _, e⟩)

/-- The right one of a pair, with a tape in step. -/
theorem hr_step {w w' : World} (h : HR0 S r w w') : ∃ w2 : World, HR S r w w2 :=
  ⟨retape w' fun n q => w.tape (w.drawn + n) q, ⟨⟨h.fn, h.inj, h.obj, h.low⟩, fun n q => by simp only [retape]; rw [if_neg (by omega), Nat.add_sub_cancel_left]⟩⟩

omit [Shift] in
theorem calm_run {f : FuncId} {a : Act} {k : List Item} : ∀ ch, ((base f).at a k).mode ≠ .panicking ch := fun ch => by simp [base, Frame.at]

theorem kinds_oper (hP : OkP P S V) {f : FuncId} {t : Array Value} {k : List Item} {cs : List Frame} {w : World} {ops : Array Oper} {i : Nat} {rest : List Nat} {o : Oper}
    (ho : ops[i]? = some o) (hwt : Region.wanted o (yielded ops t) = true) (tm : Tm P (execOp (Act.eval ⟨t, []⟩) o))
    (hn : ∀ n w2, (execOp (Act.eval ⟨t, []⟩) o).run P w = .ok n w2 → (∃ v, n = .value v) ∨ n = .skip ∨ ∃ g a, n = .enter g a ∧ S g = true) :
    Kinds P ((base f).at ⟨t, []⟩ (.inRegion ops (i :: rest) :: k)) cs w := by
  have hb : (base f).kind ≠ .early := by simp [base]
  have t1 := tm w
  cases hr : (execOp (Act.eval ⟨t, []⟩) o).run P w with
  | ok n w2 =>
    rw [hr] at t1
    obtain ⟨d1, l1⟩ := t1
    rcases hn n w2 hr with ⟨v, rfl⟩ | rfl | ⟨g, a, rfl, hS⟩
    · exact .inl ⟨_, cs, w2, d1, calm_run, fun T hT main bs => ⟨_, stepG_value ho hwt hb (l1 T hT)⟩⟩
    · exact .inl ⟨_, cs, w2, d1, calm_run, fun T hT main bs => ⟨_, stepG_none ho hwt hb (l1 T hT)⟩⟩
    · obtain ⟨fn, c, f1, f2, f3, f4⟩ := hP.funcs g hS
      exact .inl ⟨Frame.enter P g a .normal, _ :: cs, w2, d1, by rw [enter_at a f1 f3]; exact calm_run, fun T hT main bs => ⟨_, stepG_enter ho hwt hb (l1 T hT)⟩⟩
  | halt e w2 =>
    rw [hr] at t1
    have hx : ∀ (es' : Array Event) (o : Outcome) (w3 : World) (es3 : Array Event), GStep.after es' (.ended o w3 es3) = .ended o w3 (es' ++ es3) := fun _ _ _ _ => rfl
    have ha : ∀ (es' : Array Event) (g : Goroutine) (w3 : World) (es3 : Array Event), GStep.after es' (.go g w3 es3) = .go g w3 (es' ++ es3) := fun _ _ _ _ => rfl
    cases e with
    | panic v =>
      refine .inr (.inl ⟨rfl, [{ v, recovered := false }], w2, fun main bs => ?_⟩)
      rw [stepG_oper ho hwt]
      unfold stepG.apply
      simp only [Sem.runT_eq, if_true, hr, ha]
      exact ⟨_, rfl⟩
    | unsupported u =>
      refine .inr (.inr fun main bs => ?_)
      rw [stepG_oper ho hwt]
      unfold stepG.apply
      simp only [Sem.runT_eq, if_true, hr]
      cases u with
      | initOrder g =>
        simp only [early, hP.ahead, hP.steps, Bool.not_true, Bool.false_eq_true, if_false, hx]
        exact ⟨_, _, _, rfl⟩
      | _ =>
        simp only [hx]
        exact ⟨_, _, _, rfl⟩
    | stuck m =>
      refine .inr (.inr fun main bs => ?_)
      rw [stepG_oper ho hwt]
      unfold stepG.apply
      simp only [Sem.runT_eq, if_true, hr, hx]
      exact ⟨_, _, _, rfl⟩
    | _ => exact (t1 : False).elim

omit [Shift] in
theorem tm_results (fn : Func) (t : Array Value) : Tm P (results fn t) := by
  unfold results
  refine tm_bind (tm_mapMA (fun x => ?_) _) fun _ => tm_pure _
  cases x with
  | tmp k => exact tm_pure _
  | cell a ty => exact tm_bind (tm_asAddr _) fun _ => tm_loadVar _ _

theorem kinds_run (hP : OkP P S V) {f : FuncId} {t t' : Array Value} {k : List Item} {cs : List Frame} {w w' : World} (ht : RR S r t t') (hk : ∀ i ∈ k, okItem P S V i = true) (hw : HR0 S r w w') : Kinds P ((base f).at ⟨t, []⟩ k) cs w := by
  cases k with
  | nil => exact kinds_ctl (fun ch => by simp) fun _ _ _ => stepG_end
  | cons x k =>
    have hx := hk x (by simp)
    cases x with
    | inBlock id => exact kinds_ctl calm_run fun _ _ _ => stepG_inBlock
    | inLoop c => exact kinds_ctl calm_run fun _ _ _ => stepG_inLoop
    | inRegion ops l =>
      cases l with
      | nil => exact kinds_ctl calm_run fun _ _ _ => stepG_region_end
      | cons i rest =>
        cases ho : ops[i]? with
        | none =>
          have key : ∀ (mn : Bool) (cs : List Frame) (w : World), stepG P mn (G ((base f).at ⟨t, []⟩ (.inRegion ops (i :: rest) :: k)) cs) w = .go (G ((base f).at ⟨t, []⟩ (.inRegion ops rest :: k)) cs) w := fun mn cs w => by
            have := Frame.finish_at (base f) ⟨t, []⟩ ops i rest k undef
            rw [ho] at this
            simp only [Option.bind_none, Act.put] at this
            rw [← this]
            simp [G, stepG, stepG.exec, Frame.at, ho]
          exact kinds_ctl calm_run key
        | some o =>
          by_cases hwt : Region.wanted o (yielded ops t) = true
          · have hop : okO P S V o = true := Array.all_eq_true_iff_forall_mem.1 hx o (Array.mem_of_getElem? ho)
            by_cases hov : okOv S V o.op = true
            · obtain ⟨fv, args, ps, rs, hargs, hex⟩ := exec_ov hP hov
              have hrun : ∀ w, (execOp (Act.eval ⟨t, []⟩) o).run P w = (do let v ← Extern.SlicesOverlaps.overlaps ps rs (args.map (Act.eval ⟨t, []⟩)); pure (Next.value v) : Sem Next).run P w := fun w => by
                rw [(hex ⟨t, []⟩ w).1, Sem.run_bind]
                cases (Extern.SlicesOverlaps.overlaps ps rs (args.map (Act.eval ⟨t, []⟩))).run P w <;> rfl
              have tm : Tm P (execOp (Act.eval ⟨t, []⟩) o) := fun w => by
                have h1 := tm_v (tm_overlaps (P := P) ps rs (args.map (Act.eval ⟨t, []⟩))) w
                rw [hrun w]
                cases hc : (do let v ← Extern.SlicesOverlaps.overlaps ps rs (args.map (Act.eval ⟨t, []⟩)); pure (Next.value v) : Sem Next).run P w with
                | ok n w2 =>
                  rw [hc] at h1
                  exact ⟨h1.1, fun T hT => by rw [hrun]; exact h1.2 T hT⟩
                | halt e w2 => rw [hc] at h1; exact h1
              refine kinds_oper hP ho hwt tm fun n w2 hr => .inl ?_
              rw [(hex ⟨t, []⟩ w).1] at hr
              cases hq : (Extern.SlicesOverlaps.overlaps ps rs (args.map (Act.eval ⟨t, []⟩))).run P w with
              | ok v w3 => rw [hq] at hr; cases hr; exact ⟨v, rfl⟩
              | halt e w3 => rw [hq] at hr; cases hr
            · have hop' : okOp P S o.op = true := by
                unfold okO at hop
                rw [Bool.or_eq_true] at hop
                exact hop.resolve_right hov
              refine kinds_oper hP ho hwt (tm_exec hP.okS hop' (ER.of (a := ⟨t, []⟩) (a' := ⟨t', []⟩) ht)) fun n w2 hr => ?_
              obtain ⟨w3, h3⟩ := hr_step hw
              obtain ⟨r1, n', w2', l, h1, h2, hn, _⟩ := sr_exec hP.globals hP.bog hP.okS hop' (ER.of (a := ⟨t, []⟩) (a' := ⟨t', []⟩) ht) w w3 #[] h3 n w2 hr
              cases hn with
              | value _ => exact .inl ⟨_, rfl⟩
              | skip => exact .inr (.inl rfl)
              | enter hS _ => exact .inr (.inr ⟨_, _, rfl, hS⟩)
          · have key : ∀ (mn : Bool) (cs : List Frame) (w : World), stepG P mn (G ((base f).at ⟨t, []⟩ (.inRegion ops (i :: rest) :: k)) cs) w = .go (G ((base f).at (Act.put ⟨t, []⟩ o.dst undef) (.inRegion ops rest :: k)) cs) w := fun mn cs w => by
              have := Frame.finish_at (base f) ⟨t, []⟩ ops i rest k undef
              rw [ho] at this
              simp only [Option.bind_some] at this
              rw [← this]
              simp [G, stepG, stepG.exec, Frame.at, ho, hwt]
            exact kinds_ctl calm_run key
    | code c =>
      have hc' : okCode P S V c = true := hx
      cases c with
      | skip => exact kinds_ctl calm_run fun _ _ _ => stepG_skip
      | label l => exact kinds_ctl calm_run fun _ _ _ => stepG_label
      | seq a b => exact kinds_ctl calm_run fun _ _ _ => stepG_seq
      | block id a => exact kinds_ctl calm_run fun _ _ _ => stepG_block
      | loop a => exact kinds_ctl calm_run fun _ _ _ => stepG_loop
      | ret => exact kinds_ctl (fun ch => by simp) fun _ _ _ => stepG_ret'
      | refuse m => exact kinds_end fun main cs => ⟨_, by simp [G, stepG, stepG.exec, Frame.at]; rfl⟩
      | exit id =>
        cases he : exitTo id k with
        | some k1 => exact kinds_ctl calm_run fun _ _ _ => stepG_exit he
        | none => exact kinds_end fun main cs => ⟨_, by simp [G, stepG, stepG.exec, Frame.at, he]; rfl⟩
      | cond c a b =>
        simp only [okCode, Bool.and_eq_true] at hc'
        have hv := ER.of (a := ⟨t, []⟩) (a' := ⟨t', []⟩) ht c hc'.1.1
        generalize he : Act.eval ⟨t, []⟩ c = v at hv
        generalize Act.eval ⟨t', []⟩ c = v' at hv
        have no : (∀ b, v ≠ .bool b) → Kinds P ((base f).at ⟨t, []⟩ (.code (.cond c a b) :: k)) cs w := fun hn => kinds_end fun main cs => by
          have h2 : ((base f).at ⟨t, []⟩ (.code (.cond c a b) :: k)).eval c = v := by rw [Frame.eval_at]; exact he
          simp only [Frame.at] at h2
          cases v <;> first
            | exact absurd rfl (hn _)
            | exact ⟨_, by simp [G, stepG, stepG.exec, Frame.at, h2]; rfl⟩
        cases hv with
        | bool q => exact kinds_ctl calm_run fun _ _ _ => stepG_cond he
        | _ => exact no (by intro b hb; cases hb)
      | region id ops draw =>
        cases draw with
        | false => exact kinds_ctl calm_run fun _ _ _ => stepG_region
        | true =>
          have key : ∀ (mn : Bool) (cs : List Frame) (w : World), stepG P mn (G ((base f).at ⟨t, []⟩ (.code (.region id ops true) :: k)) cs) w = .go (G ((base f).at ⟨t, []⟩ (.inRegion ops (Region.schedule (P.follows .mixedOrders) ops (w.tape w.drawn (.order f id))) :: k)) cs) { w with drawn := w.drawn + 1 } := fun mn cs w => by
            simp [G, stepG, stepG.exec, Frame.at, base, choose, Sem.run, Question.forced, Question.cut]
          refine .inl ⟨(base f).at ⟨t, []⟩ (.inRegion ops (Region.schedule (P.follows .mixedOrders) ops (w.tape w.drawn (.order f id))) :: k), cs, { w with drawn := w.drawn + 1 }, ⟨rfl, Nat.le_succ _⟩, calm_run, fun T hT main bs => ⟨#[], ?_⟩⟩
          rw [key, show (onT w T).tape (onT w T).drawn = w.tape w.drawn from hT w.drawn (Nat.le_refl _) (Nat.lt_succ_self _)]
          rfl
      | rangeFunc a b c d => simp [okCode] at hc'
      | scope a => simp [okCode] at hc'
      | goto l => simp [okCode] at hc'
    | inScope b => simp [okItem] at hx
    | inRangeFunc l => simp [okItem] at hx
    | endRangeFunc l => simp [okItem] at hx
    | beginRound => simp [okItem] at hx
    | call d a b c => simp [okItem] at hx
    | extern a b => simp [okItem] at hx

omit [Shift] in
theorem finish_run {f : FuncId} {t : Array Value} {k : List Item} (hk : ∀ i ∈ k, okItem P S V i = true) (v : Value) : ∃ t1 k1, ((base f).at ⟨t, []⟩ k).finish v = (base f).at ⟨t1, []⟩ k1 := by
  cases k with
  | nil => exact ⟨_, _, rfl⟩
  | cons x k =>
    have hx := hk x (by simp)
    cases x with
    | inRegion ops l =>
      cases l with
      | nil => exact ⟨_, _, rfl⟩
      | cons i rest => rw [Frame.finish_at, put_eq t]; exact ⟨_, _, rfl⟩
    | inRangeFunc l => simp [okItem] at hx
    | beginRound => simp [okItem] at hx
    | call d a b c => simp [okItem] at hx
    | extern a b => simp [okItem] at hx
    | _ => exact ⟨_, _, rfl⟩

theorem kinds (hP : OkP P S V) {b : Bot} {fr fr' : Frame} {cs cs' : List Frame} {w w' : World} (hf : FrR P S V r b fr fr') (hc : CsR P S V r b cs cs') (hw : HR0 S r w w') (hne : fr.mode = .returning → cs ≠ []) : Kinds P fr cs w := by
  cases hf with
  | run ht hk => exact kinds_run hP ht hk hw
  | @ret f t t' k ht =>
    cases hc with
    | nil => exact absurd rfl (hne rfl)
    | @cons f2 t2 t2' k2 cs cs' h2 hk2 hc =>
      cases hf : P.funcs[f]? with
      | none =>
        obtain ⟨t1, k1, e⟩ := finish_run (f := f2) (t := t2) hk2 (t.getD 0 undef)
        refine .inl ⟨_, cs, w, .refl w, ?_, fun T _ main bs => ⟨_, stepG_ret_none hf⟩⟩
        rw [e]; exact calm_run
      | some fn =>
        have t1 := tm_results (P := P) fn t w
        cases hr : (results fn t).run P w with
        | ok v w2 =>
          rw [hr] at t1
          obtain ⟨t3, k1, e⟩ := finish_run (f := f2) (t := t2) hk2 v
          refine .inl ⟨((base f2).at ⟨t2, []⟩ k2).finish v, cs, w2, t1.1, by rw [e]; exact calm_run, fun T hT main bs => ?_⟩
          rw [show ((base f2).at ⟨t2, []⟩ k2 :: cs) ++ bs = (base f2).at ⟨t2, []⟩ k2 :: (cs ++ bs) from rfl, stepG_ret_some hf, t1.2 T hT]
          exact ⟨_, rfl⟩
        | halt e w2 =>
          refine .inr (.inr fun main bs => ?_)
          rw [show ((base f2).at ⟨t2, []⟩ k2 :: cs) ++ bs = (base f2).at ⟨t2, []⟩ k2 :: (cs ++ bs) from rfl, stepG_ret_some hf, hr]
          cases e <;> exact ⟨_, _, _, rfl⟩
end
end Go.Proofs.Ytcobehkadhcjiaa

/-
  FROM A CONTRACT, ON EVERY TAPE, TO A TREE OF STEPS.
-/
namespace Go.Proofs.Ytcobehkadhcjiaa
open Go Go.Conc
variable [Shift]

section
variable {P : Program} {S V : FuncId → Bool}

/-- It has its like somewhere. -/
def GL (P : Program) (S V : FuncId → Bool) (fr : Frame) (cs : List Frame) (w : World) : Prop := ∃ r fr' cs' w', FrR P S V r .nil fr fr' ∧ CsR P S V r .nil cs cs' ∧ HR0 S r w w'

/-! ### whether two slices overlap: nothing is turned -/
def Hk (P : Program) {α : Type} (s : Sem α) : Prop := ∀ w x w1, s.run P w = .ok x w1 → w1.heap = w.heap
omit [Shift] in
theorem hk_bind {α β : Type} {s : Sem α} {f : α → Sem β} (h : Hk P s) (hf : ∀ x, Hk P (f x)) : Hk P (s >>= f) := fun w x w1 hb => by
  rw [Sem.run_bind] at hb
  cases hs : s.run P w with
  | halt e we => rw [hs] at hb; cases hb
  | ok y wy =>
    rw [hs] at hb
    exact (hf y wy x w1 hb).trans (h w y wy hs)
omit [Shift] in
theorem hk_hf {α : Type} {s : Sem α} (h : HF P s) : Hk P s := fun w x w1 hs => by rw [(h w x w1 hs).1]
omit [Shift] in
theorem hk_pure {α : Type} (x : α) : Hk P (Pure.pure x) := hk_hf (hf_pure x)
omit [Shift] in
theorem hk_never {α : Type} {s : Sem α} (h : Never P s) : Hk P s := hk_hf (hf_never h)
omit [Shift] in
theorem hk_choose (q : Question) : Hk P (choose q) := fun w x w1 h => by
  by_cases hq : q.forced = true
  · have key : (choose q).run P w = .ok 0 w := by unfold Go.choose Sem.run; rw [if_pos hq]; rfl
    rw [key] at h; cases h; rfl
  · have key : (choose q).run P w = .ok (q.cut (w.tape w.drawn q)) { w with drawn := w.drawn + 1 } := by unfold Go.choose Sem.run; rw [if_neg hq]; rfl
    rw [key] at h; cases h; rfl
omit [Shift] in
theorem hk_same {α : Type} {s : Sem α} (h : ∀ w, ∃ x, s.run P w = .ok x w) : Hk P s := fun w x w1 hs => by
  obtain ⟨y, hy⟩ := h w
  rw [hy] at hs
  cases hs; rfl
omit [Shift] in
theorem hk_getObj (r : Nat) : Hk P (getObj r) := fun w x w1 hr => by
  unfold Go.getObj Sem.run at hr
  cases ho : w.heap[r]? with
  | none => rw [ho] at hr; cases hr
  | some o => rw [ho] at hr; cases o <;> cases hr <;> rfl
omit [Shift] in
theorem hk_shape (r : Nat) : Hk P (shape r) := hk_same fun w => ⟨w.shape? r, rfl⟩
omit [Shift] in
theorem hk_frozen (a : Addr) : Hk P (frozen a) := hk_same fun w => ⟨w.frozen? a, rfl⟩
omit [Shift] in
theorem hk_noView (a : Addr) : Hk P (noView a) := by
  unfold noView viewAt
  refine hk_bind (hk_bind (hk_shape _) fun o => ?_) fun o => ?_
  · split
    · exact hk_pure _
    · refine hk_bind (hk_getObj _) fun ob => ?_
      split <;> exact hk_pure _
  · split
    · exact hk_never (nv_unsupported _)
    · exact hk_pure _
omit [Shift] in
theorem hk_mayBeOne (a b : Addr) : Hk P (mayBeOne a b) := hk_same fun w => ⟨_, run_mayBeOne a b w⟩
/-- .. and what comes is told in a word. -/
def HB (P : Program) (s : Sem Value) : Prop := ∀ w x w1, s.run P w = .ok x w1 → (∃ b, x = .bool b) ∧ w1.heap = w.heap
omit [Shift] in
theorem hb_bind {α : Type} {s : Sem α} {f : α → Sem Value} (h : Hk P s) (hf : ∀ x, HB P (f x)) : HB P (s >>= f) := fun w x w1 hb => by
  rw [Sem.run_bind] at hb
  cases hs : s.run P w with
  | halt e we => rw [hs] at hb; cases hb
  | ok y wy =>
    rw [hs] at hb
    obtain ⟨h1, h2⟩ := hf y wy x w1 hb
    exact ⟨h1, h2.trans (h w y wy hs)⟩
omit [Shift] in
theorem hb_pure (b : Bool) : HB P (Pure.pure (Value.bool b)) := fun w x w1 h => by
  simp only [Sem.run_pure, Result.ok.injEq] at h
  exact ⟨⟨b, h.1.symm⟩, by rw [h.2]⟩
omit [Shift] in
theorem hb_never {s : Sem Value} (h : Never P s) : HB P s := fun w x w1 hs => absurd hs (h w x w1)
omit [Shift] in
theorem hb_overlaps (ps rs : Array TypeId) (vs : Array Value) : HB P (Extern.SlicesOverlaps.overlaps ps rs vs) := by
  rcases ov_shape (P := P) ps rs vs with ⟨a, la, c, b, lb, d, rfl⟩ | n
  · unfold Extern.SlicesOverlaps.overlaps
    dsimp only
    cases ps[0]? with
    | none => exact hb_never (nv_stuck _)
    | some t =>
      dsimp only
      show HB P (underlying t >>= _)
      (repeat' (first
        | with_reducible exact hb_pure _ | with_reducible exact hb_never (nv_stuck _) | with_reducible exact hb_never (nv_unsupported _)
        | with_reducible exact hk_pure _ | with_reducible exact hk_noView _ | with_reducible exact hk_mayBeOne _ _ | with_reducible exact hk_frozen _ | with_reducible exact hk_choose _ | with_reducible exact hk_hf (hf_underlying _) | with_reducible exact hk_hf (hf_sizeOf _)
        | with_reducible refine hb_bind ?_ fun _ => ?_
        | with_reducible refine hk_bind ?_ fun _ => ?_
        | split
        | dsimp only))
  · exact hb_never n

/-! ### a step keeps that there is a like -/
theorem gl_step (hP : OkP P S V) {fr fr1 : Frame} {cs cs1 : List Frame} {w w1 : World} (h : GL P S V fr cs w) (hne : fr.mode = .returning → cs ≠ []) (hs : Step1 P fr cs w fr1 cs1 w1) : GL P S V fr1 cs1 w1 := by
  obtain ⟨r, fr', cs', w', hf, hc, hw⟩ := h
  obtain ⟨es, hg⟩ := hs.go w.tape (fun _ _ _ => rfl) true []
  rw [List.append_nil, List.append_nil, onT_self] at hg
  have ew : onT w1 w.tape = w1 := by rw [← hs.drawn.tape]; rfl
  rw [ew] at hg
  obtain ⟨w2, h2⟩ := hr_step hw
  have fin : ∀ {fr'}, Sim P S V r .nil true [] w fr1 cs1 w1 fr' cs' w2 → GL P S V fr1 cs1 w1 := fun ⟨r1, f1, c1, w1', es', _, hf1, hc1, hh, _⟩ => ⟨r1, f1, c1, w1', by rw [bo_nil] at hf1; exact hf1, hc1, hh⟩
  cases hf with
  | ret ht => 
    have hne' : cs ≠ [] := hne rfl
    exact fin (sim_ret (k' := []) ht hc hne' h2 hg)
  | @run f t t' k ht hk =>
    by_cases this : ∃ ops i rest k2 o, k = .inRegion ops (i :: rest) :: k2 ∧ ops[i]? = some o ∧ okOv S V o.op = true
    rotate_left
    · have hp : plainStep S V ((base f).at ⟨t, []⟩ k) := fun ops i rest k2 o h1 h2 => by
        cases h3 : okOv S V o.op with
        | false => rfl
        | true => exact absurd ⟨ops, i, rest, k2, o, h1, h2, h3⟩ this
      exact fin (sim_run hP ht hk hc h2 hp (.inl (bo_nil _)) hg hs.calm)
    · obtain ⟨ops, i, rest, k2, o, rfl, ho, hov⟩ := this
      have hrest : ∀ y ∈ (.inRegion ops rest :: k2 : List Item), okItem P S V y = true := fun y hy => by
        rcases List.mem_cons.1 hy with rfl | hy
        · exact hk (.inRegion ops (i :: rest)) (by simp)
        · exact hk y (by simp [hy])
      by_cases hwt : Region.wanted o (yielded ops t) = true
      · obtain ⟨fv, args, ps, rs, hargs, hex⟩ := exec_ov hP hov
        have hb : (base f).kind ≠ .early := by simp [base]
        cases hq : (Extern.SlicesOverlaps.overlaps ps rs (args.map (Act.eval ⟨t, []⟩))).run P w with
        | ok v w3 =>
          obtain ⟨⟨b, rfl⟩, hh⟩ := hb_overlaps ps rs _ w v w3 hq
          have hr : (execOp (Act.eval ⟨t, []⟩) o).run P w = .ok (.value (.bool b)) w3 := by rw [(hex ⟨t, []⟩ w).1, hq]
          rw [stepG_value ho hwt hb hr] at hg
          simp only [GStep.go.injEq] at hg
          obtain ⟨e1, e2, _⟩ := hg
          subst e2
          have e3 := congrArg Goroutine.frame e1
          have e4 := congrArg Goroutine.callers e1
          simp only [G] at e3 e4
          subst e3 e4
          refine ⟨r, (base f).at ⟨(Act.put ⟨t', []⟩ o.dst (.bool b)).tmps, []⟩ (.inRegion ops rest :: k2 ++ []), cs', w', by rw [put_eq t]; exact FrR.run (k := .inRegion ops rest :: k2) (ht.put o.dst (.bool b)) hrest, hc, ⟨hw.fn, hw.inj, fun hx => by rw [hh]; exact hw.obj hx, by rw [hh]; exact hw.low⟩⟩
        | halt e w3 =>
          exfalso
          have hr : (execOp (Act.eval ⟨t, []⟩) o).run P w = .halt e w3 := by rw [(hex ⟨t, []⟩ w).1, hq]
          rw [stepG_oper ho hwt] at hg
          obtain ⟨n, w4, h4⟩ := apply_go hP hg hs.calm
          rw [hr] at h4
          cases h4
      · have hwt' : ¬ Region.wanted o (yielded ops t') = true := by rw [wanted_rr ht]; exact hwt
        have key : ∀ (mn : Bool) (t : Array Value) (k2 : List Item) (cs : List Frame) (w : World), ¬ Region.wanted o (yielded ops t) = true → stepG P mn (G ((base f).at ⟨t, []⟩ (.inRegion ops (i :: rest) :: k2)) cs) w = .go (G ((base f).at (Act.put ⟨t, []⟩ o.dst undef) (.inRegion ops rest :: k2)) cs) w := fun mn t k2 cs w hn => by
          have := Frame.finish_at (base f) ⟨t, []⟩ ops i rest k2 undef
          rw [ho] at this
          simp only [Option.bind_some] at this
          rw [← this]
          simp [G, stepG, stepG.exec, Frame.at, ho, hn]
        have hr : FrR P S V r (bo .nil cs) ((base f).at (Act.put ⟨t, []⟩ o.dst undef) (.inRegion ops rest :: k2)) ((base f).at (Act.put ⟨t', []⟩ o.dst undef) (.inRegion ops rest :: (k2 ++ []))) := by
          rw [put_eq t, put_eq t', bo_nil]
          exact .run (k := .inRegion ops rest :: k2) (ht.put _ VR.undef) hrest
        exact fin (sim_ctl (key true t _ cs _ hwt) (key true t' _ _ w2 hwt') hr hc h2.toHR0 hg)
end
end Go.Proofs.Ytcobehkadhcjiaa

/-
  FROM A CONTRACT, ON EVERY TAPE, TO A TREE OF STEPS: the tree.
-/
namespace Go.Proofs.Ytcobehkadhcjiaa
open Go Go.Conc
variable [Shift]

section
variable {P : Program} {S V : FuncId → Bool}

/-- A caller that ends the run, whichever way it is come back to. -/
def endC : Frame := { fn := 0, tmps := #[], todo := [.code (.refuse "")], defers := [{ target := .nil, args := #[] }], mode := .run, kind := .normal }
omit [Shift] in
theorem endC_step (w : World) : ∃ o w1, step P (lone endC [] w) = .ended o w1 := ⟨_, _, step_lone_ended (by simp [stepG, stepG.exec, endC]; exact ⟨rfl, rfl⟩)⟩
omit [Shift] in
theorem endC_pan (ch : List PanicEntry) (w : World) : ∃ o w1, step P (lone (endC.raise ch) [] w) = .ended o w1 := ⟨_, _, step_lone_ended (by simp [stepG, unwind, callDeferred, Frame.raise, endC]; exact ⟨rfl, rfl⟩)⟩

/-- It is about to come back, with a value of which R holds. -/
structure St (P : Program) (R : Value → World → Prop) (fr : Frame) (w : World) : Prop where
  mode : fr.mode = .returning
  res : ∃ v fn, P.funcs[fr.fn]? = some fn ∧ (results fn fr.tmps).run P w = .ok v w ∧ R v w
/-- In n steps it is. -/
def Rch (P : Program) (R : Value → World → Prop) (n : Nat) (fr : Frame) (cs : List Frame) (w : World) : Prop :=
  ∃ fe we, runN P n (lone fr (cs ++ [endC]) w) = .next (lone fe [endC] we) ∧ St P R fe we

omit [Shift] in
theorem lone_inj {fr fr' : Frame} {cs cs' : List Frame} {w w' : World} (h : lone fr cs w = lone fr' cs' w') : fr = fr' ∧ cs = cs' ∧ w = w' := by
  have h1 := congrArg Machine.world h
  have h2 := congrArg (fun m => m.gs[0]?) h
  simp only [lone] at h1 h2
  simp at h2
  exact ⟨h2.1, h2.2, h1⟩
omit [Shift] in
theorem rch_of_calls {R : Value → World → Prop} {f : FuncId} {args : Array Value} {w : World} (h : Calls P f args w fun e w' => ∃ v, e = .returned v ∧ R v w') : ∃ n, Rch P R n (Frame.enter P f args .normal) [] w := by
  obtain ⟨e, w', fr, ⟨v, rfl, hR⟩, ⟨n, hn⟩, _, hm, hd, hk, fn, hf, hr⟩ := h [endC]
  exact ⟨n, fr, w', hn, hm, v, fn, hf, hr, hR⟩

omit [Shift] in
theorem not_next {m : Machine} {o : Outcome} {w : World} {n : Nat} {m' : Machine} (h : step P m = .ended o w) (h' : runN P (n + 1) m = .next m') : False := by
  simp only [runN, h] at h'
  cases h'
omit [Shift] in
theorem runN_succ {m m1 : Machine} {n : Nat} (h : step P m = .next m1) : runN P (n + 1) m = runN P n m1 := by simp only [runN, h]

omit [Shift] in
theorem catches_false {f : FuncId} {t : Array Value} {k : List Item} {m : FrameMode} (hk : ∀ i ∈ k, okItem P S V i = true) : Frame.catches P { (base f).at ⟨t, []⟩ k with mode := m } = false := by
  unfold Frame.catches
  simp only [Frame.at]
  cases P.funcs[(base f).fn]? with
  | some fn => rfl
  | none =>
    cases k with
    | nil => rfl
    | cons x k =>
      have := hk x (by simp)
      cases x <;> first | rfl | (simp [okItem] at this)
omit [Shift] in
theorem step_pan {f : FuncId} {t : Array Value} {k : List Item} {ch : List PanicEntry} {c : Frame} {cs : List Frame} {w : World} (hk : ∀ i ∈ k, okItem P S V i = true) :
    step P (lone { (base f).at ⟨t, []⟩ k with mode := .panicking ch } (c :: cs) w) = .next (lone (c.raise ch) cs w) := by
  have h := catches_false (P := P) (f := f) (t := t) (m := .panicking ch) hk
  simp only [Frame.at, base] at h
  exact step_lone_go (by simp [stepG, unwind, Frame.at, base, h])
theorem pan_never {r : BR} : ∀ {n : Nat} {cs cs' : List Frame} {f : FuncId} {t : Array Value} {k : List Item} {ch : List PanicEntry} {w : World}, CsR P S V r .nil cs cs' → (∀ i ∈ k, okItem P S V i = true) →
    ∀ fe we, runN P n (lone { (base f).at ⟨t, []⟩ k with mode := .panicking ch } (cs ++ [endC]) w) = .next (lone fe [endC] we) → fe.mode = .returning → False := by
  intro n
  induction n with
  | zero =>
    intro cs cs' f t k ch w hc hk fe we h hm
    simp only [runN, Stepped.next.injEq] at h
    obtain ⟨rfl, _⟩ := lone_inj h
    cases hm
  | succ n ih =>
    intro cs cs' f t k ch w hc hk fe we h hm
    cases hc with
    | nil =>
      rw [List.nil_append, runN_succ (step_pan hk)] at h
      cases n with
      | zero =>
        simp only [runN, Stepped.next.injEq] at h
        cases (lone_inj h).2.1
      | succ n =>
        obtain ⟨o, w1, he⟩ := endC_pan (P := P) ch w
        exact not_next he h
    | @cons f2 t2 t2' k2 cs cs' h2 hk2 _ hc =>
      rw [List.cons_append, runN_succ (step_pan hk)] at h
      exact ih (f := f2) (t := t2) (k := k2) hc hk2 fe we h hm

section
variable {R : Value → World → Prop} {fr fr1 : Frame} {cs cs1 : List Frame} {w w1 : World} {n : Nat}
omit [Shift] in
theorem rch_end (h : End1 P fr cs w) (hne : fr.mode = .returning → cs ≠ []) : ¬ Rch P R n fr cs w := by
  rintro ⟨fe, we, hr, hs⟩
  cases n with
  | zero =>
    simp only [runN, Stepped.next.injEq] at hr
    obtain ⟨rfl, h2, _⟩ := lone_inj hr
    refine hne hs.mode ?_
    cases cs with
    | nil => rfl
    | cons c cs => simp at h2
  | succ n =>
    obtain ⟨o, w2, es, he⟩ := h true [endC]
    exact not_next (step_lone_ended (show (stepG P true (G fr (cs ++ [endC])) w).bare = .ended o w2 by rw [he]; rfl)) hr
theorem rch_pan (hg : GL P S V fr cs w) (h : Pan1 P fr cs w) (hne : fr.mode = .returning → cs ≠ []) : ¬ Rch P R n fr cs w := by
  rintro ⟨fe, we, hr, hs⟩
  obtain ⟨r, fr', cs', w', hf, hc, hw⟩ := hg
  cases n with
  | zero =>
    simp only [runN, Stepped.next.injEq] at hr
    obtain ⟨rfl, h2, _⟩ := lone_inj hr
    refine hne hs.mode ?_
    cases cs with
    | nil => rfl
    | cons c cs => simp at h2
  | succ n =>
    obtain ⟨hmode, ch, w2, hp2⟩ := h
    obtain ⟨es, he⟩ := hp2 true [endC]
    have := step_lone_go (P := P) (show (stepG P true (G fr (cs ++ [endC])) w).bare = .go (G { fr with mode := .panicking ch } (cs ++ [endC])) w2 by rw [he]; rfl)
    rw [runN_succ this] at hr
    cases hf with
    | run ht hk => exact pan_never hc hk fe we hr hs.mode
    | ret ht => cases hmode
omit [Shift] in
theorem rch_step (hs : Step1 P fr cs w fr1 cs1 w1) (hne : fr.mode = .returning → cs ≠ []) (h : Rch P R n fr cs w) : ∃ m, n = m + 1 ∧ Rch P R m fr1 cs1 w1 := by
  obtain ⟨fe, we, hr, hst⟩ := h
  cases n with
  | zero =>
    simp only [runN, Stepped.next.injEq] at hr
    obtain ⟨rfl, h2, _⟩ := lone_inj hr
    exfalso
    refine hne hst.mode ?_
    cases cs with
    | nil => rfl
    | cons c cs => simp at h2
  | succ n =>
    obtain ⟨es, hg⟩ := hs.go w.tape (fun _ _ _ => rfl) true [endC]
    have ew : onT w1 w.tape = w1 := by rw [← hs.drawn.tape]; rfl
    rw [onT_self, ew] at hg
    have := step_lone_go (P := P) (show (stepG P true (G fr (cs ++ [endC])) w).bare = .go (G fr1 (cs1 ++ [endC])) w1 by rw [hg]; rfl)
    rw [runN_succ this] at hr
    exact ⟨n, rfl, fe, we, hr, hst⟩
omit [Shift] in
theorem rch_stop {f : FuncId} {t : Array Value} {k : List Item} (h : Rch P R n { (base f).at ⟨t, []⟩ k with mode := .returning } [] w) : St P R { (base f).at ⟨t, []⟩ k with mode := .returning } w := by
  obtain ⟨fe, we, hr, hst⟩ := h
  cases n with
  | zero =>
    simp only [runN, Stepped.next.injEq] at hr
    obtain ⟨rfl, _, rfl⟩ := lone_inj hr
    exact hst
  | succ n =>
    exfalso
    have out : ∀ (v : Value) (w2 : World), runN P n (lone (endC.finish v) [] w2) = .next (lone fe [endC] we) → False := fun v w2 h => by
      cases n with
      | zero =>
        simp only [runN, Stepped.next.injEq] at h
        cases (lone_inj h).2.1
      | succ n =>
        obtain ⟨o, w3, he⟩ := endC_step (P := P) w2
        exact not_next (show step P (lone (endC.finish v) [] w2) = .ended o w3 from he) h
    rw [List.nil_append] at hr
    cases hf : P.funcs[f]? with
    | none =>
      have hg := stepG_ret_none (main := true) (t := t) (k := k) (c := endC) (cs := []) (w := w) hf
      have := step_lone_go (P := P) (show (stepG P true (G { (base f).at ⟨t, []⟩ k with mode := .returning } [endC]) w).bare = .go (G (endC.finish (t.getD 0 undef)) []) w by rw [hg]; rfl)
      rw [runN_succ this] at hr
      exact out _ _ hr
    | some fn =>
      have hg := stepG_ret_some (main := true) (t := t) (k := k) (c := endC) (cs := []) (w := w) hf
      cases hq : (results fn t).run P w with
      | ok v w2 =>
        rw [hq] at hg
        have := step_lone_go (P := P) (show (stepG P true (G { (base f).at ⟨t, []⟩ k with mode := .returning } [endC]) w).bare = .go (G (endC.finish v) []) w2 by rw [hg]; rfl)
        rw [runN_succ this] at hr
        exact out _ _ hr
      | halt e w2 =>
        rw [hq] at hg
        have : ∃ o w3, (stepG P true (G { (base f).at ⟨t, []⟩ k with mode := .returning } [endC]) w).bare = .ended o w3 := by
          rw [hg]
          cases e <;> exact ⟨_, _, rfl⟩
        obtain ⟨o, w3, this⟩ := this
        exact not_next (step_lone_ended this) hr
end
end
end Go.Proofs.Ytcobehkadhcjiaa

/-
  FROM A CONTRACT, ON EVERY TAPE, TO A TREE OF STEPS: there is one.
-/
namespace Go.Proofs.Ytcobehkadhcjiaa
open Go Go.Conc
variable [Shift]

/-- A tree: what comes hangs on the tape. -/
inductive Tr : Type
  | stop
  | node (f : Tape' → Tr)
inductive Tr.Lt : Tr → Tr → Prop
  | mk (f : Tape' → Tr) (T : Tape') : Tr.Lt (f T) (.node f)
omit [Shift] in
theorem tr_wf : WellFounded Tr.Lt := ⟨fun t => by
  induction t with
  | stop => exact ⟨_, fun y h => by cases h⟩
  | node f ih => exact ⟨_, fun y h => by cases h with | mk _ T => exact ih T⟩⟩

section
variable {P : Program} {S V : FuncId → Bool} {R : Value → World → Prop}

/-- The tree of a goroutine that is alone. -/
inductive Is (P : Program) (R : Value → World → Prop) : Tr → Frame → List Frame → World → Prop
  | stop {fr : Frame} {w : World} : St P R fr w → Is P R .stop fr [] w
  | node {f : Tape' → Tr} {fr : Frame} {cs : List Frame} {w : World} (F : Tape' → Frame) (C : Tape' → List Frame) (W : Tape' → World) : (fr.mode = .returning → cs ≠ []) → (∀ T, Step1 P fr cs (retape w T) (F T) (C T) (W T)) →
      (∀ T, Is P R (f T) (F T) (C T) (W T)) → Is P R (.node f) fr cs w

omit [Shift] in
theorem retape_self (w : World) : retape w (fun n q => w.tape (w.drawn + n) q) = w := by
  unfold retape
  have : (fun n q => if n < w.drawn then w.tape n q else w.tape (w.drawn + (n - w.drawn)) q) = w.tape := by
    funext n q
    split
    · rfl
    · rw [Nat.add_sub_cancel' (by omega)]
  rw [this]
theorem gl_retape {fr : Frame} {cs : List Frame} {w : World} (h : GL P S V fr cs w) (T : Tape') : GL P S V fr cs (retape w T) := by
  obtain ⟨r, fr', cs', w', h1, h2, h3⟩ := h
  exact ⟨r, fr', cs', w', h1, h2, h3.retape T⟩
omit [Shift] in
theorem retape_onT {w : World} {U : Tape'} (h : ∀ n, n < w.drawn → U n = w.tape n) : retape w (fun n q => U (w.drawn + n) q) = onT w U := by
  unfold retape onT
  have : (fun n q => if n < w.drawn then w.tape n q else U (w.drawn + (n - w.drawn)) q) = U := by
    funext n q
    split
    · rename_i hn; rw [h n hn]
    · rw [Nat.add_sub_cancel' (by omega)]
  rw [this]

/-- It runs to its end on every tape. -/
def Runs (P : Program) (S V : FuncId → Bool) (R : Value → World → Prop) (fr : Frame) (cs : List Frame) (w : World) : Prop := GL P S V fr cs w ∧ ∀ T, ∃ n, Rch P R n fr cs (retape w T)

theorem gl_form {fr : Frame} {cs : List Frame} {w : World} (h : GL P S V fr cs w) (hm : fr.mode = .returning) : ∃ f t k, fr = { (base f).at ⟨t, []⟩ k with mode := .returning } := by
  obtain ⟨r, fr', cs', w', hf, _⟩ := h
  cases hf with
  | run => cases hm
  | ret => exact ⟨_, _, _, rfl⟩
theorem runs_next (hP : OkP P S V) {fr : Frame} {cs : List Frame} {w : World} (h : Runs P S V R fr cs w) (hne : fr.mode = .returning → cs ≠ []) (T : Tape') : ∃ fr1 cs1 w1, Step1 P fr cs (retape w T) fr1 cs1 w1 ∧ Runs P S V R fr1 cs1 w1 := by
  obtain ⟨hg, hr⟩ := h
  have hgT := gl_retape hg T
  obtain ⟨n, hn⟩ := hr T
  have hk : Kinds P fr cs (retape w T) := by
    obtain ⟨r, fr', cs', w', hf, hc, hw⟩ := hgT
    exact kinds hP hf hc hw hne
  rcases hk with ⟨fr1, cs1, w1, h1⟩ | hp | he
  · refine ⟨fr1, cs1, w1, h1, gl_step hP hgT hne h1, fun T' => ?_⟩
    -- the tape behind
    obtain ⟨U, hU⟩ : ∃ U, U = (retape w1 T').tape := ⟨_, rfl⟩
    have e1 : ∀ n, n < w1.drawn → U n = (retape w T).tape n := fun n hn => by
      rw [hU, ← h1.drawn.tape]
      funext q
      simp only [retape, if_pos hn]
    have e2 : ∀ n, n < w.drawn → U n = w.tape n := fun n hn => by
      rw [e1 n (Nat.lt_of_lt_of_le hn h1.drawn.le)]
      funext q
      simp only [retape, if_pos hn]
    obtain ⟨m, hm⟩ := hr (fun n q => U (w.drawn + n) q)
    rw [retape_onT e2] at hm
    have h2 : Step1 P fr cs (onT w U) fr1 cs1 (onT w1 U) := by
      refine ⟨⟨rfl, h1.drawn.le⟩, h1.calm, fun T2 hT2 main bs => ?_⟩
      exact h1.go T2 (fun k h3 h4 => by rw [hT2 k h3 h4]; exact e1 k h4) main bs
    obtain ⟨m', _, hm'⟩ := rch_step h2 hne hm
    refine ⟨m', ?_⟩
    have : onT w1 U = retape w1 T' := by rw [hU]; rfl
    rw [← this]
    exact hm'
  · exact absurd hn (rch_pan hgT hp hne)
  · exact absurd hn (rch_end he hne)

theorem runs_stop {fr : Frame} {w : World} (h : Runs P S V R fr [] w) (hm : fr.mode = .returning) : St P R fr w := by
  obtain ⟨f, t, k, rfl⟩ := gl_form h.1 hm
  obtain ⟨n, hn⟩ := h.2 (fun n q => w.tape (w.drawn + n) q)
  rw [retape_self] at hn
  exact rch_stop hn

structure Cf' where
  fr : Frame
  cs : List Frame
  w : World

theorem tree_of_runs (hP : OkP P S V) {fr : Frame} {cs : List Frame} {w : World} (h : Runs P S V R fr cs w) : ∃ t, Is P R t fr cs w := by
  apply Classical.byContradiction
  intro hno
  let Bad : Cf' → Prop := fun c => Runs P S V R c.fr c.cs c.w ∧ ¬ ∃ t, Is P R t c.fr c.cs c.w
  have ne : ∀ c, Bad c → c.fr.mode = .returning → c.cs ≠ [] := fun c hb hm hc => by
    obtain ⟨h1, h2⟩ := hb
    rw [hc] at h1 h2
    exact h2 ⟨.stop, .stop (runs_stop h1 hm)⟩
  have next : ∀ c : { c // Bad c }, ∃ c1 : { c // Bad c }, ∃ T, Step1 P c.1.fr c.1.cs (retape c.1.w T) c1.1.fr c1.1.cs c1.1.w := fun ⟨c, hb⟩ => by
    apply Classical.byContradiction
    intro hn
    have all : ∀ T, ∃ t fr1 cs1 w1, Step1 P c.fr c.cs (retape c.w T) fr1 cs1 w1 ∧ Is P R t fr1 cs1 w1 := fun T => by
      obtain ⟨fr1, cs1, w1, h1, h2⟩ := runs_next hP hb.1 (ne c hb) T
      apply Classical.byContradiction
      intro hq
      exact hn ⟨⟨⟨fr1, cs1, w1⟩, h2, fun ⟨t, ht⟩ => hq ⟨t, fr1, cs1, w1, h1, ht⟩⟩, T, h1⟩
    obtain ⟨f, hf⟩ := Classical.axiomOfChoice all
    obtain ⟨F, hF⟩ := Classical.axiomOfChoice hf
    obtain ⟨C, hC⟩ := Classical.axiomOfChoice hF
    obtain ⟨W, hW⟩ := Classical.axiomOfChoice hC
    exact hb.2 ⟨.node f, .node F C W (ne c hb) (fun T => (hW T).1) fun T => (hW T).2⟩
  obtain ⟨g, hg⟩ := Classical.axiomOfChoice next
  let c0 : { c // Bad c } := ⟨⟨fr, cs, w⟩, h, hno⟩
  let sq : Nat → { c // Bad c } := fun n => Nat.rec c0 (fun _ c => g c) n
  have hs : ∀ n, ∃ T, Step1 P (sq n).1.fr (sq n).1.cs (retape (sq n).1.w T) (sq (n + 1)).1.fr (sq (n + 1)).1.cs (sq (n + 1)).1.w := fun n => hg (sq n)
  have mono1 : ∀ n, (sq n).1.w.drawn ≤ (sq (n + 1)).1.w.drawn := fun n => by obtain ⟨T, h1⟩ := hs n; exact h1.drawn.le
  have mono : ∀ n k, (sq n).1.w.drawn ≤ (sq (n + k)).1.w.drawn := fun n k => by
    induction k with
    | zero => exact Nat.le_refl _
    | succ k ih => exact Nat.le_trans ih (mono1 (n + k))
  have same1 : ∀ n i, i < (sq n).1.w.drawn → (sq (n + 1)).1.w.tape i = (sq n).1.w.tape i := fun n i hi => by
    obtain ⟨T, h1⟩ := hs n
    rw [h1.drawn.tape]
    funext q
    simp only [retape, if_pos hi]
  have same : ∀ n k i, i < (sq n).1.w.drawn → (sq (n + k)).1.w.tape i = (sq n).1.w.tape i := fun n k i hi => by
    induction k with
    | zero => rfl
    | succ k ih => rw [← ih]; exact same1 (n + k) i (Nat.lt_of_lt_of_le hi (mono n k))
  obtain ⟨U, hU⟩ : ∃ U : Tape', ∀ n i, i < (sq n).1.w.drawn → U i = (sq n).1.w.tape i := by
    refine ⟨fun i => @dite _ (∃ n, i < (sq n).1.w.drawn) (Classical.propDecidable _) (fun h => (sq h.choose).1.w.tape i) (fun _ _ => 0), fun n i hi => ?_⟩
    have hx : ∃ n, i < (sq n).1.w.drawn := ⟨n, hi⟩
    simp only [dif_pos hx]
    have h1 := hx.choose_spec
    rcases Nat.le_total n hx.choose with hle | hle
    · obtain ⟨k, hk⟩ := Nat.le.dest hle
      rw [← hk]
      exact same n k i hi
    · obtain ⟨k, hk⟩ := Nat.le.dest hle
      have := same hx.choose k i h1
      rw [hk] at this
      exact this.symm
  have stepU : ∀ n, Step1 P (sq n).1.fr (sq n).1.cs (onT (sq n).1.w U) (sq (n + 1)).1.fr (sq (n + 1)).1.cs (onT (sq (n + 1)).1.w U) := fun n => by
    obtain ⟨T, h1⟩ := hs n
    refine ⟨⟨rfl, h1.drawn.le⟩, h1.calm, fun T2 hT2 main bs => ?_⟩
    exact h1.go T2 (fun k h3 h4 => by rw [hT2 k h3 h4, ← h1.drawn.tape]; exact hU (n + 1) k h4) main bs
  obtain ⟨N, hN⟩ := h.2 (fun n q => U (w.drawn + n) q)
  rw [retape_onT (w := w) (hU 0)] at hN
  have key : ∀ N n, ¬ Rch P R N (sq n).1.fr (sq n).1.cs (onT (sq n).1.w U) := by
    intro N
    induction N with
    | zero =>
      intro n hr
      obtain ⟨m, hm, _⟩ := rch_step (stepU n) (ne _ (sq n).2) hr
      cases hm
    | succ N ih =>
      intro n hr
      obtain ⟨m, hm, h2⟩ := rch_step (stepU n) (ne _ (sq n).2) hr
      cases hm
      exact ih (n + 1) h2
  exact key N 0 hN

/-- A CONTRACT THAT STANDS ON EVERY TAPE GIVES A TREE. -/
theorem tree_of_calls (hP : OkP P S V) {f : FuncId} {args : Array Value} {w : World} (hg : GL P S V (Frame.enter P f args .normal) [] w)
    (h : ∀ T, Calls P f args (retape w T) fun e w' => ∃ v, e = .returned v ∧ R v w') : ∃ t, Is P R t (Frame.enter P f args .normal) [] w :=
  tree_of_runs hP ⟨hg, fun T => rch_of_calls (h T)⟩
end
end Go.Proofs.Ytcobehkadhcjiaa

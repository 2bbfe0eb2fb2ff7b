/-
  Goroutines among others: part 4 of what the law's own text rests on.
-/
import Derived.Test.YtcobehkadhcjiaaCc03
import Derived.Conc.EntryLaws
/-
  ONE STEP ALONE IS ONE STEP AMONG OTHERS: whichever step.
-/
namespace Go.Proofs.Ytcobehkadhcjiaa
open Go Go.Conc
variable [Shift]

section
variable {P : Program} {S V : FuncId → Bool} {r : BR} {b : Bot} {main : Bool} {bs : List Frame}

theorem sim_ctl {fr fr' fr0 fr0' fr1 : Frame} {cs cs' cs1 : List Frame} {w w' w1 : World} {es : Array Event}
    (hl : stepG P true (G fr cs) w = .go (G fr0 cs) w) (hr : stepG P main (G fr' (cs' ++ bs)) w' = .go (G fr0' (cs' ++ bs)) w') (hf : FrR P S V r (bo b cs) fr0 fr0') (hc : CsR P S V r b cs cs') (hw : HR0 S r w w')
    (h : stepG P true (G fr cs) w = .go (G fr1 cs1) w1 es) : Sim P S V r b main bs w fr1 cs1 w1 fr' cs' w' := by
  rw [hl] at h
  simp only [GStep.go.injEq] at h
  obtain ⟨e1, e2, _⟩ := h
  subst e2
  have e3 := congrArg Goroutine.frame e1
  have e4 := congrArg Goroutine.callers e1
  simp only [G] at e3 e4
  subst e3 e4
  exact ⟨r, _, _, _, _, hr, hf, hc, hw, .refl _, .refl _ _ _, by simp⟩

omit [Shift] in
theorem exitTo_ok {id : Nat} : ∀ {k k' : List Item}, exitTo id k = some k' → (∀ x ∈ k, okItem P S V x = true) → ∀ x ∈ k', okItem P S V x = true
  | [], k', h, _ => by simp [exitTo] at h
  | x :: k, k', h, hk => by
    have ih : exitTo id k = some k' → ∀ x ∈ k', okItem P S V x = true := fun h => exitTo_ok (k := k) (k' := k') h fun y hy => hk y (by simp [hy])
    cases x <;> simp only [exitTo] at h <;> first | exact ih h | skip
    split at h
    · cases h; exact fun y hy => hk y (by simp [hy])
    · exact ih h

omit [Shift] in
theorem exitTo_app {id : Nat} (k0 : List Item) : ∀ {k k' : List Item}, exitTo id k = some k' → exitTo id (k ++ k0) = some (k' ++ k0)
  | [], k', h => by simp [exitTo] at h
  | x :: k, k', h => by
    have ih : exitTo id k = some k' → exitTo id (k ++ k0) = some (k' ++ k0) := exitTo_app k0
    rw [List.cons_append]
    cases x <;> simp only [exitTo] at h ⊢ <;> first | exact ih h | skip
    split at h
    · rename_i hx; rw [if_pos hx]; cases h; rfl
    · rename_i hx; rw [if_neg hx]; exact ih h
theorem FrR.finish {f : FuncId} {t t' : Array Value} {k : List Item} (ht : RR S r t t') (hk : ∀ i ∈ k, okItem P S V i = true) (hn : k ≠ []) {v v' : Value} (hv : VR S r v v') :
    FrR P S V r b (((base f).at ⟨t, []⟩ k).finish v) (((baseK b.kd f).at ⟨t', b.ds⟩ (k ++ b.k0)).finish v') := by
  cases k with
  | nil => exact absurd rfl hn
  | cons x k =>
    have hx := hk x (by simp)
    rw [List.cons_append]
    cases x with
    | inRegion ops l =>
      cases l with
      | nil => exact .run (k := .inRegion ops [] :: k) ht hk
      | cons i rest =>
        rw [Frame.finish_at, Frame.finish_at, put_eq t, put_eq t']
        refine .run (k := .inRegion ops rest :: k) (ht.put _ hv) fun y hy => ?_
        rcases List.mem_cons.1 hy with rfl | hy
        · exact hk (.inRegion ops (i :: rest)) (by simp)
        · exact hk y (by simp [hy])
    | inRangeFunc l => simp [okItem] at hx
    | beginRound => simp [okItem] at hx
    | call d a b c => simp [okItem] at hx
    | extern a b => simp [okItem] at hx
    | code c => exact .run (k := .code c :: k) ht hk
    | inBlock c => exact .run (k := .inBlock c :: k) ht hk
    | inLoop c => exact .run (k := .inLoop c :: k) ht hk
    | inScope c => simp [okItem] at hx
    | endRangeFunc c => simp [okItem] at hx

omit [Shift] in
theorem stepG_ret_some {f : FuncId} {fn : Func} {t : Array Value} {k : List Item} {c : Frame} {cs : List Frame} {w : World} (hf : P.funcs[f]? = some fn) :
    stepG P main (G { (base f).at ⟨t, []⟩ k with mode := .returning } (c :: cs)) w = GStep.after (seen P f ((results fn t).events P w #[])) (match (results fn t).run P w with
      | .ok v w2 => .go (G (c.finish v) cs) w2
      | .halt (.stuck s) w2 => .ended (.stuck s (Frame.pos P { (base f).at ⟨t, []⟩ k with mode := .returning })) w2
      | .halt _ w2 => .ended (.stuck "return: the result variables cannot be read" (Frame.pos P { (base f).at ⟨t, []⟩ k with mode := .returning })) w2) := by
  cases hr : (results fn t).run P w with
  | ok v w2 => simp [G, stepG, unwind, doReturn, Frame.at, base, hf, hr]
  | halt e w2 => cases e <;> simp [G, stepG, unwind, Frame.at, base, hf, hr]
omit [Shift] in
theorem stepG_ret_none {f : FuncId} {t : Array Value} {k : List Item} {c : Frame} {cs : List Frame} {w : World} (hf : P.funcs[f]? = none) :
    stepG P main (G { (base f).at ⟨t, []⟩ k with mode := .returning } (c :: cs)) w = .go (G (c.finish (t.getD 0 undef)) cs) w := by
  simp [G, stepG, unwind, doReturn, Frame.at, base, hf]


theorem sim_ret {f : FuncId} {t t' : Array Value} {k k' : List Item} {cs cs' : List Frame} {w w' : World} (ht : RR S r t t') (hc : CsR P S V r b cs cs') (hne : cs ≠ []) (hw : HR S r w w')
    {fr1 : Frame} {cs1 : List Frame} {w1 : World} {es : Array Event} (h : stepG P true (G { (base f).at ⟨t, []⟩ k with mode := .returning } cs) w = .go (G fr1 cs1) w1 es) :
    Sim P S V r b main bs w fr1 cs1 w1 { (base f).at ⟨t', []⟩ k' with mode := .returning } cs' w' := by
  cases hc with
  | nil => exact absurd rfl hne
  | @cons f2 t2 t2' k2 cs cs' h2 hk2 hn2 hc =>
    cases hf : P.funcs[f]? with
    | none =>
      rw [stepG_ret_none hf] at h
      simp only [GStep.go.injEq] at h
      obtain ⟨e1, e2, _⟩ := h
      subst e2
      have e3 := congrArg Goroutine.frame e1
      have e4 := congrArg Goroutine.callers e1
      simp only [G] at e3 e4
      subst e3 e4
      exact ⟨r, _, cs', _, _, stepG_ret_none hf, FrR.finish h2 hk2 hn2 (ht.getD 0 VR.undef), hc, hw.toHR0, .refl _, .refl _ _ _, by simp⟩
    | some fn =>
      rw [stepG_ret_some hf] at h
      cases hr : (results fn t).run P w with
      | halt e w2 =>
        rw [hr] at h
        cases e <;> cases h
      | ok v w2 =>
        rw [hr] at h
        have ha : ∀ (es' : Array Event) (g : Goroutine) (w3 : World) (es3 : Array Event), GStep.after es' (.go g w3 es3) = .go g w3 (es' ++ es3) := fun _ _ _ _ => rfl
        rw [ha] at h
        simp only [GStep.go.injEq] at h
        obtain ⟨e1, e2, _⟩ := h
        subst e2
        have e3 := congrArg Goroutine.frame e1
        have e4 := congrArg Goroutine.callers e1
        simp only [G] at e3 e4
        subst e3 e4
        obtain ⟨r1, v', w2', l, h1, h2', hv, h4, h5, h6, h7⟩ := sr_results fn ht w w' #[] hw v w2 hr
        refine ⟨r1, _, cs', w2', seen P f ((results fn t').events P w' #[]), by rw [List.cons_append, stepG_ret_some hf, h1, ha]; simp, FrR.finish (h2.mono h6.ext) hk2 hn2 hv, hc.mono h6.ext, h4.toHR0, h5, h6, fun e he => ?_⟩
        rw [h2'] at he
        obtain ⟨m1, m2⟩ := mem_seen he
        exact ⟨h7 e (by simpa using m1), m2⟩


/-- The step is not the call that tells whether two slices overlap. -/
def plainStep (S V : FuncId → Bool) (fr : Frame) : Prop := ∀ ops i rest k o, fr.todo = .inRegion ops (i :: rest) :: k → ops[i]? = some o → okOv S V o.op = false

omit [Shift] in
theorem lost_go {fr1 : Frame} {o : Outcome} {w w1 : World} {cs1 : List Frame} {es es0 : Array Event} (h : GStep.ended o w es0 = .go (G fr1 cs1) w1 es) : False := by cases h

theorem sim_run (hP : OkP P S V) {f : FuncId} {t t' : Array Value} {k : List Item} {cs cs' : List Frame} {w w' : World} (ht : RR S r t t') (hk : ∀ i ∈ k, okItem P S V i = true) (hc : CsR P S V r b cs cs') (hw : HR S r w w')
    (hp : plainStep S V ((base f).at ⟨t, []⟩ k)) (hend : bo b cs = .nil ∨ (k ≠ [] ∧ ∀ k2, k ≠ .code .ret :: k2))
    {fr1 : Frame} {cs1 : List Frame} {w1 : World} {es : Array Event} (h : stepG P true (G ((base f).at ⟨t, []⟩ k) cs) w = .go (G fr1 cs1) w1 es) (hm : ∀ ch, fr1.mode ≠ .panicking ch) :
    Sim P S V r b main bs w fr1 cs1 w1 ((baseK (bo b cs).kd f).at ⟨t', (bo b cs).ds⟩ (k ++ (bo b cs).k0)) cs' w' := by
  cases k with
  | nil =>
    rcases hend with he | he
    · rw [he]
      exact sim_ctl stepG_end stepG_end (.ret ht) hc hw.toHR0 h
    · exact absurd rfl he.1
  | cons x k =>
    have hx := hk x (by simp)
    have hk' : ∀ i ∈ k, okItem P S V i = true := fun i hi => hk i (by simp [hi])
    have one : ∀ {y}, okItem P S V y = true → ∀ i ∈ (y :: k), okItem P S V i = true := fun {y} hy i hi => by
      rcases List.mem_cons.1 hi with rfl | hi
      · exact hy
      · exact hk' i hi
    have two : ∀ {y z}, okItem P S V y = true → okItem P S V z = true → ∀ i ∈ (y :: z :: k), okItem P S V i = true := fun {y z} hy hz i hi => by
      rcases List.mem_cons.1 hi with rfl | hi
      · exact hy
      · exact one hz i hi
    rw [List.cons_append]
    cases x with
    | inBlock id => exact sim_ctl stepG_inBlock stepG_inBlock (.run ht hk') hc hw.toHR0 h
    | inLoop c => exact sim_ctl stepG_inLoop stepG_inLoop (.run (k := .code _ :: .inLoop _ :: k) ht (two hx hx)) hc hw.toHR0 h
    | inRegion ops l =>
      cases l with
      | nil => exact sim_ctl stepG_region_end stepG_region_end (.run ht hk') hc hw.toHR0 h
      | cons i rest =>
        have hrest : ∀ y ∈ (.inRegion ops rest :: k : List Item), okItem P S V y = true := one (y := .inRegion ops rest) hx
        cases ho : ops[i]? with
        | none =>
          have key : ∀ (bb : Frame) (mn : Bool) (t : Array Value) (ds : List Deferred) (k : List Item) (cs : List Frame) (w : World), stepG P mn (G (bb.at ⟨t, ds⟩ (.inRegion ops (i :: rest) :: k)) cs) w = .go (G (bb.at ⟨t, ds⟩ (.inRegion ops rest :: k)) cs) w := fun bb mn t ds k cs w => by
            have := Frame.finish_at bb ⟨t, ds⟩ ops i rest k undef
            rw [ho] at this
            simp only [Option.bind_none, Act.put] at this
            rw [← this]
            simp [G, stepG, stepG.exec, Frame.at, ho]
          exact sim_ctl (key _ true t _ _ cs w) (key _ main t' _ _ _ w') (.run (k := .inRegion ops rest :: k) ht hrest) hc hw.toHR0 h
        | some o =>
          by_cases hwt : Region.wanted o (yielded ops t) = true
          · have hop : okO P S V o = true := Array.all_eq_true_iff_forall_mem.1 hx o (Array.mem_of_getElem? ho)
            have hno := hp ops i rest k o rfl ho
            have hop' : okOp P S o.op = true := by
              unfold okO at hop
              rw [hno, Bool.or_false] at hop
              exact hop
            exact sim_exec hP ho hwt ht hk hc (sr_exec hP.globals hP.bog hP.okS hop' (ER.of ht)) hw h hm
          · have hwt' : ¬ Region.wanted o (yielded ops t') = true := by rw [wanted_rr ht]; exact hwt
            have key : ∀ (bb : Frame) (mn : Bool) (t : Array Value) (ds : List Deferred) (k : List Item) (cs : List Frame) (w : World), ¬ Region.wanted o (yielded ops t) = true → stepG P mn (G (bb.at ⟨t, ds⟩ (.inRegion ops (i :: rest) :: k)) cs) w = .go (G (bb.at (Act.put ⟨t, ds⟩ o.dst undef) (.inRegion ops rest :: k)) cs) w := fun bb mn t ds k cs w hn => by
              have := Frame.finish_at bb ⟨t, ds⟩ ops i rest k undef
              rw [ho] at this
              simp only [Option.bind_some] at this
              rw [← this]
              simp [G, stepG, stepG.exec, Frame.at, ho, hn]
            have hr : FrR P S V r (bo b cs) ((base f).at (Act.put ⟨t, []⟩ o.dst undef) (.inRegion ops rest :: k)) ((baseK (bo b cs).kd f).at (Act.put ⟨t', (bo b cs).ds⟩ o.dst undef) (.inRegion ops rest :: (k ++ (bo b cs).k0))) := by
              rw [put_eq t, put_eq t']
              exact .run (k := .inRegion ops rest :: k) (ht.put _ VR.undef) hrest
            exact sim_ctl (key _ true t _ _ cs w hwt) (key _ main t' _ _ _ w' hwt') hr hc hw.toHR0 h
    | code c =>
      have hc' : okCode P S V c = true := hx
      cases c with
      | skip => exact sim_ctl stepG_skip stepG_skip (.run ht hk') hc hw.toHR0 h
      | label l => exact sim_ctl stepG_label stepG_label (.run ht hk') hc hw.toHR0 h
      | seq a c2 =>
        simp only [okCode, Bool.and_eq_true] at hc'
        exact sim_ctl stepG_seq stepG_seq (.run (k := .code a :: .code c2 :: k) ht (two (y := .code a) (z := .code c2) hc'.1 hc'.2)) hc hw.toHR0 h
      | block id a => exact sim_ctl stepG_block stepG_block (.run (k := .code a :: .inBlock id :: k) ht (two (y := .code a) (z := .inBlock id) hc' rfl)) hc hw.toHR0 h
      | loop a => exact sim_ctl stepG_loop stepG_loop (.run (k := .code a :: .inLoop a :: k) ht (two (y := .code a) (z := .inLoop a) hc' hc')) hc hw.toHR0 h
      | ret =>
        rcases hend with he | he
        · rw [he]
          exact sim_ctl stepG_ret' stepG_ret' (.ret ht) hc hw.toHR0 h
        · exact absurd rfl (he.2 k)
      | refuse m =>
        have : stepG P true (G ((base f).at ⟨t, []⟩ (.code (.refuse m) :: k)) cs) w = .ended (.unsupported (.elab m) (Frame.pos P ((base f).at ⟨t, []⟩ (.code (.refuse m) :: k)))) w := by simp [G, stepG, stepG.exec, Frame.at]
        rw [this] at h; cases h
      | exit id =>
        cases he : exitTo id k with
        | some k1 => exact sim_ctl (stepG_exit he) (stepG_exit (exitTo_app _ he)) (.run ht (exitTo_ok he hk')) hc hw.toHR0 h
        | none =>
          have : ∃ o, stepG P true (G ((base f).at ⟨t, []⟩ (.code (.exit id) :: k)) cs) w = .ended o w := by simp [G, stepG, stepG.exec, Frame.at, he]
          obtain ⟨o, this⟩ := this
          rw [this] at h; cases h
      | cond c a c2 =>
        simp only [okCode, Bool.and_eq_true] at hc'
        have hv := ER.of (a := ⟨t, []⟩) (a' := ⟨t', (bo b cs).ds⟩) ht c hc'.1.1
        generalize he : Act.eval ⟨t, []⟩ c = v at hv
        generalize he' : Act.eval ⟨t', (bo b cs).ds⟩ c = v' at hv
        have no : (∀ b, v ≠ .bool b) → False := fun hn => by
          have h2 : ((base f).at ⟨t, []⟩ (.code (.cond c a c2) :: k)).eval c = v := by rw [Frame.eval_at]; exact he
          have : ∃ o, stepG P true (G ((base f).at ⟨t, []⟩ (.code (.cond c a c2) :: k)) cs) w = .ended o w := by
            simp only [Frame.at] at h2
            cases v <;> first
              | exact absurd rfl (hn _)
              | exact ⟨_, by simp [G, stepG, stepG.exec, Frame.at, h2]; rfl⟩
          obtain ⟨o, this⟩ := this
          rw [this] at h; cases h
        cases hv with
        | bool q =>
          refine sim_ctl (stepG_cond he) (stepG_cond he') (.run (k := .code (if q = true then a else c2) :: k) ht (one (y := .code (if q = true then a else c2)) ?_)) hc hw.toHR0 h
          show okCode P S V (if q = true then a else c2) = true
          cases q
          · exact hc'.2
          · exact hc'.1.2
        | _ => exact (no (by intro b hb; cases hb)).elim
      | region id ops draw =>
        cases draw with
        | false => exact sim_ctl stepG_region stepG_region (.run (k := .inRegion ops (List.range ops.size) :: k) ht (one (y := .inRegion ops (List.range ops.size)) hc')) hc hw.toHR0 h
        | true =>
          have key : ∀ (bb : Frame) (_ : bb.fn = f) (mn : Bool) (t : Array Value) (ds : List Deferred) (k : List Item) (cs : List Frame) (w : World), stepG P mn (G (bb.at ⟨t, ds⟩ (.code (.region id ops true) :: k)) cs) w = .go (G (bb.at ⟨t, ds⟩ (.inRegion ops (Region.schedule (P.follows .mixedOrders) ops (w.tape w.drawn (.order f id))) :: k)) cs) { w with drawn := w.drawn + 1 } := fun bb hbb mn t ds k cs w => by
            simp [G, stepG, stepG.exec, Frame.at, hbb, choose, Sem.run, Question.forced, Question.cut]
          rw [key (base f) rfl] at h
          simp only [GStep.go.injEq] at h
          obtain ⟨e1, e2, _⟩ := h
          subst e2
          have e3 := congrArg Goroutine.frame e1
          have e4 := congrArg Goroutine.callers e1
          simp only [G] at e3 e4
          subst e3 e4
          refine ⟨r, _, _, _, _, key _ rfl main t' _ _ _ w', ?_, hc, ⟨hw.fn, hw.inj, hw.obj, hw.low⟩, .of_heap rfl, .of_heap _ rfl rfl rfl rfl, by simp⟩
          have : w'.tape w'.drawn (.order f id) = w.tape w.drawn (.order f id) := (hw.tape 0 _).symm
          rw [this]
          exact .run (k := .inRegion ops _ :: k) ht (one (y := .inRegion ops _) hc')
      | rangeFunc a b c d => simp [okCode] at hc'
      | scope a => simp [okCode] at hc'
      | goto l => simp [okCode] at hc'
    | inScope b => simp [okItem] at hx
    | inRangeFunc l => simp [okItem] at hx
    | endRangeFunc l => simp [okItem] at hx
    | beginRound => simp [okItem] at hx
    | call d a b c => simp [okItem] at hx
    | extern a b => simp [okItem] at hx

end
end Go.Proofs.Ytcobehkadhcjiaa

/-
  WHETHER TWO SLICES OVERLAP: the same alone and among others, if what is asked of the tape is answered so.
-/
namespace Go.Proofs.Ytcobehkadhcjiaa
open Go Go.Conc
variable [Shift]

section
variable {P : Program} {S V : FuncId → Bool} {r : BR}

def strB (w : World) (a : Addr) : Bool := w.frozen? a || (match w.shape? a.block with | some (_, n) => w.frozen? ⟨a.block, n, none⟩ | none => false)
def zerB (w : World) (a : Addr) : Bool := match w.shape? a.block with | some (_, 0) => true | _ => false
def mayB (w : World) (a b : Addr) : Bool := (strB w a && strB w b) || (strB w a && zerB w a) || (strB w b && zerB w b)

omit [Shift] in
theorem run_stringish (a : Addr) (w : World) : (stringish a).run P w = .ok (strB w a) w := by
  unfold stringish strB
  simp only [Sem.run_bind, run_frozen, Result.andThen_ok]
  cases w.frozen? a with
  | true => simp
  | false =>
    simp only [Bool.false_eq_true, if_false, Sem.run_bind, run_shape, Result.andThen_ok, Bool.false_or]
    cases w.shape? a.block with
    | none => simp
    | some s => obtain ⟨e, n⟩ := s; simp
omit [Shift] in
theorem events_stringish (a : Addr) (w : World) (es : Array Event) : (stringish a).events P w es = es := by
  unfold stringish
  simp only [Sem.events_bind, run_frozen, Result.evThen_ok, events_frozen]
  cases w.frozen? a with
  | true => simp
  | false =>
    simp only [Bool.false_eq_true, if_false, Sem.events_bind, run_shape, Result.evThen_ok, events_shape]
    cases w.shape? a.block with
    | none => simp
    | some s => obtain ⟨e, n⟩ := s; simp
omit [Shift] in
theorem run_mayBeOne (a b : Addr) (w : World) : (mayBeOne a b).run P w = .ok (mayB w a b) w := by
  unfold mayBeOne
  simp only [Sem.run_bind, run_stringish, Result.andThen_ok, run_shape, Sem.run_pure]
  unfold mayB zerB
  rfl
omit [Shift] in
theorem events_mayBeOne (a b : Addr) (w : World) (es : Array Event) : (mayBeOne a b).events P w es = es := by
  unfold mayBeOne
  simp only [Sem.events_bind, run_stringish, events_stringish, Result.evThen_ok, run_shape, events_shape, Sem.events_pure, Sem.run_bind, Result.andThen_ok, Sem.run_pure]

theorem may_of {w w' : World} (h : HR0 S r w w') {a a' b b' : Addr} (xa : AR r a a') (xb : AR r b b') (hm : mayB w' a' b' = true) : mayB w a b = true := by
  have fz : ∀ {a a' : Addr}, Shift.n ≤ a.block → AR r a a' → ∀ (o : Nat), w'.frozen? ⟨a'.block, o, none⟩ = true → w.frozen? ⟨a.block, o, none⟩ = true := fun {a a'} hn x o hf => by
    obtain ⟨u, u', h1, h2, h3⟩ := h.obj x.block
    cases h3 with
    | win e hn2 rr hz hz2 => omega
    | cells e _ rr hz => exact (frozen_iff (a := ⟨a.block, o, none⟩) h1).2 (hz _ ((frozen_iff (a := ⟨a'.block, o, none⟩) h2).1 hf))
    | number _ _ _ => simp [World.frozen?, h2] at hf
    | inert e _ k1 k2 => exact absurd ((frozen_iff (a := ⟨a'.block, o, none⟩) h2).1 hf) (k2 _)
  have fz' : ∀ {a a' : Addr}, AR r a a' → w'.frozen? a' = true → w.frozen? a = true := fun {a a'} x hf => by
    have e1 : w'.frozen? a' = w'.frozen? ⟨a'.block, a'.off, none⟩ := rfl
    have e2 : w.frozen? a = w.frozen? ⟨a.block, a.off, none⟩ := rfl
    obtain ⟨u, u', h1, h2, h3⟩ := h.obj x.block
    cases h3 with
    | win e hn rr hz hz2 => exact (frozen_iff h1).2 (hz2 _ (x.off ▸ (frozen_iff h2).1 hf))
    | cells e hn _ _ =>
      have hoff : a'.off = a.off := by rw [x.off, shf_new hn]; rfl
      rw [e2, ← hoff]
      exact fz hn x _ (e1 ▸ hf)
    | number _ hn _ => simp [World.frozen?, h2] at hf
    | inert e _ k1 k2 => exact absurd ((frozen_iff h2).1 hf) (k2 _)
  have str : ∀ {a a' : Addr}, AR r a a' → strB w' a' = true → strB w a = true := fun {a a'} x hs => by
    unfold strB at hs ⊢
    rcases Bool.or_eq_true_iff.1 hs with h1 | h1
    · rw [fz' x h1]; rfl
    · obtain ⟨u, u', k1, k2, k3⟩ := h.obj x.block
      cases k3 with
      | @win c c' e f f' hn rr hz hz2 =>
        simp only [World.shape?, k1]
        rw [(frozen_iff (a := ⟨a.block, c.size, none⟩) k1).2 (hz _ (Nat.le_refl _)), Bool.or_true]
      | cells e hn rr hz =>
        simp only [World.shape?, k1, k2] at h1 ⊢
        rw [← rr.size] at h1
        rw [fz hn x _ h1]
        simp
      | number _ _ _ => simp [World.shape?, k2] at h1
      | inert e _ q1 q2 =>
        simp only [World.shape?, k2] at h1
        exact absurd ((frozen_iff (a := ⟨a'.block, _, none⟩) k2).1 h1) (q2 _)
  have zer : ∀ {a a' : Addr}, AR r a a' → zerB w' a' = true → zerB w a = true := fun {a a'} x hs => by
    unfold zerB at hs ⊢
    obtain ⟨u, u', k1, k2, k3⟩ := h.obj x.block
    cases k3 with
    | @win c c' e f f' hn rr hz hz2 =>
      simp only [World.shape?, k1, k2] at hs ⊢
      have h0 : c'.size = 0 := by
        split at hs
        · rename_i he
          simp only [Option.some.injEq, Prod.mk.injEq] at he
          exact he.2
        · cases hs
      have h1 : c.size = 0 := by
        apply Nat.eq_zero_of_not_pos
        intro hp
        obtain ⟨v', hv, _⟩ := rr 0 c[0] (by simp [hp])
        have := (Array.getElem?_eq_some_iff.1 hv).1
        omega
      rw [h1]
      rfl
    | cells e hn rr hz =>
      simp only [World.shape?, k1, k2] at hs ⊢
      rw [← rr.size] at hs
      exact hs
    | number _ _ _ => simp [World.shape?, k2] at hs
    | @inert c e f _ q1 q2 =>
      simp only [World.shape?, k2] at hs
      split at hs
      · rename_i he
        simp only [Option.some.injEq, Prod.mk.injEq] at he
        omega
      · cases hs
  unfold mayB at hm ⊢
  simp only [Bool.or_eq_true, Bool.and_eq_true] at hm ⊢
  rcases hm with (⟨h1, h2⟩ | ⟨h1, h2⟩) | ⟨h1, h2⟩
  · exact .inl (.inl ⟨str xa h1, str xb h2⟩)
  · exact .inl (.inr ⟨str xa h1, zer xa h2⟩)
  · exact .inr ⟨str xb h1, zer xb h2⟩

theorem run_noView {w w' : World} (h : HR0 S r w w') {a a' : Addr} (x : AR r a a') : (noView a).run P w = .ok () w ∧ (noView a').run P w' = .ok () w' ∧ ∀ es, ∃ l, (noView a').events P w' es = es ++ l ∧ ∀ e ∈ l, EvS r w e := by
  obtain ⟨u, u', k1, k2, k3⟩ := h.obj x.block
  unfold noView viewAt
  cases k3 with
  | win e hn rr hz _ => exact ⟨by simp [World.shape?, k1], by simp [World.shape?, k2], fun es => ⟨#[], by simp [World.shape?, k2], by simp⟩⟩
  | cells e hn rr hz => exact ⟨by simp [World.shape?, k1], by simp [World.shape?, k2], fun es => ⟨#[], by simp [World.shape?, k2], by simp⟩⟩
  | @number y y' l _ hl =>
    have g1 : (getObj a.block).run P w = .ok (.number y l) w := by simp [getObj, Sem.run, k1]
    have g2 : (getObj a'.block).run P w' = .ok (.number y' l) w' := by simp [getObj, Sem.run, k2]
    have v2 : ∀ es, (getObj a'.block).events P w' es = es.push ⟨.obj a'.block, false, false⟩ := fun es => by simp [getObj, Sem.events, Sem.runT, k2, Obj.isChan, -Sem.runT_eq]
    refine ⟨by simp [World.shape?, k1, g1], by simp [World.shape?, k2, g2], fun es => ⟨#[⟨.obj a'.block, false, false⟩], by simp [World.shape?, k2, g2, v2], fun e he => ?_⟩⟩
    simp at he
    subst he
    exact ⟨.inr (.inl ⟨_, rfl, _, x.block, fun _ => ⟨_, _, k1⟩⟩), by simp⟩
  | inert e _ q1 q2 =>
    have g1 : (getObj a.block).run P w = .ok (.coro none) w := by simp [getObj, Sem.run, k1]
    exact ⟨by simp [World.shape?, k1, g1], by simp [World.shape?, k2], fun es => ⟨#[], by simp [World.shape?, k2], by simp⟩⟩

/-- The world, with another tape from here on. -/
def retape (w : World) (T : Nat → Question → Nat) : World := { w with tape := fun n q => if n < w.drawn then w.tape n q else T (n - w.drawn) q }
omit [Shift] in
theorem retape_drawn (w : World) (T : Nat → Question → Nat) (q : Question) : (retape w T).tape w.drawn q = T 0 q := by simp [retape]

def ovQ : Question := .extern "sameAddr.stringBytes" 2
omit [Shift] in
theorem run_ovQ (w : World) : (choose ovQ).run P w = .ok (w.tape w.drawn ovQ % 2) { w with drawn := w.drawn + 1 } := by
  simp [choose, ovQ, Sem.run, Question.forced, Question.cut]

omit [Shift] in
theorem ov_shape (ps rs : Array TypeId) (vs : Array Value) : (∃ a la c b lb d, vs = #[.slice a la c, .slice b lb d]) ∨ Never P (Extern.SlicesOverlaps.overlaps ps rs vs) := by
  rcases vs with ⟨l⟩
  rcases l with _ | ⟨v, _ | ⟨u, _ | ⟨x, l⟩⟩⟩
  · exact .inr (nv_stuck _)
  · exact .inr (nv_stuck _)
  · cases v <;> cases u <;> first | exact .inl ⟨_, _, _, _, _, _, rfl⟩ | exact .inr (nv_stuck _)
  · exact .inr (nv_stuck _)

omit [Shift] in
theorem ov_zero (ps rs : Array TypeId) (a b : Addr) (la c lb d : Nat) {t : TypeId} {elem : TypeId} (ht : ps[0]? = some t) (he : P.underlying t = some (.slice elem)) {n : Nat} (hn : ∀ w, (Go.sizeOf elem).run P w = .ok n w) (w : World) (es : Array Event) (h0 : la = 0 ∨ lb = 0 ∨ n = 0) :
    (Extern.SlicesOverlaps.overlaps ps rs #[.slice (some a) la c, .slice (some b) lb d]).run P w = .ok (.bool false) w ∧ (Extern.SlicesOverlaps.overlaps ps rs #[.slice (some a) la c, .slice (some b) lb d]).events P w es = es := by
  unfold Extern.SlicesOverlaps.overlaps
  dsimp only
  rw [ht]
  dsimp only
  constructor
  · change Sem.run P (underlying t >>= _) w = _
    rw [Sem.run_bind, run_underlying he, Result.andThen_ok, Sem.run_bind, hn, Result.andThen_ok]
    simp [h0]
  · change Sem.events P (underlying t >>= _) w es = _
    rw [Sem.events_bind, run_underlying he, Result.evThen_ok, events_underlying, Sem.events_bind, hn, Result.evThen_ok, events_sizeOf]
    simp [h0]
omit [Shift] in
theorem ov_nil1 (b : Option Addr) (ps rs : Array TypeId) (la c lb d : Nat) {t : TypeId} {elem : TypeId} (ht : ps[0]? = some t) (he : P.underlying t = some (.slice elem)) {n : Nat} (hn : ∀ w, (Go.sizeOf elem).run P w = .ok n w) (w : World) (es : Array Event) :
    (Extern.SlicesOverlaps.overlaps ps rs #[.slice none la c, .slice b lb d]).run P w = .ok (.bool false) w ∧ (Extern.SlicesOverlaps.overlaps ps rs #[.slice none la c, .slice b lb d]).events P w es = es := by
  unfold Extern.SlicesOverlaps.overlaps
  dsimp only
  rw [ht]
  dsimp only
  constructor
  · change Sem.run P (underlying t >>= _) w = _
    rw [Sem.run_bind, run_underlying he, Result.andThen_ok, Sem.run_bind, hn, Result.andThen_ok]
    simp
  · change Sem.events P (underlying t >>= _) w es = _
    rw [Sem.events_bind, run_underlying he, Result.evThen_ok, events_underlying, Sem.events_bind, hn, Result.evThen_ok, events_sizeOf]
    simp
omit [Shift] in
theorem ov_nil2 (a : Option Addr) (ps rs : Array TypeId) (la c lb d : Nat) {t : TypeId} {elem : TypeId} (ht : ps[0]? = some t) (he : P.underlying t = some (.slice elem)) {n : Nat} (hn : ∀ w, (Go.sizeOf elem).run P w = .ok n w) (w : World) (es : Array Event) :
    (Extern.SlicesOverlaps.overlaps ps rs #[.slice a la c, .slice none lb d]).run P w = .ok (.bool false) w ∧ (Extern.SlicesOverlaps.overlaps ps rs #[.slice a la c, .slice none lb d]).events P w es = es := by
  unfold Extern.SlicesOverlaps.overlaps
  dsimp only
  rw [ht]
  dsimp only
  constructor
  · change Sem.run P (underlying t >>= _) w = _
    rw [Sem.run_bind, run_underlying he, Result.andThen_ok, Sem.run_bind, hn, Result.andThen_ok]
    cases a <;> simp
  · change Sem.events P (underlying t >>= _) w es = _
    rw [Sem.events_bind, run_underlying he, Result.evThen_ok, events_underlying, Sem.events_bind, hn, Result.evThen_ok, events_sizeOf]
    cases a <;> simp
omit [Shift] in
theorem ov_same (ps rs : Array TypeId) (a b : Addr) (la c lb d : Nat) {t : TypeId} {elem : TypeId} (ht : ps[0]? = some t) (he : P.underlying t = some (.slice elem)) {n : Nat} (hn : ∀ w, (Go.sizeOf elem).run P w = .ok n w) (w : World) (es : Array Event) (h0 : ¬ (la = 0 ∨ lb = 0 ∨ n = 0)) (hab : a.block = b.block) :
    (Extern.SlicesOverlaps.overlaps ps rs #[.slice (some a) la c, .slice (some b) lb d]).run P w = .ok (.bool (decide (a.off < b.off + lb * n) && decide (b.off < a.off + la * n))) w ∧ (Extern.SlicesOverlaps.overlaps ps rs #[.slice (some a) la c, .slice (some b) lb d]).events P w es = es := by
  unfold Extern.SlicesOverlaps.overlaps
  dsimp only
  rw [ht]
  dsimp only
  constructor
  · change Sem.run P (underlying t >>= _) w = _
    rw [Sem.run_bind, run_underlying he, Result.andThen_ok, Sem.run_bind, hn, Result.andThen_ok]
    simp [h0, hab]
  · change Sem.events P (underlying t >>= _) w es = _
    rw [Sem.events_bind, run_underlying he, Result.evThen_ok, events_underlying, Sem.events_bind, hn, Result.evThen_ok, events_sizeOf]
    simp [h0, hab]
omit [Shift] in
theorem ov_apart (ps rs : Array TypeId) (a b : Addr) (la c lb d : Nat) {t : TypeId} {elem : TypeId} (ht : ps[0]? = some t) (he : P.underlying t = some (.slice elem)) {n : Nat} (hn : ∀ w, (Go.sizeOf elem).run P w = .ok n w) (w : World) (es : Array Event) (h0 : ¬ (la = 0 ∨ lb = 0 ∨ n = 0)) (hab : a.block ≠ b.block) (ha : (noView a).run P w = .ok () w) (hb : (noView b).run P w = .ok () w) :
    (Extern.SlicesOverlaps.overlaps ps rs #[.slice (some a) la c, .slice (some b) lb d]).run P w = (if w.frozen? a && w.frozen? b then .halt (.unsupported .addressObserved) w else if mayB w a b then .ok (.bool (w.tape w.drawn ovQ % 2 == 1)) { w with drawn := w.drawn + 1 } else .ok (.bool false) w) ∧
    ((w.frozen? a && w.frozen? b) = false → (Extern.SlicesOverlaps.overlaps ps rs #[.slice (some a) la c, .slice (some b) lb d]).events P w es = (noView b).events P w ((noView a).events P w es)) := by
  have hab' : (a.block != b.block) = true := by simpa using hab
  have hab2 : (a.block == b.block) = false := by simpa using hab
  unfold Extern.SlicesOverlaps.overlaps
  dsimp only
  rw [ht]
  dsimp only
  constructor
  · change Sem.run P (underlying t >>= _) w = _
    rw [Sem.run_bind, run_underlying he, Result.andThen_ok, Sem.run_bind, hn, Result.andThen_ok]
    dsimp only
    rw [if_neg h0]
    simp only [Sem.run_bind, run_frozen, Result.andThen_ok, hab', hab2, Bool.true_and, Bool.false_and, if_true]
    split
    · rfl
    · simp only [Sem.run_bind, ha, hb, Result.andThen_ok, run_mayBeOne]
      split
      · simp only [Sem.run_bind, show choose (Question.extern "sameAddr.stringBytes" 2) = choose ovQ from rfl, run_ovQ, Result.andThen_ok, Sem.run_pure]
      · simp
  · intro hf
    change Sem.events P (underlying t >>= _) w es = _
    rw [Sem.events_bind, run_underlying he, Result.evThen_ok, events_underlying, Sem.events_bind, hn, Result.evThen_ok, events_sizeOf]
    dsimp only
    rw [if_neg h0]
    simp only [Sem.events_bind, run_frozen, Result.evThen_ok, events_frozen, hab', hab2, Bool.true_and, Bool.false_and, if_true]
    rw [hf]
    simp only [Bool.false_eq_true, if_false, Sem.events_bind, ha, hb, Result.evThen_ok, run_mayBeOne, events_mayBeOne]
    split
    · simp only [Sem.events_bind, show choose (Question.extern "sameAddr.stringBytes" 2) = choose ovQ from rfl, run_ovQ, Result.evThen_ok, Sem.events_pure, events_choose]
    · simp


omit [Shift] in
theorem retape_heap (w : World) (T : Nat → Question → Nat) : (retape w T).heap = w.heap := rfl
theorem HR0.retape {w w' : World} (h : HR0 S r w w') (T : Nat → Question → Nat) : HR0 S r (retape w T) w' := ⟨h.fn, h.inj, h.obj, h.low⟩

/-- What is told of two slices, alone, it is told among others. -/
def OvSim (P : Program) (r : BR) (ps rs : Array TypeId) (w w' : World) (vs vs' : Array Value) (T : Nat → Question → Nat) : Prop :=
  ∀ x w1, (Extern.SlicesOverlaps.overlaps ps rs vs).run P (retape w T) = .ok x w1 → ∃ b w1', x = .bool b ∧ w1.heap = w.heap ∧ (Extern.SlicesOverlaps.overlaps ps rs vs').run P w' = .ok (.bool b) w1' ∧
    w1'.heap = w'.heap ∧ w1'.tape = w'.tape ∧ w1'.os = w'.os ∧ w1'.output = w'.output ∧ (∀ es, ∃ l', (Extern.SlicesOverlaps.overlaps ps rs vs').events P w' es = es ++ l' ∧ ∀ e ∈ l', EvS r w e)

theorem ov_rel {ps rs : Array TypeId} {w w' : World} (h : HR0 S r w w') {vs vs' : Array Value} (hv : RR S r vs vs') : ∃ T, OvSim P r ps rs w w' vs vs' T := by
  rcases ov_shape (P := P) ps rs vs with ⟨a, la, c, b, lb, d, rfl⟩ | hn
  rotate_left
  · exact ⟨fun _ _ => 0, fun x w1 hr => absurd hr (hn _ _ _)⟩
  have hsz := hv.size
  simp at hsz
  obtain ⟨v0, v1, rfl⟩ : ∃ v0 v1, vs' = #[v0, v1] := by
    refine ⟨vs'[0], vs'[1], ?_⟩
    apply Array.ext
    · simp [← hsz]
    · intro i h1 h2
      rcases i with _ | _ | i
      · rfl
      · rfl
      · omega
  have h0 : VR S r (.slice a la c) v0 := hv.at_ 0 (by simp) (by simp)
  have h1 : VR S r (.slice b lb d) v1 := hv.at_ 1 (by simp) (by simp)
  by_cases hex : ∃ t elem n, ps[0]? = some t ∧ P.underlying t = some (.slice elem) ∧ ∀ w, (Go.sizeOf elem).run P w = .ok n w
  rotate_left
  · refine ⟨fun _ _ => 0, fun x w1 hr => ?_⟩
    exfalso
    refine (show Never P (Extern.SlicesOverlaps.overlaps ps rs #[.slice a la c, .slice b lb d]) from ?_) _ _ _ hr
    unfold Extern.SlicesOverlaps.overlaps
    dsimp only
    cases ht : ps[0]? with
    | none => exact nv_stuck _
    | some t =>
      refine nv_bindFree (hf_underlying t) fun e he => ?_
      cases e <;> first | exact nv_stuck _ | skip
      rename_i elem
      refine nv_bindFree (hf_sizeOf elem) fun n hn => ?_
      obtain ⟨w0, hn⟩ := hn
      exact absurd ⟨t, elem, n, ht, underlying_of he, fun w => run_of_free (hf_sizeOf elem) hn w⟩ hex
  obtain ⟨t, elem, n, ht, he, hn⟩ := hex
  cases h0 with
  | nilSlice =>
    have key : ∀ b', VR S r (.slice b lb d) b' → ∃ z, b' = .slice z lb d := fun b' hb => by cases hb <;> exact ⟨_, rfl⟩
    obtain ⟨z, rfl⟩ := key _ h1
    refine ⟨fun _ _ => 0, fun x w1 hr => ?_⟩
    rw [(ov_nil1 b ps rs la c lb d ht he hn _ #[]).1] at hr
    simp only [Result.ok.injEq] at hr
    obtain ⟨rfl, rfl⟩ := hr
    exact ⟨false, w', rfl, rfl, (ov_nil1 z ps rs la c lb d ht he hn w' #[]).1, rfl, rfl, rfl, rfl, fun es => ⟨#[], by rw [(ov_nil1 z ps rs la c lb d ht he hn w' es).2]; simp, by simp⟩⟩
  | @void a a' _ _ _ =>
    cases h1 with
    | nilSlice =>
      refine ⟨fun _ _ => 0, fun x w1 hr => ?_⟩
      rw [(ov_nil2 (some a) ps rs 0 0 lb d ht he hn _ #[]).1] at hr
      simp only [Result.ok.injEq] at hr
      obtain ⟨rfl, rfl⟩ := hr
      exact ⟨false, w', rfl, rfl, (ov_nil2 (some a') ps rs 0 0 lb d ht he hn w' #[]).1, rfl, rfl, rfl, rfl, fun es => ⟨#[], by rw [(ov_nil2 (some a') ps rs 0 0 lb d ht he hn w' es).2]; simp, by simp⟩⟩
    | @slice b b' _ _ _ =>
      refine ⟨fun _ _ => 0, fun x w1 hr => ?_⟩
      rw [(ov_zero ps rs a b 0 0 lb d ht he hn _ #[] (.inl rfl)).1] at hr
      simp only [Result.ok.injEq] at hr
      obtain ⟨rfl, rfl⟩ := hr
      exact ⟨false, w', rfl, rfl, (ov_zero ps rs a' b' 0 0 lb d ht he hn w' #[] (.inl rfl)).1, rfl, rfl, rfl, rfl, fun es => ⟨#[], by rw [(ov_zero ps rs a' b' 0 0 lb d ht he hn w' es (.inl rfl)).2]; simp, by simp⟩⟩
    | @void b b' _ _ _ =>
      refine ⟨fun _ _ => 0, fun x w1 hr => ?_⟩
      rw [(ov_zero ps rs a b 0 0 0 0 ht he hn _ #[] (.inl rfl)).1] at hr
      simp only [Result.ok.injEq] at hr
      obtain ⟨rfl, rfl⟩ := hr
      exact ⟨false, w', rfl, rfl, (ov_zero ps rs a' b' 0 0 0 0 ht he hn w' #[] (.inl rfl)).1, rfl, rfl, rfl, rfl, fun es => ⟨#[], by rw [(ov_zero ps rs a' b' 0 0 0 0 ht he hn w' es (.inl rfl)).2]; simp, by simp⟩⟩
  | @slice a a' _ _ xa =>
    cases h1 with
    | nilSlice =>
      refine ⟨fun _ _ => 0, fun x w1 hr => ?_⟩
      rw [(ov_nil2 (some a) ps rs la c lb d ht he hn _ #[]).1] at hr
      simp only [Result.ok.injEq] at hr
      obtain ⟨rfl, rfl⟩ := hr
      exact ⟨false, w', rfl, rfl, (ov_nil2 (some a') ps rs la c lb d ht he hn w' #[]).1, rfl, rfl, rfl, rfl, fun es => ⟨#[], by rw [(ov_nil2 (some a') ps rs la c lb d ht he hn w' es).2]; simp, by simp⟩⟩
    | @void b b' _ _ _ =>
      refine ⟨fun _ _ => 0, fun x w1 hr => ?_⟩
      rw [(ov_zero ps rs a b la c 0 0 ht he hn _ #[] (.inr (.inl rfl))).1] at hr
      simp only [Result.ok.injEq] at hr
      obtain ⟨rfl, rfl⟩ := hr
      exact ⟨false, w', rfl, rfl, (ov_zero ps rs a' b' la c 0 0 ht he hn w' #[] (.inr (.inl rfl))).1, rfl, rfl, rfl, rfl, fun es => ⟨#[], by rw [(ov_zero ps rs a' b' la c 0 0 ht he hn w' es (.inr (.inl rfl))).2]; simp, by simp⟩⟩
    | @slice b b' _ _ xb =>
      by_cases hz : la = 0 ∨ lb = 0 ∨ n = 0
      · refine ⟨fun _ _ => 0, fun x w1 hr => ?_⟩
        rw [(ov_zero ps rs a b la c lb d ht he hn _ #[] hz).1] at hr
        simp only [Result.ok.injEq] at hr
        obtain ⟨rfl, rfl⟩ := hr
        exact ⟨false, w', rfl, rfl, (ov_zero ps rs a' b' la c lb d ht he hn w' #[] hz).1, rfl, rfl, rfl, rfl, fun es => ⟨#[], by rw [(ov_zero ps rs a' b' la c lb d ht he hn w' es hz).2]; simp, by simp⟩⟩
      · by_cases hab : a.block = b.block
        · have hab' : a'.block = b'.block := h.fn xa.block (hab ▸ xb.block)
          refine ⟨fun _ _ => 0, fun x w1 hr => ?_⟩
          rw [(ov_same ps rs a b la c lb d ht he hn _ #[] hz hab).1] at hr
          simp only [Result.ok.injEq] at hr
          obtain ⟨rfl, rfl⟩ := hr
          refine ⟨_, w', rfl, rfl, ?_, rfl, rfl, rfl, rfl, fun es => ⟨#[], by rw [(ov_same ps rs a' b' la c lb d ht he hn w' es hz hab').2]; simp, by simp⟩⟩
          have es : shf a.block = shf b.block := by rw [hab]
          have e1 : (a.off + shf b.block < b.off + shf b.block + lb * n) = (a.off < b.off + lb * n) := propext ⟨fun h => by omega, fun h => by omega⟩
          have e2 : (b.off + shf b.block < a.off + shf b.block + la * n) = (b.off < a.off + la * n) := propext ⟨fun h => by omega, fun h => by omega⟩
          rw [(ov_same ps rs a' b' la c lb d ht he hn w' #[] hz hab').1, xa.off, xb.off, es]
          simp only [e1, e2]
        · by_cases hww : (a.block < Shift.n ∧ b.block < Shift.n) ∧ a'.block = b'.block
          · obtain ⟨hww, hab'⟩ := hww
            have str : ∀ {a a' : Addr}, AR r a a' → a.block < Shift.n → strB w a = true := fun {a a'} x hlt => by
              obtain ⟨u, u', h1, h2, h3⟩ := h.obj x.block
              cases h3 with
              | @win c c' e f f' hn rr hz hz2 =>
                unfold strB
                simp only [World.shape?, h1]
                rw [(frozen_iff (a := ⟨a.block, c.size, none⟩) h1).2 (hz _ (Nat.le_refl _)), Bool.or_true]
              | cells e hn _ _ => omega
              | number _ hn _ => omega
              | inert e hn _ _ => omega
            have hres := fun es => ov_same ps rs a' b' la c lb d ht he hn w' es hz hab'
            obtain ⟨q, hq⟩ : ∃ q, q = (decide (a'.off < b'.off + lb * n) && decide (b'.off < a'.off + la * n)) := ⟨_, rfl⟩
            obtain ⟨m, hmq⟩ : ∃ m : Nat, (m % 2 == 1) = q := by cases q <;> first | exact ⟨0, rfl⟩ | exact ⟨1, rfl⟩
            refine ⟨fun _ _ => m, fun x w1 hr => ?_⟩
            obtain ⟨na, _, _⟩ := run_noView (P := P) (h.retape fun _ _ => m) xa
            obtain ⟨nb, _, _⟩ := run_noView (P := P) (h.retape fun _ _ => m) xb
            rw [(ov_apart ps rs a b la c lb d ht he hn _ #[] hz hab na nb).1] at hr
            have hml : mayB (retape w fun _ _ => m) a b = true := by
              show mayB w a b = true
              unfold mayB
              rw [str xa hww.1, str xb hww.2]; rfl
            have ht0 : (retape w fun _ _ => m).tape (retape w fun _ _ => m).drawn ovQ = m := retape_drawn w _ _
            rw [ht0] at hr
            split at hr
            · cases hr
            · (try rw [if_pos hml] at hr)
              simp only [Result.ok.injEq] at hr
              obtain ⟨rfl, rfl⟩ := hr
              exact ⟨q, w', by rw [hmq], rfl, by rw [(hres #[]).1, ← hq], rfl, rfl, rfl, rfl, fun es => ⟨#[], by rw [(hres es).2]; simp, by simp⟩⟩
          have hab' : a'.block ≠ b'.block := fun e => by
            rcases h.inj xa.block (e ▸ xb.block) with h | h
            · exact hab h
            · exact hww ⟨h, e⟩
          obtain ⟨_, na', ea⟩ := run_noView (P := P) h xa
          obtain ⟨_, nb', eb⟩ := run_noView (P := P) h xb
          have evs : ∀ es, ∃ l', (noView b').events P w' ((noView a').events P w' es) = es ++ l' ∧ ∀ e ∈ l', EvS r w e := fun es => by
            obtain ⟨l1, q1, q2⟩ := ea es
            obtain ⟨l2, q3, q4⟩ := eb (es ++ l1)
            refine ⟨l1 ++ l2, by rw [q1, q3, Array.append_assoc], fun e he => ?_⟩
            rcases Array.mem_append.1 he with he | he
            · exact q2 e he
            · exact q4 e he
          have fz : (w.frozen? a && w.frozen? b) = false → (w'.frozen? a' && w'.frozen? b') = false := fun hf => by
            cases hq : (w'.frozen? a' && w'.frozen? b') with
            | false => rfl
            | true =>
              exfalso
              simp only [Bool.and_eq_true] at hq
              have up : ∀ {a a' : Addr}, AR r a a' → w'.frozen? a' = true → w.frozen? a = true := fun {a a'} x hf => by
                obtain ⟨u, u', h1, h2, h3⟩ := h.obj x.block
                cases h3 with
                | win e hn rr hz hz2 => exact (frozen_iff h1).2 (hz2 _ (x.off ▸ (frozen_iff h2).1 hf))
                | cells e hn rr hz =>
                  have hoff : a'.off = a.off := by rw [x.off, shf_new hn]; rfl
                  exact (frozen_iff h1).2 (hoff ▸ hz _ ((frozen_iff h2).1 hf))
                | number _ _ _ => simp [World.frozen?, h2] at hf
                | inert e _ k1 k2 => exact absurd ((frozen_iff h2).1 hf) (k2 _)
              rw [up xa hq.1, up xb hq.2] at hf
              simp at hf
          by_cases hm : mayB w' a' b' = true
          · refine ⟨fun k q => w'.tape (w'.drawn + k) q, fun x w1 hr => ?_⟩
            obtain ⟨na, _, _⟩ := run_noView (P := P) (h.retape fun k q => w'.tape (w'.drawn + k) q) xa
            obtain ⟨nb, _, _⟩ := run_noView (P := P) (h.retape fun k q => w'.tape (w'.drawn + k) q) xb
            rw [(ov_apart ps rs a b la c lb d ht he hn _ #[] hz hab na nb).1] at hr
            have hml : mayB (retape w fun k q => w'.tape (w'.drawn + k) q) a b = true := may_of (h.retape _) xa xb hm
            split at hr
            · cases hr
            · rename_i hf
              (try rw [if_pos hml] at hr)
              simp only [Result.ok.injEq] at hr
              obtain ⟨rfl, rfl⟩ := hr
              have hf0 : ¬ (w.frozen? a && w.frozen? b) = true := hf
              have hf' := fz (by simpa using hf0)
              refine ⟨_, { w' with drawn := w'.drawn + 1 }, rfl, rfl, ?_, rfl, rfl, rfl, rfl, fun es => ?_⟩
              · rw [(ov_apart ps rs a' b' la c lb d ht he hn _ #[] hz hab' na' nb').1, if_neg (by rw [hf']; simp), if_pos hm]
                have : (retape w fun k q => w'.tape (w'.drawn + k) q).tape (retape w fun k q => w'.tape (w'.drawn + k) q).drawn ovQ = w'.tape w'.drawn ovQ := retape_drawn w _ _
                rw [this]
              · rw [(ov_apart ps rs a' b' la c lb d ht he hn _ es hz hab' na' nb').2 hf']
                exact evs es
          · refine ⟨fun _ _ => 0, fun x w1 hr => ?_⟩
            obtain ⟨na, _, _⟩ := run_noView (P := P) (h.retape fun _ _ => 0) xa
            obtain ⟨nb, _, _⟩ := run_noView (P := P) (h.retape fun _ _ => 0) xb
            rw [(ov_apart ps rs a b la c lb d ht he hn _ #[] hz hab na nb).1] at hr
            have ht0 : (retape w fun _ _ => 0).tape (retape w fun _ _ => 0).drawn ovQ = 0 := retape_drawn w _ _
            rw [ht0] at hr
            split at hr
            · cases hr
            · rename_i hf
              have hf0 : ¬ (w.frozen? a && w.frozen? b) = true := hf
              have hf' := fz (by simpa using hf0)
              have key : x = .bool false ∧ w1.heap = w.heap := by
                split at hr <;> (simp only [Result.ok.injEq] at hr; obtain ⟨rfl, rfl⟩ := hr; exact ⟨rfl, rfl⟩)
              refine ⟨false, w', key.1, key.2, ?_, rfl, rfl, rfl, rfl, fun es => ?_⟩
              · rw [(ov_apart ps rs a' b' la c lb d ht he hn _ #[] hz hab' na' nb').1, if_neg (by rw [hf']; simp), if_neg hm]
              · rw [(ov_apart ps rs a' b' la c lb d ht he hn _ es hz hab' na' nb').2 hf']
                exact evs es
end
end Go.Proofs.Ytcobehkadhcjiaa

/-
  ONE STEP ALONE IS ONE STEP AMONG OTHERS, whichever it is, if the tape is laid so.
-/
namespace Go.Proofs.Ytcobehkadhcjiaa
open Go Go.Conc
variable [Shift]

section
variable {P : Program} {S V : FuncId → Bool} {r : BR} {b0 : Bot} {main : Bool} {bs : List Frame}

omit [Shift] in
theorem LF.untape {w w1 : World} {T : Nat → Question → Nat} (h : LF (retape w T) w1) : LF w w1 := ⟨h.size, h.obj, h.kept, h.non⟩
omit [Shift] in
theorem FR.untape {r1 : BR} {w w' w1' : World} {T : Nat → Question → Nat} (h : FR r r1 (retape w T) w' w1') : FR r r1 w w' w1' := ⟨h.ext, h.new, h.tape, h.os, h.output, h.size, h.old, h.cell⟩
theorem Sim.untape {w w1 w' : World} {T : Nat → Question → Nat} {fr1 fr' : Frame} {cs1 cs' : List Frame} (h : Sim P S V r b0 main bs (retape w T) fr1 cs1 w1 fr' cs' w') : Sim P S V r b0 main bs w fr1 cs1 w1 fr' cs' w' := by
  obtain ⟨r1, a, b, c, d, h1, h2, h3, h4, h5, h6, h7⟩ := h
  exact ⟨r1, a, b, c, d, h1, h2, h3, h4, h5.untape, h6.untape, h7⟩

theorem exec_ov {P : Program} (hP : OkP P S V) {o : Oper} (h : okOv S V o.op = true) : ∃ (f : FuncId) (args : Array Operand) (ps rs : Array TypeId), args.all (okX S) = true ∧ ∀ (a : Act) (w : World),
    (execOp a.eval o).run P w = (match (Extern.SlicesOverlaps.overlaps ps rs (args.map a.eval)).run P w with | .ok v w1 => .ok (.value v) w1 | .halt x w1 => .halt x w1) ∧
    ((execOp a.eval o).events P w #[]) = (Extern.SlicesOverlaps.overlaps ps rs (args.map a.eval)).events P w (#[].push ⟨.mark (.extern f), false, true⟩) := by
  cases ho : o.op with
  | call c =>
    obtain ⟨cal, args, ats⟩ := c
    rw [ho] at h
    cases cal with
    | value x =>
      cases x with
      | func f =>
        simp only [okOv, Bool.and_eq_true] at h
        obtain ⟨fn, h1, h2, h3, h4, h5⟩ := hP.over f h.1
        refine ⟨f, args, fn.params, fn.resultTypes, h.2, fun a w => ?_⟩
        have h2' : ¬ fn.name = "runtime.NumGoroutine" := by simpa using h2
        rw [execOp_call_func ho]
        unfold callFunc
        simp only [Sem.run_bind, run_program, Result.andThen_ok, h1, h3, h4, h5, Option.isNone_none, if_true, Sem.events_bind, Result.evThen_ok, events_program, h2, Bool.false_eq_true, if_false, run_mark, events_mark]
        constructor
        · cases (Extern.SlicesOverlaps.overlaps fn.params fn.resultTypes (args.map a.eval)).run P w <;> simp
        · cases (Extern.SlicesOverlaps.overlaps fn.params fn.resultTypes (args.map a.eval)).run P w <;> simp
      | _ => simp [okOv] at h
    | _ => simp [okOv] at h
  | _ => rw [ho] at h; simp [okOv] at h

theorem sim_ov (hP : OkP P S V) {f : FuncId} {t t' : Array Value} {k : List Item} {cs cs' : List Frame} {w w' : World} {ops : Array Oper} {i : Nat} {rest : List Nat} {o : Oper}
    (ho : ops[i]? = some o) (hov : okOv S V o.op = true) (hw : Region.wanted o (yielded ops t) = true) (ht : RR S r t t') (hk : ∀ x ∈ (.inRegion ops (i :: rest) :: k), okItem P S V x = true) (hc : CsR P S V r b0 cs cs') (hw0 : HR0 S r w w') :
    ∃ T, ∀ (fr1 : Frame) (cs1 : List Frame) (w1 : World) (es : Array Event), stepG P true (G ((base f).at ⟨t, []⟩ (.inRegion ops (i :: rest) :: k)) cs) (retape w T) = .go (G fr1 cs1) w1 es → (∀ ch, fr1.mode ≠ .panicking ch) →
    Sim P S V r b0 main bs w fr1 cs1 w1 ((baseK (bo b0 cs).kd f).at ⟨t', (bo b0 cs).ds⟩ (.inRegion ops (i :: rest) :: k ++ (bo b0 cs).k0)) cs' w' := by
  obtain ⟨g, args, ps, rs, ha, hx⟩ := exec_ov hP hov
  have hb : (base f).kind ≠ .early := by simp [base]
  have hwt' : Region.wanted o (yielded ops t') = true := by rw [wanted_rr ht]; exact hw
  have hkk : ∀ x ∈ (.inRegion ops rest :: k : List Item), okItem P S V x = true := fun x hx => by
    rcases List.mem_cons.1 hx with rfl | hx
    · exact hk (.inRegion ops (i :: rest)) (by simp)
    · exact hk x (by simp [hx])
  obtain ⟨T, hT⟩ := ov_rel (P := P) (ps := ps) (rs := rs) hw0 ((ER.of (a := ⟨t, []⟩) (a' := ⟨t', (bo b0 cs).ds⟩) ht).all args ha)
  refine ⟨T, fun fr1 cs1 w1 es h hm => ?_⟩
  have hg := stepG_oper (P := P) (main := true) (b := base f) (a := ⟨t, []⟩) (k := k) (cs := cs) (w := retape w T) (rest := rest) ho hw
  rw [hg] at h
  obtain ⟨n, w2, hr⟩ := apply_go hP h hm
  rw [← hg] at h
  have hr2 := hr
  rw [(hx ⟨t, []⟩ (retape w T)).1] at hr2
  cases hov2 : (Extern.SlicesOverlaps.overlaps ps rs (args.map (Act.eval ⟨t, []⟩))).run P (retape w T) with
  | halt e we => rw [hov2] at hr2; cases hr2
  | ok v w3 =>
    rw [hov2] at hr2
    simp only [Result.ok.injEq] at hr2
    obtain ⟨rfl, rfl⟩ := hr2
    obtain ⟨b, w1', hb1, hheap, hrun, h1, h2, h3, h4, hev⟩ := hT v w3 hov2
    subst hb1
    have hr' : (execOp (Act.eval ⟨t', (bo b0 cs).ds⟩) o).run P w' = .ok (.value (.bool b)) w1' := by rw [(hx ⟨t', (bo b0 cs).ds⟩ w').1, hrun]
    rw [stepG_value (main := true) ho hw hb hr] at h
    simp only [GStep.go.injEq] at h
    obtain ⟨e1, e2, _⟩ := h
    subst e2
    have e3 := congrArg Goroutine.frame e1
    have e4 := congrArg Goroutine.callers e1
    simp only [G] at e3 e4
    subst e3 e4
    rw [List.cons_append]
    refine ⟨r, _, cs', w1', _, stepG_value ho hwt' (bo b0 cs).hk hr', by rw [put_eq t, put_eq t']; exact .run (k := .inRegion ops rest :: k) (ht.put _ (.bool b)) hkk, hc, ⟨hw0.fn, hw0.inj, by rw [hheap, h1]; exact hw0.obj, by rw [hheap]; exact hw0.low⟩, .of_heap hheap, .of_heap _ h1 h2 h3 h4, fun e he => ?_⟩
    unfold listed at he
    rw [(hx ⟨t', (bo b0 cs).ds⟩ w').2] at he
    obtain ⟨l, hl1, hl2⟩ := hev (#[].push ⟨.mark (.extern g), false, true⟩)
    rw [hl1] at he
    obtain ⟨m1, m2⟩ := mem_seen he
    rcases Array.mem_append.1 m1 with m | m
    · simp at m
      subst m
      exact absurd rfl (m2 g)
    · exact hl2 e m

theorem sim_step (hP : OkP P S V) {fr fr' : Frame} {cs cs' : List Frame} {w w' : World} (hf : FrR P S V r (bo b0 cs) fr fr') (hc : CsR P S V r b0 cs cs') (hw : HR0 S r w w') (hne : fr.mode = .returning → cs ≠ []) (hend : bo b0 cs = .nil ∨ (fr.todo ≠ [] ∧ ∀ k2, fr.todo ≠ .code .ret :: k2)) :
    ∃ T, ∀ (fr1 : Frame) (cs1 : List Frame) (w1 : World) (es : Array Event), stepG P true (G fr cs) (retape w T) = .go (G fr1 cs1) w1 es → (∀ ch, fr1.mode ≠ .panicking ch) → Sim P S V r b0 main bs w fr1 cs1 w1 fr' cs' w' := by
  have hl : HR S r (retape w fun k q => w'.tape (w'.drawn + k) q) w' := ⟨hw.retape _, fun n q => by
    have : ¬ (w.drawn + n < w.drawn) := by omega
    show (if w.drawn + n < w.drawn then w.tape (w.drawn + n) q else w'.tape (w'.drawn + (w.drawn + n - w.drawn)) q) = _
    rw [if_neg this, Nat.add_sub_cancel_left]⟩
  cases hf with
  | ret ht => exact ⟨_, fun fr1 cs1 w1 es h _ => (sim_ret ht hc (hne rfl) hl h).untape⟩
  | @run f t t' k ht hk =>
    by_cases this : ∃ ops i rest k2 o, k = .inRegion ops (i :: rest) :: k2 ∧ ops[i]? = some o ∧ okOv S V o.op = true
    rotate_left
    · have hp : plainStep S V ((base f).at ⟨t, []⟩ k) := fun ops i rest k2 o h1 h2 => by
        cases h3 : okOv S V o.op with
        | false => rfl
        | true => exact absurd ⟨ops, i, rest, k2, o, h1, h2, h3⟩ this
      exact ⟨_, fun fr1 cs1 w1 es h hm => (sim_run hP ht hk hc hl hp hend h hm).untape⟩
    · skip
      obtain ⟨ops, i, rest, k2, o, rfl, ho, hov⟩ := this
      by_cases hwt : Region.wanted o (yielded ops t) = true
      · exact sim_ov hP ho hov hwt ht hk hc hw
      · refine ⟨fun _ _ => 0, fun fr1 cs1 w1 es h hm => ?_⟩
        have hwt' : ¬ Region.wanted o (yielded ops t') = true := by rw [wanted_rr ht]; exact hwt
        have key : ∀ (bb : Frame) (mn : Bool) (t : Array Value) (ds : List Deferred) (k2 : List Item) (cs : List Frame) (w : World), ¬ Region.wanted o (yielded ops t) = true → stepG P mn (G (bb.at ⟨t, ds⟩ (.inRegion ops (i :: rest) :: k2)) cs) w = .go (G (bb.at (Act.put ⟨t, ds⟩ o.dst undef) (.inRegion ops rest :: k2)) cs) w := fun bb mn t ds k2 cs w hn => by
          have := Frame.finish_at bb ⟨t, ds⟩ ops i rest k2 undef
          rw [ho] at this
          simp only [Option.bind_some] at this
          rw [← this]
          simp [G, stepG, stepG.exec, Frame.at, ho, hn]
        have hr : FrR P S V r (bo b0 cs) ((base f).at (Act.put ⟨t, []⟩ o.dst undef) (.inRegion ops rest :: k2)) ((baseK (bo b0 cs).kd f).at (Act.put ⟨t', (bo b0 cs).ds⟩ o.dst undef) (.inRegion ops rest :: (k2 ++ (bo b0 cs).k0))) := by
          rw [put_eq t, put_eq t']
          refine .run (k := .inRegion ops rest :: k2) (ht.put _ VR.undef) fun y hy => ?_
          rcases List.mem_cons.1 hy with rfl | hy
          · exact hk (.inRegion ops (i :: rest)) (by simp)
          · exact hk y (by simp [hy])
        rw [List.cons_append]
        exact (sim_ctl (key _ true t _ _ cs _ hwt) (key _ main t' _ _ _ w' hwt') hr hc (hw.retape _) h).untape
end
end Go.Proofs.Ytcobehkadhcjiaa

/-
  Goroutines among others: part 3 of what the law's own text rests on.
-/
import Derived.Test.YtcobehkadhcjiaaCc02
import Derived.Conc.Own4
/-
  RECKONING, AND ALL OPERATIONS TOGETHER.
-/
namespace Go.Proofs.Ytcobehkadhcjiaa
open Go
variable [Shift]

section
variable {P : Program} {S : FuncId → Bool} {r : BR}

/-- How large a row is, where there is one. -/
theorem shape_of {w w' : World} (h : HR0 S r w w') {a b : Nat} (x : r a b) : (w.shape? a = w'.shape? b ∧ Shift.n ≤ a) ∨ w.shape? a = none ∨ (a < Shift.n ∧ ∃ k k', w.shape? a = some (Shift.bog, k) ∧ w'.shape? b = some k') := by
  obtain ⟨o, o', h1, h2, h3⟩ := h.obj x
  unfold World.shape?
  rw [h1, h2]
  cases h3 with
  | cells e hn rr _ => exact .inl ⟨by simp [rr.size], hn⟩
  | win e hn rr _ _ => exact .inr (.inr ⟨hn, _, _, rfl, rfl⟩)
  | number _ _ _ => exact .inr (.inl rfl)
  | inert _ _ _ _ => exact .inr (.inl rfl)

/-- What lies behind a number that is an address: the block itself, unless it is a number's. -/
theorem sr_numberAt {a b : Nat} (x : r a b) : SR P S r (fun r1 u v => match u, v with
    | none, none => True
    | some y, some z => AR r1 y.1 z.1 ∧ z.2 = y.2
    | _, _ => False) (numberAt a) (numberAt b) := by
  intro w w' es hw u w1 hr
  obtain ⟨o, o', h1, h2, h3⟩ := hw.obj x
  unfold numberAt at hr ⊢
  cases h3 with
  | @win c c' e f f' hn rr hz _ =>
    have e1 : (shape a).run P w = .ok (some (Shift.bog, c.size)) w := by simp [World.shape?, h1]
    have e2 : (shape b).run P w' = .ok (some (e, c'.size)) w' := by simp [World.shape?, h2]
    simp only [Sem.run_bind, e1, Result.andThen_ok, Option.isSome_some, if_true, Sem.run_pure, Result.ok.injEq] at hr
    obtain ⟨rfl, rfl⟩ := hr
    exact ⟨r, none, w', #[], by simp only [Sem.run_bind, e2, Result.andThen_ok, Option.isSome_some, if_true, Sem.run_pure], by simp only [Sem.events_bind, e2, Result.evThen_ok, Option.isSome_some, if_true, Sem.events_pure, events_shape, Array.append_empty], trivial, hw, .refl _, .refl _ _ _, by simp⟩
  | @cells c c' e f f' hn rr hz =>
    have e1 : (shape a).run P w = .ok (some (e, c.size)) w := by simp [World.shape?, h1]
    have e2 : (shape b).run P w' = .ok (some (e, c'.size)) w' := by simp [World.shape?, h2]
    simp only [Sem.run_bind, e1, Result.andThen_ok, Option.isSome_some, if_true, Sem.run_pure, Result.ok.injEq] at hr
    obtain ⟨rfl, rfl⟩ := hr
    exact ⟨r, none, w', #[], by simp only [Sem.run_bind, e2, Result.andThen_ok, Option.isSome_some, if_true, Sem.run_pure], by simp only [Sem.events_bind, e2, Result.evThen_ok, Option.isSome_some, if_true, Sem.events_pure, events_shape, Array.append_empty], trivial, hw, .refl _, .refl _ _ _, by simp⟩
  | @number y1 y2 lost _ y =>
    have e1 : (shape a).run P w = .ok none w := by simp [World.shape?, h1]
    have e2 : (shape b).run P w' = .ok none w' := by simp [World.shape?, h2]
    have g1 : (getObj a).run P w = .ok (.number y1 lost) w := by simp [getObj, Sem.run, h1]
    have g2 : (getObj b).run P w' = .ok (.number y2 lost) w' := by simp [getObj, Sem.run, h2]
    have v2 : ∀ es, (getObj b).events P w' es = es.push ⟨.obj b, false, false⟩ := fun es => by simp [getObj, Sem.events, Sem.runT, h2, Obj.isChan, -Sem.runT_eq]
    simp only [Sem.run_bind, e1, g1, Result.andThen_ok, Option.isSome_none, Bool.false_eq_true, if_false, Sem.run_pure, Result.ok.injEq] at hr
    obtain ⟨rfl, rfl⟩ := hr
    refine ⟨r, some (y2, lost), w', #[⟨.obj b, false, false⟩], by simp only [Sem.run_bind, e2, g2, Result.andThen_ok, Option.isSome_none, Bool.false_eq_true, if_false, Sem.run_pure], by simp only [Sem.events_bind, e2, g2, v2, Result.evThen_ok, Option.isSome_none, Bool.false_eq_true, if_false, Sem.events_pure, events_shape]; rfl, ⟨y, rfl⟩, hw, .refl _, .refl _ _ _, fun e he => ?_⟩
    simp at he
    subst he
    exact .inr (.inl ⟨b, rfl, a, x, fun _ => ⟨_, _, h1⟩⟩)
  | @inert c' e f _ hs hz =>
    have e1 : (shape a).run P w = .ok none w := by simp [World.shape?, h1]
    have e2 : (shape b).run P w' = .ok (some (e, c'.size)) w' := by simp [World.shape?, h2]
    have g1 : (getObj a).run P w = .ok (.coro none) w := by simp [getObj, Sem.run, h1]
    simp only [Sem.run_bind, e1, g1, Result.andThen_ok, Option.isSome_none, Bool.false_eq_true, if_false, Sem.run_pure, Result.ok.injEq] at hr
    obtain ⟨rfl, rfl⟩ := hr
    exact ⟨r, none, w', #[], by simp only [Sem.run_bind, e2, Result.andThen_ok, Option.isSome_some, if_true, Sem.run_pure], by simp only [Sem.events_bind, e2, Result.evThen_ok, Option.isSome_some, if_true, Sem.events_pure, events_shape, Array.append_empty], trivial, hw, .refl _, .refl _ _ _, by simp⟩

theorem sr_behindNumber {a a' : Addr} (x : AR r a a') : SR P S r (fun r1 u v => AR r1 u.1 v.1 ∧ v.2 = u.2) (behindNumber a) (behindNumber a') := by
  unfold behindNumber
  refine sr_bind (sr_numberAt x.block) fun r1 hx u v h => sr_pure ?_
  cases u <;> cases v <;> first | exact h.elim | exact ⟨x.mono hx, rfl⟩ | exact h

theorem sr_asNumber {a a' : Addr} (x : AR r a a') (lost : Bool) : SR P S r (fun r1 v v' => VR S r1 v v') (asNumber a lost) (asNumber a' lost) := by
  unfold asNumber
  exact sr_bind (sr_newObj fun _ hx _ ha => .number lost ha (x.mono hx)) fun _ _ _ _ h => sr_pure (.ptr ⟨h.1, by simp [shf_new h.2], rfl⟩)

/-- A view is none of what is related. -/
theorem sr_viewAt {a b : Nat} (x : r a b) : SR P S r (fun _ u v => u = none ∧ v = none) (viewAt a) (viewAt b) := by
  intro w w' es hw u w1 hr
  obtain ⟨o, o', h1, h2, h3⟩ := hw.obj x
  unfold viewAt at hr ⊢
  cases h3 with
  | @win c c' e f f' hn rr hz _ =>
    have e1 : (shape a).run P w = .ok (some (Shift.bog, c.size)) w := by simp [World.shape?, h1]
    have e2 : (shape b).run P w' = .ok (some (e, c'.size)) w' := by simp [World.shape?, h2]
    simp only [Sem.run_bind, e1, Result.andThen_ok, Option.isSome_some, if_true, Sem.run_pure, Result.ok.injEq] at hr
    obtain ⟨rfl, rfl⟩ := hr
    exact ⟨r, none, w', #[], by simp only [Sem.run_bind, e2, Result.andThen_ok, Option.isSome_some, if_true, Sem.run_pure], by simp only [Sem.events_bind, e2, Result.evThen_ok, Option.isSome_some, if_true, Sem.events_pure, events_shape, Array.append_empty], ⟨rfl, rfl⟩, hw, .refl _, .refl _ _ _, by simp⟩
  | @cells c c' e f f' hn rr hz =>
    have e1 : (shape a).run P w = .ok (some (e, c.size)) w := by simp [World.shape?, h1]
    have e2 : (shape b).run P w' = .ok (some (e, c'.size)) w' := by simp [World.shape?, h2]
    simp only [Sem.run_bind, e1, Result.andThen_ok, Option.isSome_some, if_true, Sem.run_pure, Result.ok.injEq] at hr
    obtain ⟨rfl, rfl⟩ := hr
    exact ⟨r, none, w', #[], by simp only [Sem.run_bind, e2, Result.andThen_ok, Option.isSome_some, if_true, Sem.run_pure], by simp only [Sem.events_bind, e2, Result.evThen_ok, Option.isSome_some, if_true, Sem.events_pure, events_shape, Array.append_empty], ⟨rfl, rfl⟩, hw, .refl _, .refl _ _ _, by simp⟩
  | @number y1 y2 lost _ y =>
    have e1 : (shape a).run P w = .ok none w := by simp [World.shape?, h1]
    have e2 : (shape b).run P w' = .ok none w' := by simp [World.shape?, h2]
    have g1 : (getObj a).run P w = .ok (.number y1 lost) w := by simp [getObj, Sem.run, h1]
    have g2 : (getObj b).run P w' = .ok (.number y2 lost) w' := by simp [getObj, Sem.run, h2]
    have v2 : ∀ es, (getObj b).events P w' es = es.push ⟨.obj b, false, false⟩ := fun es => by simp [getObj, Sem.events, Sem.runT, h2, Obj.isChan, -Sem.runT_eq]
    simp only [Sem.run_bind, e1, g1, Result.andThen_ok, Option.isSome_none, Bool.false_eq_true, if_false, Sem.run_pure, Result.ok.injEq] at hr
    obtain ⟨rfl, rfl⟩ := hr
    refine ⟨r, none, w', #[⟨.obj b, false, false⟩], by simp only [Sem.run_bind, e2, g2, Result.andThen_ok, Option.isSome_none, Bool.false_eq_true, if_false, Sem.run_pure], by simp only [Sem.events_bind, e2, g2, v2, Result.evThen_ok, Option.isSome_none, Bool.false_eq_true, if_false, Sem.events_pure, events_shape]; rfl, ⟨rfl, rfl⟩, hw, .refl _, .refl _ _ _, fun e he => ?_⟩
    simp at he
    subst he
    exact .inr (.inl ⟨b, rfl, a, x, fun _ => ⟨_, _, h1⟩⟩)
  | @inert c' e f _ hs hz =>
    have e1 : (shape a).run P w = .ok none w := by simp [World.shape?, h1]
    have e2 : (shape b).run P w' = .ok (some (e, c'.size)) w' := by simp [World.shape?, h2]
    have g1 : (getObj a).run P w = .ok (.coro none) w := by simp [getObj, Sem.run, h1]
    simp only [Sem.run_bind, e1, g1, Result.andThen_ok, Option.isSome_none, Bool.false_eq_true, if_false, Sem.run_pure, Result.ok.injEq] at hr
    obtain ⟨rfl, rfl⟩ := hr
    exact ⟨r, none, w', #[], by simp only [Sem.run_bind, e2, Result.andThen_ok, Option.isSome_some, if_true, Sem.run_pure], by simp only [Sem.events_bind, e2, Result.evThen_ok, Option.isSome_some, if_true, Sem.events_pure, events_shape, Array.append_empty], ⟨rfl, rfl⟩, hw, .refl _, .refl _ _ _, by simp⟩
theorem sr_noView {a a' : Addr} (x : AR r a a') : SR P S r (fun _ _ _ => True) (noView a) (noView a') := by
  unfold noView
  refine sr_bind (sr_viewAt x.block) fun _ _ u v h => ?_
  obtain ⟨rfl, rfl⟩ := h
  exact sr_pure trivial

/-- The shape, on the left and on the right: the same, or on the left there is none. -/
theorem sr_shape {a b : Nat} (x : r a b) : SR P S r (fun _ u v => (v = u ∧ Shift.n ≤ a) ∨ u = none ∨ (a < Shift.n ∧ ∃ k k', u = some (Shift.bog, k) ∧ v = some k')) (shape a) (shape b) := by
  intro w w' es hw u w1 hr
  simp only [run_shape, Result.ok.injEq] at hr
  obtain ⟨rfl, rfl⟩ := hr
  exact ⟨r, _, w', #[], by simp only [run_shape], by simp, (shape_of hw.toHR0 x).imp (fun h => ⟨h.1.symm, h.2⟩) id, hw, .refl _, .refl _ _ _, by simp⟩

theorem sr_byteOf {a a' : Addr} (hn : Shift.n ≤ a.block) (x : AR r a a') : SR P S r (fun _ u v => v = u) (byteOf a) (byteOf a') := by
  unfold byteOf
  rw [x.spot]
  cases a.spot with
  | some s => exact sr_pure rfl
  | none =>
    refine sr_bindFree hf_program fun p _ => ?_
    refine sr_bind (sr_noView x) fun r1 hx _ _ _ => ?_
    refine sr_bind (sr_shape (hx _ _ x.block)) fun r2 hx2 u v h => ?_
    rcases h with ⟨rfl, _⟩ | rfl | ⟨hlt, _⟩
    rotate_left
    · exact sr_never (nv_stuck _)
    · omega
    · cases v with
      | none => exact sr_never (nv_stuck _)
      | some s =>
        obtain ⟨e, n⟩ := s
        dsimp only
        have hoff : a'.off = a.off := by rw [x.off, shf_new hn]; rfl
        rw [hoff]
        split
        · exact sr_pure rfl
        · cases byteOfCell p p.depth e (a.off % p.cellsOf e) with
          | none => exact sr_never (nv_stuck _)
          | some b => exact sr_pure rfl

theorem sr_unsafeAdd (hB : P.info? Shift.bog = none) (ts : Array TypeId) (t : TypeId) {a a' : Addr} (x : AR r a a') {v v' : Value} (h : VR S r v v') :
    SR P S r (fun r1 u u' => ∃ b b', u = Value.pointer (some b) ∧ u' = Value.pointer (some b') ∧ AR r1 b b') (Builtin.unsafeAdd_ ts t #[.pointer (some a), v]) (Builtin.unsafeAdd_ ts t #[.pointer (some a'), v']) := by
  unfold Builtin.unsafeAdd_
  refine sr_bind (sr_asInt h) fun r1 hx n n' e => ?_
  subst e
  have x1 := x.mono hx
  dsimp only
  split
  · refine sr_bind (sr_viewAt x1.block) fun r2 hx2 u v h => ?_
    obtain ⟨rfl, rfl⟩ := h
    exact sr_pure ⟨a, a', rfl, rfl, x1.mono hx2⟩
  · split
    · exact sr_never (nv_bind (nv_unsupported _))
    · refine sr_bind (sr_shape x1.block) fun r3 hx3 u v h => ?_
      rcases h with ⟨rfl, hn⟩ | rfl | ⟨_, k, k', rfl, rfl⟩
      rotate_left
      · exact sr_never (nv_unsupported _)
      · refine sr_never (nv_program ?_)
        have : cellAtBytes P P.depth Shift.bog (k / P.cellsOf Shift.bog) a.off n' = none := by simp [cellAtBytes, Program.cellsOf, hB]
        rw [this]
        exact nv_unsupported _
      · have hoff : a'.off = a.off := by rw [x1.off, shf_new hn]; rfl
        cases v with
        | none => exact sr_never (nv_unsupported _)
        | some s =>
          obtain ⟨e, c⟩ := s
          refine sr_bindFree hf_program fun p _ => ?_
          rw [hoff]
          cases hc : cellAtBytes p p.depth e (c / p.cellsOf e) a.off n' with
          | none => exact sr_never (nv_unsupported _)
          | some off => exact sr_pure ⟨_, _, rfl, rfl, ⟨hx3 _ _ x1.block, by simp [shf_new hn], x1.spot⟩⟩

theorem sr_movedNumber (hB : P.info? Shift.bog = none) {t : TypeId} (ht : P.underlying t ≠ some .unsafePointer) {a a' : Addr} (x : AR r a a') {v v' : Value} (h : VR S r v v') :
    SR P S r (fun r1 u u' => VR S r1 u u') (movedNumber t (.pointer (some a)) v) (movedNumber t (.pointer (some a')) v') := by
  unfold movedNumber
  refine sr_bindFree (hf_underlying t) fun d hd => ?_
  have hne : d ≠ .unsafePointer := fun e => ht (e ▸ underlying_of hd)
  have tail : SR P S r (fun r1 u u' => VR S r1 u u')
      (behindNumber a >>= fun y => Builtin.unsafeAdd_ #[] t #[.pointer (some y.1), v] >>= fun z => match z with
        | .pointer (some b) => asNumber b y.2
        | v => pure v)
      (behindNumber a' >>= fun y => Builtin.unsafeAdd_ #[] t #[.pointer (some y.1), v'] >>= fun z => match z with
        | .pointer (some b) => asNumber b y.2
        | v => pure v) := by
    refine sr_bind (sr_behindNumber x) fun r1 hx y y' hy => ?_
    obtain ⟨hy1, hy2⟩ := hy
    refine sr_bind (sr_unsafeAdd hB _ t hy1 (h.mono hx)) fun r2 hx2 u u' hu => ?_
    obtain ⟨b, b', rfl, rfl, hb⟩ := hu
    dsimp only
    rw [hy2]
    exact sr_asNumber hb _
  cases d <;> first | exact absurd rfl hne | exact tail

omit [Shift] in
theorem nv_moved_nil (t : TypeId) (v : Value) : Never P (movedNumber t (.pointer none) v) := by
  unfold movedNumber
  refine nv_bind' fun d => ?_
  have tail : Never P (Builtin.unsafeAdd_ #[] t #[.pointer none, v]) := by
    unfold Builtin.unsafeAdd_
    refine nv_bind' fun n => ?_
    dsimp only
    split
    · exact nv_bind (nv_unsupported _)
    · split
      · exact nv_bind (nv_unsupported _)
      · exact nv_unsupported _
  cases d <;> first | exact tail | exact nv_bind (nv_unsupported _)

theorem sr_addrMod (hB : P.info? Shift.bog = none) (k : IntKind) (n : Int) {a a' : Addr} (x : AR r a a') : SR P S r (fun r1 u u' => VR S r1 u u') (Op.addrMod k a n) (Op.addrMod k a' n) := by
  unfold Op.addrMod
  refine sr_bind (sr_shape x.block) fun r1 hx u v h => ?_
  rcases h with ⟨rfl, hn⟩ | rfl | ⟨_, k, k', rfl, rfl⟩
  rotate_left
  · exact sr_never (nv_unsupported _)
  · refine sr_never (nv_bind ?_)
    unfold Go.typeInfo
    refine nv_program ?_
    rw [hB]
    exact nv_stuck _
  · cases v with
    | none => exact sr_never (nv_unsupported _)
    | some s =>
      obtain ⟨e, c⟩ := s
      refine sr_bindFree (hf_typeInfo e) fun i _ => ?_
      dsimp only
      split
      · exact sr_never (nv_bind (nv_unsupported _))
      · refine sr_bind (sr_byteOf hn (x.mono hx)) fun r2 _ b b' e => ?_
        subst e
        exact sr_pure (.int _ _)

omit [Shift] in
theorem nv_twoPlaces (hG : P.globals.size = 0) {α : Type} (a b : Addr) (f : Nat × Nat → Sem α) : Never P (Op.twoPlaces a b >>= f) := by
  refine nv_bind ?_
  unfold Op.twoPlaces
  refine nv_program ?_
  rw [hG]
  simp only [ge_iff_le, Nat.zero_le, decide_true, Bool.or_true, if_true]
  exact nv_bind (nv_unsupported _)

theorem sr_program {α β : Type} {R : BR → α → β → Prop} {f : Program → Sem α} {g : Program → Sem β} (h : SR P S r R (f P) (g P)) : SR P S r R (program >>= f) (program >>= g) := by
  intro w w' es hw x w1 hs
  rw [Sem.run_bind, run_program] at hs
  obtain ⟨r1, y, w1', l, h1, h2, h3⟩ := h w w' es hw x w1 hs
  exact ⟨r1, y, w1', l, by rw [Sem.run_bind, run_program]; exact h1, by rw [Sem.events_bind, run_program, events_program]; exact h2, h3⟩
omit [Shift] in
theorem hf_eqGuardIn : ∀ (d : Nat) (t : TypeId), HF P (Op.eqGuardIn d t .nilIface .nilIface)
  | 0, t => hf_never (nv_unsupported _)
  | d + 1, t => by
    unfold Op.eqGuardIn
    refine hf_bind (hf_underlying t) fun e => ?_
    cases e <;> exact hf_pure _
theorem sr_eqGuard (op : BinOp) {t : TypeId} (ht : (op = .eql ∨ op = .neq) → P.eqGuardType P.depth t = false) (x y : Operand) {v v' u u' : Value} (hv : VR S r v v') (hu : VR S r u u') :
    SR P S r (fun _ _ _ => True) (eqGuard op t x y v u) (eqGuard op t x y v' u') := by
  by_cases he : op = .eql ∨ op = .neq
  · have key : eqGuard op t x y = eqGuard .eql t x y := by rcases he with rfl | rfl <;> rfl
    rw [key]
    unfold eqGuard
    simp only [Bool.not_true, Bool.false_eq_true, if_false]
    cases hv <;> cases hu <;> first
      | exact sr_pure trivial
      | (refine sr_program (sr_program ?_)
         rw [ht he]
         exact sr_pure trivial)
      | skip
    have tail : ∀ b : Bool, SR P S r (fun _ _ _ => True) (if b = true then pure () else Op.eqGuardIn Op.maxDepth t .nilIface .nilIface >>= fun z => if z = true then unsupported (.noEntry "binop/eql: two nil values of an interface type with methods, neither of them the literal nil") else pure ())
        (if b = true then pure () else Op.eqGuardIn Op.maxDepth t .nilIface .nilIface >>= fun z => if z = true then unsupported (.noEntry "binop/eql: two nil values of an interface type with methods, neither of them the literal nil") else pure ()) := fun b => by
      cases b
      · refine sr_bindFree (hf_eqGuardIn _ _) fun z _ => ?_
        split
        · exact sr_never (nv_unsupported _)
        · exact sr_pure trivial
      · exact sr_pure trivial
    exact tail _
  · have key : eqGuard op t x y = eqGuard .add t x y := by cases op <;> first | rfl | exact absurd (.inl rfl) he | exact absurd (.inr rfl) he
    rw [key]
    exact sr_pure trivial

/-- Numbers are reckoned with, or two of a type are compared whose values are. -/
def okBin (P : Program) (op : BinOp) (t : TypeId) : Bool := match op with
  | .eql | .neq => okEqT P 5 t && !P.eqGuardType P.depth t
  | .add | .sub => match P.underlying t with
    | some .unsafePointer => false
    | _ => true
  | _ => true

theorem sr_hf_vr {s : Sem Value} (h : HF P s) (hv : ∀ v w w1, s.run P w = .ok v w1 → Flat S v) : SR P S r (fun r1 v v' => VR S r1 v v') s s := by
  intro w w' es hw x w1 hs
  obtain ⟨rfl, h'⟩ := h w x w1 hs
  exact ⟨r, x, w', #[], (h' w' es).1, by simp [(h' w' es).2], (hv x _ _ hs).vr, hw, .refl _, .refl _ _ _, by simp⟩

omit [Shift] in
theorem flat_of_ok {v u : Value} {w w1 : World} (h : (Result.ok v w : Result Value) = .ok u w1) (f : Flat S v) : Flat S u := by
  cases h; exact f
omit [Shift] in
theorem flat_pure {v u : Value} {w w1 : World} (h : (pure v : Sem Value).run P w = .ok u w1) (f : Flat S v) : Flat S u := flat_of_ok (by simpa using h) f
omit [Shift] in
theorem flat_arith (op : BinOp) (k : IntKind) (a b : Int) {v : Value} {w w1 : World} (h : (Op.intArith op k a b).run P w = .ok v w1) : Flat S v := by
  cases op <;> first | exact flat_pure h (.int _ _) | exact absurd h (nv_stuck _ _ _ _)
omit [Shift] in
theorem flat_div (op : BinOp) (k : IntKind) (a b : Int) {v : Value} {w w1 : World} (h : (Op.intDiv op k a b).run P w = .ok v w1) : Flat S v := by
  unfold Op.intDiv at h
  split at h
  · exact absurd h (nv_runtimePanic _ _ _ _)
  · cases op <;> first | exact flat_pure h (.int _ _) | exact absurd h (nv_stuck _ _ _ _)
omit [Shift] in
theorem flat_bits (op : BinOp) (k : IntKind) (a b : Int) {v : Value} {w w1 : World} (h : (Op.intBits op k a b).run P w = .ok v w1) : Flat S v := by
  cases op <;> first | exact flat_pure h (.int _ _) | exact absurd h (nv_stuck _ _ _ _)
omit [Shift] in
theorem flat_cmp (op : BinOp) (a b : Int) {v : Value} {w w1 : World} (h : (Op.intCmp op a b).run P w = .ok v w1) : Flat S v := by
  cases op <;> first | exact flat_pure h (.bool _) | exact absurd h (nv_stuck _ _ _ _)
omit [Shift] in
theorem flat_shift (op : BinOp) (k : IntKind) (a : Int) (l : IntKind) (b : Int) {v : Value} {w w1 : World} (h : (Op.shift op k a l b).run P w = .ok v w1) : Flat S v := by
  unfold Op.shift at h
  split at h
  · exact absurd h (nv_runtimePanic _ _ _ _)
  · cases op <;> first | exact flat_pure h (.int _ _) | exact absurd h (nv_stuck _ _ _ _)
omit [Shift] in
theorem flat_string (op : BinOp) (a b : ByteArray) {v : Value} {w w1 : World} (h : (Op.stringOp op a b).run P w = .ok v w1) : Flat S v := by
  unfold Op.stringOp at h
  cases op <;> first
    | exact flat_pure h (.bool _)
    | exact absurd h (nv_stuck _ _ _ _)
    | (dsimp only at h
       split at h <;> first | exact absurd h (nv_unsupported _ _ _ _) | exact flat_pure h (.string _))

/-- Neither a number nor a text nor an address. -/
def Other : Value → Bool
  | .int .. | .string _ | .pointer _ | .float .. | .complex .. => false
  | _ => true
omit [Shift] in
theorem nv_binOp {op : BinOp} (h1 : op ≠ .eql) (h2 : op ≠ .neq) (t : TypeId) (v u : Value) (h : Other v = true ∨ Other u = true) : Never P (binOp op t v u) := by
  unfold binOp
  split <;> first
    | exact nv_stuck _
    | exact nv_unsupported _
    | exact absurd rfl h1
    | exact absurd rfl h2
    | (rcases h with h | h <;> simp [Other] at h)

omit [Shift] in
theorem hf_ii (op : BinOp) (t : TypeId) (k : IntKind) (a : Int) (k' : IntKind) (b : Int) : HF P (binOp op t (.int k a) (.int k' b)) := by
  unfold binOp
  cases op <;> first
    | exact hf_shift _ _ _ _ _
    | (dsimp only; split <;> first | exact hf_never (nv_stuck _) | exact hf_intArith _ _ _ _ | exact hf_intDiv _ _ _ _ | exact hf_intBits _ _ _ _ | exact hf_intCmp _ _ _)
omit [Shift] in
theorem flat_ii (op : BinOp) (t : TypeId) (k : IntKind) (a : Int) (k' : IntKind) (b : Int) {v : Value} {w w1 : World} (h : (binOp op t (.int k a) (.int k' b)).run P w = .ok v w1) : Flat S v := by
  unfold binOp at h
  cases op <;> first
    | exact flat_shift _ _ _ _ _ h
    | (dsimp only at h; split at h <;> first | exact absurd h (nv_stuck _ _ _ _) | exact flat_arith _ _ _ _ h | exact flat_div _ _ _ _ h | exact flat_bits _ _ _ _ h | exact flat_cmp _ _ _ h)
omit [Shift] in
theorem hf_ss (op : BinOp) (t : TypeId) (a b : ByteArray) : HF P (binOp op t (.string a) (.string b)) := by
  unfold binOp
  cases op <;> exact hf_stringOp _ _ _
omit [Shift] in
theorem flat_ss (op : BinOp) (t : TypeId) (a b : ByteArray) {v : Value} {w w1 : World} (h : (binOp op t (.string a) (.string b)).run P w = .ok v w1) : Flat S v := by
  unfold binOp at h
  cases op <;> exact flat_string _ _ _ h

theorem sr_binOp (hG : P.globals.size = 0) (hB : P.info? Shift.bog = none) (op : BinOp) {t : TypeId} (ht : okBin P op t = true) {v v' u u' : Value} (hv : VR S r v v') (hu : VR S r u u') :
    SR P S r (fun r1 x y => VR S r1 x y) (binOp op t v u) (binOp op t v' u') := by
  have eql : (op = .eql ∨ op = .neq) → SR P S r (fun _ a b => b = a) (Op.equal t v u) (Op.equal t v' u') := fun he => by
    have : okEqT P 5 t = true := by rcases he with rfl | rfl <;> simp [okBin] at ht <;> exact ht.1
    exact sr_equalIn hG 5 _ t this hv hu
  have eqv : (op = .eql ∨ op = .neq) → ∀ (f : Bool → Bool), SR P S r (fun r1 x y => VR S r1 x y) (do pure (Value.bool (f (← Op.equal t v u)))) (do pure (Value.bool (f (← Op.equal t v' u')))) := fun he f =>
    sr_bind (eql he) fun _ _ b b' e => by subst e; exact sr_pure (.bool _)
  have ii : ∀ k a k' b, SR P S r (fun r1 x y => VR S r1 x y) (binOp op t (.int k a) (.int k' b)) (binOp op t (.int k a) (.int k' b)) := fun k a k' b => sr_hf_vr (hf_ii op t k a k' b) fun v w w1 hr => flat_ii op t k a k' b hr
  have ss : ∀ a b, SR P S r (fun r1 x y => VR S r1 x y) (binOp op t (.string a) (.string b)) (binOp op t (.string a) (.string b)) := fun a b => sr_hf_vr (hf_ss op t a b) fun v w w1 hr => flat_ss op t a b hr
  by_cases he : op = .eql ∨ op = .neq
  · rcases he with rfl | rfl
    · have q := eqv (.inl rfl) id
      cases hv <;> cases hu <;> first | exact q | exact ii _ _ _ _ | exact ss _ _
    · have q := eqv (.inr rfl) not
      cases hv <;> cases hu <;> first | exact q | exact ii _ _ _ _ | exact ss _ _
  · have h1 : op ≠ .eql := fun e => he (.inl e)
    have h2 : op ≠ .neq := fun e => he (.inr e)
    have hus : op = .add → P.underlying t ≠ some .unsafePointer := fun e e' => by subst e; simp [okBin, e'] at ht
    have hus2 : op = .sub → P.underlying t ≠ some .unsafePointer := fun e e' => by subst e; simp [okBin, e'] at ht
    cases hv <;> first
      | (exact sr_never (nv_binOp h1 h2 t _ _ (.inl rfl)))
      | (cases hu <;> first
          | exact sr_never (nv_binOp h1 h2 t _ _ (.inr rfl))
          | exact ii _ _ _ _
          | exact ss _ _
          | (cases op <;> first
              | exact absurd rfl h1
              | exact absurd rfl h2
              | exact sr_never (nv_unsupported _)
              | exact sr_never (nv_stuck _)
              | skip))
    all_goals clear eqv eql ii ss
    · exact sr_never (nv_moved_nil t _)
    · rename_i x
      exact sr_movedNumber hB (hus rfl) x (.int _ _)
    · rename_i x
      exact sr_bind (sr_behindNumber x) fun _ _ _ _ h => sr_addrMod hB _ _ h.1
    · refine sr_bindFree (hf_underlying t) fun d hd => ?_
      have hne : d ≠ .unsafePointer := fun e => hus rfl (e ▸ underlying_of hd)
      cases d <;> first | exact absurd rfl hne | exact sr_never (nv_moved_nil t _)
    · exact sr_never (nv_moved_nil t _)
    · rename_i x _ _
      refine sr_bindFree (hf_underlying t) fun d hd => ?_
      have hne : d ≠ .unsafePointer := fun e => hus rfl (e ▸ underlying_of hd)
      cases d <;> first | exact absurd rfl hne | exact sr_movedNumber hB (hus rfl) x (.int _ _)
    · rename_i x _ _
      exact sr_movedNumber hB (hus2 rfl) x (.int _ _)
    · rename_i x _ _
      exact sr_bind (sr_behindNumber x) fun _ _ _ _ h => sr_addrMod hB _ _ h.1
    · rename_i x _ _
      exact sr_bind (sr_behindNumber x) fun _ _ _ _ h => sr_addrMod hB _ _ h.1
    all_goals first
      | exact sr_never (nv_bind' fun _ => nv_bind' fun _ => nv_twoPlaces hG _ _ _)
      | skip
end
end Go.Proofs.Ytcobehkadhcjiaa

/-
  WHATEVER OPERATION: what it yields alone it yields among others.
-/
namespace Go.Proofs.Ytcobehkadhcjiaa
open Go
variable [Shift]

section
variable {P : Program} {S : FuncId → Bool} {r : BR}

theorem sr_unary (op : UnOp) {v v' : Value} (h : VR S r v v') : SR P S r (fun r1 x y => VR S r1 x y) (Op.unary op v) (Op.unary op v') := by
  cases h <;> cases op <;> first
    | exact sr_never (nv_stuck _)
    | exact sr_never (nv_unsupported _)
    | exact sr_pure (.bool _)
    | exact sr_pure (.int _ _)

/-- From whole numbers to whole numbers. -/
def okConv (P : Program) (a b : TypeId) : Bool := match P.underlying a, P.underlying b with
  | some (.int _), some (.int _) => true
  | _, _ => false
theorem sr_convert {a b : TypeId} (h : okConv P a b = true) {v v' : Value} (hv : VR S r v v') : SR P S r (fun r1 x y => VR S r1 x y) (convert a b v) (convert a b v') := by
  unfold convert
  refine sr_bindFree (hf_underlying a) fun d hd => sr_bindFree (hf_underlying b) fun e he => ?_
  unfold okConv at h
  rw [underlying_of hd, underlying_of he] at h
  cases d <;> first | (simp at h; done) | skip
  cases e <;> first | (simp at h; done) | skip
  cases hv <;> first
    | exact sr_pure (.int _ _)
    | exact sr_never (nv_unsupported _)
    | exact sr_never (nv_stuck _)

theorem sr_makeInterface (t : TypeId) {v v' : Value} (h : VR S r v v') : SR P S r (fun r1 x y => VR S r1 x y) (Instr.makeInterface t v) (Instr.makeInterface t v') := by
  unfold Instr.makeInterface
  refine sr_bindFree (hf_underlying t) fun d _ => ?_
  cases d <;> first | exact sr_never (nv_stuck _) | exact sr_pure (.iface _ h)

theorem sr_extract (k : Nat) {v v' : Value} (h : VR S r v v') : SR P S r (fun r1 x y => VR S r1 x y) (Instr.extract v k) (Instr.extract v' k) := by
  cases h with
  | @tuple cs cs' e hc =>
    unfold Instr.extract
    have rr : RR S r cs cs' := ⟨e, hc⟩
    dsimp only
    cases hk : cs[k]? with
    | none => exact sr_never (nv_stuck _)
    | some u =>
      obtain ⟨u', hu', hu⟩ := rr.get hk
      rw [hu']
      exact sr_pure hu
  | _ => exact sr_never (nv_stuck _)

/-! ### operands -/
def okX (S : FuncId → Bool) : Operand → Bool
  | .tmp _ => true
  | .const v => flatB S 3 v
  | .global _ => false
  | .func f => S f
/-- The same slots. -/
def ER (S : FuncId → Bool) (r : BR) (e e' : Operand → Value) : Prop := ∀ x, okX S x = true → VR S r (e x) (e' x)
theorem ER.of {a a' : Act} (h : RR S r a.tmps a'.tmps) : ER S r a.eval a'.eval := fun x hx => by
  cases x with
  | tmp t => exact h.getD t VR.undef
  | const v => exact (flat_of 3 v hx).vr
  | global g => simp [okX] at hx
  | func f => exact .func (by simpa [okX] using hx) rfl (fun i h => by simp at h)
theorem ER.all {e e' : Operand → Value} (h : ER S r e e') (xs : Array Operand) (hx : xs.all (okX S) = true) : RR S r (xs.map e) (xs.map e') :=
  RR.map _ _ _ fun x hm => h x (Array.all_eq_true_iff_forall_mem.1 hx x hm)
theorem ER.opt {e e' : Operand → Value} (h : ER S r e e') (x : Option Operand) (hx : x.all (okX S) = true) : QR S r (x.map e) (x.map e') := by
  cases x with
  | none => exact .none
  | some x => exact .some (h x hx)
theorem ER.parts {e e' : Operand → Value} (h : ER S r e e') (ps : Array (Nat × Operand)) (hx : ps.all (fun p => okX S p.2) = true) : PR S r (ps.map fun (i, x) => (i, e x)) (ps.map fun (i, x) => (i, e' x)) := by
  refine ⟨by simp, fun j x x' hj hj' => ?_⟩
  simp only [Array.toList_map, List.getElem?_map] at hj hj'
  obtain ⟨p, hp, rfl⟩ := Option.map_eq_some_iff.1 hj
  rw [hp] at hj'
  simp only [Option.map_some, Option.some.injEq] at hj'
  subst hj'
  refine ⟨rfl, h _ (Array.all_eq_true_iff_forall_mem.1 hx p ?_)⟩
  exact Array.mem_toList_iff.1 (List.mem_of_getElem? hp)

/-- Built-in functions. -/
def okBuiltin (P : Program) (S : FuncId → Bool) (b : Builtin) (ts : Array TypeId) : Bool := match b with
  | .len | .cap => okSliceArg P ts
  | .copy | .min => true
  | .append => (match ts[0]? with
      | some t => match P.underlying t with
        | some (.slice e) => okZero P S e
        | _ => true
      | none => true)
  | _ => false
theorem sr_builtin {b : Builtin} {ts : Array TypeId} (h : okBuiltin P S b ts = true) (ty : TypeId) (cs : Array Bool) {a a' : Array Value} (ha : RR S r a a') :
    SR P S r (fun r1 x y => NR S r1 x y) (builtin b ts ty cs a) (builtin b ts ty cs a') := by
  cases b <;> first | (cases h; done) | skip
  all_goals unfold builtin
  · have hz : ∀ t e, ts[0]? = some t → P.underlying t = some (.slice e) → okZero P S e = true := fun t e ht he => by
      simp only [okBuiltin] at h
      rw [ht] at h
      dsimp only at h
      rw [he] at h
      exact h
    by_cases hi : ∃ xt kk, ts[1]? = some xt ∧ P.underlying xt = some (.int kk)
    · obtain ⟨xt, kk, h1, h2⟩ := hi
      exact sr_v (sr_append_zeros hz h1 h2 ty ha)
    · exact sr_v (sr_append hz (fun t k ht he => hi ⟨t, k, ht, he⟩) ty ha)
  all_goals first
    | exact sr_v (sr_len h ty ha)
    | exact sr_v (sr_cap h ty ha)
    | exact sr_v (sr_copy ty ha)
    | exact sr_v (sr_min ts ty ha)

/-- What a function is that may be called: it has a body, and is no NumGoroutine. -/
def OkS (P : Program) (S : FuncId → Bool) : Prop := ∀ f, S f = true → ∃ fn, P.funcs[f]? = some fn ∧ (fn.name == "runtime.NumGoroutine") = false ∧ fn.body.isNone = false
theorem sr_callFunc (hS : OkS P S) {f : FuncId} (hf : S f = true) {a a' : Array Value} (ha : RR S r a a') : SR P S r (fun r1 x y => NR S r1 x y) (callFunc f a) (callFunc f a') := by
  obtain ⟨fn, h1, h2, h3⟩ := hS f hf
  unfold callFunc
  refine sr_program ?_
  rw [h1]
  dsimp only
  rw [h2, h3]
  exact sr_pure (.enter hf ha)

/-- Calls. -/
def okCallee (P : Program) (S : FuncId → Bool) (c : Call) : Bool := c.args.all (okX S) && match c.callee with
  | .builtin b => okBuiltin P S b c.argTypes
  | .value f => okX S f
  | .invoke .. => false
theorem sr_call (hS : OkS P S) {c : Call} (h : okCallee P S c = true) (t : TypeId) {e e' : Operand → Value} (he : ER S r e e') :
    SR P S r (fun r1 x y => NR S r1 x y) (do let d ← resolve e c t; invoke d.target d.args) (do let d ← resolve e' c t; invoke d.target d.args) := by
  simp only [okCallee, Bool.and_eq_true] at h
  obtain ⟨h1, h2⟩ := h
  have ha := he.all c.args h1
  unfold resolve
  cases hc : c.callee with
  | builtin b =>
    rw [hc] at h2
    exact sr_builtin h2 t _ ha
  | invoke r m => rw [hc] at h2; cases h2
  | value f =>
    rw [hc] at h2
    have hf := he f h2
    dsimp only
    generalize e f = v at hf
    generalize e' f = v' at hf
    unfold Deferred.ofValue
    cases hf with
    | @func g cs cs' hg es hcs => exact sr_callFunc hS hg ((RR.nil.append ha).append ⟨es, hcs⟩)
    | nilFunc => exact sr_never (nv_runtimePanic (α := Next) .nilDeref)
    | _ => exact sr_never (nv_bind (nv_stuck _))

/-- An operation of those that are known. -/
def okOp (P : Program) (S : FuncId → Bool) : Op → Bool
  | .move x | .assign x => okX S x
  | .pick c a b => okX S c && okX S a && okX S b
  | .alloc t => okZero P S t
  | .box _ x => okX S x
  | .build t ps => okZero P S t && ps.all fun p => okX S p.2
  | .buildSlice t _ ps => (match P.underlying t with
      | some (.slice e) => okZero P S e
      | _ => true) && ps.all fun p => okX S p.2
  | .load _ a => okX S a
  | .store _ a x => okX S a && okX S x
  | .binOp op t x y _ => okBin P op t && okX S x && okX S y
  | .unOp _ _ x => okX S x
  | .convert a b x => okConv P a b && okX S x
  | .makeInterface _ x => okX S x
  | .makeFunc (.func f) first captured => S f && first.isEmpty && captured.all (okX S)
  | .makeSlice t l c => (match P.underlying t with
      | some (.slice e) => okZero P S e
      | _ => true) && okX S l && okX S c
  | .slice t x lo hi mx => (match P.underlying t with
      | some (.array ..) => false
      | _ => true) && okX S x && lo.all (okX S) && hi.all (okX S) && mx.all (okX S)
  | .fieldAddr t x k => okField P t k && okX S x
  | .indexAddr _ x i => okX S x && okX S i
  | .extract x _ => okX S x
  | .call c => okCallee P S c
  | .panic _ => true
  | _ => false

omit [Shift] in
theorem nv_panic (v : Value) : Never P (Instr.panic v) := by
  unfold Instr.panic
  split
  · exact nv_goPanic _
  · refine nv_bind' fun n => ?_
    split
    · exact nv_goPanic _
    · exact nv_runtimePanic _
  · exact nv_stuck _

theorem sr_exec (hG : P.globals.size = 0) (hB : P.info? Shift.bog = none) (hS : OkS P S) {o : Oper} (h : okOp P S o.op = true) {e e' : Operand → Value} (he : ER S r e e') :
    SR P S r (fun r1 x y => NR S r1 x y) (execOp e o) (execOp e' o) := by
  unfold execOp
  cases ho : o.op <;> rw [ho] at h <;> simp only [okOp, Bool.and_eq_true] at h <;> first | (cases h; done) | skip
  all_goals dsimp only
  all_goals first
    | exact sr_pure (.value (he _ h))
    | exact sr_v (sr_alloc h)
    | exact sr_v (sr_box _ (he _ h))
    | exact sr_v (sr_build h.1 (he.parts _ h.2))
    | exact sr_v (sr_loadAt _ (he _ h))
    | exact sr_u (sr_storeAt _ (he _ h.1) (he _ h.2))
    | exact sr_v (sr_unary _ (he _ h))
    | exact sr_v (sr_convert h.1 (he _ h.2))
    | exact sr_v (sr_makeInterface _ (he _ h))
    | exact sr_v (sr_fieldAt h.1 (he _ h.2))
    | exact sr_v (sr_indexAt _ (he _ h.1) (he _ h.2))
    | exact sr_v (sr_extract _ (he _ h))
    | exact sr_call hS h _ he
    | exact sr_never (nv_bind (nv_panic _))
    | skip
  · exact sr_bind (sr_asBool (he _ h.1.1)) fun r1 hx b b' e => by
      subst e
      refine sr_pure (.value ?_)
      split
      · exact (he _ h.1.2).mono hx
      · exact (he _ h.2).mono hx
  · refine sr_v (sr_buildSlice (fun e hu => ?_) _ (he.parts _ h.2))
    have := h.1
    rw [hu] at this
    exact this
  · rename_i op t x y ty
    have hq : (op = .eql ∨ op = .neq) → P.eqGuardType P.depth t = false := fun e => by
      have := h.1.1
      rcases e with rfl | rfl <;> simp [okBin] at this <;> exact this.2
    exact sr_v (sr_bind (sr_eqGuard op hq x y (he _ h.1.2) (he _ h.2)) fun r1 hx _ _ _ => sr_binOp hG hB op h.1.1 ((he _ h.1.2).mono hx) ((he _ h.2).mono hx))
  · rename_i fn first captured
    cases fn <;> first | (simp at h; done) | skip
    rename_i f
    simp only [Bool.and_eq_true, Array.isEmpty_iff] at h
    obtain ⟨⟨h1, rfl⟩, h3⟩ := h
    have := he.all captured h3
    simp only [List.map_toArray, List.map_nil]
    exact sr_v (sr_pure (.func h1 this.size this.at_))
  · refine sr_v (sr_makeSlice (fun e hu => ?_) (he _ h.1.2) (he _ h.2))
    have := h.1.1
    rw [hu] at this
    exact this
  · refine sr_v (sr_sliceAt (fun n e hu => ?_) (he _ h.1.1.1.2) (he.opt _ h.1.1.2) (he.opt _ h.1.2) (he.opt _ h.2))
    have := h.1.1.1.1
    rw [hu] at this
    cases this
end
end Go.Proofs.Ytcobehkadhcjiaa

/-
  ONE STEP ALONE IS ONE STEP AMONG OTHERS.
-/
namespace Go.Proofs.Ytcobehkadhcjiaa
open Go Go.Conc
variable [Shift]

section
variable (P : Program) (S V : FuncId → Bool)

/-- The call of a function that tells whether two slices overlap. -/
def okOv : Op → Bool
  | .call { callee := .value (.func f), args, .. } => V f && args.all (okX S)
  | _ => false
def okO (o : Oper) : Bool := okOp P S o.op || okOv S V o.op
def okCode : Code → Bool
  | .skip | .exit _ | .label _ | .ret | .refuse _ => true
  | .region _ ops _ => ops.all (okO P S V)
  | .seq a b => okCode a && okCode b
  | .cond c a b => okX S c && okCode a && okCode b
  | .block _ a | .loop a => okCode a
  | _ => false
def okItem : Item → Bool
  | .code c | .inLoop c => okCode P S V c
  | .inBlock _ => true
  | .inRegion ops _ => ops.all (okO P S V)
  | _ => false

/-- What is asked of a program. -/
structure OkP : Prop where
  globals : P.globals.size = 0
  bog : P.info? Shift.bog = none
  funcs : ∀ f, S f = true → ∃ fn c, P.funcs[f]? = some fn ∧ (fn.name == "runtime.NumGoroutine") = false ∧ fn.body = some c ∧ okCode P S V c = true
  over : ∀ f, V f = true → ∃ fn, P.funcs[f]? = some fn ∧ (fn.name == "runtime.NumGoroutine") = false ∧ fn.body = none ∧ Extern.findNext fn = none ∧
    Extern.find fn = some (Extern.SlicesOverlaps.overlaps fn.params fn.resultTypes)
  ahead : P.follows .staticDataAhead = true
  steps : ∀ g, P.stepOf g = none
end

theorem OkP.okS {P : Program} {S V : FuncId → Bool} (h : OkP P S V) : OkS P S := fun f hf => by
  obtain ⟨fn, c, h1, h2, h3, _⟩ := h.funcs f hf
  exact ⟨fn, h1, h2, by rw [h3]; rfl⟩

/-- What stands behind, on the right alone, in the frame at the bottom: what is put off, and what is still to do. -/
structure Bot where
  ds : List Deferred
  k0 : List Item
  kd : CallKind
  hk : kd ≠ .early
def Bot.nil : Bot := ⟨[], [], .normal, by simp⟩
def baseK (kd : CallKind) (f : FuncId) : Frame := { base f with kind := kd }
def bo (b : Bot) : List Frame → Bot
  | [] => b
  | _ :: _ => .nil
omit [Shift] in
theorem bo_nil (cs : List Frame) : bo .nil cs = .nil := by cases cs <;> rfl

inductive FrR (P : Program) (S V : FuncId → Bool) (r : BR) (b : Bot) : Frame → Frame → Prop
  | run {f : FuncId} {t t' : Array Value} {k : List Item} : RR S r t t' → (∀ i ∈ k, okItem P S V i = true) → FrR P S V r b ((base f).at ⟨t, []⟩ k) ((baseK b.kd f).at ⟨t', b.ds⟩ (k ++ b.k0))
  | ret {f : FuncId} {t t' : Array Value} {k k' : List Item} : RR S r t t' → FrR P S V r b { (base f).at ⟨t, []⟩ k with mode := .returning } { (base f).at ⟨t', []⟩ k' with mode := .returning }

inductive CsR (P : Program) (S V : FuncId → Bool) (r : BR) (b : Bot) : List Frame → List Frame → Prop
  | nil : CsR P S V r b [] []
  | cons {f : FuncId} {t t' : Array Value} {k : List Item} {cs cs' : List Frame} : RR S r t t' → (∀ i ∈ k, okItem P S V i = true) → k ≠ [] → CsR P S V r b cs cs' →
      CsR P S V r b ((base f).at ⟨t, []⟩ k :: cs) ((baseK (bo b cs).kd f).at ⟨t', (bo b cs).ds⟩ (k ++ (bo b cs).k0) :: cs')

section
variable {P : Program} {S V : FuncId → Bool} {r : BR} {b : Bot}

theorem FrR.mono {r1 : BR} (h : ∀ a b, r a b → r1 a b) {c c' : Frame} (x : FrR P S V r b c c') : FrR P S V r1 b c c' := by
  cases x with
  | run t k => exact .run (t.mono h) k
  | ret t => exact .ret (t.mono h)
theorem CsR.mono {r1 : BR} (h : ∀ a b, r a b → r1 a b) {c c' : List Frame} (x : CsR P S V r b c c') : CsR P S V r1 b c c' := by
  induction x with
  | nil => exact .nil
  | cons a k hn _ ih => exact .cons (a.mono h) k hn ih

theorem sr_mapM {α : Type} {f g : α → Sem Value} : ∀ (l : List α) {r : BR}, (∀ x ∈ l, ∀ r1, (∀ a b, r a b → r1 a b) → SR P S r1 (fun r2 v v' => VR S r2 v v') (f x) (g x)) →
    SR P S r (fun r1 vs vs' => RR S r1 vs.toArray vs'.toArray) (l.mapM f) (l.mapM g)
  | [], r, _ => by rw [List.mapM_nil, List.mapM_nil]; exact sr_pure RR.nil
  | x :: l, r, h => by
    rw [List.mapM_cons, List.mapM_cons]
    refine sr_bind (h x (by simp) r fun _ _ y => y) fun r1 hx v v' hv => ?_
    refine sr_bind (sr_mapM l fun y hy r2 h2 => h y (by simp [hy]) r2 fun a b z => h2 a b (hx a b z)) fun r2 hx2 vs vs' hvs => sr_pure ?_
    have := (RR.nil.push (hv.mono hx2)).append hvs
    simpa using this
theorem sr_results (fn : Func) {t t' : Array Value} (h : RR S r t t') : SR P S r (fun r1 v v' => VR S r1 v v') (results fn t) (results fn t') := by
  unfold results
  rw [Array.mapM_eq_mapM_toList, Array.mapM_eq_mapM_toList]
  refine sr_bind (R := fun r1 vs vs' => RR S r1 vs vs') ?_ fun r1 hx vs vs' hvs => sr_pure ?_
  · rw [map_eq_pure_bind, map_eq_pure_bind]
    refine sr_bind (sr_mapM _ fun x _ r1 hx => ?_) fun _ _ _ _ hvs => sr_pure hvs
    cases x with
    | tmp k => exact sr_pure ((h.mono hx).getD k VR.undef)
    | cell a ty => exact sr_bind (sr_asAddr ((h.mono hx).getD a VR.undef)) fun _ _ _ _ y => sr_loadVar ty y
  · by_cases h1 : vs.size = 1
    · have h2 : vs'.size = 1 := by rw [← hvs.size]; exact h1
      rw [dif_pos h1, dif_pos h2]
      exact hvs.at_ 0 _ _
    · have h2 : ¬ vs'.size = 1 := by rw [← hvs.size]; exact h1
      rw [dif_neg h1, dif_neg h2]
      exact VR.tuple' hvs

theorem yielded_rr {ops : Array Oper} {t t' : Array Value} (h : RR S r t t') (j : Nat) : yielded ops t' j = yielded ops t j := by
  unfold yielded
  cases (ops[j]?).bind (·.dst) with
  | none => rfl
  | some d =>
    simp only [Option.bind_some]
    cases ht : t[d]? with
    | none => rw [h.none ht]
    | some v =>
      obtain ⟨v', hv', hv⟩ := h.get ht
      rw [hv']
      cases hv <;> rfl
theorem wanted_rr {ops : Array Oper} {t t' : Array Value} (h : RR S r t t') (o : Oper) : Region.wanted o (yielded ops t') = Region.wanted o (yielded ops t) := by
  have : yielded ops t' = yielded ops t := funext (yielded_rr h)
  rw [this]
theorem RR.put {t t' : Array Value} (h : RR S r t t') (d : Option Tmp) {v v' : Value} (hv : VR S r v v') : RR S r (Act.put ⟨t, []⟩ d v).tmps (Act.put ⟨t', []⟩ d v').tmps := by
  cases d with
  | none => exact h
  | some d => exact h.set hv d

omit [Shift] in
/-- What is listed behind a sieve. -/
theorem mem_seen {fn : FuncId} {es : Array Event} {e : Event} (h : e ∈ seen P fn es) : e ∈ es ∧ ∀ f, e.loc ≠ .mark (.extern f) := by
  have key : ∀ (l : List Event) (q : Bool) (kept : Array Event), (∀ e ∈ kept, ∀ f, e.loc ≠ .mark (.extern f)) →
      ∀ e ∈ (l.foldl (fun (x : Bool × Array Event) e => match e.loc with
        | .mark (.extern f) => ((P.funcs[f]?).any (·.norace), x.2)
        | _ => (x.1, if x.1 && !e.sync then x.2 else x.2.push e)) (q, kept)).2, (e ∈ kept ∨ e ∈ l) ∧ ∀ f, e.loc ≠ .mark (.extern f) := by
    intro l
    induction l with
    | nil => exact fun q kept hk e he => ⟨.inl he, hk e he⟩
    | cons x l ih =>
      intro q kept hk e he
      rw [List.foldl_cons] at he
      by_cases hx : ∃ f, x.loc = .mark (.extern f)
      · obtain ⟨f, hf⟩ := hx
        simp only [hf] at he
        obtain ⟨h1, h2⟩ := ih _ _ hk e he
        exact ⟨h1.imp id (by simp +contextual), h2⟩
      · have hx' : ∀ f, x.loc ≠ .mark (.extern f) := fun f hf => hx ⟨f, hf⟩
        have he' : e ∈ (l.foldl (fun (x : Bool × Array Event) e => match e.loc with
            | .mark (.extern f) => ((P.funcs[f]?).any (·.norace), x.2)
            | _ => (x.1, if x.1 && !e.sync then x.2 else x.2.push e)) (q, if q && !x.sync then kept else kept.push x)).2 := by
          split at he
          · rename_i f hf
            exact absurd hf (hx' f)
          · exact he
        obtain ⟨h1, h2⟩ := ih _ _ (by
          split
          · exact hk
          · intro y hy
            rcases Array.mem_push.1 hy with hy | rfl
            · exact hk y hy
            · exact hx') e he'
        refine ⟨?_, h2⟩
        rcases h1 with h1 | h1
        · split at h1
          · exact .inl h1
          · rcases Array.mem_push.1 h1 with h1 | rfl
            · exact .inl h1
            · exact .inr (by simp)
        · exact .inr (by simp [h1])
  unfold seen at h
  dsimp only at h
  rw [← Array.foldl_toList] at h
  obtain ⟨h1, h2⟩ := key es.toList _ #[] (by simp) e h
  exact ⟨by simpa using h1, h2⟩

/-- What is listed of a step: what may be, but no word on what lies outside. -/
def EvS (r1 : BR) (w : World) (e : Event) : Prop := EvOk r1 w e ∧ ∀ f, e.loc ≠ .mark (.extern f)
end
end Go.Proofs.Ytcobehkadhcjiaa

/-
  ONE STEP ALONE IS ONE STEP AMONG OTHERS: the step.
-/
namespace Go.Proofs.Ytcobehkadhcjiaa
open Go Go.Conc
variable [Shift]

section
variable {P : Program} {S V : FuncId → Bool} {r : BR}

omit [Shift] in
theorem endFatal_go {fr : Frame} {cs : List Frame} {m : String} {w w3 : World} {g : Goroutine} {es : Array Event} (h : endFatal P fr cs none m w = .go g w3 es) (hd : g.dying = none) : False := by
  unfold endFatal at h
  dsimp only at h
  split at h
  · unfold dieOf at h
    simp only [GStep.go.injEq] at h
    rw [← h.1] at hd
    simp at hd
  · cases h
  · cases h
/-- It goes on, or it is at its end. -/
def goesOrEnds : GStep → Prop
  | .go .. | .ended .. => True
  | _ => False
omit [Shift] in
theorem endFatal_kind {fr : Frame} {cs : List Frame} (m : String) (w : World) (h : ¬ goesOrEnds (endFatal P fr cs none m w)) : False := by
  refine h ?_
  unfold endFatal
  dsimp only
  split <;> trivial
omit [Shift] in
theorem put_eq (t : Array Value) (ds : List Deferred) (d : Option Tmp) (v : Value) : Act.put ⟨t, ds⟩ d v = ⟨(Act.put ⟨t, []⟩ d v).tmps, ds⟩ := by cases d <;> rfl
omit [Shift] in
theorem eval_eq (t : Array Value) (ds : List Deferred) : Act.eval ⟨t, ds⟩ = Act.eval ⟨t, []⟩ := funext fun x => by cases x <;> rfl

/-- What an operation comes to, if the goroutine goes on as it was: a value, nothing, or a call. -/
theorem apply_go (hP : OkP P S V) {fr : Frame} {cs : List Frame} {s : Sem Next} {w w1 : World} {fr1 : Frame} {cs1 : List Frame} {es : Array Event} (h : stepG.apply P true fr cs none s w = .go (G fr1 cs1) w1 es) (hm : ∀ ch, fr1.mode ≠ .panicking ch) :
    ∃ n w2, s.run P w = .ok n w2 := by
  unfold stepG.apply at h
  simp only [Sem.runT_eq, if_true] at h
  cases hr : s.run P w with
  | ok n w2 => exact ⟨n, w2, rfl⟩
  | halt e w2 =>
    exfalso
    rw [hr] at h
    have ha : ∀ (es' : Array Event) (g : Goroutine) (w3 : World) (es3 : Array Event), GStep.after es' (.go g w3 es3) = .go g w3 (es' ++ es3) := fun _ _ _ _ => rfl
    have hx : ∀ (es' : Array Event) (o : Outcome) (w3 : World) (es3 : Array Event), GStep.after es' (.ended o w3 es3) = .ended o w3 (es' ++ es3) := fun _ _ _ _ => rfl
    have hra : ∀ vs, ∃ ch, (fr.raise vs).mode = .panicking ch := fun vs => by
      unfold Frame.raise
      split <;> exact ⟨_, rfl⟩
    cases e with
    | panic v =>
      simp only [ha, GStep.go.injEq] at h
      obtain ⟨ch, hc⟩ := hra [{ v, recovered := false }]
      have := congrArg Goroutine.frame h.1
      simp only [G] at this
      exact hm ch (this ▸ hc)
    | goexit =>
      simp only [ha, GStep.go.injEq] at h
      obtain ⟨ch, hc⟩ := hra [goexitEntry]
      have := congrArg Goroutine.frame h.1
      simp only [G] at this
      exact hm ch (this ▸ hc)
    | blocked =>
      simp only [ha, GStep.go.injEq] at h
      have := congrArg Goroutine.status h.1
      simp [G] at this
    | waiting =>
      simp only [ha, GStep.go.injEq] at h
      have := congrArg Goroutine.status h.1
      simp [G] at this
    | exit c => simp only [hx] at h; cases h
    | fatal m =>
      cases hf : endFatal P fr cs none m w2 with
      | go g w3 es3 =>
        simp only [hf, ha, GStep.go.injEq] at h
        exact endFatal_go hf (by rw [h.1]; rfl)
      | ended o w3 es3 => simp only [hf, hx] at h; cases h
      | _ => exact endFatal_kind m w2 (by rw [hf]; exact id)
    | throw m =>
      simp only [endThrow, dieOf, ha, GStep.go.injEq] at h
      have := congrArg Goroutine.dying h.1
      simp [G] at this
    | unsupported u =>
      cases u with
      | initOrder g =>
        simp only [early, hP.ahead, hP.steps, Bool.not_true, Bool.false_eq_true, if_false, hx] at h
        cases h
      | _ => simp only [hx] at h; cases h
    | stuck m => simp only [hx] at h; cases h

/-- What a step among others comes to. -/
def Sim (P : Program) (S V : FuncId → Bool) (r : BR) (b : Bot) (main : Bool) (bs : List Frame) (w : World) (fr1 : Frame) (cs1 : List Frame) (w1 : World) (fr' : Frame) (cs' : List Frame) (w' : World) : Prop :=
  ∃ r1 fr1' cs1' w1' es', stepG P main (G fr' (cs' ++ bs)) w' = .go (G fr1' (cs1' ++ bs)) w1' es' ∧ FrR P S V r1 (bo b cs1) fr1 fr1' ∧ CsR P S V r1 b cs1 cs1' ∧ HR0 S r1 w1 w1' ∧ LF w w1 ∧ FR r r1 w w' w1' ∧ ∀ e ∈ es', EvS r1 w e

theorem sim_exec (hP : OkP P S V) {b : Bot} {main : Bool} {bs : List Frame} {f : FuncId} {t t' : Array Value} {k : List Item} {cs cs' : List Frame} {w w' : World} {ops : Array Oper} {i : Nat} {rest : List Nat} {o : Oper}
    (ho : ops[i]? = some o) (hw : Region.wanted o (yielded ops t) = true) (ht : RR S r t t') (hk : ∀ x ∈ (.inRegion ops (i :: rest) :: k), okItem P S V x = true) (hc : CsR P S V r b cs cs')
    (hx : SR P S r (fun r1 x y => NR S r1 x y) (execOp (Act.eval ⟨t, []⟩) o) (execOp (Act.eval ⟨t', []⟩) o)) (hw0 : HR S r w w')
    {fr1 : Frame} {cs1 : List Frame} {w1 : World} {es : Array Event} (h : stepG P true (G ((base f).at ⟨t, []⟩ (.inRegion ops (i :: rest) :: k)) cs) w = .go (G fr1 cs1) w1 es) (hm : ∀ ch, fr1.mode ≠ .panicking ch) :
    Sim P S V r b main bs w fr1 cs1 w1 ((baseK (bo b cs).kd f).at ⟨t', (bo b cs).ds⟩ (.inRegion ops (i :: rest) :: k ++ (bo b cs).k0)) cs' w' := by
  have hb : (base f).kind ≠ .early := by simp [base]
  have hb' : (baseK (bo b cs).kd f).kind ≠ .early := (bo b cs).hk
  have hwt' : Region.wanted o (yielded ops t') = true := by rw [wanted_rr ht]; exact hw
  have hkk : ∀ x ∈ (.inRegion ops rest :: k : List Item), okItem P S V x = true := fun x hx => by
    rcases List.mem_cons.1 hx with rfl | hx
    · exact hk (.inRegion ops (i :: rest)) (by simp)
    · exact hk x (by simp [hx])
  have hg := stepG_oper (P := P) (main := true) (b := base f) (a := ⟨t, []⟩) (k := k) (cs := cs) (w := w) (rest := rest) ho hw
  rw [hg] at h
  obtain ⟨n, w2, hr⟩ := apply_go hP h hm
  rw [← hg] at h
  obtain ⟨r1, n', w2', l, h1, h2, hn, h4, h5, h6, h7⟩ := hx w w' #[] hw0 n w2 hr
  rw [← eval_eq t' (bo b cs).ds] at h1 h2
  have hl : ∀ e ∈ listed P f ⟨t', (bo b cs).ds⟩ o w', EvS r1 w e := fun e he => by
    unfold listed at he
    rw [h2] at he
    obtain ⟨m1, m2⟩ := mem_seen he
    exact ⟨h7 e (by simpa using m1), m2⟩
  rw [List.cons_append]
  cases hn with
  | @value v v' hv =>
    rw [stepG_value (main := true) ho hw hb hr] at h
    simp only [GStep.go.injEq] at h
    obtain ⟨e1, e2, _⟩ := h
    subst e2
    have e3 := congrArg Goroutine.frame e1
    have e4 := congrArg Goroutine.callers e1
    simp only [G] at e3 e4
    subst e3 e4
    exact ⟨r1, _, cs', w2', _, stepG_value ho hwt' hb' h1, by rw [put_eq t, put_eq t']; exact .run (k := .inRegion ops rest :: k) ((ht.mono h6.ext).put _ hv) hkk, hc.mono h6.ext, h4.toHR0, h5, h6, hl⟩
  | skip =>
    rw [stepG_none (main := true) ho hw hb hr] at h
    simp only [GStep.go.injEq] at h
    obtain ⟨e1, e2, _⟩ := h
    subst e2
    have e3 := congrArg Goroutine.frame e1
    have e4 := congrArg Goroutine.callers e1
    simp only [G] at e3 e4
    subst e3 e4
    exact ⟨r1, _, cs', w2', _, stepG_none ho hwt' hb' h1, by rw [put_eq t, put_eq t']; exact .run (k := .inRegion ops rest :: k) ((ht.mono h6.ext).put _ VR.undef) hkk, hc.mono h6.ext, h4.toHR0, h5, h6, hl⟩
  | @enter g a a' hS ha =>
    rw [stepG_enter (main := true) ho hw hb hr] at h
    simp only [GStep.go.injEq] at h
    obtain ⟨e1, e2, _⟩ := h
    subst e2
    have e3 := congrArg Goroutine.frame e1
    have e4 := congrArg Goroutine.callers e1
    simp only [G] at e3 e4
    subst e3 e4
    obtain ⟨fn, c, f1, f2, f3, f4⟩ := hP.funcs g hS
    rw [enter_at _ f1 f3]
    refine ⟨r1, (base g).at ⟨a' ++ Array.replicate (fn.ntmps - a'.size) undef, []⟩ [.code c], ((baseK (bo b cs).kd f).at ⟨t', (bo b cs).ds⟩ (.inRegion ops (i :: rest) :: (k ++ (bo b cs).k0))) :: cs', w2', _, by rw [stepG_enter ho hwt' hb' h1, enter_at _ f1 f3]; rfl, FrR.run (b := Bot.nil) (k := [.code c]) (ha.append ?_) ?_, CsR.cons (k := .inRegion ops (i :: rest) :: k) (ht.mono h6.ext) hk (by simp) (hc.mono h6.ext), h4.toHR0, h5, h6, hl⟩
    · rw [ha.size]; exact RR.replicate _ VR.undef
    · intro x hx
      simp only [List.mem_cons, List.not_mem_nil, or_false] at hx
      subst hx
      exact f4
end
end Go.Proofs.Ytcobehkadhcjiaa

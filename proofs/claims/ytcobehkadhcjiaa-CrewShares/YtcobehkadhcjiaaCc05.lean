/-
  Goroutines among others: part 5 of what the law's own text rests on.
-/
import Derived.Test.YtcobehkadhcjiaaCc04
/-
  WHAT HANGS ON THE TAPE: what is drawn, no more.
-/
namespace Go.Proofs.Ytcobehkadhcjiaa
open Go Go.Conc
variable [Shift]

abbrev Tape' := Nat → Question → Nat
/-- The world with this tape. -/
def onT (w : World) (T : Tape') : World := { w with tape := T }
def Agree (T U : Tape') (a b : Nat) : Prop := ∀ n, a ≤ n → n < b → T n = U n
omit [Shift] in
theorem Agree.left {T U : Tape'} {a b c : Nat} (h : Agree T U a c) (hb : b ≤ c) : Agree T U a b := fun n h1 h2 => h n h1 (by omega)
omit [Shift] in
theorem Agree.right {T U : Tape'} {a b c : Nat} (h : Agree T U a c) (hb : a ≤ b) : Agree T U b c := fun n h1 h2 => h n (by omega) h2

/-- What was drawn, and that nothing else of the tape matters. -/
structure Drawn (w w1 : World) : Prop where
  tape : w1.tape = w.tape
  le : w.drawn ≤ w1.drawn
omit [Shift] in
theorem Drawn.refl (w : World) : Drawn w w := ⟨rfl, Nat.le_refl _⟩
omit [Shift] in
theorem Drawn.trans {w w1 w2 : World} (h : Drawn w w1) (h' : Drawn w1 w2) : Drawn w w2 := ⟨h'.tape.trans h.tape, Nat.le_trans h.le h'.le⟩

/-- A halt by a panic, or where the model ends. -/
def Mild : Halt → Prop
  | .panic _ | .unsupported _ | .stuck _ => True
  | _ => False
/-- Of the tape what it draws alone matters; and it halts mildly, if it does. -/
def Tm (P : Program) {α : Type} (s : Sem α) : Prop := ∀ w, match s.run P w with
  | .ok a w1 => Drawn w w1 ∧ ∀ T, Agree T w.tape w.drawn w1.drawn → s.run P (onT w T) = .ok a (onT w1 T)
  | .halt h _ => Mild h

section
variable {P : Program} {α β : Type}
omit [Shift] in
theorem tm_of {s : Sem α} (h : ∀ w, (∃ a w1, s.run P w = .ok a w1 ∧ Drawn w w1 ∧ ∀ T, Agree T w.tape w.drawn w1.drawn → s.run P (onT w T) = .ok a (onT w1 T)) ∨ (∃ e w1, s.run P w = .halt e w1 ∧ Mild e)) : Tm P s := fun w => by
  rcases h w with ⟨a, w1, h1, h2, h3⟩ | ⟨e, w1, h1, h2⟩
  · rw [h1]; exact ⟨h2, h3⟩
  · rw [h1]; exact h2
omit [Shift] in
theorem tm_pure (a : α) : Tm P (Pure.pure a : Sem α) := tm_of fun w => .inl ⟨a, w, rfl, .refl w, fun _ _ => rfl⟩
omit [Shift] in
theorem tm_halt {h : Halt} (m : Mild h) : Tm P (Sem.halt h : Sem α) := tm_of fun w => .inr ⟨h, w, rfl, m⟩
omit [Shift] in
theorem tm_stuck (m : String) : Tm P (stuck m : Sem α) := tm_halt trivial
omit [Shift] in
theorem tm_unsupported (u : Unsupported) : Tm P (unsupported u : Sem α) := tm_halt trivial
omit [Shift] in
theorem tm_goPanic (v : Value) : Tm P (goPanic v : Sem α) := tm_halt trivial
omit [Shift] in
theorem tm_bind {s : Sem α} {f : α → Sem β} (h : Tm P s) (hf : ∀ a, Tm P (f a)) : Tm P (s >>= f) := fun w => by
  have h1 := h w
  rw [Sem.run_bind]
  cases hs : s.run P w with
  | halt e we =>
    rw [hs] at h1
    exact h1
  | ok a w1 =>
    rw [hs] at h1
    obtain ⟨d1, t1⟩ := h1
    have h2 := hf a w1
    simp only [Result.andThen_ok]
    cases hs2 : (f a).run P w1 with
    | halt e we => rw [hs2] at h2; exact h2
    | ok b w2 =>
      rw [hs2] at h2
      obtain ⟨d2, t2⟩ := h2
      refine ⟨d1.trans d2, fun T hT => ?_⟩
      rw [Sem.run_bind, t1 T (hT.left d2.le), Result.andThen_ok]
      exact t2 T (by rw [d1.tape]; exact hT.right d1.le)
omit [Shift] in
theorem tm_program : Tm P program := tm_of fun w => .inl ⟨P, w, rfl, .refl w, fun _ _ => rfl⟩
omit [Shift] in
theorem tm_mark (m : Mark) : Tm P (mark m) := tm_of fun w => .inl ⟨(), w, rfl, .refl w, fun _ _ => rfl⟩
omit [Shift] in
theorem tm_shape (r : Nat) : Tm P (shape r) := tm_of fun w => .inl ⟨w.shape? r, w, rfl, .refl w, fun _ _ => rfl⟩
omit [Shift] in
theorem tm_frozen (a : Addr) : Tm P (frozen a) := tm_of fun w => .inl ⟨w.frozen? a, w, rfl, .refl w, fun _ _ => rfl⟩
omit [Shift] in
theorem tm_newObj (o : Obj) : Tm P (newObj o) := tm_of fun w => .inl ⟨w.heap.size, { w with heap := w.heap.push o }, rfl, ⟨rfl, Nat.le_refl _⟩, fun _ _ => rfl⟩
omit [Shift] in
theorem tm_choose (q : Question) : Tm P (choose q) := tm_of fun w => by
  by_cases hq : q.forced = true
  · have key : ∀ w : World, (choose q).run P w = .ok 0 w := fun w => by unfold Go.choose Sem.run; rw [if_pos hq]; rfl
    exact .inl ⟨0, w, key w, .refl w, fun T _ => key _⟩
  · have key : ∀ w : World, (choose q).run P w = .ok (q.cut (w.tape w.drawn q)) { w with drawn := w.drawn + 1 } := fun w => by unfold Go.choose Sem.run; rw [if_neg hq]; rfl
    refine .inl ⟨_, _, key w, ⟨rfl, Nat.le_succ _⟩, fun T hT => ?_⟩
    have : T w.drawn = w.tape w.drawn := hT _ (Nat.le_refl _) (Nat.lt_succ_self _)
    rw [key]
    show Result.ok (q.cut (T w.drawn q)) _ = _
    rw [this]
    rfl
omit [Shift] in
theorem tm_getObj (r : Nat) : Tm P (getObj r) := tm_of fun w => by
  have key : ∀ T, (getObj r).run P (onT w T) = (match (getObj r).run P w with | .ok a w1 => .ok a (onT w1 T) | .halt h w1 => .halt h (onT w1 T)) := fun T => by
    unfold Go.getObj Sem.run
    have : (onT w T).heap[r]? = w.heap[r]? := rfl
    rw [this]
    cases w.heap[r]? with
    | none => rfl
    | some o => cases o <;> rfl
  cases hr : (getObj r).run P w with
  | ok a w1 =>
    have hw : w1 = w := by
      unfold Go.getObj Sem.run at hr
      cases ho : w.heap[r]? with
      | none => rw [ho] at hr; cases hr
      | some o => rw [ho] at hr; cases o <;> cases hr <;> rfl
    subst hw
    exact .inl ⟨a, w1, rfl, .refl _, fun T _ => by rw [key T, hr]⟩
  | halt e w1 =>
    refine .inr ⟨e, w1, rfl, ?_⟩
    unfold Go.getObj Sem.run at hr
    cases ho : w.heap[r]? with
    | none => rw [ho] at hr; cases hr; trivial
    | some o => rw [ho] at hr; cases o <;> cases hr; trivial
omit [Shift] in
theorem noCell_mild (w : World) (a : Addr) (m : String) : Mild (w.noCell a m) := by
  unfold World.noCell
  split <;> trivial
omit [Shift] in
theorem farLoad_mild {w : World} {a : Addr} {b : Bool} {e : Halt} (h : w.farLoad P a b = .error e) : Mild e := by
  unfold World.farLoad at h
  split at h
  · split at h <;> cases h
    trivial
  · cases h
    exact noCell_mild _ _ _
omit [Shift] in
theorem farStore_mild {w : World} {a : Addr} {v : Value} {b : Bool} {e : Halt} (h : w.farStore P a v b = .error e) : Mild e := by
  unfold World.farStore at h
  split at h
  · split at h <;> cases h
    trivial
  · cases h
    exact noCell_mild _ _ _
omit [Shift] in
theorem tm_load (a : Addr) (m : Mode) : Tm P (Go.load a m) := tm_of fun w => by
  have e1 : ∀ T, (onT w T).cell? a = w.cell? a := fun _ => rfl
  have e2 : ∀ T, (onT w T).farLoad P a (m == .atomic) = w.farLoad P a (m == .atomic) := fun _ => rfl
  cases hc : w.cell? a with
  | some v =>
    have key : ∀ w : World, w.cell? a = some v → (Go.load a m).run P w = .ok v w := fun w h => by unfold Go.load Sem.run; rw [h]; rfl
    exact .inl ⟨v, w, key w hc, .refl w, fun T _ => key _ hc⟩
  | none =>
    cases hf : w.farLoad P a (m == .atomic) with
    | ok x =>
      obtain ⟨v, l⟩ := x
      have key : ∀ w : World, w.cell? a = none → w.farLoad P a (m == .atomic) = .ok (v, l) → (Go.load a m).run P w = .ok v w := fun w h h2 => by unfold Go.load Sem.run; rw [h, h2]; rfl
      exact .inl ⟨v, w, key w hc hf, .refl w, fun T _ => key _ hc hf⟩
    | error e => exact .inr ⟨e, w, by unfold Go.load Sem.run; rw [hc, hf], farLoad_mild hf⟩
omit [Shift] in
theorem farStore_tape {w w1 : World} {a : Addr} {v : Value} {b : Bool} {l : List Addr} (h : w.farStore P a v b = .ok (w1, l)) : Drawn w w1 ∧ w1.drawn = w.drawn ∧ ∀ T, (onT w T).farStore P a v b = .ok (onT w1 T, l) := by
  unfold World.farStore at h ⊢
  have e1 : ∀ T, (onT w T).heap[a.block]? = w.heap[a.block]? := fun _ => rfl
  cases ho : w.heap[a.block]? with
  | none => rw [ho] at h; cases h
  | some o =>
    rw [ho] at h
    cases o with
    | view x u =>
      dsimp only at h
      cases hv : w.viewStore P x u a v b with
      | error e => rw [hv] at h; cases h
      | ok y =>
        rw [hv] at h
        cases h
        have hs : ∀ T, (onT w T).seen P x u a b = w.seen P x u a b := fun _ => rfl
        have key : ∀ T, (onT w T).viewStore P x u a v b = (match w.viewStore P x u a v b with | .ok y => .ok (onT y.1 T, y.2) | .error e => .error e) ∧ ∀ y, w.viewStore P x u a v b = .ok y → y.1.tape = w.tape ∧ y.1.drawn = w.drawn := fun T => by
          unfold World.viewStore
          rw [hs]
          by_cases ht : (!tight P P.depth u) = true
          · simp only [ht, if_true]
            exact ⟨rfl, fun y hy => by cases hy⟩
          · simp only [ht, if_false, Bool.false_eq_true]
            cases hse : World.seen P w x u a b with
            | error e => exact ⟨rfl, fun y hy => by cases hy⟩
            | ok z =>
              obtain ⟨c, e, fz, first, like, cells⟩ := z
              simp only [bind, Except.bind]
              cases hb : v.bytes? with
              | none => exact ⟨rfl, fun y hy => by cases hy⟩
              | some bytes =>
                dsimp only
                split
                · exact ⟨rfl, fun y hy => by cases hy⟩
                · split
                  · exact ⟨rfl, fun y hy => by cases hy⟩
                  · exact ⟨rfl, fun y hy => by cases hy; exact ⟨rfl, rfl⟩⟩
        obtain ⟨_, k2⟩ := key w.tape
        obtain ⟨k3, k4⟩ := k2 _ hv
        refine ⟨⟨k3, by rw [k4]; exact Nat.le_refl _⟩, k4, fun T => ?_⟩
        rw [e1, ho]
        dsimp only
        rw [(key T).1, hv]
    | _ => cases h
omit [Shift] in
theorem tm_store (a : Addr) (v : Value) (m : Mode) : Tm P (Go.store a v m) := tm_of fun w => by
  have e1 : ∀ T, (onT w T).cell? a = w.cell? a := fun _ => rfl
  by_cases hone : v.oneCell' = true
  · have key : ∀ w : World, (Go.store a v m).run P w = (match w.cell? a with
        | some _ => if w.frozen? a then Result.halt (.unsupported (.unsafePointer "a write to bytes that a string shares")) w else Result.ok () (w.setCell a v)
        | none => match w.farStore P a v (m == .atomic) with
          | .ok (w, _) => Result.ok () w
          | .error h => Result.halt h w) := fun w => by
      cases v <;> first | (simp [Value.oneCell'] at hone; done) | (simp only [Go.store, Sem.run]; rfl)
    cases hc : w.cell? a with
    | some y =>
      by_cases hf : w.frozen? a = true
      · exact .inr ⟨.unsupported (.unsafePointer "a write to bytes that a string shares"), w, by rw [key, hc]; dsimp only; rw [if_pos hf], trivial⟩
      · refine .inl ⟨(), w.setCell a v, by rw [key, hc]; dsimp only; rw [if_neg hf], ⟨rfl, Nat.le_refl _⟩, fun T _ => ?_⟩
        rw [key, e1, hc]
        dsimp only
        have : (onT w T).frozen? a = w.frozen? a := rfl
        rw [this, if_neg hf]
        rfl
    | none =>
      cases hf : w.farStore P a v (m == .atomic) with
      | ok x =>
        obtain ⟨w1, l⟩ := x
        obtain ⟨d, _, t⟩ := farStore_tape hf
        exact .inl ⟨(), w1, by rw [key, hc, hf], d, fun T _ => by rw [key, e1, hc, t T]⟩
      | error e => exact .inr ⟨e, w, by rw [key, hc, hf], farStore_mild hf⟩
  · refine .inr ⟨.stuck "store: not the value of one cell", w, ?_, trivial⟩
    cases v <;> first | rfl | (simp [Value.oneCell'] at hone)
end
end Go.Proofs.Ytcobehkadhcjiaa

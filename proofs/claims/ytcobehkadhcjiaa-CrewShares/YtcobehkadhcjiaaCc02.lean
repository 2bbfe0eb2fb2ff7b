/-
  Goroutines among others: part 2 of what the law's own text rests on.
-/
import Derived.Test.YtcobehkadhcjiaaCc01
/-
  THE OPERATIONS, EACH CARRIED OUT ALONE AND AMONG OTHERS: the rest, and all together.
-/
namespace Go.Proofs.Ytcobehkadhcjiaa
open Go
variable [Shift]

section
variable {P : Program} {S : FuncId → Bool} {r : BR}

omit [Shift] in
theorem underlying_of {t : TypeId} {d : TypeDesc} (h : ∃ w, (underlying t).run P w = .ok d w) : P.underlying t = some d := by
  obtain ⟨w, hw⟩ := h
  unfold underlying at hw
  simp only [Sem.run_bind, run_program, Result.andThen_ok] at hw
  cases hu : P.underlying t with
  | none => rw [hu] at hw; simp [stuck] at hw
  | some u => rw [hu] at hw; simp at hw; rw [hw]

/-! ### addresses -/
theorem sr_loadAt (t : TypeId) {v v' : Value} (h : VR S r v v') : SR P S r (fun r1 v v' => VR S r1 v v') (Instr.loadAt t v) (Instr.loadAt t v') :=
  sr_bind (sr_sureAddr h) fun _ _ _ _ x => sr_loadVar t x
theorem sr_storeAt (t : TypeId) {v v' u u' : Value} (h : VR S r v v') (hu : VR S r u u') : SR P S r (fun _ _ _ => True) (Instr.storeAt t v u) (Instr.storeAt t v' u') :=
  sr_bind (sr_sureAddr h) fun _ hx _ _ x => sr_storeVar t x (hu.mono hx)
/-- The field takes room. -/
def okField (P : Program) (t : TypeId) (k : Nat) : Bool := match P.underlying t with
  | some (.struct fs) => match fs[k]? with
    | some f => match P.info? f.type with
      | some i => i.size != 0
      | none => true
    | none => true
  | _ => true
theorem sr_fieldAt {t : TypeId} {k : Nat} (hk : okField P t k = true) {v v' : Value} (h : VR S r v v') : SR P S r (fun r1 v v' => VR S r1 v v') (Instr.fieldAt t v k) (Instr.fieldAt t v' k) := by
  unfold Instr.fieldAt
  refine sr_bindFree (hf_underlying t) fun d hd => ?_
  cases d <;> dsimp only <;> first | exact sr_never (nv_stuck _) | skip
  rename_i fs
  cases hf : fs[k]? with
  | none => exact sr_never (nv_stuck _)
  | some f =>
    refine sr_bind (sr_sureAddr h) fun r1 _ a a' x => ?_
    unfold fieldPlace
    simp only [bind_assoc]
    refine sr_bindFree (hf_sizeOf f.type) fun n hn => ?_
    have hn0 : n ≠ 0 := by
      unfold okField at hk
      rw [underlying_of hd] at hk
      dsimp only at hk
      rw [hf] at hk
      dsimp only at hk
      obtain ⟨w, hw⟩ := hn
      unfold Go.sizeOf typeInfo at hw
      simp only [Sem.run_bind, run_program, Result.andThen_ok] at hw
      cases hi : P.info? f.type with
      | none => rw [hi] at hw; simp [stuck] at hw
      | some i =>
        rw [hi] at hw hk
        simp at hw hk
        omega
    rw [if_neg hn0, if_neg hn0]
    exact sr_bind (sr_pure (x.add _)) fun _ _ _ _ y => sr_pure (.ptr y)

theorem sr_indexAt (t : TypeId) {v v' u u' : Value} (h : VR S r v v') (hu : VR S r u u') : SR P S r (fun r1 v v' => VR S r1 v v') (Instr.indexAt t v u) (Instr.indexAt t v' u') := by
  unfold Instr.indexAt
  refine sr_bind (sr_asIntOf hu) fun r1 hx ki ki' e => ?_
  subst e
  obtain ⟨k, i⟩ := ki'
  dsimp only
  have h1 := h.mono hx
  have tail : ∀ r2 (base base' : Option Addr) (len : Nat) (elem : TypeId), (match base, base' with | some a, some b => AR r2 a b | none, none => True | _, _ => False) → SR P S r2 (fun r1 v v' => VR S r1 v v')
      (underlying t >>= fun d2 => match base with
        | some a => if 0 ≤ i ∧ i < (len : Int) then Go.sizeOf elem >>= fun n => pure (Value.pointer (some (a.add (i.toNat * n))))
          else if (decide (len ≤ 1) && match d2 with | TypeDesc.array _ _ => true | _ => false) = true then
            unsupported (Unsupported.noEntry "op/indexAddr.an index out of range at an array of length 0 or 1 (ledger 616)")
          else boundsPanic k i (len : Int) BoundsCode.index
        | none => boundsPanic k i 0 BoundsCode.index)
      (underlying t >>= fun d2 => match base' with
        | some a => if 0 ≤ i ∧ i < (len : Int) then Go.sizeOf elem >>= fun n => pure (Value.pointer (some (a.add (i.toNat * n))))
          else if (decide (len ≤ 1) && match d2 with | TypeDesc.array _ _ => true | _ => false) = true then
            unsupported (Unsupported.noEntry "op/indexAddr.an index out of range at an array of length 0 or 1 (ledger 616)")
          else boundsPanic k i (len : Int) BoundsCode.index
        | none => boundsPanic k i 0 BoundsCode.index) := fun r2 base base' len elem hb => by
    refine sr_bindFree (hf_underlying t) fun d2 _ => ?_
    cases base <;> cases base' <;> dsimp only at hb ⊢ <;> first
      | exact hb.elim
      | exact sr_never (nv_boundsPanic _ _ _ _)
      | skip
    split
    · refine sr_bindFree (hf_sizeOf _) fun n _ => ?_
      exact sr_pure (.ptr (hb.add _))
    · (repeat' split) <;> first | exact sr_never (nv_unsupported _) | exact sr_never (nv_boundsPanic _ _ _ _)
  have tail0 : ∀ (r2 : BR) (a b : Addr) (elem : TypeId), SR P S r2 (fun r1 v v' => VR S r1 v v')
      (underlying t >>= fun d2 => if 0 ≤ i ∧ i < ((0 : Nat) : Int) then Go.sizeOf elem >>= fun n => pure (Value.pointer (some (a.add (i.toNat * n))))
          else if (decide (0 ≤ 1) && match d2 with | TypeDesc.array _ _ => true | _ => false) = true then
            unsupported (Unsupported.noEntry "op/indexAddr.an index out of range at an array of length 0 or 1 (ledger 616)")
          else boundsPanic k i ((0 : Nat) : Int) BoundsCode.index)
      (underlying t >>= fun d2 => if 0 ≤ i ∧ i < ((0 : Nat) : Int) then Go.sizeOf elem >>= fun n => pure (Value.pointer (some (b.add (i.toNat * n))))
          else if (decide (0 ≤ 1) && match d2 with | TypeDesc.array _ _ => true | _ => false) = true then
            unsupported (Unsupported.noEntry "op/indexAddr.an index out of range at an array of length 0 or 1 (ledger 616)")
          else boundsPanic k i ((0 : Nat) : Int) BoundsCode.index) := fun r2 a b elem => by
    refine sr_bindFree (hf_underlying t) fun d2 _ => ?_
    have hno : ¬ (0 ≤ i ∧ i < ((0 : Nat) : Int)) := by omega
    rw [if_neg hno, if_neg hno]
    (repeat' split) <;> first | exact sr_never (nv_unsupported _) | exact sr_never (nv_boundsPanic _ _ _ _)
  refine sr_bindFree (hf_underlying t) fun d hd => ?_
  cases d <;> (try dsimp only) <;> first
    | exact sr_never (nv_bind (nv_stuck _))
    | skip
  · cases h1 with
    | nilSlice n c => exact tail r1 none none n 0 trivial
    | slice n c x => exact tail r1 (some _) (some _) n _ x
    | void _ _ => exact tail0 r1 _ _ _
    | _ => exact sr_never (nv_bind (nv_stuck _))
  · exact sr_bind (sr_sureAddr h1) fun r2 _ a a' x => tail r2 (some a) (some a') _ _ x

/-- What is taken for a number is one, or it never comes to an end. -/
theorem vr_int {v v' : Value} (h : VR S r v v') : v' = v ∨ Never P (asIntOf v) := by
  cases h <;> first | exact .inl rfl | exact .inr (nv_stuck _) | exact .inr (nv_unsupported _)
omit [Shift] in
theorem hf_asIntOf (v : Value) : HF P (asIntOf v) := by
  cases v <;> first
    | exact hf_pure _
    | exact hf_never (nv_stuck _)
    | (rename_i a; cases a <;> first | exact hf_never (nv_stuck _) | exact hf_never (nv_unsupported _))
omit [Shift] in
theorem hf_sliceBound (v : Value) (y : Nat) (c : BoundsCode) : HF P (Instr.sliceBound v y c) :=
  hf_bind (hf_asIntOf v) fun ki => by
    dsimp only
    split
    · exact hf_pure _
    · exact hf_never (nv_boundsPanic _ _ _ _)
omit [Shift] in
theorem hf_sliceBounds (b : Bool) (len cap : Nat) (lo hi mx : Option Value) : HF P (Instr.sliceBounds b len cap lo hi mx) := by
  unfold Instr.sliceBounds
  cases lo <;> cases hi <;> cases mx <;> dsimp only <;>
    exact hf_bind (by first | exact hf_pure _ | exact hf_sliceBound _ _ _) fun _ => hf_bind (by first | exact hf_pure _ | exact hf_sliceBound _ _ _ | exact hf_never (nv_stuck _)) fun _ => hf_bind (by first | exact hf_pure _ | exact hf_sliceBound _ _ _) fun _ => hf_pure _
/-- Optional values. -/
inductive QR (S : FuncId → Bool) (r : BR) : Option Value → Option Value → Prop
  | none : QR S r none none
  | some {v v' : Value} : VR S r v v' → QR S r (some v) (some v')
theorem QR.mono {r1 : BR} (hx : ∀ a b, r a b → r1 a b) {v v' : Option Value} (h : QR S r v v') : QR S r1 v v' := by
  cases h with
  | none => exact .none
  | some h => exact .some (h.mono hx)

/-- .. and what is known of what the left comes to. -/
theorem sr_and {α β : Type} {R : BR → α → β → Prop} {T : α → Prop} {m : Sem α} {m' : Sem β} (h : SR P S r R m m') (ht : ∀ w x w1, m.run P w = .ok x w1 → T x) : SR P S r (fun r1 x y => R r1 x y ∧ T x) m m' := fun w w' es hw x w1 hx => by
  obtain ⟨r1, y, w1', l, h1, h2, h3, h4⟩ := h w w' es hw x w1 hx
  exact ⟨r1, y, w1', l, h1, h2, ⟨h3, ht w x w1 hx⟩, h4⟩

omit [Shift] in
theorem run_inv {α β : Type} {m : Sem α} {f : α → Sem β} {w w2 : World} {y : β} (h : (m >>= f).run P w = .ok y w2) : ∃ x w1, m.run P w = .ok x w1 ∧ (f x).run P w1 = .ok y w2 := by
  rw [Sem.run_bind] at h
  cases hs : m.run P w with
  | halt e we => rw [hs] at h; cases h
  | ok x w1 => rw [hs] at h; exact ⟨x, w1, rfl, h⟩
omit [Shift] in
theorem bound0 {x : Value} {code : BoundsCode} {w w1 : World} {k : Nat} (h : (Instr.sliceBound x 0 code).run P w = .ok k w1) : k = 0 := by
  unfold Instr.sliceBound at h
  obtain ⟨⟨q, i⟩, w2, _, h⟩ := run_inv h
  dsimp only at h
  split at h
  · cases h
    omega
  · exact absurd h (nv_boundsPanic _ _ _ _ _ _ _)
omit [Shift] in
theorem sb0 {lo hi mx : Option Value} {w w1 : World} {x : Nat × Nat × Nat} (h : (Instr.sliceBounds true 0 0 lo hi mx).run P w = .ok x w1) : x = (0, 0, 0) := by
  unfold Instr.sliceBounds at h
  cases mx <;> cases hi <;> cases lo <;> dsimp only at h <;> (
    obtain ⟨m, w2, h1, h⟩ := run_inv h
    have hm : m = 0 := by first | exact bound0 h1 | (cases h1; rfl)
    subst hm
    obtain ⟨k, w3, h2, h⟩ := run_inv h
    have hk : k = 0 := by first | exact bound0 h2 | (exact absurd h2 (nv_stuck _ _ _ _)) | (cases h2; rfl)
    subst hk
    obtain ⟨l, w4, h3, h⟩ := run_inv h
    have hl : l = 0 := by first | exact bound0 h3 | (cases h3; rfl)
    subst hl
    cases h
    rfl)

theorem qr_int {v v' : Option Value} (h : QR S r v v') : v' = v ∨ ∃ x, v = some x ∧ Never P (asIntOf x) := by
  cases h with
  | none => exact .inl rfl
  | some h =>
    rcases vr_int (P := P) h with rfl | h
    · exact .inl rfl
    · exact .inr ⟨_, rfl, h⟩
theorem sr_sliceBounds (b : Bool) (len cap : Nat) {lo lo' hi hi' mx mx' : Option Value} (h1 : QR S r lo lo') (h2 : QR S r hi hi') (h3 : QR S r mx mx') :
    SR P S r (fun _ a b => b = a) (Instr.sliceBounds b len cap lo hi mx) (Instr.sliceBounds b len cap lo' hi' mx') := by
  have nb : ∀ x, Never P (asIntOf x) → ∀ y c, Never P (Instr.sliceBound x y c) := fun x h y c => nv_bind h
  rcases qr_int (P := P) h3 with rfl | ⟨x, rfl, hx⟩
  · rcases qr_int (P := P) h2 with rfl | ⟨x, rfl, hx⟩
    · rcases qr_int (P := P) h1 with rfl | ⟨x, rfl, hx⟩
      · exact sr_free (hf_sliceBounds _ _ _ _ _ _)
      · refine sr_never ?_
        unfold Instr.sliceBounds
        cases hi' <;> cases mx' <;> exact nv_bind' fun _ => nv_bind' fun _ => nv_bind (nb x hx _ _)
    · refine sr_never ?_
      unfold Instr.sliceBounds
      cases lo <;> cases mx' <;> exact nv_bind' fun _ => nv_bind (nb x hx _ _)
  · refine sr_never ?_
    unfold Instr.sliceBounds
    cases lo <;> cases hi <;> exact nv_bind (nb x hx _ _)


theorem sr_slice (t : TypeId) {v v' : Value} (h : VR S r v v') {lo lo' hi hi' mx mx' : Option Value} (h1 : QR S r lo lo') (h2 : QR S r hi hi') (h3 : QR S r mx mx') :
    SR P S r (fun r1 v v' => VR S r1 v v') (Instr.slice t v lo hi mx) (Instr.slice t v' lo' hi' mx') := by
  unfold Instr.slice
  refine sr_bindFree (hf_underlying t) fun d hd => ?_
  have arr : ∀ (arr : TypeId), SR P S r (fun r1 v v' => VR S r1 v v')
      (asAddr v >>= fun a => underlying arr >>= fun d => match d with
        | .array n elem => Instr.sliceBounds false n n lo hi mx >>= fun x => Go.sizeOf elem >>= fun size => pure (Value.slice (some (if x.2.2 = x.1 then a else a.add (x.1 * size))) (x.2.1 - x.1) (x.2.2 - x.1))
        | _ => stuck "Slice: array type expected")
      (asAddr v' >>= fun a => underlying arr >>= fun d => match d with
        | .array n elem => Instr.sliceBounds false n n lo' hi' mx' >>= fun x => Go.sizeOf elem >>= fun size => pure (Value.slice (some (if x.2.2 = x.1 then a else a.add (x.1 * size))) (x.2.1 - x.1) (x.2.2 - x.1))
        | _ => stuck "Slice: array type expected") := fun arr => by
    refine sr_bind (sr_asAddr h) fun r1 hx a a' x => ?_
    refine sr_bindFree (hf_underlying arr) fun d hd => ?_
    cases d <;> (try dsimp only) <;> first | exact sr_never (nv_stuck _) | skip
    refine sr_bind (sr_sliceBounds _ _ _ (h1.mono hx) (h2.mono hx) (h3.mono hx)) fun r2 hx2 y y' e => ?_
    subst e
    refine sr_bindFree (hf_sizeOf _) fun size _ => ?_
    refine sr_pure (.slice _ _ ?_)
    split
    · exact x.mono hx2
    · exact (x.mono hx2).add _
  cases d with
  | pointer p => cases h <;> exact arr p
  | slice elem =>
    cases h <;> (try dsimp only) <;> first | exact sr_never (nv_stuck _) | skip
    · refine sr_bind (sr_sliceBounds _ _ _ h1 h2 h3) fun r2 hx2 y y' e => ?_
      subst e
      refine sr_bindFree (hf_sizeOf _) fun size _ => ?_
      split <;> exact sr_pure (.nilSlice _ _)
    · rename_i x
      refine sr_bind (sr_sliceBounds _ _ _ h1 h2 h3) fun r2 hx2 y y' e => ?_
      subst e
      refine sr_bindFree (hf_sizeOf _) fun size _ => ?_
      split
      · exact sr_pure (.slice _ _ (x.mono hx2))
      · exact sr_pure (.slice _ _ ((x.mono hx2).add _))
    · rename_i k0 e0
      refine sr_bind (sr_and (sr_sliceBounds _ _ _ h1 h2 h3) fun w x w1 hw => sb0 hw) fun r2 hx2 y y' e => ?_
      obtain ⟨e, rfl⟩ := e
      subst e
      refine sr_bindFree (hf_sizeOf _) fun size _ => ?_
      dsimp only
      rw [if_pos rfl, if_pos rfl]
      exact sr_pure (.void (hx2 _ _ k0) e0)
  | string =>
    cases h <;> (try dsimp only) <;> first | exact sr_never (nv_stuck _) | skip
    cases h3 with
    | some _ => exact sr_never (nv_bind (nv_stuck _))
    | none =>
      refine sr_bind (sr_sliceBounds _ _ _ h1 h2 .none) fun r2 hx2 y y' e => ?_
      subst e
      exact sr_pure (.string _)
  | _ => exact sr_never (by cases v <;> exact nv_stuck _)

/-- No array is sliced. -/
theorem sr_sliceAt {t : TypeId} (ht : ∀ n e, P.underlying t ≠ some (.array n e)) {v v' : Value} (h : VR S r v v') {lo lo' hi hi' mx mx' : Option Value} (h1 : QR S r lo lo') (h2 : QR S r hi hi') (h3 : QR S r mx mx') :
    SR P S r (fun r1 v v' => VR S r1 v v') (Instr.sliceAt t v lo hi mx) (Instr.sliceAt t v' lo' hi' mx') := by
  unfold Instr.sliceAt
  refine sr_bindFree (hf_underlying t) fun d hd => ?_
  cases d <;> (try dsimp only) <;> first | exact sr_slice t h h1 h2 h3 | exact absurd (underlying_of hd) (ht _ _)

theorem sr_makeSlice {t : TypeId} (hz : ∀ e, P.underlying t = some (.slice e) → okZero P S e = true) {v v' u u' : Value} (h : VR S r v v') (hu : VR S r u u') :
    SR P S r (fun r1 v v' => VR S r1 v v') (Instr.makeSlice t v u) (Instr.makeSlice t v' u') := by
  unfold Instr.makeSlice
  refine sr_bindFree (hf_underlying t) fun d hd => ?_
  cases d <;> (try dsimp only) <;> first | exact sr_never (nv_stuck _) | skip
  rename_i elem
  have hze := hz elem (underlying_of hd)
  refine sr_bind (sr_asInt h) fun r1 hx n n' e => ?_
  subst e
  refine sr_bind (sr_asInt (hu.mono hx)) fun r2 hx2 m m' e => ?_
  subst e
  refine sr_bindFree (hf_typeInfo _) fun i _ => ?_
  have tail : ∀ r3 (c c' : Array Value) (n l k : Nat), RR S r3 c c' → SR P S r3 (fun r1 v v' => VR S r1 v v')
      (newRow elem (Array.map (fun x => c[x % c.size]!) (Array.range n)) >>= fun a => pure (Value.slice (some a) l k))
      (newRow elem (Array.map (fun x => c'[x % c'.size]!) (Array.range n)) >>= fun a => pure (Value.slice (some a) l k)) := fun r3 c c' n l k hc =>
    sr_bind (sr_newRow elem (hc.cycle _ VR.default)) fun _ _ _ _ a => sr_pure (.slice _ _ a)
  split
  · split
    · exact sr_never (nv_bind (nv_runtimePanic _))
    · split
      · exact sr_never (nv_bind (nv_runtimePanic _))
      · exact sr_never (nv_bind' fun _ => nv_bind (nv_runtimePanic _))
  · refine sr_bind (sr_askRoom _) fun r3 _ _ _ _ => ?_
    refine sr_bindFree (hf_sizeOf _) fun size _ => ?_
    split
    · exact sr_bind (sr_pure RR.nil) fun r4 _ c c' hc => tail r4 c c' _ _ _ hc
    · exact sr_bind (sr_zeroValue hze) fun r4 _ z z' hzz => sr_bind (sr_pure hzz.cells) fun r5 _ c c' hc => tail r5 c c' _ _ _ hc

/-- The first argument's type is a slice's. -/
def okSliceArg (P : Program) (ts : Array TypeId) : Bool := match ts[0]? with
  | some t => match P.underlying t with
    | some (.slice _) => true
    | _ => false
  | none => true
omit [Shift] in
theorem okSliceArg_of {ts : Array TypeId} (h : okSliceArg P ts = true) {t : TypeId} (ht : ts[0]? = some t) {d : TypeDesc} (hd : P.underlying t = some d) : ∃ e, d = .slice e := by
  unfold okSliceArg at h
  rw [ht] at h
  dsimp only at h
  rw [hd] at h
  cases d <;> first | exact ⟨_, rfl⟩ | cases h

theorem sr_len {ts : Array TypeId} (hs : okSliceArg P ts = true) (ty : TypeId) {a a' : Array Value} (h : RR S r a a') : SR P S r (fun r1 v v' => VR S r1 v v') (Builtin.len_ ts ty a) (Builtin.len_ ts ty a') := by
  unfold Builtin.len_
  cases ht : ts[0]? with
  | none => exact sr_never (nv_stuck _)
  | some t =>
    cases ha : a[0]? with
    | none => exact sr_never (nv_stuck _)
    | some v =>
      obtain ⟨v', ha', hv⟩ := h.get ha
      rw [ha']
      refine sr_bindFree (hf_underlying t) fun d hd => ?_
      obtain ⟨e, rfl⟩ := okSliceArg_of hs ht (underlying_of hd)
      cases hv with
      | nilSlice n c => exact sr_pure (.int _ _)
      | slice n c x => exact sr_pure (.int _ _)
      | void _ _ => exact sr_pure (.int _ _)
      | _ => exact sr_never (nv_stuck _)
theorem sr_cap {ts : Array TypeId} (hs : okSliceArg P ts = true) (ty : TypeId) {a a' : Array Value} (h : RR S r a a') : SR P S r (fun r1 v v' => VR S r1 v v') (Builtin.cap_ ts ty a) (Builtin.cap_ ts ty a') := by
  unfold Builtin.cap_
  cases ht : ts[0]? with
  | none => exact sr_never (nv_stuck _)
  | some t =>
    cases ha : a[0]? with
    | none => exact sr_never (nv_stuck _)
    | some v =>
      obtain ⟨v', ha', hv⟩ := h.get ha
      rw [ha']
      refine sr_bindFree (hf_underlying t) fun d hd => ?_
      obtain ⟨e, rfl⟩ := okSliceArg_of hs ht (underlying_of hd)
      cases hv with
      | nilSlice n c => exact sr_pure (.int _ _)
      | slice n c x => exact sr_pure (.int _ _)
      | void _ _ => exact sr_pure (.int _ _)
      | _ => exact sr_never (nv_stuck _)

/-- Where no cell is nothing is loaded. -/
theorem sr_loadVoid {a a' : Addr} {b : Nat} (k : r a.block b) (e : a.spot ≠ none) (n : Nat) : SR P S r (fun r1 x y => RR S r1 x y) (loadCells a n) (loadCells a' n) := by
  cases n with
  | zero => exact sr_pure RR.nil
  | succ n =>
    intro w w' es hw x w1 hl
    exfalso
    unfold Go.loadCells Go.loadCellsFrom at hl
    rw [Sem.run_bind] at hl
    cases hs : (load (a.add 0)).run P w with
    | halt q we => rw [hs] at hl; cases hl
    | ok v w2 =>
      have x0 : AR r (a.add 0) ⟨b, a.off + shf a.block, a.spot⟩ := by
        unfold Addr.add
        rw [if_pos rfl]
        exact ⟨k, rfl, rfl⟩
      obtain ⟨_, hc⟩ := load_cell hw x0 hs
      have : (a.add 0).spot = none := by
        unfold World.cell? at hc
        split at hc
        · split at hc
          · cases hc
          · rename_i hq
            simpa using hq
        · cases hc
      unfold Addr.add at this
      rw [if_pos rfl] at this
      exact e this
omit [Shift] in
theorem load0 {a : Addr} {w w1 : World} {c : Array Value} (h : (loadCells a 0).run P w = .ok c w1) : c = #[] := by
  have : (loadCells a 0).run P w = .ok #[] w := rfl
  rw [this] at h
  cases h
  rfl
omit [Shift] in
theorem first0 {size n : Nat} {v : Value} {w w1 : World} {c : Array Value} (hn : n = 0) (h : (Builtin.firstCells size n v).run P w = .ok c w1) : c = #[] := by
  subst hn
  cases v with
  | slice a m k =>
    cases a with
    | none => cases h; rfl
    | some a =>
      unfold Builtin.firstCells at h
      rw [Nat.zero_mul] at h
      exact load0 h
  | string s =>
    unfold Builtin.firstCells at h
    cases h
    simp
  | _ => exact absurd h (nv_stuck _ _ _ _)
theorem sr_firstCells (size n : Nat) {v v' : Value} (h : VR S r v v') : SR P S r (fun r1 c c' => RR S r1 c c') (Builtin.firstCells size n v) (Builtin.firstCells size n v') := by
  cases h with
  | nilSlice n c => exact sr_pure RR.nil
  | slice n c x => exact sr_loadCells x _
  | void k e => exact sr_loadVoid k e _
  | string s => exact sr_pure (RR.map _ _ _ fun b _ => .int _ _)
  | _ => exact sr_never (nv_stuck _)

theorem sr_copy {ts : Array TypeId} (ty : TypeId) {a a' : Array Value} (h : RR S r a a') : SR P S r (fun r1 v v' => VR S r1 v v') (Builtin.copy_ ts ty a) (Builtin.copy_ ts ty a') := by
  unfold Builtin.copy_
  cases ht : ts[0]? with
  | none => exact sr_never (nv_stuck _)
  | some t =>
    cases ha : a[0]? with
    | none => exact sr_never (nv_stuck _)
    | some v =>
      obtain ⟨v', ha', hv⟩ := h.get ha
      rw [ha']
      cases hb : a[1]? with
      | none => exact sr_never (nv_stuck _)
      | some u =>
        obtain ⟨u', hb', hu⟩ := h.get hb
        rw [hb']
        refine sr_bindFree (hf_underlying t) fun d hd => ?_
        cases d <;> (try dsimp only) <;> first | exact sr_never (nv_stuck _) | skip
        rename_i elem
        have tail : ∀ (base base' : Option Addr) (n : Nat), (match base, base' with | some a, some b => AR r a b | none, none => True | _, _ => False) → SR P S r (fun r1 v v' => VR S r1 v v')
            (Builtin.lenOf u >>= fun k => Go.sizeOf elem >>= fun size => Builtin.firstCells size (Nat.min k n) u >>= fun cells => match base with
              | some a => storeCells a cells.toList >>= fun _ => pure (goInt (Nat.min k n : Nat))
              | none => pure (goInt (Nat.min k n : Nat)))
            (Builtin.lenOf u' >>= fun k => Go.sizeOf elem >>= fun size => Builtin.firstCells size (Nat.min k n) u' >>= fun cells => match base' with
              | some a => storeCells a cells.toList >>= fun _ => pure (goInt (Nat.min k n : Nat))
              | none => pure (goInt (Nat.min k n : Nat))) := fun base base' n hb => by
          refine sr_bind (sr_lenOf hu) fun r1 hx k k' e => ?_
          subst e
          refine sr_bindFree (hf_sizeOf _) fun size _ => ?_
          refine sr_bind (sr_firstCells _ _ (hu.mono hx)) fun r2 hx2 c c' hc => ?_
          cases base <;> cases base' <;> dsimp only at hb ⊢ <;> first | exact hb.elim | skip
          · exact sr_pure (.int _ _)
          · exact sr_bind (sr_storeCells' ((hb.mono hx).mono hx2) hc) fun _ _ _ _ _ => sr_pure (.int _ _)
        cases hv with
        | nilSlice n c => exact tail none none n trivial
        | slice n c x => exact tail (some _) (some _) n x
        | @void b0 b1 _ _ _ =>
          refine sr_bind (sr_lenOf hu) fun r1 hx k k' e => ?_
          subst e
          refine sr_bindFree (hf_sizeOf _) fun size _ => ?_
          refine sr_bind (sr_and (sr_firstCells _ _ (hu.mono hx)) fun w x w1 hw => first0 (Nat.min_eq_right (Nat.zero_le _)) hw) fun r2 hx2 c c' hc => ?_
          obtain ⟨hc, rfl⟩ := hc
          have : c' = #[] := Array.eq_empty_of_size_eq_zero (by rw [← hc.size]; rfl)
          subst this
          exact sr_bind (R := fun _ _ _ => True) (sr_pure trivial) fun _ _ _ _ _ => sr_pure (.int _ _)
        | _ => exact sr_never (nv_stuck _)

omit [Shift] in
theorem hf_stringOp (op : BinOp) (x y : ByteArray) : HF P (Op.stringOp op x y) := by
  unfold Op.stringOp
  (repeat' split) <;> first | exact hf_pure _ | exact hf_never (nv_stuck _) | exact hf_never (nv_unsupported _)
omit [Shift] in
theorem hf_asBool (v : Value) : HF P (asBool v) := by
  cases v <;> first | exact hf_pure _ | exact hf_never (nv_stuck _)
theorem sr_min2 {v v' u u' : Value} (h : VR S r v v') (hu : VR S r u u') : SR P S r (fun r1 v v' => VR S r1 v v') (Builtin.min2 v u) (Builtin.min2 v' u') := by
  cases h <;> cases hu <;> first | exact sr_never (nv_stuck _) | exact sr_never (nv_unsupported _) | exact sr_pure (.int _ _) | skip
  exact sr_bindFree (hf_stringOp _ _ _) fun x _ => sr_bindFree (hf_asBool x) fun b _ => sr_pure (.string _)
theorem sr_foldlM_min : ∀ (l l' : List Value) {r : BR} {v v' : Value}, VR S r v v' → l.length = l'.length → (∀ (j : Nat) x x', l[j]? = some x → l'[j]? = some x' → VR S r x x') →
    SR P S r (fun r1 v v' => VR S r1 v v') (l.foldlM Builtin.min2 v) (l'.foldlM Builtin.min2 v')
  | [], [], r, v, v', h, _, _ => sr_pure h
  | x :: l, x' :: l', r, v, v', h, hl, hr => by
    rw [List.foldlM_cons, List.foldlM_cons]
    exact sr_bind (sr_min2 h (hr 0 x x' rfl rfl)) fun r1 hx _ _ hv => sr_foldlM_min l l' hv (by simpa using hl) fun j y y' e e' => (hr (j + 1) y y' e e').mono hx
  | [], _ :: _, _, _, _, _, hl, _ => by simp at hl
  | _ :: _, [], _, _, _, _, hl, _ => by simp at hl
theorem sr_min (ts : Array TypeId) (ty : TypeId) {a a' : Array Value} (h : RR S r a a') : SR P S r (fun r1 v v' => VR S r1 v v') (Builtin.min_ ts ty a) (Builtin.min_ ts ty a') := by
  unfold Builtin.min_
  have hl : a.toList.length = a'.toList.length := by simp [h.size]
  have hat : ∀ (j : Nat) x x', a.toList[j]? = some x → a'.toList[j]? = some x' → VR S r x x' := fun j x x' e e' => by
    have e1 : a[j]? = some x := by simpa using e
    have e2 : a'[j]? = some x' := by simpa using e'
    obtain ⟨z, hz, hr⟩ := h.get e1
    rw [e2] at hz; cases hz; exact hr
  revert hl hat
  generalize a.toList = l
  generalize a'.toList = l'
  intro hl hat
  cases l <;> cases l' <;> first | exact sr_never (nv_stuck _) | (simp at hl; done) | skip
  exact sr_foldlM_min _ _ (hat 0 _ _ rfl rfl) (by simpa using hl) fun j x x' e e' => hat (j + 1) x x' e e'

theorem sr_append {ts : Array TypeId} (hz : ∀ t e, ts[0]? = some t → P.underlying t = some (.slice e) → okZero P S e = true) (hn : ∀ t k, ts[1]? = some t → P.underlying t ≠ some (.int k)) (ty : TypeId) {a a' : Array Value} (h : RR S r a a') :
    SR P S r (fun r1 v v' => VR S r1 v v') (Builtin.append_ ts ty a) (Builtin.append_ ts ty a') := by
  unfold Builtin.append_
  cases ht : ts[0]? with
  | none => exact sr_never (nv_stuck _)
  | some t =>
    cases ha : a[0]? with
    | none => exact sr_never (nv_stuck _)
    | some v =>
      obtain ⟨v', ha', hv⟩ := h.get ha
      rw [ha']
      cases hb : a[1]? with
      | none => exact sr_never (nv_stuck _)
      | some u =>
        obtain ⟨u', hb', hu⟩ := h.get hb
        rw [hb']
        refine sr_bindFree (hf_underlying t) fun d hd => ?_
        cases d <;> (try dsimp only) <;> first | exact sr_never (nv_stuck _) | skip
        rename_i elem
        have hze := hz t elem ht (underlying_of hd)
        have big : ∀ (b : Bool), Never P (if (!b) = true then (do mark Mark.noRoom; unsupported (.resourceLimit "append: a slice or a string whose bytes no memory bears")) else (unsupported (.resourceLimit "append: a slice or a string whose bytes no memory bears") : Sem Unit)) := fun b => by
          split
          · exact nv_bind' fun _ => nv_unsupported _
          · exact nv_unsupported _
        have zc : ∀ {r1 : BR} {c c' : Array Value}, RR S r1 c c' → ∀ n, RR S r1 (Builtin.zeroCells c n) (Builtin.zeroCells c' n) := fun {r1 c c'} hc n => by
          unfold Builtin.zeroCells
          rw [← hc.size]
          have := hc.cycle (n * c.size) VR.default
          rw [← hc.size] at this
          exact this
        cases hv with
        | nilSlice n0 c0 =>
          refine sr_bindFree (hf_sizeOf elem) fun size _ => ?_
          cases hx1 : ts[1]? with
          | none =>
            refine sr_bind (R := fun _ x y => x = false ∧ y = false) (sr_pure ⟨rfl, rfl⟩) fun r0 h0 b b' hbb => ?_
            obtain ⟨rfl, rfl⟩ := hbb
            have hvv : VR S r0 _ _ := VR.nilSlice n0 c0
            simp only [Bool.false_eq_true, if_false, Bool.not_false, if_true, false_or]
            refine sr_bind (sr_lenOf (hu.mono h0)) fun r1 hx n n' e => ?_
            subst e
            have hu1 := (hu.mono h0).mono hx
            have hv1 := hvv.mono hx
            split
            · refine sr_bind (sr_firstCells size n' hu1) fun r2 hx2 c c' hc => ?_
              exact sr_pure (.nilSlice _ _)
            · refine sr_bindFree (hf_typeInfo _) fun i1 _ => ?_
              split
              · exact sr_never (nv_bind (nv_runtimePanic _))
              · refine sr_bindFree (hf_typeInfo _) fun i2 _ => ?_
                split
                · exact sr_never (nv_bind (nv_bind' big))
                · refine sr_bind (sr_choose _) fun r2 hx2 k k' e => ?_
                  subst e
                  refine sr_bindFree (hf_typeInfo _) fun i3 _ => ?_
                  refine sr_bind (sr_askRoom _) fun r3 hx3 _ _ _ => ?_
                  refine sr_bind (sr_firstCells size _ ((hv1.mono hx2).mono hx3)) fun r4 hx4 c c' hc => ?_
                  refine sr_bind (sr_firstCells size n' (((hu1.mono hx2).mono hx3).mono hx4)) fun r5 hx5 d d' hd => ?_
                  refine sr_bind (sr_zeroValue hze) fun r6 hx6 z z' hzz => ?_
                  exact sr_bind (sr_newRow elem ((((hc.mono hx5).append hd).mono hx6).append (zc hzz.cells _))) fun _ _ _ _ x => sr_pure (.slice _ _ x)
          | some xt =>
            refine sr_bindFree (hf_underlying xt) fun d2 hd2 => ?_
            refine sr_bind (R := fun _ x y => x = false ∧ y = false) (sr_pure (by cases d2 <;> first | exact ⟨rfl, rfl⟩ | exact absurd (underlying_of hd2) (hn _ _ hx1))) fun r0 h0 b b' hbb => ?_
            obtain ⟨rfl, rfl⟩ := hbb
            have hvv : VR S r0 _ _ := VR.nilSlice n0 c0
            simp only [Bool.false_eq_true, if_false, Bool.not_false, if_true, false_or]
            refine sr_bind (sr_lenOf (hu.mono h0)) fun r1 hx n n' e => ?_
            subst e
            have hu1 := (hu.mono h0).mono hx
            have hv1 := hvv.mono hx
            split
            · refine sr_bind (sr_firstCells size n' hu1) fun r2 hx2 c c' hc => ?_
              exact sr_pure (.nilSlice _ _)
            · refine sr_bindFree (hf_typeInfo _) fun i1 _ => ?_
              split
              · exact sr_never (nv_bind (nv_runtimePanic _))
              · refine sr_bindFree (hf_typeInfo _) fun i2 _ => ?_
                split
                · exact sr_never (nv_bind (nv_bind' big))
                · refine sr_bind (sr_choose _) fun r2 hx2 k k' e => ?_
                  subst e
                  refine sr_bindFree (hf_typeInfo _) fun i3 _ => ?_
                  refine sr_bind (sr_askRoom _) fun r3 hx3 _ _ _ => ?_
                  refine sr_bind (sr_firstCells size _ ((hv1.mono hx2).mono hx3)) fun r4 hx4 c c' hc => ?_
                  refine sr_bind (sr_firstCells size n' (((hu1.mono hx2).mono hx3).mono hx4)) fun r5 hx5 d d' hd => ?_
                  refine sr_bind (sr_zeroValue hze) fun r6 hx6 z z' hzz => ?_
                  exact sr_bind (sr_newRow elem ((((hc.mono hx5).append hd).mono hx6).append (zc hzz.cells _))) fun _ _ _ _ x => sr_pure (.slice _ _ x)
        | slice n0 c0 x =>
          refine sr_bindFree (hf_sizeOf elem) fun size _ => ?_
          cases hx1 : ts[1]? with
          | none =>
            refine sr_bind (R := fun _ x y => x = false ∧ y = false) (sr_pure ⟨rfl, rfl⟩) fun r0 h0 b b' hbb => ?_
            obtain ⟨rfl, rfl⟩ := hbb
            have hvv : VR S r0 _ _ := VR.slice n0 c0 (x.mono h0)
            simp only [Bool.false_eq_true, if_false, Bool.not_false, if_true, false_or]
            refine sr_bind (sr_lenOf (hu.mono h0)) fun r1 hx n n' e => ?_
            subst e
            have hu1 := (hu.mono h0).mono hx
            have hv1 := hvv.mono hx
            split
            · refine sr_bind (sr_firstCells size n' hu1) fun r2 hx2 c c' hc => ?_
              have ha := ((x.mono h0).mono hx).mono hx2
              exact sr_bind (sr_storeCells' (ha.add _) hc) fun r3 hx3 _ _ _ => sr_pure (.slice _ _ (ha.mono hx3))
            · refine sr_bindFree (hf_typeInfo _) fun i1 _ => ?_
              split
              · exact sr_never (nv_bind (nv_runtimePanic _))
              · refine sr_bindFree (hf_typeInfo _) fun i2 _ => ?_
                split
                · exact sr_never (nv_bind (nv_bind' big))
                · refine sr_bind (sr_choose _) fun r2 hx2 k k' e => ?_
                  subst e
                  refine sr_bindFree (hf_typeInfo _) fun i3 _ => ?_
                  refine sr_bind (sr_askRoom _) fun r3 hx3 _ _ _ => ?_
                  refine sr_bind (sr_firstCells size _ ((hv1.mono hx2).mono hx3)) fun r4 hx4 c c' hc => ?_
                  refine sr_bind (sr_firstCells size n' (((hu1.mono hx2).mono hx3).mono hx4)) fun r5 hx5 d d' hd => ?_
                  refine sr_bind (sr_zeroValue hze) fun r6 hx6 z z' hzz => ?_
                  exact sr_bind (sr_newRow elem ((((hc.mono hx5).append hd).mono hx6).append (zc hzz.cells _))) fun _ _ _ _ x => sr_pure (.slice _ _ x)
          | some xt =>
            refine sr_bindFree (hf_underlying xt) fun d2 hd2 => ?_
            refine sr_bind (R := fun _ x y => x = false ∧ y = false) (sr_pure (by cases d2 <;> first | exact ⟨rfl, rfl⟩ | exact absurd (underlying_of hd2) (hn _ _ hx1))) fun r0 h0 b b' hbb => ?_
            obtain ⟨rfl, rfl⟩ := hbb
            have hvv : VR S r0 _ _ := VR.slice n0 c0 (x.mono h0)
            simp only [Bool.false_eq_true, if_false, Bool.not_false, if_true, false_or]
            refine sr_bind (sr_lenOf (hu.mono h0)) fun r1 hx n n' e => ?_
            subst e
            have hu1 := (hu.mono h0).mono hx
            have hv1 := hvv.mono hx
            split
            · refine sr_bind (sr_firstCells size n' hu1) fun r2 hx2 c c' hc => ?_
              have ha := ((x.mono h0).mono hx).mono hx2
              exact sr_bind (sr_storeCells' (ha.add _) hc) fun r3 hx3 _ _ _ => sr_pure (.slice _ _ (ha.mono hx3))
            · refine sr_bindFree (hf_typeInfo _) fun i1 _ => ?_
              split
              · exact sr_never (nv_bind (nv_runtimePanic _))
              · refine sr_bindFree (hf_typeInfo _) fun i2 _ => ?_
                split
                · exact sr_never (nv_bind (nv_bind' big))
                · refine sr_bind (sr_choose _) fun r2 hx2 k k' e => ?_
                  subst e
                  refine sr_bindFree (hf_typeInfo _) fun i3 _ => ?_
                  refine sr_bind (sr_askRoom _) fun r3 hx3 _ _ _ => ?_
                  refine sr_bind (sr_firstCells size _ ((hv1.mono hx2).mono hx3)) fun r4 hx4 c c' hc => ?_
                  refine sr_bind (sr_firstCells size n' (((hu1.mono hx2).mono hx3).mono hx4)) fun r5 hx5 d d' hd => ?_
                  refine sr_bind (sr_zeroValue hze) fun r6 hx6 z z' hzz => ?_
                  exact sr_bind (sr_newRow elem ((((hc.mono hx5).append hd).mono hx6).append (zc hzz.cells _))) fun _ _ _ _ x => sr_pure (.slice _ _ x)
        | @void b0 b1 bb kv ev =>
          refine sr_bindFree (hf_sizeOf elem) fun size _ => ?_
          cases hx1 : ts[1]? with
          | none =>
            refine sr_bind (R := fun _ x y => x = false ∧ y = false) (sr_pure ⟨rfl, rfl⟩) fun r0 h0 b b' hbb => ?_
            obtain ⟨rfl, rfl⟩ := hbb
            have hvv : VR S r0 _ _ := VR.void (a' := b1) (h0 _ _ kv) ev
            simp only [Bool.false_eq_true, if_false, Bool.not_false, if_true, false_or]
            refine sr_bind (sr_lenOf (hu.mono h0)) fun r1 hx n n' e => ?_
            subst e
            have hu1 := (hu.mono h0).mono hx
            have hv1 := hvv.mono hx
            split
            · rename_i hle
              have hn0 : n' = 0 := by omega
              subst hn0
              refine sr_bind (sr_and (sr_firstCells size 0 hu1) fun w x w1 hw => first0 rfl hw) fun r2 hx2 c c' hc => ?_
              obtain ⟨hc, rfl⟩ := hc
              have : c' = #[] := Array.eq_empty_of_size_eq_zero (by rw [← hc.size]; rfl)
              subst this
              exact sr_bind (R := fun _ _ _ => True) (sr_pure trivial) fun r3 hx3 _ _ _ => sr_pure (.void (hx3 _ _ (hx2 _ _ (hx _ _ (h0 _ _ kv)))) ev)
            · refine sr_bindFree (hf_typeInfo _) fun i1 _ => ?_
              split
              · exact sr_never (nv_bind (nv_runtimePanic _))
              · refine sr_bindFree (hf_typeInfo _) fun i2 _ => ?_
                split
                · exact sr_never (nv_bind (nv_bind' big))
                · refine sr_bind (sr_choose _) fun r2 hx2 k k' e => ?_
                  subst e
                  refine sr_bindFree (hf_typeInfo _) fun i3 _ => ?_
                  refine sr_bind (sr_askRoom _) fun r3 hx3 _ _ _ => ?_
                  refine sr_bind (sr_firstCells size _ ((hv1.mono hx2).mono hx3)) fun r4 hx4 c c' hc => ?_
                  refine sr_bind (sr_firstCells size n' (((hu1.mono hx2).mono hx3).mono hx4)) fun r5 hx5 d d' hd => ?_
                  refine sr_bind (sr_zeroValue hze) fun r6 hx6 z z' hzz => ?_
                  exact sr_bind (sr_newRow elem ((((hc.mono hx5).append hd).mono hx6).append (zc hzz.cells _))) fun _ _ _ _ x => sr_pure (.slice _ _ x)
          | some xt =>
            refine sr_bindFree (hf_underlying xt) fun d2 hd2 => ?_
            refine sr_bind (R := fun _ x y => x = false ∧ y = false) (sr_pure (by cases d2 <;> first | exact ⟨rfl, rfl⟩ | exact absurd (underlying_of hd2) (hn _ _ hx1))) fun r0 h0 b b' hbb => ?_
            obtain ⟨rfl, rfl⟩ := hbb
            have hvv : VR S r0 _ _ := VR.void (a' := b1) (h0 _ _ kv) ev
            simp only [Bool.false_eq_true, if_false, Bool.not_false, if_true, false_or]
            refine sr_bind (sr_lenOf (hu.mono h0)) fun r1 hx n n' e => ?_
            subst e
            have hu1 := (hu.mono h0).mono hx
            have hv1 := hvv.mono hx
            split
            · rename_i hle
              have hn0 : n' = 0 := by omega
              subst hn0
              refine sr_bind (sr_and (sr_firstCells size 0 hu1) fun w x w1 hw => first0 rfl hw) fun r2 hx2 c c' hc => ?_
              obtain ⟨hc, rfl⟩ := hc
              have : c' = #[] := Array.eq_empty_of_size_eq_zero (by rw [← hc.size]; rfl)
              subst this
              exact sr_bind (R := fun _ _ _ => True) (sr_pure trivial) fun r3 hx3 _ _ _ => sr_pure (.void (hx3 _ _ (hx2 _ _ (hx _ _ (h0 _ _ kv)))) ev)
            · refine sr_bindFree (hf_typeInfo _) fun i1 _ => ?_
              split
              · exact sr_never (nv_bind (nv_runtimePanic _))
              · refine sr_bindFree (hf_typeInfo _) fun i2 _ => ?_
                split
                · exact sr_never (nv_bind (nv_bind' big))
                · refine sr_bind (sr_choose _) fun r2 hx2 k k' e => ?_
                  subst e
                  refine sr_bindFree (hf_typeInfo _) fun i3 _ => ?_
                  refine sr_bind (sr_askRoom _) fun r3 hx3 _ _ _ => ?_
                  refine sr_bind (sr_firstCells size _ ((hv1.mono hx2).mono hx3)) fun r4 hx4 c c' hc => ?_
                  refine sr_bind (sr_firstCells size n' (((hu1.mono hx2).mono hx3).mono hx4)) fun r5 hx5 d d' hd => ?_
                  refine sr_bind (sr_zeroValue hze) fun r6 hx6 z z' hzz => ?_
                  exact sr_bind (sr_newRow elem ((((hc.mono hx5).append hd).mono hx6).append (zc hzz.cells _))) fun _ _ _ _ x => sr_pure (.slice _ _ x)
        | _ => exact sr_never (nv_stuck _)

omit [Shift] in
theorem nv_true {α : Type} {a b : Sem α} (h : Never P a) : Never P (if true = true then a else b) := by rw [if_pos rfl]; exact h

theorem sr_ite {α β : Type} {R : BR → α → β → Prop} {c : Prop} [Decidable c] {a b : Sem α} {a' b' : Sem β} (h1 : c → SR P S r R a a') (h2 : ¬ c → SR P S r R b b') : SR P S r R (if c then a else b) (if c then a' else b') := by
  split
  · exact h1 ‹_›
  · exact h2 ‹_›

omit [Shift] in
theorem zero0 {size : Nat} {v : Value} {elem : TypeId} {w w1 : World} {c : Array Value} (h : (if (!true) = true then Builtin.firstCells size 0 v else if 0 * size = 0 then (Pure.pure #[] : Sem (Array Value)) else (do let z ← zeroValue elem; Pure.pure (Builtin.zeroCells z.cells 0))).run P w = .ok c w1) : c = #[] := by
  rw [if_neg (by decide), if_pos (Nat.zero_mul _)] at h
  cases h
  rfl
omit [Shift] in
theorem int_of {xt : TypeId} {kk : IntKind} (hk : P.underlying xt = some (.int kk)) {d : TypeDesc} (h : ∃ w, (underlying xt).run P w = .ok d w) : d = .int kk := by
  have := underlying_of h
  rw [hk] at this
  exact (Option.some.inj this).symm

/-- append(s, make([]T, n)...): noughts. -/
theorem sr_append_zeros {ts : Array TypeId} (hz : ∀ t e, ts[0]? = some t → P.underlying t = some (.slice e) → okZero P S e = true) {xt : TypeId} {kk : IntKind} (hx1 : ts[1]? = some xt) (hk : P.underlying xt = some (.int kk)) (ty : TypeId) {a a' : Array Value} (h : RR S r a a') :
    SR P S r (fun r1 v v' => VR S r1 v v') (Builtin.append_ ts ty a) (Builtin.append_ ts ty a') := by
  unfold Builtin.append_
  rw [hx1]
  cases ht : ts[0]? with
  | none => exact sr_never (nv_stuck _)
  | some t =>
    cases ha : a[0]? with
    | none => exact sr_never (nv_stuck _)
    | some v =>
      obtain ⟨v', ha', hv⟩ := h.get ha
      rw [ha']
      cases hb : a[1]? with
      | none => exact sr_never (nv_stuck _)
      | some u =>
        obtain ⟨u', hb', hu⟩ := h.get hb
        rw [hb']
        refine sr_bindFree (hf_underlying t) fun d hd => ?_
        cases d <;> (try dsimp only) <;> first | exact sr_never (nv_stuck _) | skip
        rename_i elem
        have hze := hz t elem ht (underlying_of hd)
        have zc : ∀ {r1 : BR} {c c' : Array Value}, RR S r1 c c' → ∀ n, RR S r1 (Builtin.zeroCells c n) (Builtin.zeroCells c' n) := fun {r1 c c'} hc n => by
          unfold Builtin.zeroCells
          rw [← hc.size]
          have := hc.cycle (n * c.size) VR.default
          rw [← hc.size] at this
          exact this
        have happ : ∀ (r : BR) (n size : Nat), SR P S r (fun r1 x y => RR S r1 x y) (if n * size = 0 then (Pure.pure #[] : Sem (Array Value)) else (do let z ← zeroValue elem; Pure.pure (Builtin.zeroCells z.cells n))) (if n * size = 0 then (Pure.pure #[] : Sem (Array Value)) else (do let z ← zeroValue elem; Pure.pure (Builtin.zeroCells z.cells n))) := fun r n size => by
          split
          · exact sr_pure RR.nil
          · exact sr_bind (sr_zeroValue hze) fun _ _ _ _ hzz => sr_pure (zc hzz.cells _)
        have happ2 : ∀ (r : BR) (n size : Nat) (x x' : Value), SR P S r (fun r1 x y => RR S r1 x y) (if (!true) = true then Builtin.firstCells size n x else if n * size = 0 then (Pure.pure #[] : Sem (Array Value)) else (do let z ← zeroValue elem; Pure.pure (Builtin.zeroCells z.cells n))) (if (!true) = true then Builtin.firstCells size n x' else if n * size = 0 then (Pure.pure #[] : Sem (Array Value)) else (do let z ← zeroValue elem; Pure.pure (Builtin.zeroCells z.cells n))) := fun r n size x x' => by
          exact sr_ite (fun k => absurd k (by decide)) fun _ => happ r n size
        cases hv with
        | nilSlice n0 c0 =>
          refine sr_bindFree (hf_sizeOf elem) fun size _ => ?_
          refine sr_bindFree (hf_underlying xt) fun d2 hd2 => ?_
          obtain rfl := int_of hk hd2
          refine sr_bind (R := fun _ x y => x = true ∧ y = true) (sr_pure ⟨rfl, rfl⟩) fun r0 h0 b b' hbb => ?_
          obtain ⟨rfl, rfl⟩ := hbb
          have hvv : VR S r0 _ _ := VR.nilSlice n0 c0
          simp only [if_true, Bool.not_true, Bool.false_eq_true, if_false, true_or, and_true]
          refine sr_bind (sr_asInt (hu.mono h0)) fun r1 hx n n' e => ?_
          subst e
          split
          · exact sr_never (nv_bind (nv_runtimePanic _))
          · refine sr_bindFree (hf_typeInfo _) fun i1 _ => ?_
            split
            · exact sr_never (nv_bind' fun _ => nv_bind (nv_runtimePanic _))
            refine sr_bind (R := fun _ x y => y = x) (sr_pure rfl) fun r1' hx' n n' e => ?_
            subst e
            replace hx := fun a b h => hx' a b (hx a b h)
            have hv1 := hvv.mono hx
            split
            · refine sr_bind (happ _ _ _) fun r2 hx2 c c' hc => ?_
              exact sr_pure (.nilSlice _ _)
            · refine sr_bindFree (hf_typeInfo _) fun i1 _ => ?_
              split
              · exact sr_never (nv_bind (nv_runtimePanic _))
              · refine sr_bindFree (hf_typeInfo _) fun i2 _ => ?_
                split
                · exact sr_never (nv_bind (nv_runtimePanic _))
                · refine sr_bind (sr_choose _) fun r2 hx2 k k' e => ?_
                  subst e
                  refine sr_bindFree (hf_typeInfo _) fun i3 _ => ?_
                  refine sr_bind (sr_askRoom _) fun r3 hx3 _ _ _ => ?_
                  refine sr_bind (sr_firstCells size _ ((hv1.mono hx2).mono hx3)) fun r4 hx4 c c' hc => ?_
                  refine sr_bind (happ _ _ _) fun r5 hx5 d d' hd => ?_
                  refine sr_bind (sr_zeroValue hze) fun r6 hx6 z z' hzz => ?_
                  exact sr_bind (sr_newRow elem ((((hc.mono hx5).append hd).mono hx6).append (zc hzz.cells _))) fun _ _ _ _ x => sr_pure (.slice _ _ x)
        | slice n0 c0 x =>
          refine sr_bindFree (hf_sizeOf elem) fun size _ => ?_
          refine sr_bindFree (hf_underlying xt) fun d2 hd2 => ?_
          obtain rfl := int_of hk hd2
          refine sr_bind (R := fun _ x y => x = true ∧ y = true) (sr_pure ⟨rfl, rfl⟩) fun r0 h0 b b' hbb => ?_
          obtain ⟨rfl, rfl⟩ := hbb
          have hvv : VR S r0 _ _ := VR.slice n0 c0 (x.mono h0)
          refine sr_ite (fun _ => ?_) fun k => absurd rfl k
          refine sr_bind (sr_asInt (hu.mono h0)) fun r1 hx n n' e => ?_
          subst e
          refine sr_ite (fun _ => sr_never (nv_bind (nv_runtimePanic _))) fun _ => ?_
          refine sr_bindFree (hf_typeInfo _) fun i1 _ => ?_
          refine sr_ite (fun _ => sr_never (nv_bind' fun _ => nv_bind (nv_runtimePanic _))) fun _ => ?_
          refine sr_bind (R := fun _ x y => y = x) (sr_pure rfl) fun r1' hx' n n' e => ?_
          subst e
          replace hx := fun a b h => hx' a b (hx a b h)
          have hv1 := hvv.mono hx
          refine sr_ite (fun _ => ?_) fun _ => ?_
          · refine sr_bind (happ2 _ _ _ _ _) fun r2 hx2 c c' hc => ?_
            have ha := ((x.mono h0).mono hx).mono hx2
            exact sr_bind (sr_storeCells' (ha.add _) hc) fun r3 hx3 _ _ _ => sr_pure (.slice _ _ (ha.mono hx3))
          · refine sr_bindFree (hf_typeInfo _) fun i1 _ => ?_
            refine sr_ite (fun _ => sr_never (nv_bind (nv_runtimePanic _))) fun _ => ?_
            refine sr_bindFree (hf_typeInfo _) fun i2 _ => ?_
            refine sr_ite (fun _ => sr_never (nv_bind (nv_true (nv_runtimePanic _)))) fun _ => ?_
            refine sr_bind (sr_choose _) fun r2 hx2 k k' e => ?_
            subst e
            refine sr_bindFree (hf_typeInfo _) fun i3 _ => ?_
            refine sr_bind (sr_askRoom _) fun r3 hx3 _ _ _ => ?_
            refine sr_bind (sr_firstCells size _ ((hv1.mono hx2).mono hx3)) fun r4 hx4 c c' hc => ?_
            refine sr_bind (happ2 _ _ _ _ _) fun r5 hx5 d d' hd => ?_
            refine sr_bind (sr_zeroValue hze) fun r6 hx6 z z' hzz => ?_
            exact sr_bind (sr_newRow elem ((((hc.mono hx5).append hd).mono hx6).append (zc hzz.cells _))) fun _ _ _ _ x => sr_pure (.slice _ _ x)
        | @void b0 b1 bb kv ev =>
          refine sr_bindFree (hf_sizeOf elem) fun size _ => ?_
          refine sr_bindFree (hf_underlying xt) fun d2 hd2 => ?_
          obtain rfl := int_of hk hd2
          refine sr_bind (R := fun _ x y => x = true ∧ y = true) (sr_pure ⟨rfl, rfl⟩) fun r0 h0 b b' hbb => ?_
          obtain ⟨rfl, rfl⟩ := hbb
          have hvv : VR S r0 _ _ := VR.void (a' := b1) (h0 _ _ kv) ev
          refine sr_ite (fun _ => ?_) fun k => absurd rfl k
          refine sr_bind (sr_asInt (hu.mono h0)) fun r1 hx n n' e => ?_
          subst e
          refine sr_ite (fun _ => sr_never (nv_bind (nv_runtimePanic _))) fun _ => ?_
          refine sr_bindFree (hf_typeInfo _) fun i1 _ => ?_
          refine sr_ite (fun _ => sr_never (nv_bind' fun _ => nv_bind (nv_runtimePanic _))) fun _ => ?_
          refine sr_bind (R := fun _ x y => y = x) (sr_pure rfl) fun r1' hx' n n' e => ?_
          subst e
          replace hx := fun a b h => hx' a b (hx a b h)
          have hv1 := hvv.mono hx
          refine sr_ite (fun hle => ?_) fun _ => ?_
          · have hn0 : n' = 0 := by omega
            subst hn0
            refine sr_bind (sr_and (happ2 _ _ _ _ _) fun w x w1 hw => zero0 hw) fun r2 hx2 c c' hc => ?_
            obtain ⟨hc, rfl⟩ := hc
            have : c' = #[] := Array.eq_empty_of_size_eq_zero (by rw [← hc.size]; rfl)
            subst this
            exact sr_bind (R := fun _ _ _ => True) (sr_pure trivial) fun r3 hx3 _ _ _ => sr_pure (.void (hx3 _ _ (hx2 _ _ (hx _ _ (h0 _ _ kv)))) ev)
          · refine sr_bindFree (hf_typeInfo _) fun i1 _ => ?_
            refine sr_ite (fun _ => sr_never (nv_bind (nv_runtimePanic _))) fun _ => ?_
            refine sr_bindFree (hf_typeInfo _) fun i2 _ => ?_
            refine sr_ite (fun _ => sr_never (nv_bind (nv_true (nv_runtimePanic _)))) fun _ => ?_
            refine sr_bind (sr_choose _) fun r2 hx2 k k' e => ?_
            subst e
            refine sr_bindFree (hf_typeInfo _) fun i3 _ => ?_
            refine sr_bind (sr_askRoom _) fun r3 hx3 _ _ _ => ?_
            refine sr_bind (sr_firstCells size _ ((hv1.mono hx2).mono hx3)) fun r4 hx4 c c' hc => ?_
            refine sr_bind (happ2 _ _ _ _ _) fun r5 hx5 d d' hd => ?_
            refine sr_bind (sr_zeroValue hze) fun r6 hx6 z z' hzz => ?_
            exact sr_bind (sr_newRow elem ((((hc.mono hx5).append hd).mono hx6).append (zc hzz.cells _))) fun _ _ _ _ x => sr_pure (.slice _ _ x)
        | _ => exact sr_never (nv_stuck _)
end
end Go.Proofs.Ytcobehkadhcjiaa

/-
  WHAT IS EQUAL ALONE IS EQUAL AMONG OTHERS; reckoning; what is called.
-/
namespace Go.Proofs.Ytcobehkadhcjiaa
open Go
variable [Shift]

section
variable {P : Program} {S : FuncId → Bool} {r : BR}

theorem sr_part (t : TypeId) (off : Nat) {c c' : Array Value} (h : RR S r c c') : SR P S r (fun r1 v v' => VR S r1 v v') (part t c off) (part t c' off) := by
  unfold part
  refine sr_bindFree (hf_isAgg t) fun b _ => ?_
  split
  · exact sr_bindFree (hf_sizeOf t) fun n _ => sr_pure (VR.agg' (h.extract _ _))
  · cases hc : c[off]? with
    | none => exact sr_never (nv_stuck _)
    | some v =>
      obtain ⟨v', hv', hv⟩ := h.get hc
      rw [hv']
      exact sr_pure hv

theorem sr_forIn {α β : Type} : ∀ (l : List α) (b : β) {r : BR} (f g : α → β → Sem (ForInStep β)), (∀ x ∈ l, ∀ b r1, (∀ p q, r p q → r1 p q) → SR P S r1 (fun _ x y => y = x) (f x b) (g x b)) →
    SR P S r (fun _ x y => y = x) (forIn l b f) (forIn l b g)
  | [], b, r, f, g, _ => by simp only [List.forIn_nil]; exact sr_pure rfl
  | x :: l, b, r, f, g, h => by
    rw [List.forIn_cons, List.forIn_cons]
    refine sr_bind (h x (by simp) b r fun _ _ y => y) fun r1 hx s s' e => ?_
    subst e
    cases s' with
    | done b => exact sr_pure rfl
    | yield b => exact sr_forIn l b f g fun y hy b r2 hx2 => h y (by simp [hy]) b r2 fun p q z => hx2 p q (hx p q z)

/-- Types whose values are compared without a look at memory. -/
def okEqT (P : Program) : Nat → TypeId → Bool
  | 0, _ => false
  | d + 1, t => match P.underlying t with
    | some .bool | some .string | some (.slice _) => true
    | some (.int _) => match P.info? t with
      | some i => match i.desc with
        | .named n _ => n != "sync.copyChecker"
        | _ => true
      | none => true
    | some (.struct fs) => fs.all fun f => f.name == "_" || okEqT P d f.type
    | _ => false

omit [Shift] in
theorem nv_program {α : Type} {f : Program → Sem α} (h : Never P (f P)) : Never P (program >>= f) := fun w x w1 hb => by
  rw [Sem.run_bind, run_program] at hb
  exact h w x w1 hb
omit [Shift] in
theorem nv_bindFree {α β : Type} {s : Sem α} {f : α → Sem β} (hs : HF P s) (h : ∀ x, (∃ w, s.run P w = .ok x w) → Never P (f x)) : Never P (s >>= f) := fun w x w1 hb => by
  rw [Sem.run_bind] at hb
  cases hr : s.run P w with
  | halt e we => rw [hr] at hb; cases hb
  | ok y wy =>
    rw [hr] at hb
    obtain ⟨rfl, _⟩ := hs w y wy hr
    exact h y ⟨_, hr⟩ _ x w1 hb
omit [Shift] in
theorem info_of {t : TypeId} {i : TypeInfo} (h : ∃ w, (typeInfo t).run P w = .ok i w) : P.info? t = some i := by
  obtain ⟨w, hw⟩ := h
  unfold typeInfo at hw
  simp only [Sem.run_bind, run_program, Result.andThen_ok] at hw
  cases hu : P.info? t with
  | none => rw [hu] at hw; simp [stuck] at hw
  | some u => rw [hu] at hw; simp at hw; rw [hw]

theorem sr_equalIn (hG : P.globals.size = 0) : ∀ (k d : Nat) (t : TypeId) {r : BR}, okEqT P k t = true → ∀ {x x' y y' : Value}, VR S r x x' → VR S r y y' → SR P S r (fun _ a b => b = a) (Op.equalIn d t x y) (Op.equalIn d t x' y')
  | k, 0, t, r, _, x, x', y, y', _, _ => by
    unfold Op.equalIn
    exact sr_never (nv_unsupported _)
  | 0, d + 1, t, r, h, x, x', y, y', _, _ => by simp [okEqT] at h
  | k + 1, d + 1, t, r, h, x, x', y, y', hx, hy => by
    unfold Op.equalIn
    refine sr_bindFree (hf_underlying t) fun e he => ?_
    have hu := underlying_of he
    unfold okEqT at h
    rw [hu] at h
    cases e <;> dsimp only at h <;> first | (cases h; done) | skip
    · cases hx <;> cases hy <;> first | exact sr_never (nv_stuck _) | exact sr_pure rfl
    · cases hx <;> cases hy <;> first
        | exact sr_never (nv_stuck _)
        | exact sr_never (nv_unsupported _)
        | (rename_i n _ _ _; rcases n with (_ | n) | n <;> first | exact sr_pure rfl | exact sr_never (nv_unsupported _))
        | (rename_i n; rcases n with (_ | n) | n <;> first | exact sr_pure rfl | exact sr_never (nv_unsupported _))
        | (split; exact sr_pure rfl; exact sr_never (nv_stuck _))
        | (refine sr_never (nv_bind' fun a => nv_bind' fun b => nv_program ?_)
           rw [hG]
           simp only [Nat.not_lt_zero, decide_false, Bool.and_false, Bool.false_eq_true, if_false]
           refine nv_bindFree (hf_typeInfo t) fun i hi => ?_
           rw [info_of hi] at h
           dsimp only at h
           split
           · rename_i hd
             rw [hd] at h
             simp at h
           · exact nv_unsupported _)
        | skip
      dsimp only
      split
      · exact sr_pure rfl
      · exact sr_never (nv_stuck _)
    · cases hx <;> cases hy <;> first | exact sr_never (nv_stuck _) | exact sr_pure rfl
    · cases hx <;> cases hy <;> first | exact sr_never (nv_stuck _) | exact sr_pure rfl
    · rename_i fs
      cases hx with
      | agg ex hxc =>
        cases hy with
        | agg ey hyc =>
          rename_i cx cx' cy cy'
          have rx : RR S r cx cx' := ⟨ex, hxc⟩
          have ry : RR S r cy cy' := ⟨ey, hyc⟩
          dsimp only
          refine sr_bindFree hf_program fun p _ => ?_
          split
          · exact sr_never (nv_bind (nv_unsupported _))
          · rw [← Array.forIn_toList, ← Array.forIn_toList]
            refine sr_bind (sr_forIn _ _ _ _ fun f hf b r1 h1 => ?_) fun r1 _ s s' e => ?_
            · split
              · rename_i hn
                refine sr_bind (sr_part _ _ (rx.mono h1)) fun r2 h2 a a' ha => ?_
                refine sr_bind (sr_part _ _ ((ry.mono h1).mono h2)) fun r3 h3 c c' hc => ?_
                have hft : okEqT P k f.type = true := by
                  have := (Array.all_eq_true_iff_forall_mem.1 h) f (by simpa using hf)
                  simp only [Bool.or_eq_true, beq_iff_eq] at this
                  exact this.resolve_left hn
                refine sr_bind (sr_equalIn hG k d f.type hft (ha.mono h3) hc) fun r4 _ z z' e => ?_
                subst e
                split <;> exact sr_pure rfl
              · exact sr_pure rfl
            · subst e
              split <;> exact sr_pure rfl
        | _ => exact sr_never (nv_stuck _)
      | _ => cases hy <;> exact sr_never (nv_stuck _)

omit [Shift] in
theorem hf_intArith (op : BinOp) (k : IntKind) (x y : Int) : HF P (Op.intArith op k x y) := by
  unfold Op.intArith
  split <;> first | exact hf_pure _ | exact hf_never (nv_stuck _)
omit [Shift] in
theorem hf_intCmp (op : BinOp) (x y : Int) : HF P (Op.intCmp op x y) := by
  unfold Op.intCmp
  split <;> first | exact hf_pure _ | exact hf_never (nv_stuck _)
omit [Shift] in
theorem hf_intDiv (op : BinOp) (k : IntKind) (x y : Int) : HF P (Op.intDiv op k x y) := by
  unfold Op.intDiv
  (repeat' split) <;> first | exact hf_pure _ | exact hf_never (nv_stuck _) | exact hf_never (nv_runtimePanic _)
omit [Shift] in
theorem hf_intBits (op : BinOp) (k : IntKind) (x y : Int) : HF P (Op.intBits op k x y) := by
  unfold Op.intBits
  (repeat' split) <;> first | exact hf_pure _ | exact hf_never (nv_stuck _)
omit [Shift] in
theorem hf_shift (op : BinOp) (k : IntKind) (x : Int) (l : IntKind) (y : Int) : HF P (Op.shift op k x l y) := by
  unfold Op.shift
  (repeat' split) <;> first | exact hf_pure _ | exact hf_never (nv_stuck _) | exact hf_never (nv_runtimePanic _)

end
end Go.Proofs.Ytcobehkadhcjiaa

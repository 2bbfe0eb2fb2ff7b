/-
  Goroutines among others: part 9 of what the law's own text rests on.
-/
import Derived.Test.YtcobehkadhcjiaaCc08
import Derived.Conc.CrowdComm
import Derived.Conc.QuitsD
/-
  FROM A RUN, ON EVERY TAPE, TO A TREE OF STEPS: to whichever stop.
-/
namespace Go.Proofs.Ytcobehkadhcjiaa
open Go Go.Conc
variable [Shift]

section
variable {P : Program} {S V : FuncId → Bool} {Z : Frame → List Frame → World → Prop}

/-- A stop hangs on no tape, and is no panic. -/
structure Stp (Z : Frame → List Frame → World → Prop) : Prop where
  tape : ∀ fr cs w T, Z fr cs w → Z fr cs (onT w T)
  calm : ∀ fr cs w, Z fr cs w → ∀ ch, fr.mode ≠ .panicking ch
def Rz (P : Program) (Z : Frame → List Frame → World → Prop) (n : Nat) (fr : Frame) (cs : List Frame) (w : World) : Prop :=
  ∃ fe ce we, runN P n (lone fr (cs ++ [endC]) w) = .next (lone fe (ce ++ [endC]) we) ∧ Z fe ce we

theorem pan_neverz {r : BR} : ∀ {n : Nat} {cs cs' : List Frame} {f : FuncId} {t : Array Value} {k : List Item} {ch : List PanicEntry} {w : World}, CsR P S V r .nil cs cs' → (∀ i ∈ k, okItem P S V i = true) →
    ∀ fe ce we, runN P n (lone { (base f).at ⟨t, []⟩ k with mode := .panicking ch } (cs ++ [endC]) w) = .next (lone fe (ce ++ [endC]) we) → (∀ ch, fe.mode ≠ .panicking ch) → False := by
  intro n
  induction n with
  | zero =>
    intro cs cs' f t k ch w hc hk fe ce we h hm
    simp only [runN, Stepped.next.injEq] at h
    obtain ⟨rfl, _⟩ := lone_inj h
    exact hm ch rfl
  | succ n ih =>
    intro cs cs' f t k ch w hc hk fe ce we h hm
    cases hc with
    | nil =>
      rw [List.nil_append, runN_succ (step_pan hk)] at h
      cases n with
      | zero =>
        simp only [runN, Stepped.next.injEq] at h
        have := (lone_inj h).2.1
        simp at this
      | succ n =>
        obtain ⟨o, w1, he⟩ := endC_pan (P := P) ch w
        exact not_next he h
    | @cons f2 t2 t2' k2 cs cs' h2 hk2 _ hc =>
      rw [List.cons_append, runN_succ (step_pan hk)] at h
      exact ih (f := f2) (t := t2) (k := k2) hc hk2 fe ce we h hm

variable {fr fr1 : Frame} {cs cs1 : List Frame} {w w1 : World} {n : Nat}
omit [Shift] in
theorem rz_zero (h : Rz P Z 0 fr cs w) : Z fr cs w := by
  obtain ⟨fe, ce, we, hr, hz⟩ := h
  simp only [runN, Stepped.next.injEq] at hr
  obtain ⟨rfl, h2, rfl⟩ := lone_inj hr
  rw [List.append_cancel_right h2]
  exact hz
omit [Shift] in
theorem rz_end (h : End1 P fr cs w) (hn : ¬ Z fr cs w) : ¬ Rz P Z n fr cs w := by
  intro hr
  cases n with
  | zero => exact hn (rz_zero hr)
  | succ n =>
    obtain ⟨fe, ce, we, hr, hz⟩ := hr
    obtain ⟨o, w2, es, he⟩ := h true [endC]
    exact not_next (step_lone_ended (show (stepG P true (G fr (cs ++ [endC])) w).bare = .ended o w2 by rw [he]; rfl)) hr
theorem rz_pan (hs : Stp Z) (hg : GL P S V fr cs w) (h : Pan1 P fr cs w) (hn : ¬ Z fr cs w) : ¬ Rz P Z n fr cs w := by
  intro hr
  cases n with
  | zero => exact hn (rz_zero hr)
  | succ n =>
    obtain ⟨fe, ce, we, hr, hz⟩ := hr
    obtain ⟨r, fr', cs', w', hf, hc, hw⟩ := hg
    obtain ⟨hmode, ch, w2, hp2⟩ := h
    obtain ⟨es, he⟩ := hp2 true [endC]
    have := step_lone_go (P := P) (show (stepG P true (G fr (cs ++ [endC])) w).bare = .go (G { fr with mode := .panicking ch } (cs ++ [endC])) w2 by rw [he]; rfl)
    rw [runN_succ this] at hr
    cases hf with
    | run ht hk => exact pan_neverz hc hk fe ce we hr (hs.calm _ _ _ hz)
    | ret ht => cases hmode
omit [Shift] in
theorem rz_step (hs : Step1 P fr cs w fr1 cs1 w1) (hn : ¬ Z fr cs w) (h : Rz P Z n fr cs w) : ∃ m, n = m + 1 ∧ Rz P Z m fr1 cs1 w1 := by
  cases n with
  | zero => exact absurd (rz_zero h) hn
  | succ n =>
    obtain ⟨fe, ce, we, hr, hst⟩ := h
    obtain ⟨es, hg⟩ := hs.go w.tape (fun _ _ _ => rfl) true [endC]
    have ew : onT w1 w.tape = w1 := by rw [← hs.drawn.tape]; rfl
    rw [onT_self, ew] at hg
    have := step_lone_go (P := P) (show (stepG P true (G fr (cs ++ [endC])) w).bare = .go (G fr1 (cs1 ++ [endC])) w1 by rw [hg]; rfl)
    rw [runN_succ this] at hr
    exact ⟨n, rfl, fe, ce, we, hr, hst⟩
omit [Shift] in
theorem rz_ret {f : FuncId} {t : Array Value} {k : List Item} (hn : ¬ Z { (base f).at ⟨t, []⟩ k with mode := .returning } [] w) : ¬ Rz P Z n { (base f).at ⟨t, []⟩ k with mode := .returning } [] w := by
  intro h
  cases n with
  | zero => exact hn (rz_zero h)
  | succ n =>
    obtain ⟨fe, ce, we, hr, hst⟩ := h
    have out : ∀ (v : Value) (w2 : World), runN P n (lone (endC.finish v) [] w2) = .next (lone fe (ce ++ [endC]) we) → False := fun v w2 h => by
      cases n with
      | zero =>
        simp only [runN, Stepped.next.injEq] at h
        have := (lone_inj h).2.1
        simp at this
      | succ n =>
        obtain ⟨o, w3, he⟩ := endC_step (P := P) w2
        exact not_next (show step P (lone (endC.finish v) [] w2) = .ended o w3 from he) h
    rw [List.nil_append] at hr
    cases hf : P.funcs[f]? with
    | none =>
      have hg := stepG_ret_none (main := true) (t := t) (k := k) (c := endC) (cs := []) (w := w) hf
      have := step_lone_go (P := P) (show (stepG P true (G { (base f).at ⟨t, []⟩ k with mode := .returning } [endC]) w).bare = .go (G (endC.finish (t.getD 0 undef)) []) w by rw [hg]; rfl)
      rw [runN_succ this] at hr
      exact out _ _ hr
    | some fn =>
      have hg := stepG_ret_some (main := true) (t := t) (k := k) (c := endC) (cs := []) (w := w) hf
      cases hq : (results fn t).run P w with
      | ok v w2 =>
        rw [hq] at hg
        have := step_lone_go (P := P) (show (stepG P true (G { (base f).at ⟨t, []⟩ k with mode := .returning } [endC]) w).bare = .go (G (endC.finish v) []) w2 by rw [hg]; rfl)
        rw [runN_succ this] at hr
        exact out _ _ hr
      | halt e w2 =>
        rw [hq] at hg
        have : ∃ o w3, (stepG P true (G { (base f).at ⟨t, []⟩ k with mode := .returning } [endC]) w).bare = .ended o w3 := by
          rw [hg]
          cases e <;> exact ⟨_, _, rfl⟩
        obtain ⟨o, w3, this⟩ := this
        exact not_next (step_lone_ended this) hr

def RunsZ (P : Program) (S V : FuncId → Bool) (Z : Frame → List Frame → World → Prop) (fr : Frame) (cs : List Frame) (w : World) : Prop := GL P S V fr cs w ∧ ∀ T, ∃ n, Rz P Z n fr cs (retape w T)
omit [Shift] in
theorem not_zT (hs : Stp Z) (hn : ¬ Z fr cs w) (T : Tape') : ¬ Z fr cs (retape w T) := fun h => hn (hs.tape fr cs (retape w T) w.tape h)
theorem runsz_ne (hs : Stp Z) (h : RunsZ P S V Z fr cs w) (hn : ¬ Z fr cs w) : fr.mode = .returning → cs ≠ [] := by
  rintro hm rfl
  obtain ⟨f, t, k, rfl⟩ := gl_form h.1 hm
  obtain ⟨n, hr⟩ := h.2 (fun _ _ => 0)
  exact rz_ret (not_zT hs hn _) hr
theorem runsz_next (hP : OkP P S V) (hs : Stp Z) (h : RunsZ P S V Z fr cs w) (hn : ¬ Z fr cs w) (T : Tape') : ∃ fr1 cs1 w1, Step1 P fr cs (retape w T) fr1 cs1 w1 ∧ RunsZ P S V Z fr1 cs1 w1 := by
  have hne := runsz_ne hs h hn
  obtain ⟨hg, hr⟩ := h
  have hgT := gl_retape hg T
  obtain ⟨n, hnT⟩ := hr T
  have hk : Kinds P fr cs (retape w T) := by
    obtain ⟨r, fr', cs', w', hf, hc, hw⟩ := hgT
    exact kinds hP hf hc hw hne
  rcases hk with ⟨fr1, cs1, w1, h1⟩ | hp | he
  · refine ⟨fr1, cs1, w1, h1, gl_step hP hgT hne h1, fun T' => ?_⟩
    obtain ⟨U, hU⟩ : ∃ U, U = (retape w1 T').tape := ⟨_, rfl⟩
    have e1 : ∀ n, n < w1.drawn → U n = (retape w T).tape n := fun n hn => by
      rw [hU, ← h1.drawn.tape]
      funext q
      simp only [retape, if_pos hn]
    have e2 : ∀ n, n < w.drawn → U n = w.tape n := fun n hn => by
      rw [e1 n (Nat.lt_of_lt_of_le hn h1.drawn.le)]
      funext q
      simp only [retape, if_pos hn]
    obtain ⟨m, hm⟩ := hr (fun n q => U (w.drawn + n) q)
    rw [retape_onT e2] at hm
    have h2 : Step1 P fr cs (onT w U) fr1 cs1 (onT w1 U) := by
      refine ⟨⟨rfl, h1.drawn.le⟩, h1.calm, fun T2 hT2 main bs => ?_⟩
      exact h1.go T2 (fun k h3 h4 => by rw [hT2 k h3 h4]; exact e1 k h4) main bs
    obtain ⟨m', _, hm'⟩ := rz_step h2 (fun hz => hn (hs.tape fr cs (onT w U) w.tape hz)) hm
    refine ⟨m', ?_⟩
    have : onT w1 U = retape w1 T' := by rw [hU]; rfl
    rw [← this]
    exact hm'
  · exact absurd hnT (rz_pan hs hgT hp (not_zT hs hn T))
  · exact absurd hnT (rz_end he (not_zT hs hn T))

/-- The tree of a goroutine that is alone. -/
inductive IsZ (P : Program) (Z : Frame → List Frame → World → Prop) : Tr → Frame → List Frame → World → Prop
  | stop {fr : Frame} {cs : List Frame} {w : World} : Z fr cs w → IsZ P Z .stop fr cs w
  | node {f : Tape' → Tr} {fr : Frame} {cs : List Frame} {w : World} (F : Tape' → Frame) (C : Tape' → List Frame) (W : Tape' → World) : (fr.mode = .returning → cs ≠ []) → (∀ T, Step1 P fr cs (retape w T) (F T) (C T) (W T)) →
      (∀ T, IsZ P Z (f T) (F T) (C T) (W T)) → IsZ P Z (.node f) fr cs w

theorem tree_of_runsz (hP : OkP P S V) (hz : Stp Z) (h : RunsZ P S V Z fr cs w) : ∃ t, IsZ P Z t fr cs w := by
  apply Classical.byContradiction
  intro hno
  let Bad : Cf' → Prop := fun c => RunsZ P S V Z c.fr c.cs c.w ∧ ¬ ∃ t, IsZ P Z t c.fr c.cs c.w
  have nz : ∀ c, Bad c → ¬ Z c.fr c.cs c.w := fun c hb hc => hb.2 ⟨.stop, .stop hc⟩
  have next : ∀ c : { c // Bad c }, ∃ c1 : { c // Bad c }, ∃ T, Step1 P c.1.fr c.1.cs (retape c.1.w T) c1.1.fr c1.1.cs c1.1.w := fun ⟨c, hb⟩ => by
    apply Classical.byContradiction
    intro hn
    have all : ∀ T, ∃ t fr1 cs1 w1, Step1 P c.fr c.cs (retape c.w T) fr1 cs1 w1 ∧ IsZ P Z t fr1 cs1 w1 := fun T => by
      obtain ⟨fr1, cs1, w1, h1, h2⟩ := runsz_next hP hz hb.1 (nz c hb) T
      apply Classical.byContradiction
      intro hq
      exact hn ⟨⟨⟨fr1, cs1, w1⟩, h2, fun ⟨t, ht⟩ => hq ⟨t, fr1, cs1, w1, h1, ht⟩⟩, T, h1⟩
    obtain ⟨f, hf⟩ := Classical.axiomOfChoice all
    obtain ⟨F, hF⟩ := Classical.axiomOfChoice hf
    obtain ⟨C, hC⟩ := Classical.axiomOfChoice hF
    obtain ⟨W, hW⟩ := Classical.axiomOfChoice hC
    exact hb.2 ⟨.node f, .node F C W (runsz_ne hz hb.1 (nz c hb)) (fun T => (hW T).1) fun T => (hW T).2⟩
  obtain ⟨g, hg⟩ := Classical.axiomOfChoice next
  let c0 : { c // Bad c } := ⟨⟨fr, cs, w⟩, h, hno⟩
  let sq : Nat → { c // Bad c } := fun n => Nat.rec c0 (fun _ c => g c) n
  have hs : ∀ n, ∃ T, Step1 P (sq n).1.fr (sq n).1.cs (retape (sq n).1.w T) (sq (n + 1)).1.fr (sq (n + 1)).1.cs (sq (n + 1)).1.w := fun n => hg (sq n)
  have mono1 : ∀ n, (sq n).1.w.drawn ≤ (sq (n + 1)).1.w.drawn := fun n => by obtain ⟨T, h1⟩ := hs n; exact h1.drawn.le
  have mono : ∀ n k, (sq n).1.w.drawn ≤ (sq (n + k)).1.w.drawn := fun n k => by
    induction k with
    | zero => exact Nat.le_refl _
    | succ k ih => exact Nat.le_trans ih (mono1 (n + k))
  have same1 : ∀ n i, i < (sq n).1.w.drawn → (sq (n + 1)).1.w.tape i = (sq n).1.w.tape i := fun n i hi => by
    obtain ⟨T, h1⟩ := hs n
    rw [h1.drawn.tape]
    funext q
    simp only [retape, if_pos hi]
  have same : ∀ n k i, i < (sq n).1.w.drawn → (sq (n + k)).1.w.tape i = (sq n).1.w.tape i := fun n k i hi => by
    induction k with
    | zero => rfl
    | succ k ih => rw [← ih]; exact same1 (n + k) i (Nat.lt_of_lt_of_le hi (mono n k))
  obtain ⟨U, hU⟩ : ∃ U : Tape', ∀ n i, i < (sq n).1.w.drawn → U i = (sq n).1.w.tape i := by
    refine ⟨fun i => @dite _ (∃ n, i < (sq n).1.w.drawn) (Classical.propDecidable _) (fun h => (sq h.choose).1.w.tape i) (fun _ _ => 0), fun n i hi => ?_⟩
    have hx : ∃ n, i < (sq n).1.w.drawn := ⟨n, hi⟩
    simp only [dif_pos hx]
    have h1 := hx.choose_spec
    rcases Nat.le_total n hx.choose with hle | hle
    · obtain ⟨k, hk⟩ := Nat.le.dest hle
      rw [← hk]
      exact same n k i hi
    · obtain ⟨k, hk⟩ := Nat.le.dest hle
      have := same hx.choose k i h1
      rw [hk] at this
      exact this.symm
  have stepU : ∀ n, Step1 P (sq n).1.fr (sq n).1.cs (onT (sq n).1.w U) (sq (n + 1)).1.fr (sq (n + 1)).1.cs (onT (sq (n + 1)).1.w U) := fun n => by
    obtain ⟨T, h1⟩ := hs n
    refine ⟨⟨rfl, h1.drawn.le⟩, h1.calm, fun T2 hT2 main bs => ?_⟩
    exact h1.go T2 (fun k h3 h4 => by rw [hT2 k h3 h4, ← h1.drawn.tape]; exact hU (n + 1) k h4) main bs
  obtain ⟨N, hN⟩ := h.2 (fun n q => U (w.drawn + n) q)
  rw [retape_onT (w := w) (hU 0)] at hN
  have nzU : ∀ n, ¬ Z (sq n).1.fr (sq n).1.cs (onT (sq n).1.w U) := fun n hq => nz _ (sq n).2 (hz.tape _ _ (onT (sq n).1.w U) (sq n).1.w.tape hq)
  have key : ∀ N n, ¬ Rz P Z N (sq n).1.fr (sq n).1.cs (onT (sq n).1.w U) := by
    intro N
    induction N with
    | zero => exact fun n hr => nzU n (rz_zero hr)
    | succ N ih =>
      intro n hr
      obtain ⟨m, hm, h2⟩ := rz_step (stepU n) (nzU n) hr
      cases hm
      exact ih (n + 1) h2
  exact key N 0 hN
end
end Go.Proofs.Ytcobehkadhcjiaa

/-
  WORLDS ON THE LEFT: frozen, thawed; what is delivered.
-/
namespace Go.Proofs.Ytcobehkadhcjiaa
open Go Go.Conc
variable [Shift]

def frzO : Obj → Obj
  | .cells c e f => .cells c e (0, max (c.size + 1) f.2)
  | o => o
/-- Nothing of it may be written. -/
def frz (w : World) : World := { w with heap := w.heap.map frzO }
omit [Shift] in
theorem frz_heap (w : World) (a : Nat) : (frz w).heap[a]? = (w.heap[a]?).map frzO := by simp [frz]
omit [Shift] in
theorem frz_size (w : World) : (frz w).heap.size = w.heap.size := by simp [frz]
omit [Shift] in
theorem fz_frz {c : Array Value} {f : Nat × Nat} {o : Nat} (h : Fz f o ∨ o ≤ c.size) : Fz (0, max (c.size + 1) f.2) o := by
  unfold Fz at *
  have := Nat.le_max_left (c.size + 1) f.2
  have := Nat.le_max_right (c.size + 1) f.2
  constructor
  · exact Nat.zero_le _
  · dsimp only
    omega
omit [Shift] in
theorem frz_wr (w : World) (a o : Nat) : ¬ Wr (frz w) a o := by
  rintro ⟨c, e, f, h1, h2, h3⟩
  rw [frz_heap] at h1
  cases hw : w.heap[a]? with
  | none => rw [hw] at h1; cases h1
  | some u =>
    rw [hw] at h1
    cases u <;> simp only [Option.map_some, frzO, Option.some.injEq, Obj.cells.injEq, reduceCtorEq] at h1
    obtain ⟨rfl, rfl, rfl⟩ := h1
    exact h3 (fz_frz (.inr (Nat.le_of_lt h2)))
theorem HR0.frz {S : FuncId → Bool} {r : BR} {w w' : World} (h : HR0 S r w w') : HR0 S r (frz w) w' := by
  refine ⟨h.fn, h.inj, fun {a b} hab => ?_, by rw [frz_size]; exact h.low⟩
  obtain ⟨o, o', h1, h2, h3⟩ := h.obj hab
  refine ⟨frzO o, o', by rw [frz_heap, h1]; rfl, h2, ?_⟩
  cases h3 with
  | cells e hn rr hz hf' => exact .cells e hn rr (fun o ho => fz_frz (.inl (hz o ho))) hf'
  | win e hn rr hz hz2 => exact .win e hn rr (fun o ho => fz_frz (.inr ho)) fun o ho => fz_frz (.inl (hz2 o ho))
  | number l hn x => exact .number l hn x
  | inert e hn q1 q2 => exact .inert e hn q1 q2

/-- The flags that there were in w0. -/
def thawO (o0 : Option Obj) (o : Obj) : Obj := match o0, o with
  | some (.cells _ _ f0), .cells c e _ => .cells c e f0
  | _, o => o
def thaw (w0 w1 : World) : World := { w1 with heap := w1.heap.mapIdx fun a o => thawO w0.heap[a]? o }
omit [Shift] in
theorem thaw_heap (w0 w1 : World) (a : Nat) : (thaw w0 w1).heap[a]? = (w1.heap[a]?).map (thawO w0.heap[a]?) := by simp [thaw]
omit [Shift] in
theorem thaw_size (w0 w1 : World) : (thaw w0 w1).heap.size = w1.heap.size := by simp [thaw]
theorem HR0.thaw {S : FuncId → Bool} {r : BR} {w0 w1 w' : World} (h : HR0 S r w1 w')
    (hf : ∀ a b c e f c' e' f', r a b → w0.heap[a]? = some (.cells c e f) → w'.heap[b]? = some (.cells c' e' f') → (Shift.n ≤ a → ∀ o, Fz f' o → Fz f o) ∧ (a < Shift.n → (∀ c1 f1, w1.heap[a]? = some (.cells c1 Shift.bog f1) → ∀ o, o ≤ c1.size → Fz f o) ∧ ∀ o, Fz f' (o + shf a) → Fz f o)) : HR0 S r (thaw w0 w1) w' := by
  refine ⟨h.fn, h.inj, fun {a b} hab => ?_, by rw [thaw_size]; exact h.low⟩
  obtain ⟨o, o', h1, h2, h3⟩ := h.obj hab
  refine ⟨thawO w0.heap[a]? o, o', by rw [thaw_heap, h1]; rfl, h2, ?_⟩
  unfold thawO
  cases h3 with
  | @cells c c' e f f' hn rr hz hf' =>
    cases hw : w0.heap[a]? with
    | none => exact .cells e hn rr hz hf'
    | some u =>
      cases u with
      | cells c0 e0 f0 => exact .cells e hn rr ((hf a b c0 e0 f0 c' e f' hab hw h2).1 hn) hf'
      | _ => exact .cells e hn rr hz hf'
  | @win c c' e f f' hn rr hz hz2 =>
    cases hw : w0.heap[a]? with
    | none => exact .win e hn rr hz hz2
    | some u =>
      cases u with
      | cells c0 e0 f0 =>
        obtain ⟨q1, q2⟩ := (hf a b c0 e0 f0 c' e f' hab hw h2).2 hn
        exact .win e hn rr (q1 c f h1) q2
      | _ => exact .win e hn rr hz hz2
  | number l hn x => cases hw : w0.heap[a]? with
    | none => exact .number l hn x
    | some u => cases u <;> exact .number l hn x
  | inert e hn q1 q2 => cases hw : w0.heap[a]? with
    | none => exact .inert e hn q1 q2
    | some u => cases u <;> exact .inert e hn q1 q2

/-- What is related stays so, where the right one is as it was. -/
theorem HR0.keep {S : FuncId → Bool} {r : BR} {w w' w2 : World} (h : HR0 S r w w') (k : ∀ a b, r a b → w2.heap[b]? = w'.heap[b]? ∨ (w.heap[a]? = some (.coro none) ∧ ∃ c e f, w2.heap[b]? = some (.cells c e f) ∧ 0 < c.size ∧ ∀ o, ¬ Fz f o)) : HR0 S r w w2 := by
  refine ⟨h.fn, h.inj, fun {a b} hab => ?_, h.low⟩
  obtain ⟨o, o', h1, h2, h3⟩ := h.obj hab
  rcases k a b hab with e | ⟨e1, c, e, f, e2, e3, e4⟩
  · exact ⟨o, o', h1, by rw [e]; exact h2, h3⟩
  · rw [e1] at h1
    cases h1
    refine ⟨_, _, e1, e2, ?_⟩
    cases h3 with
    | inert _ hn _ _ => exact .inert e hn e3 e4

/-- The same on the left, among other blocks. -/
theorem VR.lift {S : FuncId → Bool} {r r1 : BR} (h : ∀ a b, r a b → ∃ a1, r1 a1 b ∧ shf a1 = shf a) {v v' : Value} (x : VR S r v v') : ∃ v1, VR S r1 v1 v' := by
  have rows : ∀ {cs cs' : Array Value}, cs.size = cs'.size → (∀ (i : Nat) (h : i < cs.size) (h' : i < cs'.size), ∃ v1, VR S r1 v1 cs'[i]) → ∃ c1 : Array Value, c1.size = cs'.size ∧ ∀ (i : Nat) (h : i < c1.size) (h' : i < cs'.size), VR S r1 c1[i] cs'[i] := fun {cs cs'} e ih => by
    have : ∀ i : Fin cs'.size, ∃ v1, VR S r1 v1 cs'[i] := fun i => ih i (by have := i.2; omega) i.2
    obtain ⟨g, hg⟩ := Classical.axiomOfChoice this
    exact ⟨Array.ofFn g, by simp, fun i h h' => by simp only [Array.getElem_ofFn]; exact hg ⟨i, h'⟩⟩
  have adr : ∀ {a a' : Addr}, AR r a a' → ∃ a1, AR r1 a1 a' := fun {a a'} x => by
    obtain ⟨b1, h1, h2⟩ := h _ _ x.block
    exact ⟨⟨b1, a.off, a.spot⟩, h1, by rw [x.off, h2], x.spot⟩
  induction x with
  | bool b => exact ⟨_, .bool b⟩
  | int k n => exact ⟨_, .int k n⟩
  | string s => exact ⟨_, .string s⟩
  | nilPtr => exact ⟨_, .nilPtr⟩
  | ptr a => obtain ⟨a1, h1⟩ := adr a; exact ⟨_, .ptr h1⟩
  | nilSlice n c => exact ⟨_, .nilSlice n c⟩
  | slice n c a => obtain ⟨a1, h1⟩ := adr a; exact ⟨_, .slice n c h1⟩
  | @void a a' b k e => obtain ⟨b1, h1, _⟩ := h _ _ k; exact ⟨.slice (some ⟨b1, a.off, a.spot⟩) 0 0, .void h1 e⟩
  | chan c => exact ⟨_, .chan c⟩
  | dead f a b => exact ⟨_, .dead f a b⟩
  | func s e _ ih => obtain ⟨c1, h1, h2⟩ := rows e ih; exact ⟨_, .func s h1 h2⟩
  | nilFunc => exact ⟨_, .nilFunc⟩
  | iface t _ ih => obtain ⟨v1, h1⟩ := ih; exact ⟨_, .iface t h1⟩
  | nilIface => exact ⟨_, .nilIface⟩
  | agg e _ ih => obtain ⟨c1, h1, h2⟩ := rows e ih; exact ⟨_, .agg h1 h2⟩
  | tuple e _ ih => obtain ⟨c1, h1, h2⟩ := rows e ih; exact ⟨_, .tuple h1 h2⟩
/-- No address in it: the same on both sides. -/
def Plnv : Value → Prop
  | .bool _ | .int .. => True
  | _ => False
theorem plnv_eq {S : FuncId → Bool} {r : BR} {v v' : Value} (h : VR S r v v') (p : Plnv v) : v' = v := by
  cases h <;> first | rfl | exact p.elim
theorem lift_plnv {S : FuncId → Bool} {r r1 : BR} (h : ∀ a b, r a b → ∃ a1, r1 a1 b ∧ shf a1 = shf a) {v v' : Value} (x : VR S r v v') : ∃ v1, VR S r1 v1 v' ∧ (Plnv v → v1 = v) := by
  by_cases p : Plnv v
  · refine ⟨v, ?_, fun _ => rfl⟩
    rw [plnv_eq x p]
    cases v <;> first | exact .bool _ | exact .int _ _ | exact p.elim
  · obtain ⟨v1, h1⟩ := VR.lift h x
    exact ⟨v1, h1, fun q => absurd q p⟩
end Go.Proofs.Ytcobehkadhcjiaa

/-
  PROCESSES: what a goroutine does by itself, as a tree; and how a tree is had.
-/
namespace Go.Proofs.Ytcobehkadhcjiaa
open Go Go.Conc
variable [Shift]

/-- Frames of the same code. -/
inductive MRs (S : FuncId → Bool) (r : BR) : List Frame → List Frame → Prop
  | nil : MRs S r [] []
  | cons {f : FuncId} {t t' : Array Value} {k : List Item} {cs cs' : List Frame} : RR S r t t' → MRs S r cs cs' → MRs S r ((base f).at ⟨t, []⟩ k :: cs) ((base f).at ⟨t', []⟩ k :: cs')
theorem MRs.mono {S : FuncId → Bool} {r r1 : BR} (h : ∀ a b, r a b → r1 a b) {cs cs' : List Frame} (x : MRs S r cs cs') : MRs S r1 cs cs' := by
  induction x with
  | nil => exact .nil
  | cons a _ ih => exact .cons (a.mono h) ih

/-- It has its like somewhere. -/
def GLc (P : Program) (S V : FuncId → Bool) (fr : Frame) (ct cs : List Frame) (w : World) : Prop :=
  ∃ r fr' ct' cs' w', FrR P S V r .nil fr fr' ∧ CsR P S V r .nil ct ct' ∧ MRs S r cs cs' ∧ HR0 S r w w'

abbrev bare (f : FuncId) (t : Array Value) : Frame := (base f).at ⟨t, []⟩ []
abbrev bareR (f : FuncId) (t : Array Value) : Frame := { (base f).at ⟨t, []⟩ [] with mode := .returning }
abbrev putT (t : Array Value) (d : Option Tmp) (v : Value) : Array Value := (Act.put ⟨t, []⟩ d v).tmps

abbrev Spec := World → Value → Prop
/-- How far the first is with the others: the world in which they were started (its flags), a channel that is not handed on yet, those that work: number of channel, and what will come. -/
structure Sg where
  ph : Option World
  idle : Option Nat
  l : List (Nat × Spec)
inductive Role
  | main (post : Value → World → Prop)
  | wk (c s : Nat) (spec : Spec)

inductive Ix
  | tp (T : Tape')
  | nm (n : Nat)
  | wv (w : World) (v : Value)
  | un
inductive Mt
  | leaf
  | node (f : Ix → Mt)
inductive Mt.Lt : Mt → Mt → Prop
  | mk (f : Ix → Mt) (i : Ix) : Mt.Lt (f i) (.node f)
omit [Shift] in
theorem mt_wf : WellFounded Mt.Lt := ⟨fun t => by
  induction t with
  | leaf => exact ⟨_, fun y h => by cases h⟩
  | node f ih => exact ⟨_, fun y h => by cases h with | mk _ i => exact ih i⟩⟩

/-- A value that is handed on: a channel, or a slice that lies below s. -/
def Slv (s : Nat) : Value → Prop
  | .slice none _ _ | .chan _ => True
  | .slice (some a) _ _ => a.block < s
  | _ => False
/-- A value that is told: no address in it, or addresses of new blocks. -/
def Nwv (s : Nat) : Value → Prop
  | .agg cs => ∀ (i : Nat) (h : i < cs.size), Plnv cs[i] ∨ (∃ n c, cs[i] = .slice none n c) ∨ ∃ a n c, cs[i] = .slice (some a) n c ∧ (n = 0 ∨ s ≤ a.block)
  | _ => False
/-- What is told holds as well where the blocks have other numbers. -/
def Moves (spec : Spec) : Prop := ∀ (q : Nat → Nat → Prop) (w w1 : World) (cs cs1 : Array Value),
  (∀ a a1, q a a1 → ∀ c e f, w.heap[a]? = some (.cells c e f) → ∃ c1 f1, w1.heap[a1]? = some (.cells c1 e f1) ∧ c1.size = c.size ∧ ∀ (i : Nat) u, c[i]? = some u → Plnv u → c1[i]? = some u) →
  cs1.size = cs.size → (∀ (i : Nat) (h : i < cs.size) (h1 : i < cs1.size), (Plnv cs[i] → cs1[i] = cs[i]) ∧ (∀ n c, cs[i] = .slice none n c → cs1[i] = .slice none n c) ∧
    ∀ a n c, cs[i] = .slice (some a) n c → ∃ a1, cs1[i] = .slice (some ⟨a1, a.off, a.spot⟩) n c ∧ a1 < w1.heap.size ∧ (n = 0 ∨ q a.block a1)) → spec w (.agg cs) → spec w1 (.agg cs1)

/-- What stands below a function that a go statement calls. -/
def botF (P : Program) : Frame := { (default : Frame) with fn := P.funcs.size, defers := [], mode := .panicking [goexitEntry] }

def frozenW (σ : Sg) (w : World) : World := match σ.ph with
  | some w0 => frz w0
  | none => frz w

inductive Im (P : Program) (S V : FuncId → Bool) : Role → Mt → Sg → Frame → List Frame → List Item → List Frame → World → Prop
  | step {ρ : Role} {g : Ix → Mt} {σ : Sg} {fr : Frame} {ct : List Frame} {k : List Item} {cs : List Frame} {w : World} (F : Tape' → Frame) (C : Tape' → List Frame) (W : Tape' → World) :
      (fr.mode = .returning → ct ≠ []) → (ct = [] → fr.todo ≠ [] ∧ ∀ k2, fr.todo ≠ .code .ret :: k2) → (∀ T, Step1 P fr ct (retape w T) (F T) (C T) (W T)) →
      (∀ T, GLc P S V (F T) (C T) cs (W T) → Im P S V ρ (g (.tp T)) σ (F T) (C T) k cs (W T)) → Im P S V ρ (.node g) σ fr ct k cs w
  | shift {ρ : Role} {g : Ix → Mt} {σ : Sg} {f : FuncId} {t : Array Value} {c : Item} {k : List Item} {cs : List Frame} {w : World} : okItem P S V c = true →
      Im P S V ρ (g .un) σ ((base f).at ⟨t, []⟩ [c]) [] k cs w → Im P S V ρ (.node g) σ (bare f t) [] (c :: k) cs w
  | ctl {ρ : Role} {g : Ix → Mt} {σ : Sg} {f : FuncId} {t : Array Value} {k k1 : List Item} {cs : List Frame} {w : World} :
      (∀ main kd t' cs' w', stepG P main (G ((baseK kd f).at ⟨t', []⟩ k) cs') w' = .go (G ((baseK kd f).at ⟨t', []⟩ k1) cs') w') → Im P S V ρ (g .un) σ (bare f t) [] k1 cs w → Im P S V ρ (.node g) σ (bare f t) [] k cs w
  | cond {ρ : Role} {g : Ix → Mt} {σ : Sg} {f : FuncId} {t : Array Value} {c : Operand} {a b : Code} {q : Bool} {k : List Item} {cs : List Frame} {w : World} : okX S c = true → Act.eval ⟨t, []⟩ c = .bool q →
      Im P S V ρ (g .un) σ (bare f t) [] (.code (if q then a else b) :: k) cs w → Im P S V ρ (.node g) σ (bare f t) [] (.code (.cond c a b) :: k) cs w
  | op {ρ : Role} {g : Ix → Mt} {σ : Sg} {f : FuncId} {t : Array Value} {ops : Array Oper} {i : Nat} {rest : List Nat} {o : Oper} {k : List Item} {cs : List Frame} {w : World} (v : Tape' → Option Value) (W : Tape' → World) :
      ops[i]? = some o → Region.wanted o (yielded ops t) = true → okOp P S o.op = true →
      (∀ T, (execOp (Act.eval ⟨t, []⟩) o).run P (retape w T) = .ok (match v T with | some v => .value v | none => .skip) (W T)) →
      (∀ T, GLc P S V (bare f (putT t o.dst ((v T).getD undef))) [] cs (W T) → Im P S V ρ (g (.tp T)) σ (bare f (putT t o.dst ((v T).getD undef))) [] (.inRegion ops rest :: k) cs (W T)) →
      Im P S V ρ (.node g) σ (bare f t) [] (.inRegion ops (i :: rest) :: k) cs w
  | draw {ρ : Role} {g : Ix → Mt} {σ : Sg} {f : FuncId} {t : Array Value} {id : Nat} {ops : Array Oper} {k : List Item} {cs : List Frame} {w : World} :
      (∀ T : Nat, Im P S V ρ (g (.nm T)) σ (bare f t) [] (.inRegion ops (Region.schedule (P.follows .mixedOrders) ops T) :: k) cs w) → Im P S V ρ (.node g) σ (bare f t) [] (.code (.region id ops true) :: k) cs w
  | enter {post : Value → World → Prop} {g : Ix → Mt} {σ : Sg} {f : FuncId} {t : Array Value} {ops : Array Oper} {i : Nat} {rest : List Nat} {o : Oper} {k : List Item} {cs : List Frame} {w : World} {h : FuncId} {xs : Array Operand} {fn : Func} {c : Code} :
      ops[i]? = some o → Region.wanted o (yielded ops t) = true → xs.all (okX S) = true → P.funcs[h]? = some fn → fn.body = some c →
      (∀ (e : Act) (w' : World) es, (execOp e.eval o).run P w' = .ok (.enter h (xs.map e.eval)) w' ∧ (execOp e.eval o).events P w' es = es) →
      (GLc P S V (bare h (xs.map (Act.eval ⟨t, []⟩) ++ Array.replicate (fn.ntmps - xs.size) undef)) [] ((base f).at ⟨t, []⟩ (.inRegion ops (i :: rest) :: k) :: cs) w →
        Im P S V (.main post) (g .un) σ (bare h (xs.map (Act.eval ⟨t, []⟩) ++ Array.replicate (fn.ntmps - xs.size) undef)) [] [.code c] ((base f).at ⟨t, []⟩ (.inRegion ops (i :: rest) :: k) :: cs) w) →
      Im P S V (.main post) (.node g) σ (bare f t) [] (.inRegion ops (i :: rest) :: k) cs w
  | toret {post : Value → World → Prop} {g : Ix → Mt} {σ : Sg} {f : FuncId} {t : Array Value} {k : List Item} {cs : List Frame} {w : World} : (k = [] ∨ ∃ k2, k = .code .ret :: k2) →
      Im P S V (.main post) (g .un) σ (bareR f t) [] [] cs w → Im P S V (.main post) (.node g) σ (bare f t) [] k cs w
  | ret {post : Value → World → Prop} {g : Ix → Mt} {σ : Sg} {f : FuncId} {t : Array Value} {fn : Func} {v : Value} {f2 : FuncId} {t2 : Array Value} {ops : Array Oper} {i : Nat} {rest : List Nat} {o : Oper} {k2 : List Item} {cs : List Frame} {w : World} :
      P.funcs[f]? = some fn → (∀ w0, (results fn t).run P w0 = .ok v w0) → ops[i]? = some o →
      (GLc P S V (bare f2 (putT t2 o.dst v)) [] cs w → Im P S V (.main post) (g .un) σ (bare f2 (putT t2 o.dst v)) [] (.inRegion ops rest :: k2) cs w) →
      Im P S V (.main post) (.node g) σ (bareR f t) [] [] ((base f2).at ⟨t2, []⟩ (.inRegion ops (i :: rest) :: k2) :: cs) w
  | fin {post : Value → World → Prop} {m : Mt} {idle : Option Nat} {f : FuncId} {t : Array Value} {fn : Func} {v : Value} {w : World} : P.funcs[f]? = some fn → P.inits.idxOf? f = none → (∀ w0, (results fn t).run P w0 = .ok v w0) → post v w →
      Im P S V (.main post) m ⟨none, idle, []⟩ (bareR f t) [] [] [] w
  | snd {c s : Nat} {spec : Spec} {m : Mt} {σ : Sg} {f : FuncId} {t : Array Value} {ops : Array Oper} {i : Nat} {rest : List Nat} {o : Oper} {k : List Item} {w : World} {x y : Operand} {vs : Array Value} :
      ops[i]? = some o → Region.wanted o (yielded ops t) = true → o.op = .send x y → okX S x = true → okX S y = true → Act.eval ⟨t, []⟩ x = .chan (some c) → Act.eval ⟨t, []⟩ y = .agg vs → spec w (.agg vs) → Nwv s (.agg vs) →
      (∀ t', ∃ q, QuitsIn P q (G ((baseK .deferred f).at ⟨putT t' o.dst undef, []⟩ (.inRegion ops rest :: k)) [botF P])) →
      Im P S V (.wk c s spec) m σ (bare f t) [] (.inRegion ops (i :: rest) :: k) [] w
  | chan {post : Value → World → Prop} {g : Ix → Mt} {ph : Option World} {l : List (Nat × Spec)} {f : FuncId} {t : Array Value} {ops : Array Oper} {i : Nat} {rest : List Nat} {o : Oper} {k : List Item} {cs : List Frame} {w : World} :
      ops[i]? = some o → Region.wanted o (yielded ops t) = true →
      (∀ (e : Act) (w' : World) es, (execOp e.eval o).run P w' = .ok (.value (.chan (some w'.heap.size))) (w'.alloc (.chan 0 #[] false 0 0 false)) ∧ (execOp e.eval o).events P w' es = es) →
      (∀ c, GLc P S V (bare f (putT t o.dst (.chan (some c)))) [] cs w → Im P S V (.main post) (g (.nm c)) ⟨ph, some c, l⟩ (bare f (putT t o.dst (.chan (some c)))) [] (.inRegion ops rest :: k) cs w) →
      Im P S V (.main post) (.node g) ⟨ph, none, l⟩ (bare f t) [] (.inRegion ops (i :: rest) :: k) cs w
  | go {post : Value → World → Prop} {g : Ix → Mt} {σ : Sg} {c : Nat} {spec : Spec} {f : FuncId} {t : Array Value} {ops : Array Oper} {i : Nat} {rest : List Nat} {o : Oper} {k : List Item} {cs : List Frame} {w : World} {h : FuncId} {xs : Array Operand} {fn : Func} {code : Code} {mk : Mt} :
      ops[i]? = some o → Region.wanted o (yielded ops t) = true → σ.idle = some c → P.funcs[h]? = some fn → (fn.name == "runtime.NumGoroutine") = false → fn.body = some code → xs.all (okX S) = true →
      (∀ (e : Act) (w' : World) es, (execOp e.eval o).run P w' = .ok (.spawn { target := .fn (.func h) #[], args := xs.map e.eval }) w' ∧ (execOp e.eval o).events P w' es = es) →
      (∀ v ∈ xs.map (Act.eval ⟨t, []⟩), Slv (frozenW σ w).heap.size v) → Moves spec →
      (GLc P S V (bare h (xs.map (Act.eval ⟨t, []⟩) ++ Array.replicate (fn.ntmps - xs.size) undef)) [] [] (frozenW σ w) →
        Im P S V (.wk c (frozenW σ w).heap.size spec) mk ⟨none, none, []⟩ (bare h (xs.map (Act.eval ⟨t, []⟩) ++ Array.replicate (fn.ntmps - xs.size) undef)) [] [.code code] [] (frozenW σ w)) →
      (GLc P S V (bare f (putT t o.dst undef)) [] cs (match σ.ph with | some _ => w | none => frz w) →
        Im P S V (.main post) (g .un) ⟨some (σ.ph.getD w), none, σ.l ++ [(c, spec)]⟩ (bare f (putT t o.dst undef)) [] (.inRegion ops rest :: k) cs (match σ.ph with | some _ => w | none => frz w)) →
      Im P S V (.main post) (.node g) σ (bare f t) [] (.inRegion ops (i :: rest) :: k) cs w
  | recv {post : Value → World → Prop} {g : Ix → Mt} {w0 : World} {idle : Option Nat} {c : Nat} {spec : Spec} {l : List (Nat × Spec)} {f : FuncId} {t : Array Value} {ops : Array Oper} {i : Nat} {rest : List Nat} {o : Oper} {ty : TypeId} {x : Operand} {k : List Item} {cs : List Frame} {w : World} :
      ops[i]? = some o → Region.wanted o (yielded ops t) = true → o.op = .recv ty x false → okX S x = true → Act.eval ⟨t, []⟩ x = .chan (some c) →
      (∃ z, ∀ (e : Act) (w' : World) es, e.eval x = .chan (some c) → (execOp e.eval o).run P w' = .ok (.comm #[rcase c z] true (.recv false)) w' ∧ (execOp e.eval o).events P w' es = es) →
      (∀ w1 v1, w.heap.size ≤ w1.heap.size → (∀ a, a < w.heap.size → w1.heap[a]? = w.heap[a]?) → w1.os = w.os → w1.output = w.output → spec w1 v1 ∧ Nwv w.heap.size v1 →
        GLc P S V (bare f (putT t o.dst v1)) [] cs (match l with | [] => thaw w0 w1 | _ => w1) →
        Im P S V (.main post) (g (.wv w1 v1)) ⟨match l with | [] => none | _ => some w0, idle, l⟩ (bare f (putT t o.dst v1)) [] (.inRegion ops rest :: k) cs (match l with | [] => thaw w0 w1 | _ => w1)) →
      Im P S V (.main post) (.node g) ⟨some w0, idle, (c, spec) :: l⟩ (bare f t) [] (.inRegion ops (i :: rest) :: k) cs w
end Go.Proofs.Ytcobehkadhcjiaa

/-
  A PROCESS AMONG OTHERS: it takes a step of its own, or it stands at one that others have to do with.
-/
namespace Go.Proofs.Ytcobehkadhcjiaa
open Go Go.Conc
variable [Shift]

/-- Where it stands among others; kd, bs: how it was entered, and what stands below it. -/
structure Sit (P : Program) (S V : FuncId → Bool) (b : Bot) (bs : List Frame) (r : BR) (fr : Frame) (ct cs : List Frame) (w : World) (a : Goroutine) (w' : World) : Prop where
  at_ : ∃ fr' ct' cs', a = G fr' (ct' ++ (cs' ++ bs)) ∧ FrR P S V r (bo b ct) fr fr' ∧ CsR P S V r b ct ct' ∧ MRs S r cs cs'
  hr : HR0 S r w w'

def botK (kd : CallKind) (h : kd ≠ .early) (k : List Item) : Bot := ⟨[], k, kd, h⟩

section
variable {P : Program} {S V : FuncId → Bool}

theorem FrR.toNil {r : BR} {b : Bot} {fr fr' : Frame} (h : FrR P S V r b fr fr') : ∃ fr2, FrR P S V r .nil fr fr2 := by
  cases h with
  | run t k => exact ⟨_, .run t k⟩
  | @ret f t t' k k' tt => exact ⟨_, .ret (k' := k') tt⟩
theorem CsR.toNil {r : BR} {b : Bot} {cs cs' : List Frame} (h : CsR P S V r b cs cs') : ∃ cs2, CsR P S V r .nil cs cs2 := by
  induction h with
  | nil => exact ⟨_, .nil⟩
  | cons a k hn _ ih => obtain ⟨cs2, h2⟩ := ih; exact ⟨_, .cons a k hn h2⟩
theorem Sit.gl {b : Bot} {bs : List Frame} {r : BR} {fr : Frame} {ct cs : List Frame} {w w' : World} {a : Goroutine} (h : Sit P S V b bs r fr ct cs w a w') : GLc P S V fr ct cs w := by
  obtain ⟨fr', ct', cs', _, h1, h2, h3⟩ := h.at_
  obtain ⟨f2, h4⟩ := h1.toNil
  obtain ⟨c2, h5⟩ := h2.toNil
  exact ⟨r, f2, c2, cs', w', h4, h5, h3, h.hr⟩
theorem Sit.running {b : Bot} {bs : List Frame} {r : BR} {fr : Frame} {ct cs : List Frame} {w w' : World} {a : Goroutine} (h : Sit P S V b bs r fr ct cs w a w') : a.status = .running := by
  obtain ⟨fr', ct', cs', rfl, _⟩ := h.at_
  rfl
/-- A bare one. -/
theorem Sit.bare {kd : CallKind} {hkd : kd ≠ .early} {bs : List Frame} {r : BR} {f : FuncId} {t : Array Value} {k : List Item} {cs : List Frame} {w w' : World} {a : Goroutine} (h : Sit P S V (botK kd hkd k) bs r (bare f t) [] cs w a w') :
    ∃ t' cs', a = G ((baseK kd f).at ⟨t', []⟩ k) (cs' ++ bs) ∧ RR S r t t' ∧ MRs S r cs cs' := by
  obtain ⟨fr', ct', cs', rfl, h1, h2, h3⟩ := h.at_
  cases h2
  generalize hg : Ytcobehkadhcjiaa.bare f t = g at h1
  cases h1 with
  | @run f2 t2 t' k2 tt kk =>
    have e1 := congrArg Frame.fn hg
    have e2 := congrArg Frame.tmps hg
    have e3 := congrArg Frame.todo hg
    simp only [Ytcobehkadhcjiaa.bare, Frame.at, base] at e1 e2 e3
    subst e1 e2 e3
    exact ⟨t', cs', rfl, tt, h3⟩
  | ret tt =>
    have e1 := congrArg Frame.mode hg
    simp [Ytcobehkadhcjiaa.bare, Frame.at] at e1
theorem Sit.mk_bare {kd : CallKind} {hkd : kd ≠ .early} {bs : List Frame} {r : BR} {f : FuncId} {t t' : Array Value} {k : List Item} {cs cs' : List Frame} {w w' : World} (tt : RR S r t t') (hc : MRs S r cs cs') (hw : HR0 S r w w') :
    Sit P S V (botK kd hkd k) bs r (Ytcobehkadhcjiaa.bare f t) [] cs w (G ((baseK kd f).at ⟨t', []⟩ k) (cs' ++ bs)) w' :=
  ⟨⟨_, [], cs', rfl, FrR.run (b := botK kd hkd k) (k := []) tt (by simp), .nil, hc⟩, hw⟩
theorem Sit.bareR {kd : CallKind} {hkd : kd ≠ .early} {bs : List Frame} {r : BR} {f : FuncId} {t : Array Value} {k : List Item} {cs : List Frame} {w w' : World} {a : Goroutine} (h : Sit P S V (botK kd hkd k) bs r (Ytcobehkadhcjiaa.bareR f t) [] cs w a w') :
    ∃ t' cs' k', a = G { (base f).at ⟨t', []⟩ k' with mode := .returning } (cs' ++ bs) ∧ RR S r t t' ∧ MRs S r cs cs' := by
  obtain ⟨fr', ct', cs', rfl, h1, h2, h3⟩ := h.at_
  cases h2
  generalize hg : Ytcobehkadhcjiaa.bareR f t = g at h1
  cases h1 with
  | run tt kk =>
    have e1 := congrArg Frame.mode hg
    simp [Frame.at] at e1
  | @ret f2 t2 t' k2 k' tt =>
    have e1 := congrArg Frame.fn hg
    have e2 := congrArg Frame.tmps hg
    simp only [Frame.at, base] at e1 e2
    subst e1 e2
    exact ⟨t', cs', k', rfl, tt, h3⟩
theorem Sit.mk_bareR {kd : CallKind} {hkd : kd ≠ .early} {bs : List Frame} {r : BR} {f : FuncId} {t t' : Array Value} {k k' : List Item} {cs cs' : List Frame} {w w' : World} (tt : RR S r t t') (hc : MRs S r cs cs') (hw : HR0 S r w w') :
    Sit P S V (botK kd hkd k) bs r (Ytcobehkadhcjiaa.bareR f t) [] cs w (G { (base f).at ⟨t', []⟩ k' with mode := .returning } (cs' ++ bs)) w' :=
  ⟨⟨_, [], cs', rfl, FrR.ret (k := []) tt, .nil, hc⟩, hw⟩

/-- What a step of its own is. -/
structure Goes1 (P : Program) (S V : FuncId → Bool) (kd : CallKind) (hkd : kd ≠ .early) (bs : List Frame) (main : Bool) (ρ : Role) (m : Mt) (σ : Sg) (r : BR) (w : World) (a : Goroutine) (w' : World) (cs : List Frame) : Prop where
  ex : ∃ m1 r1 fr1 ct1 k1 cs1 w1 a1 w1' es, stepG P main a w' = .go a1 w1' es ∧ Relation.TransGen Mt.Lt m1 m ∧ Im P S V ρ m1 σ fr1 ct1 k1 cs1 w1 ∧ Sit P S V (botK kd hkd k1) bs r1 fr1 ct1 cs1 w1 a1 w1' ∧ LF w w1 ∧ FR r r1 w w' w1' ∧ (∀ e ∈ es, EvS r1 w e) ∧ ∀ c s spec, ρ = .wk c s spec → cs1 = cs
end
end Go.Proofs.Ytcobehkadhcjiaa

/-
  A PROCESS AMONG OTHERS: whatever it comes to.
-/
namespace Go.Proofs.Ytcobehkadhcjiaa
open Go Go.Conc
variable [Shift]

/-- It stands at a step that others have to do with. -/
inductive Pr (P : Program) (S V : FuncId → Bool) (kd : CallKind) (hkd : kd ≠ .early) (bs : List Frame) (m0 : Mt) (r : BR) (w : World) (a : Goroutine) (w' : World) : Role → Sg → Prop
  | fin {post : Value → World → Prop} {idle : Option Nat} {f : FuncId} {t : Array Value} {k : List Item} {fn : Func} {v : Value} : P.funcs[f]? = some fn → P.inits.idxOf? f = none → (∀ w0, (results fn t).run P w0 = .ok v w0) → post v w →
      Sit P S V (botK kd hkd k) bs r (bareR f t) [] [] w a w' → Pr P S V kd hkd bs m0 r w a w' (.main post) ⟨none, idle, []⟩
  | snd {c s : Nat} {spec : Spec} {σ : Sg} {f : FuncId} {t : Array Value} {ops : Array Oper} {i : Nat} {rest : List Nat} {o : Oper} {k : List Item} {x y : Operand} {vs : Array Value} :
      ops[i]? = some o → Region.wanted o (yielded ops t) = true → o.op = .send x y → okX S x = true → okX S y = true → Act.eval ⟨t, []⟩ x = .chan (some c) → Act.eval ⟨t, []⟩ y = .agg vs → spec w (.agg vs) → Nwv s (.agg vs) →
      (∀ t', ∃ q, QuitsIn P q (G ((baseK .deferred f).at ⟨putT t' o.dst undef, []⟩ (.inRegion ops rest :: k)) [botF P])) →
      Sit P S V (botK kd hkd (.inRegion ops (i :: rest) :: k)) bs r (bare f t) [] [] w a w' → Pr P S V kd hkd bs m0 r w a w' (.wk c s spec) σ
  | chan {post : Value → World → Prop} {m1 : Nat → Mt} {ph : Option World} {l : List (Nat × Spec)} {f : FuncId} {t : Array Value} {ops : Array Oper} {i : Nat} {rest : List Nat} {o : Oper} {k : List Item} {cs : List Frame} :
      ops[i]? = some o → Region.wanted o (yielded ops t) = true →
      (∀ (e : Act) (w' : World) es, (execOp e.eval o).run P w' = .ok (.value (.chan (some w'.heap.size))) (w'.alloc (.chan 0 #[] false 0 0 false)) ∧ (execOp e.eval o).events P w' es = es) →
      (∀ c, Relation.TransGen Mt.Lt (m1 c) m0 ∧ (GLc P S V (bare f (putT t o.dst (.chan (some c)))) [] cs w → Im P S V (.main post) (m1 c) ⟨ph, some c, l⟩ (bare f (putT t o.dst (.chan (some c)))) [] (.inRegion ops rest :: k) cs w)) →
      Sit P S V (botK kd hkd (.inRegion ops (i :: rest) :: k)) bs r (bare f t) [] cs w a w' → Pr P S V kd hkd bs m0 r w a w' (.main post) ⟨ph, none, l⟩
  | go {post : Value → World → Prop} {m1 : Mt} {σ : Sg} {c : Nat} {spec : Spec} {f : FuncId} {t : Array Value} {ops : Array Oper} {i : Nat} {rest : List Nat} {o : Oper} {k : List Item} {cs : List Frame} {h : FuncId} {xs : Array Operand} {fn : Func} {code : Code} {mk : Mt} :
      ops[i]? = some o → Region.wanted o (yielded ops t) = true → σ.idle = some c → P.funcs[h]? = some fn → (fn.name == "runtime.NumGoroutine") = false → fn.body = some code → xs.all (okX S) = true →
      (∀ (e : Act) (w' : World) es, (execOp e.eval o).run P w' = .ok (.spawn { target := .fn (.func h) #[], args := xs.map e.eval }) w' ∧ (execOp e.eval o).events P w' es = es) →
      (∀ v ∈ xs.map (Act.eval ⟨t, []⟩), Slv (frozenW σ w).heap.size v) → Moves spec →
      (GLc P S V (bare h (xs.map (Act.eval ⟨t, []⟩) ++ Array.replicate (fn.ntmps - xs.size) undef)) [] [] (frozenW σ w) →
        Im P S V (.wk c (frozenW σ w).heap.size spec) mk ⟨none, none, []⟩ (bare h (xs.map (Act.eval ⟨t, []⟩) ++ Array.replicate (fn.ntmps - xs.size) undef)) [] [.code code] [] (frozenW σ w)) →
      Relation.TransGen Mt.Lt m1 m0 →
      (GLc P S V (bare f (putT t o.dst undef)) [] cs (match σ.ph with | some _ => w | none => frz w) →
        Im P S V (.main post) m1 ⟨some (σ.ph.getD w), none, σ.l ++ [(c, spec)]⟩ (bare f (putT t o.dst undef)) [] (.inRegion ops rest :: k) cs (match σ.ph with | some _ => w | none => frz w)) →
      Sit P S V (botK kd hkd (.inRegion ops (i :: rest) :: k)) bs r (bare f t) [] cs w a w' → Pr P S V kd hkd bs m0 r w a w' (.main post) σ
  | recv {post : Value → World → Prop} {m1 : World → Value → Mt} {w0 : World} {idle : Option Nat} {c : Nat} {spec : Spec} {l : List (Nat × Spec)} {f : FuncId} {t : Array Value} {ops : Array Oper} {i : Nat} {rest : List Nat} {o : Oper} {ty : TypeId} {x : Operand} {k : List Item} {cs : List Frame} :
      ops[i]? = some o → Region.wanted o (yielded ops t) = true → o.op = .recv ty x false → okX S x = true → Act.eval ⟨t, []⟩ x = .chan (some c) →
      (∃ z, ∀ (e : Act) (w' : World) es, e.eval x = .chan (some c) → (execOp e.eval o).run P w' = .ok (.comm #[rcase c z] true (.recv false)) w' ∧ (execOp e.eval o).events P w' es = es) →
      (∀ w1 v1, Relation.TransGen Mt.Lt (m1 w1 v1) m0 ∧ (w.heap.size ≤ w1.heap.size → (∀ a, a < w.heap.size → w1.heap[a]? = w.heap[a]?) → w1.os = w.os → w1.output = w.output → spec w1 v1 ∧ Nwv w.heap.size v1 →
        GLc P S V (bare f (putT t o.dst v1)) [] cs (match l with | [] => thaw w0 w1 | _ => w1) →
        Im P S V (.main post) (m1 w1 v1) ⟨match l with | [] => none | _ => some w0, idle, l⟩ (bare f (putT t o.dst v1)) [] (.inRegion ops rest :: k) cs (match l with | [] => thaw w0 w1 | _ => w1))) →
      Sit P S V (botK kd hkd (.inRegion ops (i :: rest) :: k)) bs r (bare f t) [] cs w a w' → Pr P S V kd hkd bs m0 r w a w' (.main post) ⟨some w0, idle, (c, spec) :: l⟩

section
variable {P : Program} {S V : FuncId → Bool}
omit [Shift] in
theorem lt_one (g : Ix → Mt) (i : Ix) : Relation.TransGen Mt.Lt (g i) (.node g) := .single (.mk g i)

/-- A deeper tree. -/
theorem Pr.up {kd : CallKind} {hkd : kd ≠ .early} {bs : List Frame} {m0 m : Mt} {r : BR} {w : World} {a : Goroutine} {w' : World} {ρ : Role} {σ : Sg} (h : Pr P S V kd hkd bs m0 r w a w' ρ σ) (hl : Relation.TransGen Mt.Lt m0 m) : Pr P S V kd hkd bs m r w a w' ρ σ := by
  cases h with
  | fin h1 h2 h3 h4 h5 => exact .fin h1 h2 h3 h4 h5
  | snd h1 h2 h3 h4 h5 h6 h7 h8 h9 h10 h11 => exact .snd h1 h2 h3 h4 h5 h6 h7 h8 h9 h10 h11
  | chan h1 h2 h3 h4 h5 => exact .chan h1 h2 h3 (fun c => ⟨(h4 c).1.trans hl, (h4 c).2⟩) h5
  | go h1 h2 h3 h4 h0 h5 h6 h7 h8 h9 h10 h11 h12 h13 => exact .go h1 h2 h3 h4 h0 h5 h6 h7 h8 h9 h10 (h11.trans hl) h12 h13
  | recv h1 h2 h3 h4 h5 h6 h7 h8 => exact .recv h1 h2 h3 h4 h5 h6 (fun w1 v1 => ⟨(h7 w1 v1).1.trans hl, (h7 w1 v1).2⟩) h8

omit [Shift] in
theorem FR.refl' (r : BR) (w w' : World) : FR r r w w' w' := FR.refl r w w'
omit [Shift] in
theorem put_bare (bb : Frame) (t : Array Value) (d : Option Tmp) (v : Value) (k : List Item) : bb.at (Act.put ⟨t, []⟩ d v) k = bb.at ⟨putT t d v, []⟩ k := congrArg (fun a => bb.at a k) (put_eq t [] d v)
omit [Shift] in
theorem mem_none {es : Array Event} (h : es = #[]) {Q : Event → Prop} : ∀ e ∈ es, Q e := by subst h; simp

/-- Whatever it comes to. -/
theorem im_res (hP : OkP P S V) {ρ : Role} {m : Mt} {σ : Sg} {fr : Frame} {ct : List Frame} {k : List Item} {cs : List Frame} {w : World} (h : Im P S V ρ m σ fr ct k cs w) (kd : CallKind) (hkd : kd ≠ .early) (hmn : ∀ post, ρ = .main post → kd = .normal) (bs : List Frame) (main : Bool) :
    ∀ {r : BR} {a : Goroutine} {w' : World}, Sit P S V (botK kd hkd k) bs r fr ct cs w a w' → Goes1 P S V kd hkd bs main ρ m σ r w a w' cs ∨ Pr P S V kd hkd bs m r w a w' ρ σ := by
  induction h with
  | @step ρ g σ fr ct k cs w F C W hne hend h1 hI _ =>
    intro r a w' hs
    left
    have hgl := hs.gl
    obtain ⟨fr', ct', cs', rfl, hf, hc, hm⟩ := hs.at_
    obtain ⟨T, hT⟩ := sim_step (P := P) (main := main) (bs := cs' ++ bs) hP hf hc hs.hr hne (by
      cases ct with
      | nil => exact .inr (hend rfl)
      | cons c ct => exact .inl rfl)
    have h2 := h1 T
    obtain ⟨es, hg⟩ := h2.go (retape w T).tape (fun _ _ _ => rfl) true []
    rw [List.append_nil, List.append_nil, onT_self] at hg
    have ew : onT (W T) (retape w T).tape = W T := by rw [← h2.drawn.tape]; rfl
    rw [ew] at hg
    obtain ⟨r1, fr1', cs1', w1', es', k1, k2, k3, k4, k5, k6, k7⟩ := hT _ _ _ _ hg h2.calm
    have hs' : Sit P S V (botK kd hkd k) bs r1 (F T) (C T) cs (W T) (G fr1' (cs1' ++ (cs' ++ bs))) w1' := ⟨⟨fr1', cs1', cs', rfl, k2, k3, hm.mono k6.ext⟩, k4⟩
    exact ⟨_, r1, _, _, _, _, _, _, w1', es', k1, lt_one g _, hI T hs'.gl, hs', k5, k6, k7, fun _ _ _ _ => rfl⟩
  | @shift ρ g σ f t c k cs w hc _ ih =>
    intro r a w' hs
    obtain ⟨t', cs', rfl, tt, hm⟩ := hs.bare
    have hs' : Sit P S V (botK kd hkd k) bs r ((base f).at ⟨t, []⟩ [c]) [] cs w (G ((baseK kd f).at ⟨t', []⟩ (c :: k)) (cs' ++ bs)) w' :=
      ⟨⟨_, [], cs', rfl, FrR.run (b := botK kd hkd k) (k := [c]) tt (fun i hi => by simp at hi; subst hi; exact hc), .nil, hm⟩, hs.hr⟩
    rcases ih hmn hs' with ⟨m1, r1, fr1, ct1, k1, cs1, w1, a1, w1', es, h1, h2, h3⟩ | hp
    · exact .inl ⟨m1, r1, fr1, ct1, k1, cs1, w1, a1, w1', es, h1, h2.trans (lt_one g _), h3⟩
    · exact .inr (hp.up (lt_one g _))
  | @ctl ρ g σ f t k k1 cs w hst hI _ =>
    intro r a w' hs
    left
    obtain ⟨t', cs', rfl, tt, hm⟩ := hs.bare
    exact ⟨_, r, _, _, k1, _, w, _, w', _, hst main kd t' _ w', lt_one g _, hI, Sit.mk_bare tt hm hs.hr, .refl _, .refl _ _ _, (by simp), fun _ _ _ _ => rfl⟩
  | @cond ρ g σ f t c x y q k cs w hx he hI _ =>
    intro r a w' hs
    left
    obtain ⟨t', cs', rfl, tt, hm⟩ := hs.bare
    have hv := ER.of (a := ⟨t, []⟩) (a' := ⟨t', []⟩) tt c hx
    rw [he] at hv
    have he' : Act.eval ⟨t', []⟩ c = .bool q := by generalize Act.eval ⟨t', []⟩ c = u at hv; cases hv; rfl
    exact ⟨_, r, _, _, _, _, w, _, w', _, stepG_cond he', lt_one g _, hI, Sit.mk_bare tt hm hs.hr, .refl _, .refl _ _ _, (by simp), fun _ _ _ _ => rfl⟩
  | @op ρ g σ f t ops i rest o k cs w v W ho hw hok hrun hI _ =>
    intro r a w' hs
    left
    obtain ⟨t', cs', rfl, tt, hm⟩ := hs.bare
    obtain ⟨T, hT⟩ : ∃ T : Tape', T = fun n q => w'.tape (w'.drawn + n) q := ⟨_, rfl⟩
    have hl : HR S r (retape w T) w' := ⟨hs.hr.retape _, fun n q => by
      rw [hT]
      have : ¬ (w.drawn + n < w.drawn) := by omega
      show (if w.drawn + n < w.drawn then w.tape (w.drawn + n) q else w'.tape (w'.drawn + (w.drawn + n - w.drawn)) q) = _
      rw [if_neg this, Nat.add_sub_cancel_left]⟩
    have hwt' : Region.wanted o (yielded ops t') = true := by rw [wanted_rr tt]; exact hw
    obtain ⟨r1, n', w2', l, h1, h2, hn, h4, h5, h6, h7⟩ := sr_exec hP.globals hP.bog hP.okS hok (ER.of (a := ⟨t, []⟩) (a' := ⟨t', []⟩) tt) (retape w T) w' #[] hl _ _ (hrun T)
    have hli : ∀ e ∈ listed P f ⟨t', []⟩ o w', EvS r1 w e := fun e he => by
      unfold listed at he
      rw [h2] at he
      obtain ⟨m1, m2⟩ := mem_seen he
      exact ⟨h7 e (by simpa using m1), m2⟩
    have hI' := hI T
    cases hv : v T with
    | some u =>
      rw [hv] at hn hI'
      cases hn with
      | @value _ u' huv =>
        have hs' : Sit P S V (botK kd hkd (.inRegion ops rest :: k)) bs r1 (bare f (putT t o.dst u)) [] cs (W T) (G ((baseK kd f).at ⟨putT t' o.dst u', []⟩ (.inRegion ops rest :: k)) (cs' ++ bs)) w2' := Sit.mk_bare ((tt.mono h6.ext).put _ huv) (hm.mono h6.ext) h4.toHR0
        refine ⟨_, r1, _, _, _, _, _, _, w2', _, (stepG_value ho hwt' hkd h1).trans (by rw [put_bare]; rfl), lt_one g _, hI' hs'.gl, hs', h5.untape, h6.untape, hli, fun _ _ _ _ => rfl⟩
    | none =>
      rw [hv] at hn hI'
      cases hn with
      | skip =>
        have hs' : Sit P S V (botK kd hkd (.inRegion ops rest :: k)) bs r1 (bare f (putT t o.dst undef)) [] cs (W T) (G ((baseK kd f).at ⟨putT t' o.dst undef, []⟩ (.inRegion ops rest :: k)) (cs' ++ bs)) w2' := Sit.mk_bare ((tt.mono h6.ext).put _ VR.undef) (hm.mono h6.ext) h4.toHR0
        refine ⟨_, r1, _, _, _, _, _, _, w2', _, (stepG_none ho hwt' hkd h1).trans (by rw [put_bare]; rfl), lt_one g _, hI' hs'.gl, hs', h5.untape, h6.untape, hli, fun _ _ _ _ => rfl⟩
  | @draw ρ g σ f t id ops k cs w hI _ =>
    intro r a w' hs
    left
    obtain ⟨t', cs', rfl, tt, hm⟩ := hs.bare
    have key : stepG P main (G ((baseK kd f).at ⟨t', []⟩ (.code (.region id ops true) :: k)) (cs' ++ bs)) w' = .go (G ((baseK kd f).at ⟨t', []⟩ (.inRegion ops (Region.schedule (P.follows .mixedOrders) ops (w'.tape w'.drawn (.order f id))) :: k)) (cs' ++ bs)) { w' with drawn := w'.drawn + 1 } := by
      simp [G, stepG, stepG.exec, Frame.at, baseK, base, choose, Sem.run, Question.forced, Question.cut]
    refine ⟨_, r, _, _, _, _, w, _, _, _, key, lt_one g (.nm (w'.tape w'.drawn (.order f id))), hI _, Sit.mk_bare tt hm ⟨hs.hr.fn, hs.hr.inj, hs.hr.obj, hs.hr.low⟩, .refl _, .of_heap _ rfl rfl rfl rfl, (by simp), fun _ _ _ _ => rfl⟩
  | @enter post g σ f t ops i rest o k cs w h xs fn c ho hw hx hf hb hex hI _ =>
    intro r a w' hs
    left
    obtain ⟨t', cs', rfl, tt, hm⟩ := hs.bare
    obtain rfl := hmn _ rfl
    have hwt' : Region.wanted o (yielded ops t') = true := by rw [wanted_rr tt]; exact hw
    have ha := (ER.of (a := ⟨t, []⟩) (a' := ⟨t', []⟩) tt).all xs hx
    have hrep : RR S r (xs.map (Act.eval ⟨t, []⟩) ++ Array.replicate (fn.ntmps - xs.size) undef) (xs.map (Act.eval ⟨t', []⟩) ++ Array.replicate (fn.ntmps - xs.size) undef) := ha.append (RR.replicate _ VR.undef)
    have hs' : Sit P S V (botK .normal hkd [.code c]) bs r (bare h (xs.map (Act.eval ⟨t, []⟩) ++ Array.replicate (fn.ntmps - xs.size) undef)) [] ((base f).at ⟨t, []⟩ (.inRegion ops (i :: rest) :: k) :: cs) w
        (G ((base h).at ⟨xs.map (Act.eval ⟨t', []⟩) ++ Array.replicate (fn.ntmps - xs.size) undef, []⟩ [.code c]) (((base f).at ⟨t', []⟩ (.inRegion ops (i :: rest) :: k) :: cs') ++ bs)) w' := Sit.mk_bare hrep (.cons tt hm) hs.hr
    refine ⟨_, r, _, _, _, _, w, _, w', listed P f ⟨t', []⟩ o w', ?_, lt_one g .un, hI hs'.gl, hs', .refl _, .refl _ _ _, ?_, fun _ _ _ h => by cases h⟩
    · have e0 := enter_at (P := P) (xs.map (Act.eval ⟨t', []⟩)) hf hb
      rw [Array.size_map] at e0
      rw [← e0]
      exact stepG_enter ho hwt' hkd (hex _ w' #[]).1
    · intro e he
      unfold listed at he
      rw [(hex _ w' #[]).2] at he
      obtain ⟨m1, _⟩ := mem_seen he
      simp at m1
  | @toret post g σ f t k cs w hk hI _ =>
    intro r a w' hs
    left
    obtain ⟨t', cs', rfl, tt, hm⟩ := hs.bare
    obtain rfl := hmn _ rfl
    rcases hk with rfl | ⟨k2, rfl⟩
    · exact ⟨_, r, _, _, [], _, w, _, w', _, by exact stepG_end, lt_one g .un, hI, Sit.mk_bareR (k' := []) tt hm hs.hr, .refl _, .refl _ _ _, (by simp), fun _ _ _ h => by cases h⟩
    · exact ⟨_, r, _, _, [], _, w, _, w', _, by exact stepG_ret', lt_one g .un, hI, Sit.mk_bareR (k' := .code .ret :: k2) tt hm hs.hr, .refl _, .refl _ _ _, (by simp), fun _ _ _ h => by cases h⟩
  | @ret post g σ f t fn v f2 t2 ops i rest o k2 cs w hf hres ho hI _ =>
    intro r a w' hs
    left
    obtain ⟨t', cs', k', rfl, tt, hm⟩ := hs.bareR
    obtain rfl := hmn _ rfl
    cases hm with
    | @cons _ _ t2' _ _ cs2' tt2 hm =>
      have hl : HR S r (retape w fun k q => w'.tape (w'.drawn + k) q) w' := ⟨hs.hr.retape _, fun n q => by
        have : ¬ (w.drawn + n < w.drawn) := by omega
        show (if w.drawn + n < w.drawn then w.tape (w.drawn + n) q else w'.tape (w'.drawn + (w.drawn + n - w.drawn)) q) = _
        rw [if_neg this, Nat.add_sub_cancel_left]⟩
      obtain ⟨r1, v', w2', l, h1, h2, hv, h4, h5, h6, h7⟩ := sr_results fn tt _ w' #[] hl _ _ (hres _)
      have ha : ∀ (es' : Array Event) (g : Goroutine) (w3 : World) (es3 : Array Event), GStep.after es' (.go g w3 es3) = .go g w3 (es' ++ es3) := fun _ _ _ _ => rfl
      have hs' : Sit P S V (botK .normal hkd (.inRegion ops rest :: k2)) bs r1 (bare f2 (putT t2 o.dst v)) [] cs w (G ((base f2).at ⟨putT t2' o.dst v', []⟩ (.inRegion ops rest :: k2)) (cs2' ++ bs)) w2' := Sit.mk_bare ((tt2.mono h6.ext).put _ hv) (hm.mono h6.ext) ⟨h4.fn, h4.inj, h4.obj, h4.low⟩
      refine ⟨_, r1, _, _, _, _, w, _, w2', seen P f ((results fn t').events P w' #[]), ?_, lt_one g .un, hI hs'.gl, hs', .refl _, h6.untape, ?_, fun _ _ _ h => by cases h⟩
      · rw [List.cons_append, stepG_ret_some hf, h1, ha, Frame.finish_at, ho]
        simp only [Option.bind_some, Array.append_empty]
        rw [put_bare]
      · intro e he
        rw [h2] at he
        obtain ⟨m1, m2⟩ := mem_seen he
        exact ⟨h7 e (by simpa using m1), m2⟩
  | @fin post m idle f t fn v w h1 h2 h3 h4 => exact fun hs => .inr (.fin h1 h2 h3 h4 hs)
  | @snd c s spec m σ f t ops i rest o k w x y vs h1 h2 h3 h4 h5 h6 h7 h8 h9 h10 => exact fun hs => .inr (.snd h1 h2 h3 h4 h5 h6 h7 h8 h9 h10 hs)
  | @chan post g ph l f t ops i rest o k cs w h1 h2 h3 h4 _ => exact fun hs => .inr (.chan h1 h2 h3 (fun c => ⟨lt_one g _, h4 c⟩) hs)
  | @go post g σ c spec f t ops i rest o k cs w h xs fn code mk h1 h2 h3 h4 h0 h5 h6 h7 h8 h9 h10 h11 _ _ => exact fun hs => .inr (.go h1 h2 h3 h4 h0 h5 h6 h7 h8 h9 h10 (lt_one g _) h11 hs)
  | @recv post g w0 idle c spec l f t ops i rest o ty x k cs w h1 h2 h3 h4 h5 h6 h7 _ => exact fun hs => .inr (.recv h1 h2 h3 h4 h5 h6 (fun w1 v1 => ⟨lt_one g _, h7 w1 v1⟩) hs)
end
end Go.Proofs.Ytcobehkadhcjiaa

/-
  Goroutines among others: part 12 of what the law's own text rests on.
-/
import Derived.Test.YtcobehkadhcjiaaCc11
import Derived.Conc.CrowdRun
import Derived.StillTail
import Derived.OrdersHeld
/-
  THE CREW: the run.
-/
namespace Go.Proofs.Ytcobehkadhcjiaa
open Go Go.Conc
variable [Shift]

section
variable {P : Program} {S V : FuncId → Bool} {post : Value → World → Prop} {N0 : Nat} {W0 : World} {μ : Mu} {gs : Array Goroutine} {w' : World} {t : Trace} {n q : Nat} {D : Nat → Wk} {Pv : Nat → Nat → Prop} {rf : BR} {σ : Sg} {r : BR} {w : World} {a : Goroutine}

theorem handed {s : Nat} {r r2 : BR} {v v' : Value} (h : VR S r v v') (hs : Slv s v) (h2 : ∀ x b, r x b → x < s → r2 x b) : VR S r2 v v' := by
  cases h with
  | nilSlice n c => exact .nilSlice n c
  | slice n c ar => exact .slice n c ⟨h2 _ _ ar.block hs, ar.off, ar.spot⟩
  | void k e => exact .void (h2 _ _ k hs) e
  | chan c => exact .chan c
  | _ => exact hs.elim

/-- A step of the first's. -/
theorem Crew.first (hP : OkP P S V) (h : Crew P S V post N0 W0 μ gs w' t n q D Pv rf σ r w a) (hrun : a.status = .running) {Q : Value → World → Prop}
    (hQ : ∀ v v' r w w', post v w → VR S r v v' → HR0 S r w w' → (∀ b, b < N0 → w'.heap[b]? = W0.heap[b]?) → N0 ≤ w'.heap.size → w'.os = W0.os → w'.output = W0.output → Q v' w') (sl : Option (Nat × Nat)) :
    Onward P S V post N0 W0 μ (runT P (crowd gs w' sl) 0) t ∨ ∃ o w2 ops, runT P (crowd gs w' sl) 0 = (.ended o w2, ops) ∧ ∀ (w3 : World) (sl3 : Option (Nat × Nat)), Conc.Good P Q (crowd gs w3 sl3) o w2 (t ++ ops) := by
  have hm := h.main
  generalize hμ : μ.1 = E at hm
  cases hm with
  | waits _ => cases hrun
  | @runs _ m fr ct cs k _ hI hs =>
    rcases im_res hP hI .normal (by decide) (fun _ _ => rfl) [] true hs with ⟨m1, r1, fr1, ct1, k1, cs1, w1, a1, w1', es, q1, q2, q3, q4, q5, q6, q7, _⟩ | hp
    · obtain ⟨gs', μ', ops, l1, l2, l3⟩ := h.stepM q1 q6 q5 q7 q4.hr (.runs q3 q4) (e1 := (m1, 1)) (by rw [hμ]; exact .left _ _ q2) (by simp) sl
      exact .inl ⟨_, _, _, μ', _, _, _, _, _, _, _, _, _, _, l1, l2, l3⟩
    · cases hp with
      | @fin _ idle f t0 k fn v hf hi hres hpost hs =>
        right
        obtain ⟨t', cs', k', rfl, tt, hm⟩ := hs.bareR
        cases hm
        have hn : n = q := by have := h.list; simpa using this.symm
        subst hn
        have hl : HR S r (retape w fun k q => w'.tape (w'.drawn + k) q) w' := ⟨hs.hr.retape _, fun n q => by
          have : ¬ (w.drawn + n < w.drawn) := by omega
          show (if w.drawn + n < w.drawn then w.tape (w.drawn + n) q else w'.tape (w'.drawn + (w.drawn + n - w.drawn)) q) = _
          rw [if_neg this, Nat.add_sub_cancel_left]⟩
        obtain ⟨r1, v', w2', l, h1, h2, hv, h4, h5, h6, h7⟩ := sr_results fn tt _ w' #[] hl _ _ (hres _)
        have h6' : FR r r1 w w' w2' := h6.untape
        have hr2 : HR0 S r1 w w2' := ⟨h4.fn, h4.inj, h4.obj, h4.low⟩
        have hend := stepG_fin (P := P) (k := k') hf hi h1
        have hl2 : ∀ e ∈ seen P f ((results fn t').events P w' #[]), EvS r1 w e := fun e he => by
          rw [h2] at he
          obtain ⟨m1, m2⟩ := mem_seen he
          exact ⟨h7 e (by simpa using m1), m2⟩
        have hbase : ∀ b, b < N0 → w2'.heap[b]? = W0.heap[b]? := fun b hb => by
          rw [h6'.old b (Nat.lt_of_lt_of_le hb h.n0) fun x o hx hw => by have := (h.mine hx hw).1; omega]
          exact h.base b hb
        have hact : ∀ op ∈ MemOp.ofEvents 0 f (Frame.place { (Go.Conc.base f).at ⟨t', []⟩ k' with mode := .returning }) (seen P f ((results fn t').events P w' #[])), _ := fun op hop => act_of hl2 hop
        have hA : ∀ k, ¬ (n < k ∧ k ≤ n) := fun k hk => by omega
        have ht := h.ti.own0 (N' := w2'.heap.size) h6'.size (by omega) (fun k b hk => absurd hk (hA k)) (fun b ⟨hne, _⟩ => absurd rfl hne) (fun op hop => (hact op hop).1) (fun op hop x hx hmem => by
          obtain ⟨_, x0, b, hb, hbk, _⟩ := (hact op hop).2.2.1 x hx
          exact ⟨id, b, hbk, .inr ⟨fun k hk => absurd hk (hA k), fun _ ⟨k, hk⟩ => absurd hk (hA k)⟩⟩) (fun op hop => (hact op hop).2.1) (fun op hop => (hact op hop).2.2.2 _ fun x b hx => (hr2.lt hx).2)
        have hpast := ht.past hA
        refine ⟨_, _, _, runT_many_ended (i := 0) h.zero (by simpa using hend), fun w3 sl3 => ⟨v', rfl, hQ v v' r1 w w2' hpost hv hr2 hbase (Nat.le_trans h.n0 h6'.size) (h6'.os.trans h.os) (h6'.output.trans h.output), hpast.clean, hpast.over, ⟨fun g hg => ?_, rfl⟩, fun i g hg hi0 => ?_⟩⟩
        · obtain ⟨j, hj⟩ := List.getElem?_of_mem hg
          rw [List.getElem?_drop] at hj
          have hj' : gs[j + 1]? = some g := by
            rw [← Array.getElem?_toList, Nat.add_comm]
            exact hj
          have hjn : j < n := by have := (Array.getElem?_eq_some_iff.1 hj').1; have := h.size; omega
          obtain ⟨g2, k1, _, k3⟩ := h.gone j hjn
          rw [hj'] at k1
          cases k1
          exact ⟨_, k3.leaves⟩
        · obtain ⟨j, rfl⟩ : ∃ j, i = j + 1 := ⟨i - 1, by omega⟩
          have hg' : gs[j + 1]? = some g := hg
          have hjn : j < n := by have := (Array.getElem?_eq_some_iff.1 hg').1; have := h.size; omega
          obtain ⟨g2, k1, _, k3⟩ := h.gone j hjn
          rw [hg'] at k1
          cases k1
          have hd : Deaf (t ++ MemOp.ofEvents 0 f (Frame.place { (Go.Conc.base f).at ⟨t', []⟩ k' with mode := .returning }) (seen P f ((results fn t').events P w' #[]))) (j + 1) = 0 := by
            rw [Deaf_calm (fun op hop => (hact op hop).2.1)]
            exact h.deaf _
          refine ⟨(D j).e.2, ?_⟩
          have := k3.hears (crowd gs w3 sl3).world 0
          rw [← hd] at this
          exact this.trans (by rw [hd])
      | @chan _ m1 ph l f t0 ops i rest o k cs ho hw hrun' hJ hs =>
        left
        obtain ⟨t', cs', rfl, tt, hm⟩ := hs.bare
        have hwt' : Region.wanted o (yielded ops t') = true := by rw [wanted_rr tt]; exact hw
        have hst := stepG_value (P := P) (main := true) (b := baseK .normal f) (a := ⟨t', []⟩) (k := k) (rest := rest) (cs := cs' ++ []) ho hwt' (by simp [baseK]) (hrun' ⟨t', []⟩ w' #[]).1
        rw [put_bare] at hst
        have hln : listed P (baseK CallKind.normal f).fn ⟨t', []⟩ o w' = #[] := listed_nil (hrun' ⟨t', []⟩ w' #[]).2
        rw [hln] at hst
        obtain ⟨hl, hI'⟩ := hJ w'.heap.size
        obtain ⟨gs', μ', ops', l1, l2, l3⟩ := h.stepC (e1 := (m1 w'.heap.size, 1)) rfl hst (fun hr2 => by
          have hs2 : Sit P S V (botK .normal (by decide) (.inRegion ops rest :: k)) [] r (bare f (putT t0 o.dst (.chan (some w'.heap.size)))) [] cs w (G ((baseK .normal f).at ⟨putT t' o.dst (.chan (some w'.heap.size)), []⟩ (.inRegion ops rest :: k)) (cs' ++ [])) (w'.alloc (.chan 0 #[] false 0 0 false)) := Sit.mk_bare (tt.put _ (.chan _)) hm hr2
          exact .runs (hI' hs2.gl) hs2) (by rw [hμ]; exact .left _ _ hl) (by simp) sl
        exact ⟨_, _, _, μ', _, _, _, _, _, _, _, _, _, _, l1, l2, l3⟩
      | @go _ m1 _ c spec f t0 ops i rest o k cs hh xs fn code mk ho hw hid hf hnm hb hx hex hsl hmv hIw hl hJ hs =>
        left
        obtain ⟨t', cs', rfl, tt, hm⟩ := hs.bare
        have hwt' : Region.wanted o (yielded ops t') = true := by rw [wanted_rr tt]; exact hw
        have hst := stepG_spawn (P := P) (main := true) (b := baseK .normal f) (a := ⟨t', []⟩) (k := k) (rest := rest) (cs := cs' ++ []) ho hwt' (by simp [baseK]) (hex ⟨t', []⟩ w' #[]).1 rfl
        rw [put_bare] at hst
        have hln : listed P (baseK CallKind.normal f).fn ⟨t', []⟩ o w' = #[] := listed_nil (hex ⟨t', []⟩ w' #[]).2
        rw [hln] at hst
        have ha := (ER.of (a := ⟨t0, []⟩) (a' := ⟨t', []⟩) tt).all xs hx
        obtain ⟨gs', μ', D', Pv', rf', ops', l1, l2, l3⟩ := h.stepG_ (e1 := (m1, 1)) (e2 := (mk, 2)) hid hmv hst rfl (fun hr2 => by
          have hs2 : Sit P S V (botK .normal (by decide) (.inRegion ops rest :: k)) [] r (bare f (putT t0 o.dst undef)) [] cs (match σ.ph with | some _ => w | none => frz w) (G ((baseK .normal f).at ⟨putT t' o.dst undef, []⟩ (.inRegion ops rest :: k)) (cs' ++ [])) w' := Sit.mk_bare (tt.put _ VR.undef) hm hr2
          exact .runs (hJ hs2.gl) hs2) (fun r2 hr2 hrw => by
          have hxs : RR S r2 (xs.map (Act.eval ⟨t0, []⟩)) (xs.map (Act.eval ⟨t', []⟩)) := ⟨ha.size, fun j k1 k2 => handed (ha.at_ j k1 k2) (hsl _ (Array.getElem_mem k1)) hr2⟩
          have hs2 : Sit P S V (botK .normal (by decide) []) [] r2 (bare hh (xs.map (Act.eval ⟨t0, []⟩) ++ Array.replicate (fn.ntmps - xs.size) undef)) [] [] (frozenW σ w) _ w' := Sit.mk_bare (cs' := []) (hxs.append (RR.replicate _ VR.undef)) .nil hrw
          refine .born hf hnm hb hxs ?_
          rw [Array.size_map]
          exact hIw hs2.gl) (by rw [hμ]; exact .left _ _ hl) (by simp) sl
        exact ⟨_, _, _, μ', _, _, D', Pv', _, _, _, _, _, _, l1, l2, l3⟩
      | @recv _ m1 w0 idle c spec l f t0 ops i rest o ty x k cs ho hw hop hx hev hex hJ hs =>
        left
        obtain ⟨t', cs', rfl, tt, hm⟩ := hs.bare
        have hwt' : Region.wanted o (yielded ops t') = true := by rw [wanted_rr tt]; exact hw
        have hv := ER.of (a := ⟨t0, []⟩) (a' := ⟨t', []⟩) tt x hx
        rw [hev] at hv
        have hev' : Act.eval ⟨t', []⟩ x = .chan (some c) := by generalize Act.eval ⟨t', []⟩ x = u at hv; cases hv; rfl
        obtain ⟨z, hz⟩ := hex
        have hst := stepG_comm (P := P) (main := true) (b := baseK .normal f) (a := ⟨t', []⟩) (k := k) (rest := rest) (cs := cs' ++ []) ho hwt' (by simp [baseK]) (hz ⟨t', []⟩ w' #[] hev').1
        have hln : listed P (baseK CallKind.normal f).fn ⟨t', []⟩ o w' = #[] := listed_nil (hz ⟨t', []⟩ w' #[] hev').2
        rw [hln] at hst
        refine h.hear rfl hμ hst (fun r1 w1 v1 v' w2' d1 d2 d3 d4 d5 d6 d7 d8 => ?_) sl
        obtain ⟨hl, hI'⟩ := hJ w1 v1
        rw [served_at ho]
        have hs2 := Sit.mk_bare (P := P) (S := S) (V := V) (kd := .normal) (hkd := by decide) (bs := []) (k := .inRegion ops rest :: k) (f := f) ((tt.mono d1).put o.dst d7) (hm.mono d1) d8
        exact ⟨_, _, _, _, _, hl, hI' d2 d3 d4 d5 d6 hs2.gl, hs2⟩
end
end Go.Proofs.Ytcobehkadhcjiaa

/-
  THE CREW: the others' steps; the run to its end.
-/
namespace Go.Proofs.Ytcobehkadhcjiaa
open Go Go.Conc
variable [Shift]

section
variable {P : Program} {S V : FuncId → Bool} {post : Value → World → Prop} {N0 : Nat} {W0 : World} {μ : Mu} {gs : Array Goroutine} {w' : World} {t : Trace} {n q : Nat} {D : Nat → Wk} {Pv : Nat → Nat → Prop} {rf : BR} {σ : Sg} {r : BR} {w : World} {a : Goroutine}

/-- A step of another's. -/
theorem Crew.other (hP : OkP P S V) (h : Crew P S V post N0 W0 μ gs w' t n q D Pv rf σ r w a) {i : Nat} {g : Goroutine} (hg : gs[i + 1]? = some g) (hrun : g.status = .running) (sl : Option (Nat × Nat)) :
    Onward P S V post N0 W0 μ (runT P (crowd gs w' sl) (i + 1)) t := by
  have hin : i < n := by have := (Array.getElem?_eq_some_iff.1 hg).1; have := h.size; omega
  by_cases hi : i < q
  · obtain ⟨gs', μ', D', ops, l1, l2, l3⟩ := h.stepQ hi hg hrun sl
    exact ⟨_, _, _, μ', _, _, D', _, _, _, _, _, _, _, l1, l2, l3⟩
  · have hq : q ≤ i := by omega
    obtain ⟨_, g2, k1, hW⟩ := h.work i hq hin
    rw [hg] at k1
    cases k1
    generalize he : (D i).e = E at hW
    generalize hs0 : ((σ.ph.map fun w0 => w0.heap.size).getD 0) = s0 at hW
    generalize hc0 : (D i).c = c0 at hW
    cases hW with
    | waits _ _ _ _ => cases hrun
    | @born hh fn code xs xs' m hf hn hb hx hI =>
      subst hs0 hc0
      obtain ⟨gs', μ', D', Pv', ops, l1, l2, l3⟩ := h.stepB hq hin hf hn hb hx hI hg he sl
      exact ⟨_, _, _, μ', _, _, D', Pv', _, _, _, _, _, _, l1, l2, l3⟩
    | @runs m fr ct k _ hI hs =>
      rcases im_res hP hI .deferred (by decide) (fun _ hh => by cases hh) [botF P] false hs with ⟨m1, r1, fr1, ct1, k1, cs1, w1, a1, w1', es, q1, q2, q3, q4, q5, q6, q7, q8⟩ | hp
      · have hcs : cs1 = [] := by
          exact q8 _ _ _ rfl
        subst hcs
        subst hs0 hc0
        obtain ⟨gs', μ', D', Pv', ops, l1, l2, l3⟩ := h.stepW hq hin hg q1 q6 q5 q7 q4.hr (e1 := (m1, 1)) (.runs q3 q4) (by rw [he]; exact .left _ _ q2) (by simp) sl
        exact ⟨_, _, _, μ', _, _, D', Pv', _, _, _, _, _, _, l1, l2, l3⟩
      · cases hp with
        | @snd _ _ _ _ f t0 ops i2 rest o k x y vs ho hw hop hx hy hev hev2 hsp hnw hqt hs =>
          obtain ⟨t', cs', rfl, tt, hm⟩ := hs.bare
          cases hm
          have hwt' : Region.wanted o (yielded ops t') = true := by rw [wanted_rr tt]; exact hw
          have hv := ER.of (a := ⟨t0, []⟩) (a' := ⟨t', []⟩) tt x hx
          rw [hev] at hv
          have hev' : Act.eval ⟨t', []⟩ x = .chan (some c0) := by generalize Act.eval ⟨t', []⟩ x = u at hv; cases hv; rfl
          have hv2 := ER.of (a := ⟨t0, []⟩) (a' := ⟨t', []⟩) tt y hy
          rw [hev2] at hv2
          have hr := send_run (P := P) (e := Act.eval ⟨t', []⟩) hop hev' w' #[]
          have hst := stepG_comm (P := P) (main := false) (b := baseK .deferred f) (a := ⟨t', []⟩) (k := k) (rest := rest) (cs := [] ++ [botF P]) ho hwt' (by simp [baseK]) hr.1
          have hln : listed P (baseK CallKind.deferred f).fn ⟨t', []⟩ o w' = #[] := listed_nil hr.2
          rw [hln] at hst
          obtain ⟨qn, hqn⟩ := hqt t'
          subst hc0
          exact h.send hq hin hg he hst hsp (by rw [← hs0] at hnw; exact hnw) hv2 (by rw [served_at ho]; exact hqn) sl

theorem Crew.awake_ (h : Crew P S V post N0 W0 μ gs w' t n q D Pv rf σ r w a) : ∀ g ∈ gs, awake g := fun g hg => by
  obtain ⟨j, hj⟩ := Array.getElem?_of_mem hg
  have hjn : j < n + 1 := by have := (Array.getElem?_eq_some_iff.1 hj).1; have := h.size; omega
  have st : g.status = .running ∨ g.status = .blocked ∨ g.status = .finished := by
    cases j with
    | zero =>
      rw [h.zero] at hj
      cases hj
      have hm := h.main
      generalize μ.1 = e at hm
      cases hm with
      | runs _ k => exact .inl k.running
      | waits _ => exact .inr (.inl rfl)
    | succ i =>
      by_cases hi : i < q
      · obtain ⟨g2, h1, _, h2⟩ := h.gone i hi
        rw [h1] at hj
        cases hj
        exact h2.status.elim .inl fun k => .inr (.inr k)
      · obtain ⟨_, g2, h1, h2⟩ := h.work i (by omega) (by omega)
        rw [h1] at hj
        cases hj
        generalize (D i).e = E at h2
        cases h2 with
        | born _ _ _ _ _ => exact .inl rfl
        | runs _ k => exact .inl k.running
        | waits _ _ _ _ => exact .inr (.inl rfl)
  intro x
  rcases st with k | k | k <;> rw [k] <;> simp

theorem Crew.someone (h : Crew P S V post N0 W0 μ gs w' t n q D Pv rf σ r w a) : ∃ (i : Nat) (g : Goroutine), gs[i]? = some g ∧ g.status = .running := by
  have hm := h.main
  generalize hμ : μ.1 = e at hm
  cases hm with
  | runs _ k => exact ⟨0, a, h.zero, k.running⟩
  | waits _ =>
    obtain ⟨hqn, _⟩ := h.head rfl
    obtain ⟨_, g, h1, h2⟩ := h.work q (Nat.le_refl q) hqn
    refine ⟨q + 1, g, h1, ?_⟩
    have hu := h.up
    generalize (D q).e = E at h2 hu
    cases h2 with
    | born _ _ _ _ _ => rfl
    | runs _ k => exact k.running
    | waits _ _ _ _ => exact absurd ⟨by rw [hμ], rfl⟩ hu

variable (P S V post N0 W0) in
def CInv (μ : Mu) (m : Machine) (t : Trace) : Prop := ∃ gs w' sl n q D Pv rf σ r w a, m = crowd gs w' sl ∧ Crew P S V post N0 W0 μ gs w' t n q D Pv rf σ r w a

/-- THE RUN. -/
theorem crew_runs (hP : OkP P S V) {Q : Value → World → Prop}
    (hQ : ∀ v v' r w w', post v w → VR S r v v' → HR0 S r w w' → (∀ b, b < N0 → w'.heap[b]? = W0.heap[b]?) → N0 ≤ w'.heap.size → w'.os = W0.os → w'.output = W0.output → Q v' w') :
    ∀ μ m t, CInv P S V post N0 W0 μ m t → ∃ n last o w t', runNT P (n + 1) m t = (.ended o w, t') ∧ runN P n m = .next last ∧ step P last = .ended o w ∧ Conc.Good P Q last o w t' := by
  refine run_of_inv mu_wf (CInv P S V post N0 W0) (Conc.Good P Q) fun μ m t ⟨gs, w', sl, n, q, D, Pv, rf, σ, r, w, a, hm, h⟩ => ?_
  subst hm
  obtain ⟨i, g, d, sl', hi, hrun, hst⟩ := crowd_pick (P := P) (w := w') (sl := sl) h.awake_ h.someone
  have h' := h.at d
  have fin : Onward P S V post N0 W0 μ (runT P (crowd gs (w'.at d) sl') i) t → ∃ m' ops μ', stepT P (crowd gs w' sl) = (.next m', ops) ∧ Mu.Lt μ' μ ∧ CInv P S V post N0 W0 μ' m' (t ++ ops) := fun ⟨gs', w2, sl2, μ', n', q', D', Pv', rf', σ', r', w1, a', ops, l1, l2, l3⟩ =>
    ⟨_, ops, μ', hst.trans l1, l2, gs', w2, sl2, n', q', D', Pv', rf', σ', r', w1, a', rfl, l3⟩
  cases i with
  | zero =>
    rw [h.zero] at hi
    cases hi
    rcases h'.first hP hrun hQ sl' with k | ⟨o, w2, ops, l1, l2⟩
    · exact .inr (fin k)
    · exact .inl ⟨o, w2, ops, hst.trans l1, l2 w' sl⟩
  | succ i => exact .inr (fin (h'.other hP hi hrun sl'))
end
end Go.Proofs.Ytcobehkadhcjiaa

/-
  THE CREW: the beginning.
-/
namespace Go.Proofs.Ytcobehkadhcjiaa
open Go Go.Conc
variable [Shift]

section
variable {P : Program} {S V : FuncId → Bool} {post : Value → World → Prop}

/-- A call that is the first's: from its beginning. -/
theorem crew_start {f : FuncId} {fn : Func} {code : Code} (hf : P.funcs[f]? = some fn) (hb : fn.body = some code) {args args' : Array Value} {r : BR} {w W : World} (hx : RR S r args args') (hr : HR0 S r w W) (hn : w.heap.size = Shift.n) {m : Mt}
    (hI : GLc P S V (bare f (args ++ Array.replicate (fn.ntmps - args.size) undef)) [] [] w → Im P S V (.main post) m ⟨none, none, []⟩ (bare f (args ++ Array.replicate (fn.ntmps - args.size) undef)) [] [.code code] [] w) :
    CInv P S V post W.heap.size W ((m, 1), []) (solo (G (Frame.enter P f args' .normal) []) W) #[] := by
  have hs2 : Sit P S V (botK .normal (by decide) [.code code]) [] r (bare f (args ++ Array.replicate (fn.ntmps - args.size) undef)) [] [] w (G ((baseK .normal f).at ⟨args' ++ Array.replicate (fn.ntmps - args.size) undef, []⟩ [.code code]) []) W :=
    Sit.mk_bare (cs' := []) (hx.append (RR.replicate _ VR.undef)) .nil hr
  have ee : Frame.enter P f args' .normal = (baseK .normal f).at ⟨args' ++ Array.replicate (fn.ntmps - args.size) undef, []⟩ [.code code] := by
    rw [enter_at _ hf hb, hx.size]; rfl
  have hA : ∀ k, ¬ (0 < k ∧ k ≤ 0) := fun k hk => by omega
  have hp : Past (fun _ => False) W.heap.size #[] := ⟨fun said => ConcN.noRace_nil said, fun i a ha => by simp [touchAt, Trace.act?] at ha, fun i g hg => by simp [Trace.g?] at hg, rfl, fun op hop => by simp at hop⟩
  refine ⟨#[_], W, none, 0, 0, fun _ => ⟨0, fun _ _ => True, fun _ _ => False, w, (.leaf, 0)⟩, fun _ _ => False, fun _ _ => False, ⟨none, none, []⟩, r, w, _, solo_eq_crowd _ _, {
    size := rfl, list := rfl, at_ := fun i h1 h2 => (by omega), zero := rfl, main := (by rw [ee]; exact .runs (hI hs2.gl) hs2), hr := hr, gone := fun i hi => (by omega), work := fun i h1 h2 => (by omega), up := fun ⟨e, _⟩ => (by simp at e), off := fun _ => rfl,
    phase := fun w0 hw0 => (by cases hw0), chan := fun c hc => ?_, apart := fun i j h1 h2 => (by omega), idle := fun i h1 h2 => (by omega), pv := fun i h1 h2 => (by omega), pvp := fun i j h1 h2 => (by omega), base := fun _ _ => rfl, low := fun x b hx _ => (by have := (hr.lt hx).1; omega),
    n0 := Nat.le_refl _, os := rfl, output := rfl, ti := ?_, deaf := fun _ => rfl, mu := rfl }⟩
  · rcases hc with hc | ⟨i, _, hi, _⟩
    · cases hc
    · omega
  · exact Past.ti hp hA
end
end Go.Proofs.Ytcobehkadhcjiaa

/-
  HOW A TREE OF A PROCESS IS HAD.
-/
namespace Go.Proofs.Ytcobehkadhcjiaa
open Go Go.Conc
variable [Shift]

def MI (P : Program) (S V : FuncId → Bool) (ρ : Role) (σ : Sg) (fr : Frame) (ct : List Frame) (k : List Item) (cs : List Frame) (w : World) : Prop := GLc P S V fr ct cs w → ∃ m, Im P S V ρ m σ fr ct k cs w

section
variable {P : Program} {S V : FuncId → Bool} {ρ : Role} {σ : Sg}

theorem MI.get {fr : Frame} {ct : List Frame} {k : List Item} {cs : List Frame} {w : World} (h : MI P S V ρ σ fr ct k cs w) : ∃ m, GLc P S V fr ct cs w → Im P S V ρ m σ fr ct k cs w := by
  by_cases hg : GLc P S V fr ct cs w
  · obtain ⟨m, hm⟩ := h hg
    exact ⟨m, fun _ => hm⟩
  · exact ⟨.leaf, fun k => absurd k hg⟩
omit [Shift] in
/-- Trees, one for each. -/
theorem pick {α : Type} {Q : α → Mt → Prop} (h : ∀ x, ∃ m, Q x m) : ∃ g : α → Mt, ∀ x, Q x (g x) := Classical.axiomOfChoice h

theorem MI.step {fr : Frame} {ct : List Frame} {k : List Item} {cs : List Frame} {w : World} (F : Tape' → Frame) (C : Tape' → List Frame) (W : Tape' → World) (h1 : fr.mode = .returning → ct ≠ []) (h2 : ct = [] → fr.todo ≠ [] ∧ ∀ k2, fr.todo ≠ .code .ret :: k2)
    (h3 : ∀ T, Step1 P fr ct (retape w T) (F T) (C T) (W T)) (h : ∀ T, MI P S V ρ σ (F T) (C T) k cs (W T)) : MI P S V ρ σ fr ct k cs w := fun _ => by
  obtain ⟨g, hg⟩ := pick fun T => (h T).get
  exact ⟨_, Im.step (g := fun | .tp T => g T | _ => .leaf) F C W h1 h2 h3 hg⟩
theorem MI.ctl {f : FuncId} {t : Array Value} {k k1 : List Item} {cs : List Frame} {w : World} (hst : ∀ main kd t' cs' w', stepG P main (G ((baseK kd f).at ⟨t', []⟩ k) cs') w' = .go (G ((baseK kd f).at ⟨t', []⟩ k1) cs') w')
    (h : MI P S V ρ σ (bare f t) [] k1 cs w) : MI P S V ρ σ (bare f t) [] k cs w := fun hg => by
  obtain ⟨m, hm⟩ := h hg
  exact ⟨_, Im.ctl (g := fun _ => m) hst hm⟩
theorem MI.cond {f : FuncId} {t : Array Value} {c : Operand} {a b : Code} {q : Bool} {k : List Item} {cs : List Frame} {w : World} (hx : okX S c = true) (he : Act.eval ⟨t, []⟩ c = .bool q)
    (h : MI P S V ρ σ (bare f t) [] (.code (if q then a else b) :: k) cs w) : MI P S V ρ σ (bare f t) [] (.code (.cond c a b) :: k) cs w := fun hg => by
  obtain ⟨m, hm⟩ := h hg
  exact ⟨_, Im.cond (g := fun _ => m) hx he hm⟩
theorem MI.op {f : FuncId} {t : Array Value} {ops : Array Oper} {i : Nat} {rest : List Nat} {o : Oper} {k : List Item} {cs : List Frame} {w : World} (v : Tape' → Option Value) (W : Tape' → World) (h1 : ops[i]? = some o) (h2 : Region.wanted o (yielded ops t) = true)
    (h3 : okOp P S o.op = true) (h4 : ∀ T, (execOp (Act.eval ⟨t, []⟩) o).run P (retape w T) = .ok (match v T with | some v => .value v | none => .skip) (W T))
    (h : ∀ T, MI P S V ρ σ (bare f (putT t o.dst ((v T).getD undef))) [] (.inRegion ops rest :: k) cs (W T)) : MI P S V ρ σ (bare f t) [] (.inRegion ops (i :: rest) :: k) cs w := fun _ => by
  obtain ⟨g, hg⟩ := pick fun T => (h T).get
  exact ⟨_, Im.op (g := fun | .tp T => g T | _ => .leaf) v W h1 h2 h3 h4 hg⟩
theorem MI.draw {f : FuncId} {t : Array Value} {id : Nat} {ops : Array Oper} {k : List Item} {cs : List Frame} {w : World}
    (h : ∀ T : Nat, MI P S V ρ σ (bare f t) [] (.inRegion ops (Region.schedule (P.follows .mixedOrders) ops T) :: k) cs w) : MI P S V ρ σ (bare f t) [] (.code (.region id ops true) :: k) cs w := fun hgl => by
  obtain ⟨g, hg⟩ := pick fun T => (h T).get
  exact ⟨_, Im.draw (g := fun | .nm n => g n | _ => .leaf) fun T => hg T hgl⟩
theorem MI.enter {post : Value → World → Prop} {f : FuncId} {t : Array Value} {ops : Array Oper} {i : Nat} {rest : List Nat} {o : Oper} {k : List Item} {cs : List Frame} {w : World} {h : FuncId} {xs : Array Operand} {fn : Func} {c : Code}
    (h1 : ops[i]? = some o) (h2 : Region.wanted o (yielded ops t) = true) (h3 : xs.all (okX S) = true) (h4 : P.funcs[h]? = some fn) (h5 : fn.body = some c)
    (h6 : ∀ (e : Act) (w' : World) es, (execOp e.eval o).run P w' = .ok (.enter h (xs.map e.eval)) w' ∧ (execOp e.eval o).events P w' es = es)
    (hI : MI P S V (.main post) σ (bare h (xs.map (Act.eval ⟨t, []⟩) ++ Array.replicate (fn.ntmps - xs.size) undef)) [] [.code c] ((base f).at ⟨t, []⟩ (.inRegion ops (i :: rest) :: k) :: cs) w) :
    MI P S V (.main post) σ (bare f t) [] (.inRegion ops (i :: rest) :: k) cs w := fun _ => by
  obtain ⟨m, hm⟩ := hI.get
  exact ⟨_, Im.enter (g := fun _ => m) h1 h2 h3 h4 h5 h6 hm⟩
theorem MI.toret {post : Value → World → Prop} {f : FuncId} {t : Array Value} {k : List Item} {cs : List Frame} {w : World} (hk : k = [] ∨ ∃ k2, k = .code .ret :: k2) (h : MI P S V (.main post) σ (bareR f t) [] [] cs w) :
    MI P S V (.main post) σ (bare f t) [] k cs w := fun hg => by
  have : GLc P S V (bareR f t) [] cs w := by
    obtain ⟨r, fr', ct', cs', w', h1, h2, h3, h4⟩ := hg
    have e : ∃ t', RR S r t t' := by
      generalize hq : bare f t = g at h1
      cases h1 with
      | @run f2 t2 t' k2 tt kk =>
        have e2 := congrArg Frame.tmps hq
        simp only [bare, Frame.at, base] at e2
        subst e2
        exact ⟨_, tt⟩
      | ret tt =>
        have e1 := congrArg Frame.mode hq
        simp [bare, Frame.at] at e1
    obtain ⟨t', tt⟩ := e
    exact ⟨r, _, [], cs', w', FrR.ret (k := []) (k' := []) tt, .nil, h3, h4⟩
  obtain ⟨m, hm⟩ := h this
  exact ⟨_, Im.toret (g := fun _ => m) hk hm⟩
theorem MI.ret {post : Value → World → Prop} {f : FuncId} {t : Array Value} {fn : Func} {v : Value} {f2 : FuncId} {t2 : Array Value} {ops : Array Oper} {i : Nat} {rest : List Nat} {o : Oper} {k2 : List Item} {cs : List Frame} {w : World}
    (h1 : P.funcs[f]? = some fn) (h2 : ∀ w0, (results fn t).run P w0 = .ok v w0) (h3 : ops[i]? = some o) (h : MI P S V (.main post) σ (bare f2 (putT t2 o.dst v)) [] (.inRegion ops rest :: k2) cs w) :
    MI P S V (.main post) σ (bareR f t) [] [] ((base f2).at ⟨t2, []⟩ (.inRegion ops (i :: rest) :: k2) :: cs) w := fun _ => by
  obtain ⟨m, hm⟩ := h.get
  exact ⟨_, Im.ret (g := fun _ => m) h1 h2 h3 hm⟩
theorem MI.fin {post : Value → World → Prop} {idle : Option Nat} {f : FuncId} {t : Array Value} {fn : Func} {v : Value} {w : World} (h1 : P.funcs[f]? = some fn) (h2 : P.inits.idxOf? f = none) (h3 : ∀ w0, (results fn t).run P w0 = .ok v w0) (h4 : post v w) :
    MI P S V (.main post) ⟨none, idle, []⟩ (bareR f t) [] [] [] w := fun _ => ⟨.leaf, .fin h1 h2 h3 h4⟩
theorem MI.snd {c s : Nat} {spec : Spec} {f : FuncId} {t : Array Value} {ops : Array Oper} {i : Nat} {rest : List Nat} {o : Oper} {k : List Item} {w : World} {x y : Operand} {vs : Array Value}
    (h1 : ops[i]? = some o) (h2 : Region.wanted o (yielded ops t) = true) (h3 : o.op = .send x y) (h4 : okX S x = true) (h5 : okX S y = true) (h6 : Act.eval ⟨t, []⟩ x = .chan (some c)) (h7 : Act.eval ⟨t, []⟩ y = .agg vs) (h8 : spec w (.agg vs)) (h9 : Nwv s (.agg vs))
    (h10 : ∀ t', ∃ q, QuitsIn P q (G ((baseK .deferred f).at ⟨putT t' o.dst undef, []⟩ (.inRegion ops rest :: k)) [botF P])) : MI P S V (.wk c s spec) σ (bare f t) [] (.inRegion ops (i :: rest) :: k) [] w := fun _ => ⟨.leaf, .snd h1 h2 h3 h4 h5 h6 h7 h8 h9 h10⟩
theorem MI.chan {post : Value → World → Prop} {ph : Option World} {l : List (Nat × Spec)} {f : FuncId} {t : Array Value} {ops : Array Oper} {i : Nat} {rest : List Nat} {o : Oper} {k : List Item} {cs : List Frame} {w : World}
    (h1 : ops[i]? = some o) (h2 : Region.wanted o (yielded ops t) = true)
    (h3 : ∀ (e : Act) (w' : World) es, (execOp e.eval o).run P w' = .ok (.value (.chan (some w'.heap.size))) (w'.alloc (.chan 0 #[] false 0 0 false)) ∧ (execOp e.eval o).events P w' es = es)
    (h : ∀ c, MI P S V (.main post) ⟨ph, some c, l⟩ (bare f (putT t o.dst (.chan (some c)))) [] (.inRegion ops rest :: k) cs w) : MI P S V (.main post) ⟨ph, none, l⟩ (bare f t) [] (.inRegion ops (i :: rest) :: k) cs w := fun _ => by
  obtain ⟨g, hg⟩ := pick fun c => (h c).get
  exact ⟨_, Im.chan (g := fun | .nm c => g c | _ => .leaf) h1 h2 h3 hg⟩
theorem MI.go {post : Value → World → Prop} {c : Nat} {spec : Spec} {f : FuncId} {t : Array Value} {ops : Array Oper} {i : Nat} {rest : List Nat} {o : Oper} {k : List Item} {cs : List Frame} {w : World} {h : FuncId} {xs : Array Operand} {fn : Func} {code : Code}
    (h1 : ops[i]? = some o) (h2 : Region.wanted o (yielded ops t) = true) (h3 : σ.idle = some c) (h4 : P.funcs[h]? = some fn) (h0 : (fn.name == "runtime.NumGoroutine") = false) (h5 : fn.body = some code) (h6 : xs.all (okX S) = true)
    (h7 : ∀ (e : Act) (w' : World) es, (execOp e.eval o).run P w' = .ok (.spawn { target := .fn (.func h) #[], args := xs.map e.eval }) w' ∧ (execOp e.eval o).events P w' es = es)
    (h8 : ∀ v ∈ xs.map (Act.eval ⟨t, []⟩), Slv (frozenW σ w).heap.size v) (h9 : Moves spec)
    (hw : MI P S V (.wk c (frozenW σ w).heap.size spec) ⟨none, none, []⟩ (bare h (xs.map (Act.eval ⟨t, []⟩) ++ Array.replicate (fn.ntmps - xs.size) undef)) [] [.code code] [] (frozenW σ w))
    (hI : MI P S V (.main post) ⟨some (σ.ph.getD w), none, σ.l ++ [(c, spec)]⟩ (bare f (putT t o.dst undef)) [] (.inRegion ops rest :: k) cs (match σ.ph with | some _ => w | none => frz w)) :
    MI P S V (.main post) σ (bare f t) [] (.inRegion ops (i :: rest) :: k) cs w := fun _ => by
  obtain ⟨mk, hk⟩ := hw.get
  obtain ⟨m, hm⟩ := hI.get
  exact ⟨_, Im.go (g := fun _ => m) h1 h2 h3 h4 h0 h5 h6 h7 h8 h9 hk hm⟩
theorem MI.recv {post : Value → World → Prop} {w0 : World} {idle : Option Nat} {c : Nat} {spec : Spec} {l : List (Nat × Spec)} {f : FuncId} {t : Array Value} {ops : Array Oper} {i : Nat} {rest : List Nat} {o : Oper} {ty : TypeId} {x : Operand} {k : List Item} {cs : List Frame} {w : World}
    (h1 : ops[i]? = some o) (h2 : Region.wanted o (yielded ops t) = true) (h3 : o.op = .recv ty x false) (h4 : okX S x = true) (h5 : Act.eval ⟨t, []⟩ x = .chan (some c))
    (h6 : ∃ z, ∀ (e : Act) (w' : World) es, e.eval x = .chan (some c) → (execOp e.eval o).run P w' = .ok (.comm #[rcase c z] true (.recv false)) w' ∧ (execOp e.eval o).events P w' es = es)
    (h : ∀ w1 v1, w.heap.size ≤ w1.heap.size → (∀ a, a < w.heap.size → w1.heap[a]? = w.heap[a]?) → w1.os = w.os → w1.output = w.output → spec w1 v1 ∧ Nwv w.heap.size v1 →
      MI P S V (.main post) ⟨phL w0 l, idle, l⟩ (bare f (putT t o.dst v1)) [] (.inRegion ops rest :: k) cs (wdL w0 w1 l)) :
    MI P S V (.main post) ⟨some w0, idle, (c, spec) :: l⟩ (bare f t) [] (.inRegion ops (i :: rest) :: k) cs w := fun _ => by
  have : ∀ p : World × Value, ∃ m, w.heap.size ≤ p.1.heap.size → (∀ a, a < w.heap.size → p.1.heap[a]? = w.heap[a]?) → p.1.os = w.os → p.1.output = w.output → spec p.1 p.2 ∧ Nwv w.heap.size p.2 →
      GLc P S V (bare f (putT t o.dst p.2)) [] cs (wdL w0 p.1 l) →
      Im P S V (.main post) m ⟨phL w0 l, idle, l⟩ (bare f (putT t o.dst p.2)) [] (.inRegion ops rest :: k) cs (wdL w0 p.1 l) := fun p => by
    by_cases hq : w.heap.size ≤ p.1.heap.size ∧ (∀ a, a < w.heap.size → p.1.heap[a]? = w.heap[a]?) ∧ p.1.os = w.os ∧ p.1.output = w.output ∧ spec p.1 p.2 ∧ Nwv w.heap.size p.2
    · obtain ⟨q1, q2, q3, q4, q5⟩ := hq
      obtain ⟨m, hm⟩ := (h p.1 p.2 q1 q2 q3 q4 q5).get
      exact ⟨m, fun _ _ _ _ _ => hm⟩
    · exact ⟨.leaf, fun q1 q2 q3 q4 q5 => absurd ⟨q1, q2, q3, q4, q5⟩ hq⟩
  obtain ⟨g, hg⟩ := pick this
  exact ⟨_, Im.recv (g := fun | .wv w v => g (w, v) | _ => .leaf) h1 h2 h3 h4 h5 h6 fun w1 v1 q1 q2 q3 q4 q5 => hg (w1, v1) q1 q2 q3 q4 q5⟩
end
end Go.Proofs.Ytcobehkadhcjiaa

/-
  A PIECE OF CODE THAT NOBODY ELSE HAS TO DO WITH: from its walk to a tree.
-/
namespace Go.Proofs.Ytcobehkadhcjiaa
open Go Go.Conc
variable [Shift]

section
variable {P : Program} {S V : FuncId → Bool} {ρ : Role} {σ : Sg} {k : List Item} {cs : List Frame} {Z : Frame → List Frame → World → Prop}

omit [Shift] in
theorem isz_no (hm : ∀ fr ct w, Z fr ct w → fr.mode = .run) {t : Tr} {fr : Frame} {w : World} (h : IsZ P Z t fr [] w) (hr : fr.mode = .returning) : False := by
  generalize hc : ([] : List Frame) = ct at h
  cases h with
  | stop hz => rw [hm _ _ _ hz] at hr; cases hr
  | node F C W h1 _ _ => exact h1 hr hc.symm

theorem isz_mi (hm : ∀ fr ct w, Z fr ct w → fr.mode = .run) (hz : ∀ fr ct w, Z fr ct w → MI P S V ρ σ fr ct k cs w) {t : Tr} {fr : Frame} {ct : List Frame} {w : World} (h : IsZ P Z t fr ct w) : MI P S V ρ σ fr ct k cs w := by
  induction h with
  | stop h => exact hz _ _ _ h
  | @node g fr ct w F C W h1 h2 h3 ih =>
    intro hgl
    refine MI.step F C W h1 (fun hct => ?_) h2 ih hgl
    subst hct
    obtain ⟨r, fr', ct', cs', w', k1, _⟩ := hgl
    have T0 : Tape' := fun _ _ => 0
    obtain ⟨es, hg⟩ := (h2 T0).go (retape w T0).tape (fun _ _ _ => rfl) true []
    cases k1 with
    | @run f t t' k0 tt hk =>
      refine ⟨fun e => ?_, fun k2 e => ?_⟩
      · have e' : k0 = [] := e
        subst e'
        rw [stepG_end] at hg
        simp only [GStep.go.injEq, G, Goroutine.mk.injEq, List.append_nil] at hg
        obtain ⟨⟨e1, e2, _⟩, _⟩ := hg
        have := h3 T0
        rw [← e2] at this
        exact isz_no hm this (by rw [← e1])
      · have e' : k0 = .code .ret :: k2 := e
        subst e'
        rw [stepG_ret'] at hg
        simp only [GStep.go.injEq, G, Goroutine.mk.injEq, List.append_nil] at hg
        obtain ⟨⟨e1, e2, _⟩, _⟩ := hg
        have := h3 T0
        rw [← e2] at this
        exact isz_no hm this (by rw [← e1])
    | ret tt => exact absurd rfl (h1 rfl)

/-- From the walk of a piece. -/
theorem MI.piece (hP : OkP P S V) {f : FuncId} {t : Array Value} {c : Item} {w : World} (hc : okItem P S V c = true)
    (h : ∀ T (b : Frame) (k1 : List Item) (cs1 : List Frame), ∃ e a' w', (e = Exit.normal ∧ a'.defers = [] ∧ ∀ U, MI P S V ρ σ (bare f a'.tmps) [] k cs (onT w' U)) ∧ Arrives P (lone (b.at ⟨t, []⟩ (c :: k1)) cs1 (retape w T)) b k1 cs1 e a' w') : MI P S V ρ σ (bare f t) [] (c :: k) cs w := by
  intro hgl
  have hgl0 : GLc P S V ((base f).at ⟨t, []⟩ [c]) [] cs w ∧ GL P S V ((base f).at ⟨t, []⟩ [c]) [] w := by
    obtain ⟨r, fr', ct', cs', w', h1, h2, h3, h4⟩ := hgl
    have e : ∃ t', RR S r t t' := by
      generalize hq : bare f t = g at h1
      cases h1 with
      | @run f2 t2 t' k2 tt kk =>
        have e2 := congrArg Frame.tmps hq
        simp only [bare, Frame.at, base] at e2
        subst e2
        exact ⟨_, tt⟩
      | ret tt =>
        have e1 := congrArg Frame.mode hq
        simp [bare, Frame.at] at e1
    obtain ⟨t', tt⟩ := e
    have hk : ∀ i ∈ ([c] : List Item), okItem P S V i = true := fun i hi => by simp at hi; subst hi; exact hc
    exact ⟨⟨r, _, [], cs', w', FrR.run (b := Bot.nil) (k := [c]) tt hk, .nil, h3, h4⟩, r, _, [], w', FrR.run (b := Bot.nil) (k := [c]) tt hk, .nil, h4⟩
  let Z : Frame → List Frame → World → Prop := fun fr ct w => ct = [] ∧ ∃ t, fr = bare f t ∧ ∀ U, MI P S V ρ σ (bare f t) [] k cs (onT w U)
  have hzm : ∀ fr ct w, Z fr ct w → fr.mode = .run := fun fr ct w ⟨_, t, e, _⟩ => by rw [e]; rfl
  have hs : Stp Z := ⟨fun fr ct w T ⟨e1, t, e2, h⟩ => ⟨e1, t, e2, fun U => h U⟩, fun fr ct w hz ch e => by rw [hzm fr ct w hz] at e; cases e⟩
  have hr : RunsZ P S V Z ((base f).at ⟨t, []⟩ [c]) [] w := ⟨hgl0.2, fun T => by
    obtain ⟨e, a', w', ⟨rfl, hd, hK⟩, n, hn⟩ := h T (base f) [] ([] ++ [endC])
    obtain ⟨ts, ds⟩ := a'
    simp only at hd
    subst hd
    exact ⟨n, _, [], w', hn, rfl, ts, rfl, hK⟩⟩
  obtain ⟨tr, ht⟩ := tree_of_runsz hP hs hr
  obtain ⟨m, hm⟩ := isz_mi (ρ := ρ) (σ := σ) (k := k) (cs := cs) hzm (fun fr ct w ⟨e1, t, e2, hK⟩ => by
    rw [e1, e2]
    have := hK w.tape
    exact this) ht hgl0.1
  exact ⟨_, Im.shift (g := fun _ => m) hc hm⟩
/-- From the walk of a piece of code. -/
theorem MI.frag (hP : OkP P S V) {f : FuncId} {t : Array Value} {c : Code} {w : World} (hc : okCode P S V c = true)
    (h : ∀ T, c.wp P (fun e a' w' => e = .normal ∧ a'.defers = [] ∧ ∀ U, MI P S V ρ σ (bare f a'.tmps) [] k cs (onT w' U)) ⟨t, []⟩ (retape w T)) : MI P S V ρ σ (bare f t) [] (.code c :: k) cs w :=
  MI.piece hP (c := .code c) hc fun T => h T
/-- .. of what is left of a region. -/
theorem MI.fragR (hP : OkP P S V) {f : FuncId} {t : Array Value} {ops : Array Oper} {rest : List Nat} {w : World} (hc : ops.all (okO P S V) = true)
    (h : ∀ T, wpOps P ops (fun e a' w' => e = .normal ∧ a'.defers = [] ∧ ∀ U, MI P S V ρ σ (bare f a'.tmps) [] k cs (onT w' U)) rest ⟨t, []⟩ (retape w T)) : MI P S V ρ σ (bare f t) [] (.inRegion ops rest :: k) cs w :=
  MI.piece hP (c := .inRegion ops rest) hc fun T => wp_ops _ _ _ (h T)
end
end Go.Proofs.Ytcobehkadhcjiaa

/-
  A REGION THAT DRAWS ITS ORDER: it reads, whatever comes first; and at its end one entry that others have to do with.
-/
namespace Go.Proofs.Ytcobehkadhcjiaa
open Go Go.Conc
variable [Shift]

section
variable {ops : Array Oper} {md : Region.Mode}
omit [Shift] in
theorem go_cons (fuel u : Nat) (listed : Array Bool) : Region.linearise.go md ops (fuel + 1) u listed [] = match (Region.ready md ops listed)[u % (Region.ready md ops listed).length]? with
    | some i => i :: Region.linearise.go md ops fuel (u / (Region.ready md ops listed).length) (listed.setIfInBounds i true) []
    | none => [] := by
  simp only [Region.linearise.go]
  change (match (Region.ready md ops listed)[u % (Region.ready md ops listed).length]? with
      | some i => Region.linearise.go md ops fuel (u / (Region.ready md ops listed).length) (listed.setIfInBounds i true) [i]
      | none => [].reverse) = _
  cases (Region.ready md ops listed)[u % (Region.ready md ops listed).length]? with
  | none => rfl
  | some i => simp only []; rw [linearise_go_acc]; simp
omit [Shift] in
theorem go_nil (fuel u : Nat) (listed : Array Bool) (h : Region.ready md ops listed = []) : Region.linearise.go md ops fuel u listed [] = [] := by
  cases fuel with
  | zero => simp [Region.linearise.go]
  | succ fuel => rw [go_cons, h]; simp

/-- What comes up, so far. -/
structure Up (md : Region.Mode) (ops : Array Oper) (n : Nat) (listed : Array Bool) : Prop where
  size : listed.size = n + 1
  closed : ∀ j oj, ops[j]? = some oj → listed.getD j false = true → ∀ e ∈ oj.after, Region.binds md e = true → listed.getD e.on false = true
  last : listed.getD n true = false
def leftN (n : Nat) (listed : Array Bool) : Nat := ConcN.sumTo (n + 1) fun a => if listed.getD a true then 0 else 1

variable {n : Nat} {listed : Array Bool}
omit [Shift] in
theorem Up.sink (h : Up md ops n listed) (hs : Region.sinkB md ops n = true) (hn : n ∈ Region.ready md ops listed) : ∀ d i, n - i ≤ d → i < n → listed.getD i false = true := by
  obtain ⟨_, on, hon, hall⟩ := mem_ready.1 hn
  intro d
  induction d with
  | zero => intro i h1 h2; omega
  | succ d ih =>
    intro i h1 h2
    have := List.all_eq_true.1 hs i (List.mem_range.2 h2)
    obtain ⟨j, hj, hw⟩ := List.any_eq_true.1 this
    simp only [Bool.and_eq_true, decide_eq_true_eq] at hw
    have hjn := List.mem_range.1 hj
    obtain ⟨oj, hoj, e, he, hb, rfl⟩ := Region.waitsFor_spec hw.2
    by_cases e1 : j = n
    · subst e1
      obtain rfl : on = oj := Option.some.inj (hon.symm.trans hoj)
      exact hall e he hb
    · exact h.closed j oj hoj (ih j (by omega) (by omega)) e he hb
omit [Shift] in
theorem Up.done (h : Up md ops n listed) (hz : ops.size = n + 1) (hs : Region.sinkB md ops n = true) (hn : n ∈ Region.ready md ops listed) : Region.ready md ops (listed.setIfInBounds n true) = [] := by
  apply List.eq_nil_iff_forall_not_mem.2
  intro j hj
  obtain ⟨h0, o, ho, _⟩ := mem_ready.1 hj
  have hjn : j < n + 1 := by have := (Array.getElem?_eq_some_iff.1 ho).1; omega
  by_cases e : j = n
  · subst e
    have : j < listed.size := by have := h.size; omega
    simp [this] at h0
  · rw [getD_set_ne true (by omega)] at h0
    have h1 := h.sink hs hn n j (by omega) (by omega)
    have h2 := getD_both h0
    rw [h1] at h2
    cases h2
omit [Shift] in
theorem Up.set (h : Up md ops n listed) {i : Nat} (hi : i ∈ Region.ready md ops listed) (hne : i ≠ n) : Up md ops n (listed.setIfInBounds i true) := by
  obtain ⟨_, o, ho, hall⟩ := mem_ready.1 hi
  refine ⟨by simp [h.size], fun j oj hj hl e he hb => ?_, by rw [getD_set_ne true hne]; exact h.last⟩
  by_cases e1 : i = j
  · subst e1
    obtain rfl : o = oj := Option.some.inj (ho.symm.trans hj)
    exact getD_set_true (hall e he hb)
  · rw [getD_set_ne false e1] at hl
    exact getD_set_true (h.closed j oj hj hl e he hb)
omit [Shift] in
theorem leftN_set (h : listed.size = n + 1) {i : Nat} (hi : listed.getD i true = false) : leftN n (listed.setIfInBounds i true) + 1 = leftN n listed := by
  have hin : i < listed.size := by
    rcases Nat.lt_or_ge i listed.size with k | k
    · exact k
    · simp [Array.getElem?_eq_none k] at hi
  have e := ConcN.sumTo_upd (fun a => listed.getD a true) true (fun b : Bool => if b then 0 else 1) (i := i) (j := n + 1) (by omega)
  have e2 : (fun a => (fun b : Bool => if b then 0 else 1) (ConcN.upd (fun a => listed.getD a true) i true a)) = fun a => if (listed.setIfInBounds i true).getD a true then 0 else 1 := by
    funext a
    by_cases ha : a = i
    · subst ha; simp [ConcN.upd, hin]
    · rw [ConcN.upd_ne _ _ ha, getD_set_ne true (fun e => ha e.symm)]
  rw [e2, hi] at e
  simpa [leftN] using e
omit [Shift] in
/-- Something may come up. -/
theorem Up.any (h : Up md ops n listed) (hz : ops.size = n + 1) (hd : ∀ i o, ops[i]? = some o → ∀ e ∈ o.after, Region.binds md e = true → e.on < i) : Region.ready md ops listed ≠ [] := by
  have key : ∀ d i, i < d → i < n + 1 → listed.getD i true = false → ∃ j, j ∈ Region.ready md ops listed := by
    intro d
    induction d with
    | zero => intro i hi; omega
    | succ d ih =>
      intro i hi hin hl
      obtain ⟨o, ho⟩ : ∃ o, ops[i]? = some o := ⟨ops[i], by simp [hz, hin]⟩
      by_cases hall : ∀ e ∈ o.after, Region.binds md e = true → listed.getD e.on false = true
      · exact ⟨i, mem_ready.2 ⟨hl, o, ho, hall⟩⟩
      · simp only [Classical.not_forall] at hall
        obtain ⟨e, he, hb, hn⟩ := hall
        have hlt := hd i o ho e he hb
        have : e.on < listed.size := by rw [h.size]; omega
        exact ih e.on (by omega) (by omega) (getD_in this (by simpa using hn))
  obtain ⟨j, hj⟩ := key (n + 1) n (by omega) (by omega) h.last
  intro e
  rw [e] at hj
  cases hj
end

section
variable {P : Program} {S V : FuncId → Bool} {ρ : Role} {σ : Sg} {k : List Item} {cs : List Frame}

omit [Shift] in
theorem retape_on (w : World) (X T : Tape') : retape (onT w X) T = onT w (retape (onT w X) T).tape := rfl
omit [Shift] in
theorem put_get {t : Array Value} {d s : Nat} {v : Value} (hd : d < t.size) : (putT t (some d) v)[s]? = if s = d then some v else t[s]? := by
  show (t.setIfInBounds d v)[s]? = _
  rw [Array.getElem?_setIfInBounds]
  by_cases e : d = s
  · subst e; simp [hd]
  · rw [if_neg e, if_neg (fun h => e h.symm)]

theorem MI.draw_reads (hm : P.follows .mixedOrders = true) {id n : Nat} {ops : Array Oper} {f : FuncId} {t : Array Value} {w : World} (hz : ops.size = n + 1) (hs : Region.sinkB .any ops n = true)
    (hd : ∀ i o, ops[i]? = some o → ∀ e ∈ o.after, Region.binds .any e = true → e.on < i) (vals : Nat → Value) (dst : Nat → Tmp)
    (ho : ∀ i, i < n → ∃ o, ops[i]? = some o ∧ o.dst = some (dst i) ∧ o.guard = none ∧ okOp P S o.op = true)
    (hinj : ∀ i j, i < n → j < n → dst i = dst j → i = j) (hds : ∀ i, i < n → dst i < t.size)
    (hrun : ∀ i, i < n → ∀ o, ops[i]? = some o → ∀ t' : Array Value, t'.size = t.size → (∀ s, (∀ j, j < n → dst j ≠ s) → t'[s]? = t[s]?) → (∀ j, j < n → Region.waitsFor .any ops i j = true → t'[dst j]? = some (vals j)) →
      ∀ X, (execOp (Act.eval ⟨t', []⟩) o).run P (onT w X) = .ok (.value (vals i)) (onT w X))
    (hgo : ∀ (t' : Array Value) X, t'.size = t.size → (∀ s, (∀ j, j < n → dst j ≠ s) → t'[s]? = t[s]?) → (∀ j, j < n → t'[dst j]? = some (vals j)) → MI P S V ρ σ (bare f t') [] (.inRegion ops [n] :: k) cs (onT w X)) :
    MI P S V ρ σ (bare f t) [] (.code (.region id ops true) :: k) cs w := by
  refine MI.draw fun T => ?_
  have key : ∀ fuel u listed (t' : Array Value) X, Up .any ops n listed → leftN n listed ≤ fuel → t'.size = t.size → (∀ s, (∀ j, j < n → dst j ≠ s) → t'[s]? = t[s]?) → (∀ j, j < n → listed.getD j false = true → t'[dst j]? = some (vals j)) →
      MI P S V ρ σ (bare f t') [] (.inRegion ops (Region.linearise.go .any ops fuel u listed []) :: k) cs (onT w X) := by
    intro fuel
    induction fuel with
    | zero =>
      intro u listed t' X h1 h2
      have h6 := ConcN.le_sumTo (f := fun a => if listed.getD a true then 0 else 1) (i := n) (j := n + 1) (by omega)
      have h7 : (if listed.getD n true then 0 else 1) = 1 := by rw [h1.last]; rfl
      have h8 : leftN n listed = ConcN.sumTo (n + 1) fun a => if listed.getD a true then 0 else 1 := rfl
      rw [← h8] at h6
      rw [h7] at h6
      omega
    | succ fuel ih =>
      intro u listed t' X h1 h2 h3 h4 h5
      rw [go_cons]
      have hne := h1.any hz hd
      cases hi : (Region.ready .any ops listed)[u % (Region.ready .any ops listed).length]? with
      | none =>
        have hlt : u % (Region.ready .any ops listed).length < (Region.ready .any ops listed).length := Nat.mod_lt _ (List.length_pos_iff.2 hne)
        rw [List.getElem?_eq_none_iff] at hi
        omega
      | some i =>
        have hmem := List.mem_of_getElem? hi
        simp only []
        by_cases e : i = n
        · subst e
          rw [go_nil _ _ _ (h1.done hz hs hmem)]
          exact hgo t' X h3 h4 fun j hj => h5 j hj (h1.sink hs hmem i j (by omega) hj)
        · obtain ⟨hl, oi, hoi, hall⟩ := mem_ready.1 hmem
          have hin : i < n := by have := (Array.getElem?_eq_some_iff.1 hoi).1; omega
          obtain ⟨o, q1, q2, q3, q4⟩ := ho i hin
          obtain rfl : oi = o := Option.some.inj (hoi.symm.trans q1)
          have hw : Region.wanted oi (yielded ops t') = true := by simp [Region.wanted, q3]
          have dep : ∀ j, j < n → Region.waitsFor .any ops i j = true → t'[dst j]? = some (vals j) := fun j hj hwj => by
            obtain ⟨oj, r1, ed, r2, r3, rfl⟩ := Region.waitsFor_spec hwj
            obtain rfl : oi = oj := Option.some.inj (hoi.symm.trans r1)
            exact h5 _ hj (hall ed r2 r3)
          refine MI.op (fun _ => some (vals i)) (fun T => retape (onT w X) T) hoi hw q4 (fun T => ?_) fun T => ?_
          · rw [retape_on]
            exact hrun i hin oi hoi t' h3 h4 dep _
          · rw [retape_on, q2]
            simp only [Option.getD_some]
            have hdi : dst i < t'.size := by rw [h3]; exact hds i hin
            refine ih _ _ _ _ (h1.set hmem e) (by have := leftN_set h1.size hl; omega) (by rw [← h3]; simp [putT, Act.put]) (fun s hs' => ?_) (fun j hj hlj => ?_)
            · rw [put_get hdi, if_neg (fun e => hs' i hin e.symm)]
              exact h4 s hs'
            · rw [put_get hdi]
              by_cases e2 : dst j = dst i
              · rw [if_pos e2, hinj j i hj hin e2]
              · rw [if_neg e2]
                exact h5 j hj (by rw [getD_set_ne false (fun e3 => e2 (by rw [e3]))] at hlj; exact hlj)
  have e0 : Region.schedule (P.follows .mixedOrders) ops T = Region.linearise.go .any ops ops.size T (Array.replicate ops.size false) [] := by
    simp only [Region.schedule, hm, Bool.true_or, if_true]
    rfl
  rw [e0]
  have := key ops.size T (Array.replicate ops.size false) t w.tape ⟨by simp [hz], fun j oj hj hl => ?_, by simp [hz]⟩ ?_ rfl (fun _ _ => rfl) (fun j hj hl => ?_)
  · exact this
  · have hjn := (Array.getElem?_eq_some_iff.1 hj).1
    simp [hjn] at hl
  · have : ConcN.sumTo (n + 1) (fun a => if (Array.replicate ops.size false).getD a true then 0 else 1) ≤ 1 * (n + 1) := ConcN.sumTo_le fun i _ => by split <;> omega
    simp only [leftN]
    omega
  · have hjn : j < ops.size := by omega
    simp [hjn] at hl
end
end Go.Proofs.Ytcobehkadhcjiaa

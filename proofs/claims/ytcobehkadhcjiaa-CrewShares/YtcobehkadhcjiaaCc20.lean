/-
  Goroutines among others: part 20 of what the law's own text rests on.
-/
import Derived.Test.YtcobehkadhcjiaaCc19
import Derived.Conc.CrowdRun
/-
  THE CREW beside sync.WaitGroup: the run to its end, whatever the schedule.
-/
namespace Go.Proofs.Ytcobehkadhcjiaa
open Go Go.Conc Go.ConcN Go.Conc.Lib
open Go.ConcR (KK WgAt wgBlock stA smA Payload DC0 Bk rd wr mk)
variable [Shift] [Payload]

section
variable {P : Program} {L : WgLink} {S V : FuncId → Bool} {post : Value → World → Prop} {Wg : Nat} {R : Bool → Nat} {r r1 : BR} {w w' w1 w2 : World}
variable {N0 : Nat} {W0 : World} {μ : Mj} {gs : Array Goroutine} {t : Trace} {n q : Nat} {D : Nat → Dj} {Pv Rb : Nat → Nat → Prop} {Gs : Nat → Prop} {p0 : Nat} {st sm st' sm' : Int} {tag tag1 : CTag} {d0 d1 : Nat} {σ σ1 : Sj} {a : Goroutine}

theorem Cj.at (h : Cj P L S V post N0 W0 μ gs w' t n q D Pv Rb Gs Wg R p0 st sm tag d0 σ r w a) (d : Nat) : Cj P L S V post N0 W0 μ gs (w'.at d) t n q D Pv Rb Gs Wg R p0 st sm tag d0 σ r w a := by
  have e : ∀ b, b < w'.heap.size → ¬ False → (w'.at d).heap[b]? = w'.heap[b]? := fun _ _ _ => rfl
  have hr2 := h.hr.else_ e fun _ _ _ => id
  have he : Eff L.tWg Wg R (fun _ => False) none w' (w'.at d) := ⟨fun _ _ _ _ _ => rfl, id, fun z c y f hc => ⟨c, hc, rfl, fun _ _ => rfl⟩, Nat.le_refl _, rfl, rfl⟩
  exact {
    size := h.size, list := h.list, zero := h.zero, main := h.main.rely hr2 id, hr := hr2, gone := h.gone,
    work := fun j k1 k2 => (by
      obtain ⟨rw, g, l1, l2, l3, l4, l5⟩ := h.work j k1 k2
      have hj := l3.else_ e fun _ _ _ => id
      exact ⟨rw, g, l1, l2, hj, l4.else_ hj (fun z => he.cell (h.rowsOk l1 z) (by simp)) (he.rw_ (h.rowsOk l1 true) (by simp)), l5⟩),
    wg := h.wg, nowg := h.nowg, norows := h.norows, rows := fun rw hrw => (by
      obtain ⟨k, k2⟩ := h.rows rw hrw
      exact ⟨{ rel := k.rel, n0 := k.n0, gs := k.gs, row := k.row, ne := k.ne, pos := k.pos, few := k.few, ety := k.ety, low := k.low }, k2⟩), hid := h.hid, gsN := h.gsN, pv := h.pv, pvp := h.pvp, rb := h.rb, base := h.base, low := h.low, n0 := h.n0, os := h.os, output := h.output, jt := h.jt,
    deaf0 := h.deaf0, deafW := h.deafW, rel := h.rel, nrel := h.nrel, p0le := h.p0le, need := h.need, mu := h.mu }

theorem Cj.awake_ (h : Cj P L S V post N0 W0 μ gs w' t n q D Pv Rb Gs Wg R p0 st sm tag d0 σ r w a) : ∀ g ∈ gs, awake g := fun g hg => by
  obtain ⟨j, hj⟩ := Array.getElem?_of_mem hg
  have hjn : j < n + 1 := by have := (Array.getElem?_eq_some_iff.1 hj).1; have := h.size; omega
  have st : g.status = .running ∨ g.status = .blocked ∨ g.status = .finished := by
    cases j with
    | zero =>
      rw [h.zero] at hj
      cases hj
      rcases h.main.status h.hr with ⟨k, _⟩ | ⟨k, _⟩
      · exact .inl k
      · exact .inr (.inl k)
    | succ i =>
      by_cases hi : i < q
      · obtain ⟨g2, h1, _, h2⟩ := h.gone i hi
        rw [h1] at hj
        cases hj
        exact h2.status.elim .inl fun k => .inr (.inr k)
      · obtain ⟨rw, g2, _, h1, _, h2, _⟩ := h.work i (by omega) (by omega)
        rw [h1] at hj
        cases hj
        exact h2.status.elim .inl fun k => .inr (.inr k)
  intro x
  rcases st with k | k | k <;> rw [k] <;> simp

theorem WAj.running {c : Wc} {e : Ej} {wd : WD} {g : Goroutine} (h : WAj P L S V Wg R c r w w' e wd g) (hs : wd.stage ≠ 1) : g.status = .running := by
  cases h with
  | born _ _ h3 _ => exact h3
  | runs _ h2 _ => exact h2.running
  | ends _ _ _ _ _ h6 _ _ =>
    cases h6 with
    | r0 h => exact Goes.running (fun _ _ x => x.1) w' (RW.refl w') h
    | k1 h => exact Goes.running (fun _ _ x => x.1) w' (RW.refl w') h
    | d1 h => exact Goes.running (fun _ _ x => x.1) w' (RW.refl w') h
    | d2 h => exact Goes.running (fun _ _ x => x.1) w' (RW.refl w') h
    | d3 h => exact Goes.running (fun _ _ x => x.1) w' (RW.refl w') h
    | d4 h => exact Goes.running (fun _ _ x => x.1) w' (RW.refl w') h
    | quit h => exact absurd rfl hs

theorem Cj.someone (h : Cj P L S V post N0 W0 μ gs w' t n q D Pv Rb Gs Wg R p0 st sm tag d0 σ r w a) : ∃ (i : Nat) (g : Goroutine), gs[i]? = some g ∧ g.status = .running := by
  rcases h.main.status h.hr with ⟨k, _⟩ | ⟨_, rfl⟩
  · exact ⟨0, a, h.zero, k⟩
  · have hm := h.main
    obtain ⟨wg, hwg⟩ : ∃ wg, σ.wg = some wg := by
      generalize μ.1 = M at hm
      generalize μ.2.2 = F at hm
      cases hm with
      | waits => exact ⟨_, rfl⟩
    obtain ⟨_, _, _, g4⟩ := h.wg wg hwg
    have key : ∃ i, i < n - q ∧ (D (q + i)).wd.stage ≠ 1 := by
      cases g4 with
      | opn m1 _ _ => exact m1.elim
      | reg m1 m2 m3 =>
        by_cases hall : ∀ i, i < n - q → (D (q + i)).wd.stage = 1
        · exfalso
          have : (Vc (n - q) fun i => (D (q + i)).wd) ≤ 0 * (n - q) := sumTo_le fun i hi => by simp [cnt, hall i hi]
          omega
        · have := Classical.not_forall.1 hall
          obtain ⟨i, hi⟩ := this
          exact ⟨i, (Classical.not_imp.1 hi).1, (Classical.not_imp.1 hi).2⟩
      | last K m1 m2 m3 m4 => exact ⟨K, m2, fun e => by omega⟩
      | fin m1 _ => exact m1.elim
    obtain ⟨i, hi, hs⟩ := key
    obtain ⟨rw, g, _, l2, _, l4, _⟩ := h.work (q + i) (by omega) (by omega)
    exact ⟨q + i + 1, g, l2, l4.running hs⟩

variable (P L S V post N0 W0) in
def CInvJ (μ : Mj) (m : Machine) (t : Trace) : Prop := ∃ gs w' sl n q D Pv Rb Gs Wg R p0 st sm tag d0 σ r w a, m = crowd gs w' sl ∧ Cj P L S V post N0 W0 μ gs w' t n q D Pv Rb Gs Wg R p0 st sm tag d0 σ r w a

/-- THE RUN. -/
theorem crewj_runs (hP : OkP P S V) (H : WgLib P L) {Q : Value → World → Prop}
    (hQ : ∀ v v' r w w', post v w → VR S r v v' → HR0 S r w w' → (∀ b, b < N0 → w'.heap[b]? = W0.heap[b]?) → N0 ≤ w'.heap.size → w'.os = W0.os → w'.output = W0.output → Q v' w') :
    ∀ μ m t, CInvJ P L S V post N0 W0 μ m t → ∃ n last o w t', runNT P (n + 1) m t = (.ended o w, t') ∧ runN P n m = .next last ∧ step P last = .ended o w ∧ Conc.Good P Q last o w t' := by
  refine run_of_inv mj_wf (CInvJ P L S V post N0 W0) (Conc.Good P Q) fun μ m t ⟨gs, w', sl, n, q, D, Pv, Rb, Gs, Wg, R, p0, st, sm, tag, d0, σ, r, w, a, hm, h⟩ => ?_
  subst hm
  obtain ⟨i, g, d, sl', hi, hrun, hst⟩ := crowd_pick (P := P) (w := w') (sl := sl) h.awake_ h.someone
  have h' := h.at d
  have fin : OnJ P L S V post N0 W0 μ (runT P (crowd gs (w'.at d) sl') i) t → ∃ m' ops μ', stepT P (crowd gs w' sl) = (.next m', ops) ∧ Mj.Lt μ' μ ∧ CInvJ P L S V post N0 W0 μ' m' (t ++ ops) := fun ⟨gs', w2, sl2, μ', n', q', D', Pv', Rb', Gs', Wg', R', p', st', sm', tag', d', σ', r', w1, a', ops, l1, l2, l3⟩ =>
    ⟨_, ops, μ', hst.trans l1, l2, gs', w2, sl2, n', q', D', Pv', Rb', Gs', Wg', R', p', st', sm', tag', d', σ', r', w1, a', rfl, l3⟩
  cases i with
  | zero =>
    rw [h.zero] at hi
    cases hi
    rcases h'.first hP H hrun hQ sl' with k | ⟨o, w2, ops, l1, l2⟩
    · exact .inr (fin k)
    · exact .inl ⟨o, w2, ops, hst.trans l1, l2 w' sl⟩
  | succ i => exact .inr (fin (h'.other hP hi hrun sl'))

/-- A call that is the first's: from its beginning. -/
theorem crewj_start {f : FuncId} {fn : Func} {code : Code} (hf : P.funcs[f]? = some fn) (hb : fn.body = some code) {args args' : Array Value} {r : BR} {w W : World} (hx : RR S r args args') (hr : HR0 S r w W) (hn : w.heap.size = Shift.n) {b : Bool} {m : Mt}
    (hI : GLc P S V (bare f (args ++ Array.replicate (fn.ntmps - args.size) undef)) [] [] w → Jm P L S V b (.main post ⟨none, false, none, []⟩) m (bare f (args ++ Array.replicate (fn.ntmps - args.size) undef)) [] [.code code] [] w) :
    CInvJ P L S V post W.heap.size W ((m, 0), [], 0) (solo (G (Frame.enter P f args' .normal) []) W) #[] := by
  have hs2 : Sit P S V (botD [] .normal (by decide) [.code code]) [] r (bare f (args ++ Array.replicate (fn.ntmps - args.size) undef)) [] [] w (G ((baseK .normal f).at ⟨args' ++ Array.replicate (fn.ntmps - args.size) undef, []⟩ [.code code]) []) W :=
    Sit.mkD (cs' := []) (hx.append (RR.replicate _ VR.undef)) .nil hr
  have ee : Frame.enter P f args' .normal = (baseK .normal f).at ⟨args' ++ Array.replicate (fn.ntmps - args.size) undef, []⟩ [.code code] := by
    rw [enter_at _ hf hb, hx.size]; rfl
  have hjt : JT (fun _ => False) (OwnF (fun _ _ => False) 0 0 fun _ => 0) (RdF fun _ _ => False) #[] 0 0 W.heap.size :=
    ⟨⟨fun i op x hi => by simp at hi, fun k k1 kj => by omega, fun k k1 kj => by omega, fun l _ _ i a ha => by simp [touchAt, Trace.act?] at ha, fun l _ _ i a ha => by simp [touchAt, Trace.act?] at ha, fun said => ConcN.noRace_nil said, fun i op hi => by simp at hi⟩,
      fun op hop => by simp at hop, fun i a ha => by simp [touchAt, Trace.act?] at ha, fun i g hg => by simp [Trace.g?] at hg⟩
  have hmj : MAj P L S V post 0 r w W ⟨none, false, none, []⟩ (.sp 0 (if (⟨none, false, none, []⟩ : Sj).pend then 2 else 5)) 0 (m, 0) 0 _ := .runs (hI hs2.gl) hs2
  refine ⟨#[_], W, none, 0, 0, fun _ => ⟨0, fun _ _ => True, fun _ _ => False, w, (.leaf, 0, 0), ⟨1, 0, 0⟩⟩, fun _ _ => False, fun _ _ => False, fun _ => False, 0, fun _ => 0, 0, 0, 0, .sp 0 5, 0, ⟨none, false, none, []⟩, r, w, _, solo_eq_crowd _ _, {
    size := rfl, list := rfl, zero := rfl, main := (by rw [ee]; exact hmj), hr := hr, gone := fun i hi => (by omega), work := fun i h1 h2 => (by omega), wg := fun b hb => (by cases hb), nowg := fun _ => rfl, norows := fun _ => rfl, rows := fun rw hrw => (by cases hrw),
    hid := fun x b hx hh => (hh.elim False.elim fun k => absurd rfl k.1), gsN := fun b hb => hb.elim, pv := fun k b hb => hb.elim, pvp := fun _ _ _ hb => hb.elim, rb := fun k b hb => hb.elim, base := fun _ _ => rfl, low := fun x b hx _ => (by have := (hr.lt hx).1; omega),
    n0 := Nat.le_refl _, os := rfl, output := rfl, jt := hjt, deaf0 := rfl, deafW := fun i hi => (by omega), rel := fun i h1 h2 => (by omega), nrel := fun i _ => (by simp [Trace.act?]), p0le := Nat.le_refl _, need := (by simp [Ytcobehkadhcjiaa.need]), mu := rfl }⟩
end
end Go.Proofs.Ytcobehkadhcjiaa

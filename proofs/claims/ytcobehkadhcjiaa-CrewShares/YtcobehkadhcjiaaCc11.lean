/-
  Goroutines among others: part 11 of what the law's own text rests on.
-/
import Derived.Test.YtcobehkadhcjiaaCc10
/-
  THE CREW: who leaves; who is born; who waits.
-/
namespace Go.Proofs.Ytcobehkadhcjiaa
open Go Go.Conc
variable [Shift]

section
variable {P : Program} {S V : FuncId → Bool} {post : Value → World → Prop} {N0 : Nat} {W0 : World} {μ : Mu} {gs : Array Goroutine} {w' : World} {t : Trace} {n q : Nat} {D : Nat → Wk} {Pv : Nat → Nat → Prop} {rf : BR} {σ : Sg} {r : BR} {w : World} {a : Goroutine}

omit [Shift] in
theorem ops_nil (g : Nat) (fn : FuncId) (pos : String) : MemOp.ofEvents g fn pos #[] = #[] := by rw [ofEvents_eq]; simp

/-- One of the others turns, and nothing else. -/
theorem Crew.turn (h : Crew P S V post N0 W0 μ gs w' t n q D Pv rf σ r w a) {i : Nat} (hi : i < n) (e1 : Em) (g1 : Goroutine)
    (hgone : i < q → e1.1 = .leaf ∧ QuitsIn P e1.2 g1) (hwork : q ≤ i → WAt P S V (D i).c (szp σ) (D i).spec (D i).r (D i).w w' e1 g1) (hup : i = q → e1.2 = 0 → μ.1.2 ≠ 0) (hlt : Em.Lt e1 (D i).e) :
    ∃ μ', Mu.Lt μ' μ ∧ Crew P S V post N0 W0 μ' (gs.setIfInBounds (i + 1) g1) w' t n q (ConcN.upd D i ⟨(D i).c, (D i).spec, (D i).r, (D i).w, e1⟩) Pv rf σ r w a := by
  have his : i + 1 < gs.size := by have := h.size; omega
  have uc : ∀ j, (ConcN.upd D i ⟨(D i).c, (D i).spec, (D i).r, (D i).w, e1⟩ j).c = (D j).c ∧ (ConcN.upd D i ⟨(D i).c, (D i).spec, (D i).r, (D i).w, e1⟩ j).spec = (D j).spec ∧
      (ConcN.upd D i ⟨(D i).c, (D i).spec, (D i).r, (D i).w, e1⟩ j).r = (D j).r ∧ (ConcN.upd D i ⟨(D i).c, (D i).spec, (D i).r, (D i).w, e1⟩ j).w = (D j).w := fun j => by
    by_cases e : j = i
    · subst e; rw [ConcN.upd_same]; exact ⟨rfl, rfl, rfl, rfl⟩
    · rw [ConcN.upd_ne _ _ e]; exact ⟨rfl, rfl, rfl, rfl⟩
  have live : ∀ c, Live σ n q (ConcN.upd D i ⟨(D i).c, (D i).spec, (D i).r, (D i).w, e1⟩) c → Live σ n q D c := fun c hc => by
    rcases hc with hc | ⟨j, k1, k2, k3⟩
    · exact .inl hc
    · exact .inr ⟨j, k1, k2, by rw [← (uc j).1]; exact k3⟩
  refine ⟨(μ.1, els (ConcN.upd D i ⟨(D i).c, (D i).spec, (D i).r, (D i).w, e1⟩) n), ?_, {
    size := (by simp [h.size]), list := h.list, at_ := fun j h1 h2 => (by rw [(uc j).1, (uc j).2.1]; exact h.at_ j h1 h2), zero := (by rw [get_set_ne _ (by omega)]; exact h.zero), main := h.main, hr := h.hr,
    gone := fun j hj => ?gone, work := fun j h1 h2 => ?work, up := fun ⟨e0, e2⟩ => ?up, off := h.off, phase := fun w0 hw0 => ?phase, chan := fun c hc => ?chan, apart := fun j k h1 h2 h3 h4 e => h.apart j k h1 h2 h3 h4 (by rw [(uc j).1, (uc k).1] at e; exact e), idle := fun j h1 h2 => (by rw [(uc j).1]; exact h.idle j h1 h2),
    pv := h.pv, pvp := h.pvp, base := h.base, low := h.low, n0 := h.n0, os := h.os, output := h.output, ti := h.ti, deaf := h.deaf, mu := rfl }⟩
  · obtain ⟨m0, l0⟩ := μ
    have := h.mu
    simp only at this
    subst this
    exact .right _ (els_lt (x := ⟨(D i).c, (D i).spec, (D i).r, (D i).w, e1⟩) hlt hi)
  case gone =>
    by_cases e : j = i
    · subst e
      rw [ConcN.upd_same]
      exact ⟨g1, get_set_eq _ his, hgone hj⟩
    · rw [ConcN.upd_ne _ _ e]
      obtain ⟨g2, k1, k2⟩ := h.gone j hj
      exact ⟨g2, by rw [get_set_ne _ (by omega)]; exact k1, k2⟩
  case work =>
    by_cases e : j = i
    · subst e
      rw [ConcN.upd_same]
      exact ⟨(h.work j h1 h2).1, g1, get_set_eq _ his, hwork h1⟩
    · rw [ConcN.upd_ne _ _ e]
      obtain ⟨k0, g2, k1, k2⟩ := h.work j h1 h2
      exact ⟨k0, g2, by rw [get_set_ne _ (by omega)]; exact k1, k2⟩
  case up =>
    by_cases e : q = i
    · subst e
      rw [ConcN.upd_same] at e2
      exact hup rfl e2 e0
    · rw [ConcN.upd_ne _ _ e] at e2
      exact h.up ⟨e0, e2⟩
  case phase =>
    have ph := h.phase w0 hw0
    exact { hr := ph.hr, sub := ph.sub, old := ph.old, le := ph.le, fro := ph.fro, same := ph.same, wsub := fun j h1 h2 => (by rw [(uc j).2.2.1]; exact ph.wsub j h1 h2), wold := fun j h1 h2 => (by rw [(uc j).2.2.1]; exact ph.wold j h1 h2), wle := fun j h1 h2 => (by rw [(uc j).2.2.2]; exact ph.wle j h1 h2), wfro := fun j h1 h2 => (by rw [(uc j).2.2.2]; exact ph.wfro j h1 h2), priv := fun j h1 h2 => (by rw [(uc j).2.2.1]; exact ph.priv j h1 h2), pvr := ph.pvr }
  case chan =>
    obtain ⟨k1, k2, k3, k4⟩ := h.chan c (live c hc)
    exact ⟨k1, k2, k3, fun j h1 h2 => by rw [(uc j).2.2.1]; exact k4 j h1 h2⟩

/-- The first waits. -/
theorem Crew.turnM (h : Crew P S V post N0 W0 μ gs w' t n q D Pv rf σ r w a) (e1 : Em) (g1 : Goroutine) (hm : MAt P S V post r w w' σ e1 g1) (hup : e1.2 = 0 → (D q).e.2 ≠ 0) (hlt : Em.Lt e1 μ.1) :
    ∃ μ', Mu.Lt μ' μ ∧ Crew P S V post N0 W0 μ' (gs.setIfInBounds 0 g1) w' t n q D Pv rf σ r w g1 := by
  have his : 0 < gs.size := by have := h.size; omega
  refine ⟨(e1, μ.2), ?_, {
    size := (by simp [h.size]), list := h.list, at_ := h.at_, zero := get_set_eq _ his, main := hm, hr := h.hr,
    gone := fun j hj => ?gone, work := fun j h1 h2 => ?work, up := fun ⟨e0, e2⟩ => hup e0 e2, off := h.off, phase := h.phase, chan := h.chan, apart := h.apart, idle := h.idle,
    pv := h.pv, pvp := h.pvp, base := h.base, low := h.low, n0 := h.n0, os := h.os, output := h.output, ti := h.ti, deaf := h.deaf, mu := h.mu }⟩
  · obtain ⟨m0, l0⟩ := μ
    exact .left _ _ hlt
  case gone =>
    obtain ⟨g2, k1, k2⟩ := h.gone j hj
    exact ⟨g2, by rw [get_set_ne _ (by omega)]; exact k1, k2⟩
  case work =>
    obtain ⟨k0, g2, k1, k2⟩ := h.work j h1 h2
    exact ⟨k0, g2, by rw [get_set_ne _ (by omega)]; exact k1, k2⟩

/-- One that leaves. -/
theorem Crew.stepQ (h : Crew P S V post N0 W0 μ gs w' t n q D Pv rf σ r w a) {i : Nat} (hi : i < q) {g : Goroutine} (hg : gs[i + 1]? = some g) (hrun : g.status = .running) (sl : Option (Nat × Nat)) :
    ∃ gs' μ' D' ops, runT P (crowd gs w' sl) (i + 1) = (.next (crowd gs' w' sl), ops) ∧ Mu.Lt μ' μ ∧ Crew P S V post N0 W0 μ' gs' w' (t ++ ops) n q D' Pv rf σ r w a := by
  obtain ⟨g2, k1, k2, k3⟩ := h.gone i hi
  rw [hg] at k1
  cases k1
  obtain ⟨x, hx⟩ : ∃ x, (D i).e = (.leaf, x) := ⟨(D i).e.2, by rw [← k2]⟩
  rw [hx] at k3
  cases x with
  | zero => rw [show g.status = .finished from k3] at hrun; cases hrun
  | succ x =>
    rcases k3 with k3 | ⟨_, g', hs, hq⟩
    · rw [k3] at hrun; cases hrun
    · have hr := runT_crowd_go (P := P) (sl := sl) (i := i + 1) hg (by simpa using hs w')
      rw [h.woken fun c hc => ⟨_, _, (h.chan c hc).1⟩, ops_nil] at hr
      obtain ⟨μ', l1, l2⟩ := h.turn (i := i) (by have := h.qn; omega) (.leaf, x) g' (fun _ => ⟨rfl, hq⟩) (fun hc => absurd hc (by omega)) (fun e => absurd e (by omega)) (by rw [hx]; exact .right _ (Nat.lt_succ_self x))
      exact ⟨_, μ', _, _, hr, l1, by rw [Array.append_empty]; exact l2⟩

omit [Shift] in
/-- One that begins. -/
theorem born_step {hh : FuncId} {fn : Func} {code : Code} (hf : P.funcs[hh]? = some fn) (hn : (fn.name == "runtime.NumGoroutine") = false) (hb : fn.body = some code) (xs : Array Value) (w : World) :
    stepG P false (born P (dcall hh xs)) w = .go (G ((baseK .deferred hh).at ⟨xs ++ Array.replicate (fn.ntmps - xs.size) undef, []⟩ [.code code]) [botF P]) w #[] := by
  have h1 : ¬ fn.name = "runtime.NumGoroutine" := by simpa using hn
  simp [born, botF, dcall, G, stepG, unwind, callDeferred, Frame.at, invoke, callFunc, hf, h1, hb, GStep.after, seen_none, Frame.enter, baseK, base]

theorem Crew.stepB (h : Crew P S V post N0 W0 μ gs w' t n q D Pv rf σ r w a) {i : Nat} (hq : q ≤ i) (hi : i < n) {hh : FuncId} {fn : Func} {code : Code} {xs xs' : Array Value} {m : Mt} (hf : P.funcs[hh]? = some fn) (hn : (fn.name == "runtime.NumGoroutine") = false)
    (hb : fn.body = some code) (hx : RR S (D i).r xs xs') (hI : Im P S V (.wk (D i).c (szp σ) (D i).spec) m ⟨none, none, []⟩ (bare hh (xs ++ Array.replicate (fn.ntmps - xs.size) undef)) [] [.code code] [] (D i).w)
    (hg : gs[i + 1]? = some (born P (dcall hh xs'))) (he : (D i).e = (m, 2)) (sl : Option (Nat × Nat)) :
    ∃ gs' μ' D' Pv' ops, runT P (crowd gs w' sl) (i + 1) = (.next (crowd gs' w' sl), ops) ∧ Mu.Lt μ' μ ∧ Crew P S V post N0 W0 μ' gs' w' (t ++ ops) n q D' Pv' rf σ r w a := by
  have hr := (h.work i hq hi).1
  have hs : xs.size = xs'.size := hx.size
  refine h.stepW hq hi hg (born_step hf hn hb xs' w') (FR.refl _ _ _) (LF.refl _) (fun e he => by simp at he) hr (e1 := (m, 1)) (.runs hI (Sit.mk_bare (cs' := []) ?_ .nil hr)) (by rw [he]; exact .right _ (by omega)) (by simp) sl
  rw [← hs]
  exact hx.append (RR.replicate _ VR.undef)
end
end Go.Proofs.Ytcobehkadhcjiaa

/-
  THE CREW: what is delivered.
-/
namespace Go.Proofs.Ytcobehkadhcjiaa
open Go Go.Conc
variable [Shift]

/-- A row, among other blocks. -/
theorem RR.lift {S : FuncId → Bool} {r r1 : BR} (h : ∀ a b, r a b → ∃ a1, r1 a1 b ∧ shf a1 = shf a) {c c' : Array Value} (x : RR S r c c') : ∃ c1, RR S r1 c1 c' ∧ c1.size = c.size ∧ ∀ (i : Nat) u, c[i]? = some u → Plnv u → c1[i]? = some u := by
  have : ∀ i : Fin c'.size, ∃ v1, VR S r1 v1 c'[i] ∧ (Plnv (c[i.1]'(by have := x.size; omega)) → v1 = c[i.1]'(by have := x.size; omega)) := fun i => lift_plnv h (x.at_ i.1 _ i.2)
  obtain ⟨g, hg⟩ := Classical.axiomOfChoice this
  refine ⟨Array.ofFn g, ⟨by simp, fun i h1 h2 => by simp only [Array.getElem_ofFn]; exact (hg ⟨i, h2⟩).1⟩, by simp [x.size], fun i u hu hp => ?_⟩
  obtain ⟨hi, rfl⟩ := Array.getElem?_eq_some_iff.1 hu
  have hi' : i < c'.size := by have := x.size; omega
  rw [Array.getElem?_eq_some_iff]
  exact ⟨by simpa using hi', by simp only [Array.getElem_ofFn]; exact (hg ⟨i, hi'⟩).2 hp⟩
/-- What lies in a block of its own, among other blocks. -/
theorem OR.lift {S : FuncId → Bool} {r r1 : BR} (h : ∀ a b, r a b → ∃ a1, r1 a1 b ∧ shf a1 = shf a) {y x : Nat} (hy : Shift.n ≤ y) (hx : Shift.n ≤ x) {o o' : Obj} (k : OR S r y o o') :
    ∃ o1, OR S r1 x o1 o' ∧ ∀ c e f, o = .cells c e f → ∃ c1, o1 = .cells c1 e f ∧ c1.size = c.size ∧ ∀ (i : Nat) u, c[i]? = some u → Plnv u → c1[i]? = some u := by
  cases k with
  | cells e hn rr hz hf =>
    obtain ⟨c1, h1, h2, h3⟩ := rr.lift h
    exact ⟨_, .cells e hx h1 hz hf, fun c e f q => by cases q; exact ⟨c1, rfl, h2, h3⟩⟩
  | win e hn _ _ _ => omega
  | @number z z' lost hn ar =>
    obtain ⟨b1, h1, h2⟩ := h _ _ ar.block
    exact ⟨.number ⟨b1, z.off, z.spot⟩ lost, .number lost hx ⟨h1, by rw [ar.off, h2], ar.spot⟩, fun c e f q => by cases q⟩
  | inert e hn q1 q2 => exact ⟨_, .inert e hx q1 q2, fun c e f q => by cases q⟩

theorem deliver {S : FuncId → Bool} {r rk : BR} {w wk w' : World} {s : Nat} (h : HR0 S r w w') (hk : HR0 S rk wk w') (hs : Shift.n ≤ s) (hold : ∀ a b, rk a b → a < s → r a b) (hpriv : ∀ a b, rk a b → s ≤ a → ∀ x, ¬ r x b) :
    ∃ w1 r1, (∀ a b, r a b → r1 a b) ∧ w.heap.size ≤ w1.heap.size ∧ (∀ a, a < w.heap.size → w1.heap[a]? = w.heap[a]?) ∧ w1.os = w.os ∧ w1.output = w.output ∧ HR0 S r1 w1 w' ∧
      (∀ x b, r1 x b → r x b ∨ (w.heap.size ≤ x ∧ ∃ y, s ≤ y ∧ rk y b)) ∧
      ∀ spec : Spec, Moves spec → ∀ vs v', spec wk (.agg vs) → Nwv s (.agg vs) → VR S rk (.agg vs) v' → ∃ v1, (spec w1 v1 ∧ Nwv w.heap.size v1) ∧ VR S r1 v1 v' := by
  obtain ⟨r1, hr1⟩ : ∃ r1 : BR, r1 = fun x b => r x b ∨ ∃ y, s ≤ y ∧ rk y b ∧ x + s = y + w.heap.size := ⟨_, rfl⟩
  have hin : ∀ a b, r a b → r1 a b := fun a b hab => by rw [hr1]; exact .inl hab
  have hnew : ∀ y b, rk y b → s ≤ y → r1 (y + w.heap.size - s) b := fun y b hy hsy => by rw [hr1]; exact .inr ⟨y, hsy, hy, by omega⟩
  have hlow := h.low
  have lift : ∀ a b, rk a b → ∃ a1, r1 a1 b ∧ shf a1 = shf a := fun a b hab => by
    by_cases ha : a < s
    · exact ⟨a, hin _ _ (hold a b hab ha), rfl⟩
    · exact ⟨_, hnew a b hab (by omega), by rw [shf_new (by omega), shf_new (by omega)]⟩
  have ob : ∀ i : Fin (wk.heap.size - s), ∃ o1, (∀ b, rk (s + i.1) b → ∃ o', w'.heap[b]? = some o' ∧ OR S r1 (w.heap.size + i.1) o1 o') ∧
      ((∃ b, rk (s + i.1) b) → ∀ c e f, wk.heap[s + i.1]? = some (.cells c e f) → ∃ c1, o1 = .cells c1 e f ∧ c1.size = c.size ∧ ∀ (j : Nat) u, c[j]? = some u → Plnv u → c1[j]? = some u) := fun i => by
    by_cases hb : ∃ b, rk (s + i.1) b
    · obtain ⟨b, hb⟩ := hb
      obtain ⟨o, o', h1, h2, h3⟩ := hk.obj hb
      obtain ⟨o1, h4, h5⟩ := h3.lift lift (y := s + i.1) (x := w.heap.size + i.1) (by omega) (by omega)
      refine ⟨o1, fun b' hb' => ?_, fun _ c e f hc => ?_⟩
      · obtain rfl := hk.fn hb hb'
        exact ⟨o', h2, h4⟩
      · rw [h1] at hc
        cases hc
        exact h5 c e f rfl
    · exact ⟨.coro none, fun b hb' => absurd ⟨b, hb'⟩ hb, fun hb' => absurd hb' hb⟩
  obtain ⟨g, hg⟩ := Classical.axiomOfChoice ob
  obtain ⟨w1, hw1⟩ : ∃ w1 : World, w1 = { w with heap := w.heap ++ Array.ofFn g } := ⟨_, rfl⟩
  have old1 : ∀ a, a < w.heap.size → w1.heap[a]? = w.heap[a]? := fun a ha => by rw [hw1]; exact Array.getElem?_append_left ha
  have new1 : ∀ i (hi : i < wk.heap.size - s), w1.heap[w.heap.size + i]? = some (g ⟨i, hi⟩) := fun i hi => by
    rw [hw1]
    show (w.heap ++ Array.ofFn g)[w.heap.size + i]? = _
    rw [Array.getElem?_append_right (by omega), Array.getElem?_eq_some_iff]
    exact ⟨by simpa using hi, by simp⟩
  have hsz : w.heap.size ≤ w1.heap.size := by rw [hw1]; simp
  have hsz1 : w1.heap.size = w.heap.size + (wk.heap.size - s) := by rw [hw1]; simp
  refine ⟨w1, r1, hin, hsz, old1, by rw [hw1], by rw [hw1], ⟨fun {a b c} x y => ?_, fun {a b c} x y => ?_, fun {a b} x => ?_, Nat.le_trans hlow hsz⟩, fun x b hx => ?_, fun spec hm vs v' hsp hn hv => ?_⟩
  · rw [hr1] at x y
    rcases x with x | ⟨y1, k1, k2, k3⟩ <;> rcases y with y | ⟨y2, l1, l2, l3⟩
    · exact h.fn x y
    · have := (h.lt x).1; omega
    · have := (h.lt y).1; omega
    · obtain rfl : y1 = y2 := by omega
      exact hk.fn k2 l2
  · rw [hr1] at x y
    rcases x with x | ⟨y1, k1, k2, k3⟩ <;> rcases y with y | ⟨y2, l1, l2, l3⟩
    · exact h.inj x y
    · exact absurd x (hpriv _ _ l2 l1 _)
    · exact absurd y (hpriv _ _ k2 k1 _)
    · rcases hk.inj k2 l2 with e | ⟨e, _⟩
      · left; omega
      · omega
  · have x' := x
    rw [hr1] at x'
    rcases x' with x' | ⟨y1, k1, k2, k3⟩
    · obtain ⟨o, o', h1, h2, h3⟩ := h.obj x'
      exact ⟨o, o', by rw [old1 a (h.lt x').1]; exact h1, h2, h3.mono hin⟩
    · have hy := (hk.lt k2).1
      have hi : y1 - s < wk.heap.size - s := by omega
      have e1 : s + (y1 - s) = y1 := by omega
      have e2 : w.heap.size + (y1 - s) = a := by omega
      obtain ⟨o', h2, h3⟩ := (hg ⟨y1 - s, hi⟩).1 b (by simp only [e1]; exact k2)
      refine ⟨_, o', by rw [← e2]; exact new1 _ hi, h2, ?_⟩
      simp only [e2] at h3
      exact h3
  · rw [hr1] at hx
    rcases hx with hx | ⟨y1, k1, k2, k3⟩
    · exact .inl hx
    · exact .inr ⟨by omega, y1, k1, k2⟩
  · generalize hvs : Value.agg vs = u at hv
    cases hv with
    | @agg cs cs' he hc =>
      cases hvs
      have row : ∀ i : Fin cs'.size, ∃ v1, VR S r1 v1 cs'[i] ∧ (Plnv v1 ∨ (∃ n c, v1 = .slice none n c) ∨ ∃ a n c, v1 = .slice (some a) n c ∧ (n = 0 ∨ w.heap.size ≤ a.block)) ∧ (∀ h0 : i.1 < vs.size, (Plnv vs[i.1] → v1 = vs[i.1]) ∧ (∀ n c, vs[i.1] = .slice none n c → v1 = .slice none n c) ∧
          ∀ a n c, vs[i.1] = .slice (some a) n c → ∃ a1, v1 = .slice (some ⟨a1, a.off, a.spot⟩) n c ∧ a1 < w1.heap.size ∧ (n = 0 ∨ (s ≤ a.block ∧ (∃ b, rk a.block b) ∧ a1 + s = a.block + w.heap.size))) := fun i => by
        have h0 : i.1 < vs.size := by omega
        have hv := hc i.1 h0 i.2
        rcases hn i.1 h0 with hp | ⟨n, c, e⟩ | ⟨a, n, c, e, hsa⟩
        · refine ⟨vs[i.1], ?_, .inl hp, fun _ => ⟨fun _ => rfl, fun _ _ e => e, fun a n c e => by rw [e] at hp; exact hp.elim⟩⟩
          have := plnv_eq hv hp
          show VR S r1 vs[i.1] (cs'[i.1]'i.2)
          rw [this]
          generalize vs[i.1] = z at hp
          cases z <;> first | exact .bool _ | exact .int _ _ | exact hp.elim
        · refine ⟨.slice none n c, ?_, .inr (.inl ⟨_, _, rfl⟩), fun _ => ⟨fun _ => e.symm, fun n' c' e' => (by rw [e] at e'; exact e'), fun a n' c' e' => (by rw [e] at e'; cases e')⟩⟩
          rw [e] at hv
          show VR S r1 _ (cs'[i.1]'i.2)
          generalize cs'[i.1]'i.2 = z at hv
          cases hv
          exact .nilSlice n c
        · rw [e] at hv
          show ∃ v1, VR S r1 v1 (cs'[i.1]'i.2) ∧ _
          generalize cs'[i.1]'i.2 = z at hv
          cases hv with
          | @void _ a' bk kv ev =>
            by_cases hlo : a.block < s
            · refine ⟨.slice (some ⟨a.block, a.off, a.spot⟩) 0 0, .void (hin _ _ (hold _ _ kv hlo)) ev, .inr (.inr ⟨_, _, _, rfl, .inl rfl⟩), fun _ => ⟨fun hp => (by rw [e] at hp; exact hp.elim), fun n' c' e' => (by rw [e] at e'; cases e'), fun a2 n' c' e' => ?_⟩⟩
              rw [e] at e'
              cases e'
              exact ⟨_, rfl, Nat.lt_of_lt_of_le (h.lt (hold _ _ kv hlo)).1 hsz, .inl rfl⟩
            · have hsa : s ≤ a.block := by omega
              refine ⟨.slice (some ⟨a.block + w.heap.size - s, a.off, a.spot⟩) 0 0, .void (hnew _ _ kv hsa) ev, .inr (.inr ⟨_, _, _, rfl, .inl rfl⟩), fun _ => ⟨fun hp => (by rw [e] at hp; exact hp.elim), fun n' c' e' => (by rw [e] at e'; cases e'), fun a2 n' c' e' => ?_⟩⟩
              rw [e] at e'
              cases e'
              exact ⟨_, rfl, (by have := (hk.lt kv).1; omega), .inl rfl⟩
          | @slice _ a' _ _ ar =>
            by_cases hlo : a.block < s
            · have hn0 : n = 0 := hsa.resolve_right (by omega)
              refine ⟨.slice (some ⟨a.block, a.off, a.spot⟩) n c, .slice n c ⟨hin _ _ (hold _ _ ar.block hlo), ar.off, ar.spot⟩, .inr (.inr ⟨_, _, _, rfl, .inl hn0⟩), fun _ => ⟨fun hp => (by rw [e] at hp; exact hp.elim), fun n' c' e' => (by rw [e] at e'; cases e'), fun a2 n' c' e' => ?_⟩⟩
              rw [e] at e'
              cases e'
              exact ⟨_, rfl, Nat.lt_of_lt_of_le (h.lt (hold _ _ ar.block hlo)).1 hsz, .inl hn0⟩
            · have hsa : s ≤ a.block := by omega
              refine ⟨.slice (some ⟨a.block + w.heap.size - s, a.off, a.spot⟩) n c, .slice n c ⟨hnew _ _ ar.block hsa, ?_, ar.spot⟩, .inr (.inr ⟨_, _, _, rfl, .inr (by show w.heap.size ≤ a.block + w.heap.size - s; omega)⟩), fun _ => ⟨fun hp => (by rw [e] at hp; exact hp.elim), fun n' c' e' => (by rw [e] at e'; cases e'), fun a2 n' c' e' => ?_⟩⟩
              · rw [ar.off, shf_new (by omega)]
                show _ = a.off + shf (a.block + w.heap.size - s)
                rw [shf_new (by omega)]
              · rw [e] at e'
                cases e'
                exact ⟨_, rfl, (by have := (hk.lt ar.block).1; omega), .inr ⟨hsa, ⟨_, ar.block⟩, by omega⟩⟩
      obtain ⟨gv, hgv⟩ := Classical.axiomOfChoice row
      refine ⟨.agg (Array.ofFn gv), ?_, .agg (by simp) fun i h1 h2 => by simp only [Array.getElem_ofFn]; exact (hgv ⟨i, h2⟩).1⟩
      refine ⟨?_, fun i hi => by simp only [Array.getElem_ofFn]; exact (hgv ⟨i, by simpa using hi⟩).2.1⟩
      refine hm (fun a a1 => s ≤ a ∧ (∃ b, rk a b) ∧ a1 + s = a + w.heap.size) wk w1 vs _ (fun a a1 ⟨k1, k2, k3⟩ c e f hc' => ?_) (by simp [he]) (fun i h1 h2 => ?_) hsp
      · have hy : a < wk.heap.size := (Array.getElem?_eq_some_iff.1 hc').1
        have hi : a - s < wk.heap.size - s := by omega
        have e1 : s + (a - s) = a := by omega
        have e2 : w.heap.size + (a - s) = a1 := by omega
        obtain ⟨c1, l1, l2, l3⟩ := (hg ⟨a - s, hi⟩).2 (by simp only [e1]; exact k2) c e f (by simp only [e1]; exact hc')
        exact ⟨c1, f, by rw [← e2, new1 _ hi, l1], l2, l3⟩
      · simp only [Array.getElem_ofFn]
        exact (hgv ⟨i, by simpa using h2⟩).2.2 h1
    | _ => cases hvs
end Go.Proofs.Ytcobehkadhcjiaa

/-
  THE CREW: the first hears what one has sent.
-/
namespace Go.Proofs.Ytcobehkadhcjiaa
open Go Go.Conc
variable [Shift]

section
variable {P : Program} {S V : FuncId → Bool} {post : Value → World → Prop} {N0 : Nat} {W0 : World} {μ : Mu} {gs : Array Goroutine} {w' : World} {t : Trace} {n q : Nat} {D : Nat → Wk} {Pv : Nat → Nat → Prop} {rf : BR} {σ : Sg} {r : BR} {w : World} {a : Goroutine}

abbrev phL (w0 : World) (l : List (Nat × Spec)) : Option World := match l with | [] => none | _ => some w0
abbrev wdL (w0 w1 : World) (l : List (Nat × Spec)) : World := match l with | [] => thaw w0 w1 | _ => w1

theorem HR0.thawL {r : BR} {w0 w w1 w' : World} {l : List (Nat × Spec)} (h : HR0 S r w1 w') (hf : HR0 S rf w0 w') (hold : ∀ a b, r a b → a < w0.heap.size → rf a b) (hle : w0.heap.size ≤ w.heap.size) (hs : ∀ a, a < w.heap.size → w1.heap[a]? = w.heap[a]?)
    (same : ∀ a c e f, a < w0.heap.size → w.heap[a]? = some (.cells c e f) → ∃ c0 f0, w0.heap[a]? = some (.cells c0 e f0) ∧ c0.size = c.size) : HR0 S r (wdL w0 w1 l) w' := by
  cases l with
  | cons _ _ => exact h
  | nil =>
    refine h.thaw fun a b c e f c' e' f' hab h1 h2 => ?_
    have ha : a < w0.heap.size := (Array.getElem?_eq_some_iff.1 h1).1
    obtain ⟨o, o', k1, k2, k3⟩ := hf.obj (hold a b hab ha)
    rw [h1] at k1
    rw [h2] at k2
    cases k1
    cases k2
    cases k3 with
    | cells _ hn _ hz => exact ⟨fun _ => hz, fun hl => by omega⟩
    | win _ hn _ hz hz2 =>
      refine ⟨fun hl => by omega, fun _ => ⟨fun c1 f1 hc o ho => hz o ?_, hz2⟩⟩
      rw [hs a (by omega)] at hc
      obtain ⟨c0, f0, q1, q2⟩ := same a c1 _ f1 ha hc
      rw [h1] at q1
      cases q1
      omega

theorem Crew.meet {w0 : World} {idle : Option Nat} {c : Nat} {spec : Spec} {l : List (Nat × Spec)} (h : Crew P S V post N0 W0 μ gs w' t n q D Pv rf ⟨some w0, idle, (c, spec) :: l⟩ r w a) {m : Mt} {g0 gk : Goroutine} {vs : Array Value} {v' : Value} {x : Nat}
    (hm : Meets P S V post m r w g0 w0 idle spec l) (hμ : μ.1.1 = m)
    (hs : (D q).spec (D q).w (.agg vs)) (hn : Nwv w0.heap.size (.agg vs)) (hv : VR S (D q).r (.agg vs) v') (hq : QuitsIn P x (Go.Conc.served gk undef))
    {gs' : Array Goroutine} (hz : gs'.size = gs.size) (h0 : gs'[0]? = some (Go.Conc.served g0 v')) (hk : gs'[q + 1]? = some (Go.Conc.served gk undef)) (ho : ∀ j, j ≠ 0 → j ≠ q + 1 → gs'[j]? = gs[j]?)
    {x1 x2 x3 x4 : MemOp} (h1 : x1.g = q + 1 ∧ x1.act = .send c 0) (h2 : x2.g = 0 ∧ x2.act = .recv c 0 0) (h3 : x3.g = q + 1 ∧ x3.act = .sendDone c 0) (h4 : x4.g = 0 ∧ x4.act = .recvDone c 0) :
    ∃ μ' D' r1 wL, Mu.Lt μ' μ ∧ Crew P S V post N0 W0 μ' gs' (w'.setChan c 0 #[] false 1 1 false) (t ++ #[x1, x2, x3, x4]) n (q + 1) D' Pv rf ⟨phL w0 l, idle, l⟩ r1 wL (Go.Conc.served g0 v') := by
  obtain ⟨hqn, hc, hsp⟩ := h.head (c := c) (spec := spec) (l := l) rfl
  have ph := h.phase w0 rfl
  obtain ⟨c1, c2, c3, c4⟩ := h.chan c (.inr ⟨q, Nat.le_refl q, hqn, hc⟩)
  obtain ⟨w2, hw2⟩ : ∃ w2, w2 = w'.setChan c 0 #[] false 1 1 false := ⟨_, rfl⟩
  rw [← hw2]
  have hcn : c < w'.heap.size := (Array.getElem?_eq_some_iff.1 c1).1
  have size2 : w2.heap.size = w'.heap.size := by rw [hw2]; simp [World.setChan]
  have stays : ∀ b, b < w'.heap.size → ¬ b = c → w2.heap[b]? = w'.heap[b]? := fun b _ hb => by
    rw [hw2]
    show (w'.heap.setIfInBounds c _)[b]? = _
    exact Array.getElem?_setIfInBounds_ne (fun e => hb e.symm)
  have hr2 : HR0 S r w w2 := h.hr.else_ stays fun z b hzb e => c3 z (e ▸ hzb)
  have hd2 : ∀ j, q ≤ j → j < n → HR0 S (D j).r (D j).w w2 := fun j k1 k2 => (h.work j k1 k2).1.else_ stays fun z b hzb e => (c4 j k1 k2).1 z (e ▸ hzb)
  have hf2 : HR0 S rf w0 w2 := ph.hr.else_ stays fun z b hzb e => c3 z (ph.sub _ _ (e ▸ hzb))
  obtain ⟨w1, r1, d1, d2, d3, d4, d5, d6, d7, d8⟩ := deliver hr2 (hd2 q (Nat.le_refl q) hqn) (s := w0.heap.size) ph.hr.low (fun z b hzb hs' => ph.sub _ _ (ph.wold q (Nat.le_refl q) hqn z b hzb hs')) (fun z b hzb hs' y hy => ph.pvr q (Nat.le_refl q) hqn y b (ph.priv q (Nat.le_refl q) hqn z b hzb hs') hy)
  obtain ⟨v1, e1, e2⟩ := d8 _ (h.at_ q (Nat.le_refl q) hqn).2 vs v' hs hn hv
  have old1 : ∀ z b, r1 z b → z < w0.heap.size → rf z b := fun z b hzb hs' => by
    rcases d7 z b hzb with k | ⟨k, _⟩
    · exact ph.old z b k hs'
    · have := ph.le; omega
  have new1 : ∀ z b, r1 z b → r z b ∨ Pv (q + 1) b ∧ ∃ y, (D q).r y b := fun z b hzb => by
    rcases d7 z b hzb with k | ⟨_, y, k1, k2⟩
    · exact .inl k
    · exact .inr ⟨ph.priv q (Nat.le_refl q) hqn y b k2 k1, y, k2⟩
  have hth : HR0 S r1 (wdL w0 w1 l) w2 := d6.thawL hf2 old1 ph.le d3 ph.same
  obtain ⟨m1, fr, ct, k, cs, i1, i2, i3⟩ := hm r1 w1 v1 v' w2 d1 d2 d3 d4 d5 ⟨by rw [← hsp]; exact e1.1, e1.2⟩ e2 hth
  have hlen := h.list
  simp only [List.length_cons] at hlen
  obtain ⟨D', hD⟩ : ∃ D', D' = ConcN.upd D q ⟨(D q).c, (D q).spec, (D q).r, (D q).w, (.leaf, x)⟩ := ⟨_, rfl⟩
  have dq : D' q = ⟨(D q).c, (D q).spec, (D q).r, (D q).w, (.leaf, x)⟩ := by rw [hD]; exact ConcN.upd_same _ _ _
  have dn : ∀ j, j ≠ q → D' j = D j := fun j hj => by rw [hD]; exact ConcN.upd_ne _ _ hj
  have live : ∀ z, Live ⟨phL w0 l, idle, l⟩ n (q + 1) D' z → Live ⟨some w0, idle, (c, spec) :: l⟩ n q D z ∧ z ≠ c := fun z hz => by
    rcases hz with hz | ⟨j, k1, k2, k3⟩
    · exact ⟨.inl hz, fun e => h.idle q (Nat.le_refl q) hqn (by rw [hc, ← e]; exact hz)⟩
    · rw [dn j (by omega)] at k3
      refine ⟨.inr ⟨j, by omega, k2, k3⟩, fun e => ?_⟩
      have := h.apart j q (by omega) k2 (Nat.le_refl q) hqn (by rw [k3, hc, e])
      omega
  have hszp : ∀ j, j ≥ q + 1 → j < n → szp ⟨phL w0 l, idle, l⟩ = w0.heap.size := fun j k1 k2 => by
    cases l with
    | nil => simp at hlen; omega
    | cons _ _ => rfl
  refine ⟨((m1, 1), els D' n), D', r1, wdL w0 w1 l, ?_, {
    size := (by rw [hz]; exact h.size), list := (by show l.length + (q + 1) = n; omega), at_ := fun j k1 k2 => ?at_, zero := h0, main := .runs i2 i3, hr := hth,
    gone := fun j hj => ?gone, work := fun j k1 k2 => ?work, up := fun ⟨e0, _⟩ => (by simp at e0), off := fun ho => ?off, phase := fun w0' hw0' => ?phase, chan := fun z hz => ?chan, apart := fun i j k1 k2 k3 k4 e => ?apart, idle := fun j k1 k2 => ?idle,
    pv := fun j k1 k2 b hb => (by rw [size2]; exact h.pv j (by omega) k2 b hb), pvp := fun i j k1 k2 k3 k4 => h.pvp i j (by omega) k2 (by omega) k4, base := fun b hb => ?base, low := fun z b hzb hb => ?low, n0 := (by rw [size2]; exact h.n0), os := (by rw [hw2]; exact h.os), output := (by rw [hw2]; exact h.output), ti := ?ti, deaf := fun g => ?deaf, mu := rfl }⟩
  · obtain ⟨m0, l0⟩ := μ
    obtain ⟨m0, x0⟩ := m0
    simp only at hμ
    subst hμ
    exact .left _ _ (.left _ _ i1)
  case at_ =>
    rw [dn j (by omega)]
    obtain ⟨q1, q2⟩ := h.at_ j (by omega) k2
    refine ⟨?_, q2⟩
    rw [← q1]
    show l[j - (q + 1)]? = ((c, spec) :: l)[j - q]?
    rw [show j - q = (j - (q + 1)) + 1 by omega, List.getElem?_cons_succ]
  case gone =>
    by_cases e : j = q
    · subst e
      rw [dq]
      exact ⟨_, hk, rfl, hq⟩
    · rw [dn j e]
      obtain ⟨g2, q1, q2⟩ := h.gone j (by omega)
      exact ⟨g2, by rw [ho _ (by omega) (by omega)]; exact q1, q2⟩
  case work =>
    rw [dn j (by omega)]
    obtain ⟨_, g2, q1, q2⟩ := h.work j (by omega) k2
    have := hszp j k1 k2
    refine ⟨hd2 j (by omega) k2, g2, by rw [ho _ (by omega) (by omega)]; exact q1, ?_⟩
    rw [show ((⟨phL w0 l, idle, l⟩ : Sg).ph.map fun w0 => w0.heap.size).getD 0 = w0.heap.size from this]
    exact q2.else_ (hd2 j (by omega) k2)
  case off =>
    cases l with
    | nil => rfl
    | cons _ _ => cases ho
  case phase =>
    cases l with
    | nil => cases hw0'
    | cons y l =>
      cases hw0'
      refine {
        hr := hf2, sub := fun z b hz => d1 _ _ (ph.sub z b hz), old := old1, le := Nat.le_trans ph.le d2, fro := fun z o hz => ?_, same := fun z cc e f hz hzc => ?_,
        wsub := fun j k1 k2 => (by rw [dn j (by omega)]; exact ph.wsub j (by omega) k2), wold := fun j k1 k2 => (by rw [dn j (by omega)]; exact ph.wold j (by omega) k2), wle := fun j k1 k2 => (by rw [dn j (by omega)]; exact ph.wle j (by omega) k2), wfro := fun j k1 k2 => (by rw [dn j (by omega)]; exact ph.wfro j (by omega) k2), priv := fun j k1 k2 => (by rw [dn j (by omega)]; exact ph.priv j (by omega) k2), pvr := fun j k1 k2 z b hp hz => ?_ }
      · rintro ⟨cc, e, f, k1, k2, k3⟩
        rw [d3 z (by have := ph.le; omega)] at k1
        exact ph.fro z o hz ⟨cc, e, f, k1, k2, k3⟩
      · rw [d3 z (by have := ph.le; omega)] at hzc
        exact ph.same z cc e f hz hzc
      · rcases new1 z b hz with k | ⟨k, _⟩
        · exact ph.pvr j (by omega) k2 z b hp k
        · have := h.pvp j q (by omega) k2 (Nat.le_refl q) hqn b hp k
          omega
  case chan =>
    obtain ⟨hl, hne⟩ := live z hz
    obtain ⟨k1, k2, k3, k4⟩ := h.chan z hl
    refine ⟨by rw [stays z (Array.getElem?_eq_some_iff.1 k1).1 hne]; exact k1, k2, fun y hy => ?_, fun j q1 q2 => by rw [dn j (by omega)]; exact k4 j (by omega) q2⟩
    rcases new1 y z hy with k | ⟨_, y', k⟩
    · exact k3 y k
    · exact (k4 q (Nat.le_refl q) hqn).1 y' k
  case apart =>
    rw [dn i (by omega), dn j (by omega)] at e
    exact h.apart i j (by omega) k2 (by omega) k4 e
  case idle =>
    rw [dn j (by omega)]
    exact h.idle j (by omega) k2
  case base =>
    rw [stays b (Nat.lt_of_lt_of_le hb h.n0) (by omega)]
    exact h.base b hb
  case low =>
    rcases new1 z b hzb with k | ⟨k, _⟩
    · exact h.low z b k hb
    · have := (h.pv q (Nat.le_refl q) hqn b k).2; omega
  case ti =>
    have ht := h.ti.meet (k := q + 1) ⟨by omega, by omega⟩ h1 h2 h3 h4 (by exact hcn)
    rw [size2]
    have eA : (fun k' => (q < k' ∧ k' ≤ n) ∧ k' ≠ q + 1) = fun k => q + 1 < k ∧ k ≤ n := by funext k; apply propext; omega
    simp only [eA] at ht
    cases l with
    | nil =>
      have hA : ∀ k, ¬ (q + 1 < k ∧ k ≤ n) := fun k hk => by simp at hlen; omega
      exact Past.ti (ht.past hA) hA
    | cons y l =>
      have eB : (fun b => (some w0 : Option World) ≠ none ∧ ∃ a, rf a b) = fun b => phL w0 (y :: l) ≠ none ∧ ∃ a, rf a b := rfl
      rw [← eB]
      exact ht
  case deaf =>
    rw [Deaf_calm]
    · exact h.deaf g
    · intro op hop
      simp at hop
      rcases hop with rfl | rfl | rfl | rfl
      · rw [h1.2]; simp
      · rw [h2.2]; simp
      · rw [h3.2]; simp
      · rw [h4.2]; simp
end
end Go.Proofs.Ytcobehkadhcjiaa

/-
  THE CREW: a channel is made; one more is started.
-/
namespace Go.Proofs.Ytcobehkadhcjiaa
open Go Go.Conc
variable [Shift]

omit [Shift] in
theorem TI.congr {A : Nat → Prop} {Pv Pv' : Nat → Nat → Prop} {B : Nat → Prop} {Shun : Loc → Prop} {N : Nat} {t : Trace} (h : TI A Pv B Shun N t) (e : ∀ k b, A k → (Pv k b ↔ Pv' k b)) : TI A Pv' B Shun N t :=
  ⟨h.clean, fun i a ha hm => (h.main i a ha hm).imp id fun x => x.imp id fun ⟨k, b, hk, k1, k2, k3⟩ => ⟨k, b, hk, k1, k2, k3.imp (e k b hk).1 id⟩, fun k hk i a ha hm b hb => ⟨fun hp => (h.wk k hk i a ha hm b hb).1 ((e k b hk).2 hp), (h.wk k hk i a ha hm b hb).2⟩, h.over, h.hears0, h.hearsk, h.seen⟩

section
variable {P : Program} {S V : FuncId → Bool} {post : Value → World → Prop} {N0 : Nat} {W0 : World} {μ : Mu} {gs : Array Goroutine} {w' : World} {t : Trace} {n q : Nat} {D : Nat → Wk} {Pv : Nat → Nat → Prop} {rf : BR} {σ : Sg} {r : BR} {w : World} {a : Goroutine}

theorem Crew.stepC {ph : Option World} {l : List (Nat × Spec)} (h : Crew P S V post N0 W0 μ gs w' t n q D Pv rf ⟨ph, none, l⟩ r w a) {a1 : Goroutine} {w2 : World} {e1 : Em} (hw2 : w2 = w'.alloc (.chan 0 #[] false 0 0 false))
    (hgo : stepG P true a w' = .go a1 w2 #[]) (hA : HR0 S r w w2 → MAt P S V post r w w2 ⟨ph, some w'.heap.size, l⟩ e1 a1) (hlt : Em.Lt e1 μ.1) (he : e1.2 ≠ 0) (sl : Option (Nat × Nat)) :
    ∃ gs' μ' ops, runT P (crowd gs w' sl) 0 = (.next (crowd gs' w2 sl), ops) ∧ Mu.Lt μ' μ ∧ Crew P S V post N0 W0 μ' gs' w2 (t ++ ops) n q D Pv rf ⟨ph, some w'.heap.size, l⟩ r w a1 := by
  have heap2 : w2.heap = w'.heap.push (.chan 0 #[] false 0 0 false) := by rw [hw2]; rfl
  have stays : ∀ b, b < w'.heap.size → ¬ False → w2.heap[b]? = w'.heap[b]? := fun b hb _ => by rw [heap2, Array.getElem?_push]; rw [if_neg (by omega)]
  have st : ∀ b, b < w'.heap.size → w2.heap[b]? = w'.heap[b]? := fun b hb => stays b hb id
  have size2 : w2.heap.size = w'.heap.size + 1 := by rw [heap2]; simp
  have chans : ∀ c, Live ⟨ph, none, l⟩ n q D c → w2.heap[c]? = w'.heap[c]? ∧ c < w'.heap.size := fun c hc => by
    obtain ⟨k1, _⟩ := h.chan c hc
    have := (Array.getElem?_eq_some_iff.1 k1).1
    exact ⟨st c this, this⟩
  have hr2 : HR0 S r w w2 := h.hr.else_ stays fun _ _ _ => id
  have hrun := runT_crowd_go (P := P) (sl := sl) (i := 0) h.zero (by simpa using hgo)
  rw [h.woken fun c hc => by rw [(chans c hc).1]; exact ⟨_, _, (h.chan c hc).1⟩, ops_nil] at hrun
  have his : 0 < gs.size := by have := h.size; omega
  refine ⟨_, (e1, μ.2), _, hrun, ?_, {
    size := (by simp [h.size]), list := h.list, at_ := h.at_, zero := get_set_eq _ his, main := hA hr2, hr := hr2,
    gone := fun j hj => ?gone, work := fun j h1 h2 => ?work, up := fun ⟨e0, _⟩ => he e0, off := h.off, phase := fun w0 hw0 => ?phase, chan := fun c hc => ?chan, apart := h.apart, idle := fun j h1 h2 => ?idle,
    pv := fun j h1 h2 b hb => ⟨by have := (h.pv j h1 h2 b hb).1; omega, (h.pv j h1 h2 b hb).2⟩, pvp := h.pvp, base := fun b hb => (by rw [st b (Nat.lt_of_lt_of_le hb h.n0)]; exact h.base b hb), low := h.low, n0 := (by have := h.n0; omega), os := (by rw [hw2]; exact h.os), output := (by rw [hw2]; exact h.output), ti := ?ti, deaf := (by rw [Array.append_empty]; exact h.deaf), mu := h.mu }⟩
  · obtain ⟨m0, l0⟩ := μ
    exact .left _ _ hlt
  case gone =>
    obtain ⟨g2, k1, k2⟩ := h.gone j hj
    exact ⟨g2, by rw [get_set_ne _ (by omega)]; exact k1, k2⟩
  case work =>
    obtain ⟨k0, g2, k1, k2⟩ := h.work j h1 h2
    have hrj := k0.else_ stays fun _ _ _ => id
    exact ⟨hrj, g2, by rw [get_set_ne _ (by omega)]; exact k1, k2.else_ hrj⟩
  case phase =>
    have p := h.phase w0 hw0
    exact { hr := p.hr.else_ stays fun _ _ _ => id, sub := p.sub, old := p.old, le := p.le, fro := p.fro, same := p.same, wsub := p.wsub, wold := p.wold, wle := p.wle, wfro := p.wfro, priv := p.priv, pvr := p.pvr }
  case chan =>
    rcases hc with hc | hc
    · cases hc
      refine ⟨by rw [heap2, Array.getElem?_push]; simp, h.n0, fun x hx => ?_, fun i h1 h2 => ⟨fun x hx => ?_, fun hp => ?_⟩⟩
      · have := (h.hr.lt hx).2; omega
      · have := ((h.work i h1 h2).1.lt hx).2; omega
      · have := (h.pv i h1 h2 _ hp).1; omega
    · obtain ⟨k1, k2⟩ := h.chan c (.inr hc)
      exact ⟨by rw [(chans c (.inr hc)).1]; exact k1, k2⟩
  case idle =>
    intro e
    have := (chans (D j).c (.inr ⟨j, h1, h2, rfl⟩)).2
    have := Option.some.inj e
    omega
  case ti =>
    refine h.ti.own0 (by omega) (by omega) (fun k b hk hp => ?_) (fun b hb => ?_) (fun op hop => by simp at hop) (fun op hop => by simp at hop) (fun op hop => by simp at hop) (fun op hop => by simp at hop)
    · obtain ⟨j, rfl⟩ : ∃ j, k = j + 1 := ⟨k - 1, by omega⟩
      exact (h.pv j (by omega) (by omega) b hp).1
    · obtain ⟨hne, x, hx⟩ := hb
      cases hp : ph with
      | none => exact absurd hp hne
      | some w0 => exact ((h.phase w0 hp).hr.lt hx).2

/-- One more is started. -/
theorem Crew.stepG_ (h : Crew P S V post N0 W0 μ gs w' t n q D Pv rf σ r w a) {c : Nat} {spec : Spec} {a1 child : Goroutine} {e1 e2 : Em} {w1 : World} (hid : σ.idle = some c) (hmv : Moves spec)
    (hgo : stepG P true a w' = .spawn a1 child w' #[]) (hw1 : w1 = match σ.ph with | some _ => w | none => frz w)
    (hA : HR0 S r w1 w' → MAt P S V post r w1 w' ⟨some (σ.ph.getD w), none, σ.l ++ [(c, spec)]⟩ e1 a1)
    (hC : ∀ r2, (∀ x b, r x b → x < (frozenW σ w).heap.size → r2 x b) → HR0 S r2 (frozenW σ w) w' → WAt P S V c (frozenW σ w).heap.size spec r2 (frozenW σ w) w' e2 child) (hlt : Em.Lt e1 μ.1) (he : e1.2 ≠ 0) (sl : Option (Nat × Nat)) :
    ∃ gs' μ' D' Pv' rf' ops, runT P (crowd gs w' sl) 0 = (.next (crowd gs' w' sl), ops) ∧ Mu.Lt μ' μ ∧ Crew P S V post N0 W0 μ' gs' w' (t ++ ops) (n + 1) q D' Pv' rf' ⟨some (σ.ph.getD w), none, σ.l ++ [(c, spec)]⟩ r w1 a1 := by
  obtain ⟨rf2, hrf2⟩ : ∃ rf2 : BR, rf2 = match σ.ph with | some _ => rf | none => r := ⟨_, rfl⟩
  obtain ⟨w0, hw0⟩ : ∃ w0, w0 = σ.ph.getD w := ⟨_, rfl⟩
  obtain ⟨wf, hwf⟩ : ∃ wf, wf = frozenW σ w := ⟨_, rfl⟩
  rw [← hwf] at hC
  rw [← hw0]
  rw [← hw0] at hA
  -- what the world is now
  have base1 : wf = frz w0 ∧ HR0 S rf2 w0 w' ∧ (∀ x b, rf2 x b → r x b) ∧ (∀ x b, r x b → x < w0.heap.size → rf2 x b) ∧ w0.heap.size ≤ w1.heap.size ∧ (∀ x o, x < w0.heap.size → ¬ Wr w1 x o) ∧
      (∀ x cc e f, x < w0.heap.size → w1.heap[x]? = some (.cells cc e f) → ∃ c0 f0, w0.heap[x]? = some (.cells c0 e f0) ∧ c0.size = cc.size) ∧ HR0 S r w1 w' := by
    cases hp : σ.ph with
    | none =>
      simp only [hp, Option.getD_none] at hrf2 hw0 hw1
      subst hrf2 hw0 hw1
      refine ⟨by rw [hwf]; simp [frozenW, hp], h.hr, fun _ _ k => k, fun _ _ k _ => k, by rw [frz_size]; exact Nat.le_refl _, fun x o _ => frz_wr w0 x o, fun x cc e f _ hc => ?_, h.hr.frz⟩
      rw [frz_heap] at hc
      cases hw : w0.heap[x]? with
      | none => rw [hw] at hc; cases hc
      | some u =>
        rw [hw] at hc
        cases u <;> simp only [Option.map_some, frzO, Option.some.injEq, Obj.cells.injEq, reduceCtorEq] at hc
        obtain ⟨rfl, rfl, _⟩ := hc
        exact ⟨_, _, rfl, rfl⟩
    | some w3 =>
      simp only [hp, Option.getD_some] at hrf2 hw0 hw1
      subst hrf2 hw0 hw1
      have p := h.phase w0 hp
      exact ⟨by rw [hwf]; simp [frozenW, hp], p.hr, p.sub, p.old, p.le, p.fro, p.same, h.hr⟩
  obtain ⟨b0, b1, b2, b3, b4, b5, b6, b7⟩ := base1
  have wfs : wf.heap.size = w0.heap.size := by rw [b0, frz_size]
  have hrw : HR0 S rf2 wf w' := by rw [b0]; exact b1.frz
  -- those that work already
  have dph : ∀ i, q ≤ i → i < n → ∃ p : Phase S w0 rf2 r w w' n q D Pv, True := fun i k1 k2 => by
    obtain ⟨w3, h3⟩ := h.ph_some k1 k2
    simp only [h3, Option.getD_some] at hrf2 hw0
    subst hrf2 hw0
    exact ⟨h.phase w0 h3, trivial⟩
  obtain ⟨D', hD⟩ : ∃ D', D' = ConcN.upd D n ⟨c, spec, rf2, wf, e2⟩ := ⟨_, rfl⟩
  have dN : D' n = ⟨c, spec, rf2, wf, e2⟩ := by rw [hD]; exact ConcN.upd_same _ _ _
  have dO : ∀ j, j < n → D' j = D j := fun j hj => by rw [hD]; exact ConcN.upd_ne _ _ (by omega)
  have hqn := h.qn
  have hsz := h.size
  have hrun := runT_crowd_spawn (P := P) (sl := sl) (i := 0) h.zero (by simpa using hgo)
  rw [ops_nil] at hrun
  have szO : ∀ i, q ≤ i → i < n → szp σ = w0.heap.size := fun i k1 k2 => by
    obtain ⟨w3, h3⟩ := h.ph_some k1 k2
    simp only [h3, Option.getD_some] at hw0
    simp [szp, h3, hw0]
  have get0 : ∀ j x, j ≠ 0 → gs[j]? = some x → ((gs.setIfInBounds 0 a1).push child)[j]? = some x := fun j x hj hx => by
    have hlt := (Array.getElem?_eq_some_iff.1 hx).1
    rw [Array.getElem?_push, if_neg (by simp; omega), get_set_ne _ (by omega)]
    exact hx
  refine ⟨_, (e1, els D' (n + 1)), D', fun k b => Pv k b ∧ k ≤ n, rf2, _, hrun, ?_, {
    size := (by simp [hsz]), list := (by simp only [List.length_append, List.length_cons, List.length_nil]; have := h.list; omega), at_ := fun j k1 k2 => ?at_, zero := ?zero, main := hA b7, hr := b7,
    gone := fun j hj => ?gone, work := fun j k1 k2 => ?work, up := fun ⟨e0, _⟩ => he e0, off := fun hx => (by cases hx), phase := fun w3 hw3 => ?phase, chan := fun z hz => ?chan, apart := fun i j k1 k2 k3 k4 e => ?apart, idle := fun j k1 k2 hx => (by cases hx),
    pv := fun j k1 k2 b hb => h.pv j k1 (by omega) b hb.1, pvp := fun i j k1 k2 k3 k4 b hb hb' => h.pvp i j k1 (by omega) k3 (by omega) b hb.1 hb'.1, base := h.base, low := h.low, n0 := h.n0, os := h.os, output := h.output, ti := ?ti, deaf := fun g => ?deaf, mu := rfl }⟩
  · obtain ⟨m0, l0⟩ := μ
    exact .left _ _ hlt
  case at_ =>
    by_cases e : j = n
    · subst e
      rw [dN]
      have := h.list
      exact ⟨by rw [List.getElem?_append_right (by omega)]; simp [show j - q - σ.l.length = 0 by omega], hmv⟩
    · rw [dO j (by omega)]
      obtain ⟨q1, q2⟩ := h.at_ j k1 (by omega)
      have := h.list
      exact ⟨by rw [List.getElem?_append_left (by omega)]; exact q1, q2⟩
  case zero =>
    rw [Array.getElem?_push, if_neg (by simp; omega)]
    exact get_set_eq _ (by omega)
  case gone =>
    rw [dO j (by omega)]
    obtain ⟨g2, q1, q2⟩ := h.gone j hj
    exact ⟨g2, get0 _ _ (by omega) q1, q2⟩
  case work =>
    by_cases e : j = n
    · subst e
      rw [dN]
      refine ⟨hrw, child, ?_, ?_⟩
      · rw [Array.getElem?_push, if_pos (by simp; omega)]
      · have k := hC rf2 (fun x b hx hs => b3 x b hx (by omega)) hrw
        rw [wfs] at k
        exact k
    · rw [dO j (by omega)]
      obtain ⟨q0, g2, q1, q2⟩ := h.work j k1 (by omega)
      refine ⟨q0, g2, get0 _ _ (by omega) q1, ?_⟩
      have := szO j k1 (by omega)
      rw [show ((⟨some w0, none, σ.l ++ [(c, spec)]⟩ : Sg).ph.map fun w0 => w0.heap.size).getD 0 = szp σ from this.symm]
      exact q2
  case phase =>
    cases hw3
    have nw : ∀ j, q ≤ j → j < n + 1 → (j = n) ∨ (j < n ∧ j ≠ n) := fun j _ _ => by omega
    refine {
      hr := b1, sub := b2, old := b3, le := b4, fro := b5, same := b6, wsub := fun j k1 k2 => ?_, wold := fun j k1 k2 => ?_, wle := fun j k1 k2 => ?_, wfro := fun j k1 k2 => ?_, priv := fun j k1 k2 x b hx hs => ?_, pvr := fun j k1 k2 x b hp hx => ?_ }
    · rcases nw j k1 k2 with rfl | ⟨hj, _⟩
      · rw [dN]; exact fun _ _ k => k
      · rw [dO j hj]; obtain ⟨p, _⟩ := dph j k1 hj; exact p.wsub j k1 hj
    · rcases nw j k1 k2 with rfl | ⟨hj, _⟩
      · rw [dN]; exact fun _ _ k _ => k
      · rw [dO j hj]; obtain ⟨p, _⟩ := dph j k1 hj; exact p.wold j k1 hj
    · rcases nw j k1 k2 with rfl | ⟨hj, _⟩
      · rw [dN]; exact Nat.le_of_eq wfs.symm
      · rw [dO j hj]; obtain ⟨p, _⟩ := dph j k1 hj; exact p.wle j k1 hj
    · rcases nw j k1 k2 with rfl | ⟨hj, _⟩
      · rw [dN, b0]; exact fun x o _ => frz_wr w0 x o
      · rw [dO j hj]; obtain ⟨p, _⟩ := dph j k1 hj; exact p.wfro j k1 hj
    · rcases nw j k1 k2 with rfl | ⟨hj, _⟩
      · rw [dN] at hx
        have := (b1.lt hx).1
        omega
      · rw [dO j hj] at hx; obtain ⟨p, _⟩ := dph j k1 hj; exact ⟨p.priv j k1 hj x b hx hs, by omega⟩
    · obtain ⟨p, _⟩ := dph j k1 (by omega)
      exact p.pvr j k1 (by omega) x b hp.1 hx
  case chan =>
    have hz' : Live σ n q D z := by
      rcases hz with hz | ⟨j, k1, k2, k3⟩
      · cases hz
      · by_cases e : j = n
        · subst e; rw [dN] at k3; exact .inl (by rw [hid]; exact congrArg some k3)
        · rw [dO j (by omega)] at k3; exact .inr ⟨j, k1, by omega, k3⟩
    obtain ⟨q1, q2, q3, q4⟩ := h.chan z hz'
    refine ⟨q1, q2, q3, fun j k1 k2 => ?_⟩
    by_cases e : j = n
    · subst e
      rw [dN]
      exact ⟨fun x hx => q3 x (b2 _ _ hx), fun hp => by omega⟩
    · rw [dO j (by omega)]
      exact ⟨(q4 j k1 (by omega)).1, fun hp => (q4 j k1 (by omega)).2 hp.1⟩
  case apart =>
    by_cases e1 : i = n
    · by_cases e2 : j = n
      · omega
      · subst e1
        rw [dN, dO j (by omega)] at e
        exact absurd (by rw [hid]; exact congrArg some e) (h.idle j k3 (by omega))
    · by_cases e2 : j = n
      · subst e2
        rw [dN, dO i (by omega)] at e
        exact absurd (by rw [hid]; exact congrArg some e.symm) (h.idle i k1 (by omega))
      · rw [dO i (by omega), dO j (by omega)] at e
        exact h.apart i j k1 (by omega) k3 (by omega) e
  case ti =>
    have ht : TI (fun k => q < k ∧ k ≤ n) (fun k b => Pv k b ∧ k ≤ n) (fun b => σ.ph ≠ none ∧ ∃ a, rf a b) (fun _ => False) w'.heap.size t := h.ti.congr fun k b hk => ⟨fun k1 => ⟨k1, hk.2⟩, fun k1 => k1.1⟩
    have hk := ht.fork (k := gs.size) (B' := fun b => (some w0 : Option World) ≠ none ∧ ∃ a, rf2 a b) (h.deaf _) (x := { g := 0, fn := a.frame.fn, pos := a.frame.place, act := .go gs.size }) (y := { g := gs.size, fn := child.frame.fn, pos := a.frame.place, act := .start }) ⟨rfl, rfl⟩ ⟨rfl, rfl⟩
      (fun b hb => by omega) ?_ (fun _ _ _ _ => id) (fun k' b hA hp ⟨_, z, hz⟩ => ?_)
    · have eA : (fun k' => (q < k' ∧ k' ≤ n) ∨ k' = gs.size) = fun k => q < k ∧ k ≤ n + 1 := by funext k; apply propext; omega
      rw [eA] at hk
      exact hk
    · cases hp : σ.ph with
      | none =>
        left
        intro k hk
        have h1 := h.off hp
        have h2 := h.list
        rw [h1] at h2
        simp at h2
        omega
      | some w3 =>
        right
        simp only [hp] at hrf2
        subst hrf2
        funext b
        simp
    · obtain ⟨j, rfl⟩ : ∃ j, k' = j + 1 := ⟨k' - 1, by omega⟩
      obtain ⟨p, _⟩ := dph j (by omega) (by omega)
      exact p.pvr j (by omega) (by omega) z b hp.1 (b2 _ _ hz)
  case deaf =>
    have : ((#[] : Trace).push { g := 0, fn := a.frame.fn, pos := a.frame.place, act := .go gs.size } |>.push { g := gs.size, fn := child.frame.fn, pos := a.frame.place, act := .start }) = #[{ g := 0, fn := a.frame.fn, pos := a.frame.place, act := .go gs.size }, { g := gs.size, fn := child.frame.fn, pos := a.frame.place, act := .start }] := rfl
    rw [this, Deaf_calm]
    · exact h.deaf g
    · intro op hop
      simp at hop
      rcases hop with rfl | rfl <;> simp
end
end Go.Proofs.Ytcobehkadhcjiaa

/-
  THE CREW: whatever step the machine takes.
-/
namespace Go.Proofs.Ytcobehkadhcjiaa
open Go Go.Conc
variable [Shift]

section
variable {P : Program} {S V : FuncId → Bool} {post : Value → World → Prop} {N0 : Nat} {W0 : World} {μ : Mu} {gs : Array Goroutine} {w' : World} {t : Trace} {n q : Nat} {D : Nat → Wk} {Pv : Nat → Nat → Prop} {rf : BR} {σ : Sg} {r : BR} {w : World} {a : Goroutine}

theorem Crew.at (h : Crew P S V post N0 W0 μ gs w' t n q D Pv rf σ r w a) (d : Nat) : Crew P S V post N0 W0 μ gs (w'.at d) t n q D Pv rf σ r w a := by
  have e : ∀ b, b < w'.heap.size → ¬ False → (w'.at d).heap[b]? = w'.heap[b]? := fun _ _ _ => rfl
  have hr2 := h.hr.else_ e fun _ _ _ => id
  exact {
    size := h.size, list := h.list, at_ := h.at_, zero := h.zero, main := h.main.else_ hr2, hr := hr2, gone := h.gone,
    work := fun j k1 k2 => (by
      obtain ⟨q0, g2, q1, q2⟩ := h.work j k1 k2
      have hj := q0.else_ e fun _ _ _ => id
      exact ⟨hj, g2, q1, q2.else_ hj⟩), up := h.up, off := h.off,
    phase := fun w0 hw0 => (by
      have p := h.phase w0 hw0
      exact { hr := p.hr.else_ e fun _ _ _ => id, sub := p.sub, old := p.old, le := p.le, fro := p.fro, same := p.same, wsub := p.wsub, wold := p.wold, wle := p.wle, wfro := p.wfro, priv := p.priv, pvr := p.pvr }),
    chan := h.chan, apart := h.apart, idle := h.idle, pv := h.pv, pvp := h.pvp, base := h.base, low := h.low, n0 := h.n0, os := h.os, output := h.output, ti := h.ti, deaf := h.deaf, mu := h.mu }

variable (P S V post N0 W0) in
/-- The machine goes on. -/
def Onward (μ : Mu) (m : Stepped × Array MemOp) (t : Trace) : Prop :=
  ∃ gs' w2 sl μ' n' q' D' Pv' rf' σ' r' w1 a' ops, m = (.next (crowd gs' w2 sl), ops) ∧ Mu.Lt μ' μ ∧ Crew P S V post N0 W0 μ' gs' w2 (t ++ ops) n' q' D' Pv' rf' σ' r' w1 a'

omit [Shift] in
theorem listed_nil {f : FuncId} {a : Act} {o : Oper} {w : World} (h : (execOp a.eval o).events P w #[] = #[]) : listed P f a o w = #[] := by unfold listed; rw [h, seen_none]

/-- Who offers what. -/
theorem Crew.offers (h : Crew P S V post N0 W0 μ gs w' t n q D Pv rf σ r w a) {i : Nat} {x : Goroutine} (hx : gs[i + 1]? = some x) (c : Nat) (b : Bool) : (b = false ∨ (q ≤ i → (D i).c = c → (D i).e.2 ≠ 0)) → offersAt x c b = [] := by
  intro hb
  have hin : i < n := by have := (Array.getElem?_eq_some_iff.1 hx).1; have := h.size; omega
  by_cases hi : i < q
  · obtain ⟨g2, k1, _, k3⟩ := h.gone i hi
    rw [hx] at k1
    cases k1
    exact offersAt_of_not_blocked (by rcases k3.status with k | k <;> rw [k] <;> simp) c b
  · obtain ⟨_, g2, k1, k2⟩ := h.work i (by omega) hin
    rw [hx] at k1
    cases k1
    generalize he : (D i).e = e at k2 hb
    cases k2 with
    | born _ _ _ _ _ => exact offersAt_of_not_blocked (by simp [born]) c b
    | runs _ k3 => exact offersAt_of_not_blocked (by rw [k3.running]; simp) c b
    | waits _ _ _ _ =>
      rcases hb with rfl | hb
      · exact offersAt_parked_send' _ _ _ _ _ _
      · cases b with
        | false => exact offersAt_parked_send' _ _ _ _ _ _
        | true =>
          rw [offersAt_parked_send]
          split
          · rename_i e
            exact absurd rfl (hb (by omega) e)
          · rfl
/-- What the first offers. -/
theorem Crew.offers0 (h : Crew P S V post N0 W0 μ gs w' t n q D Pv rf σ r w a) (c : Nat) (b : Bool) (hb : b = true ∨ μ.1.2 ≠ 0 ∨ (D q).c ≠ c) : offersAt a c b = [] := by
  have hm := h.main
  generalize hμ : μ.1 = e at hm hb
  cases hm with
  | runs _ k => exact offersAt_of_not_blocked (by rw [k.running]; simp) c b
  | waits _ =>
    obtain ⟨_, hc, _⟩ := h.head rfl
    rcases hb with rfl | hb | hb
    · exact offersAt_parked_recv' _ _ _ _ _
    · exact absurd rfl hb
    · cases b with
      | true => exact offersAt_parked_recv' _ _ _ _ _
      | false =>
        rw [offersAt_parked_recv]
        split
        · rename_i e
          exact absurd (by rw [hc, e]) hb
        · rfl

omit [Shift] in
theorem stepG_fin {f : FuncId} {fn : Func} {t : Array Value} {k : List Item} {w w2 : World} {v : Value} (hf : P.funcs[f]? = some fn) (hi : P.inits.idxOf? f = none) (hr : (results fn t).run P w = .ok v w2) :
    stepG P true (G { (base f).at ⟨t, []⟩ k with mode := .returning } []) w = .ended (.done v) w2 (seen P f ((results fn t).events P w #[])) := by
  have : ∀ (es' : Array Event), GStep.after es' (.ended (.done v) w2) = .ended (.done v) w2 es' := fun es' => by simp [GStep.after]
  simp [G, stepG, unwind, doReturn, Frame.at, base, hf, hr, hi, GStep.after]
end
end Go.Proofs.Ytcobehkadhcjiaa

/-
  THE CREW: the first's steps; those of the others; the run.
-/
namespace Go.Proofs.Ytcobehkadhcjiaa
open Go Go.Conc
variable [Shift]

section
variable {P : Program} {S V : FuncId → Bool} {post : Value → World → Prop} {N0 : Nat} {W0 : World} {μ : Mu} {gs : Array Goroutine} {w' : World} {t : Trace} {n q : Nat} {D : Nat → Wk} {Pv : Nat → Nat → Prop} {rf : BR} {σ : Sg} {r : BR} {w : World} {a : Goroutine}

omit [Shift] in
theorem send_run {o : Oper} {x y : Operand} {e : Operand → Value} {c : Nat} (hop : o.op = .send x y) (hx : e x = .chan (some c)) (w' : World) (es : Array Event) :
    (execOp e o).run P w' = .ok (.comm #[scase c (e y) (.tuple #[])] true .send) w' ∧ (execOp e o).events P w' es = es := by
  unfold execOp
  rw [hop]
  simp only [hx]
  exact ⟨rfl, rfl⟩

omit [Shift] in
theorem served_at {kd : CallKind} {f : FuncId} {t' : Array Value} {ops : Array Oper} {i : Nat} {rest : List Nat} {o : Oper} {k : List Item} {cs : List Frame} (ho : ops[i]? = some o) (v : Value) :
    Go.Conc.served (G ((baseK kd f).at ⟨t', []⟩ (.inRegion ops (i :: rest) :: k)) cs) v = G ((baseK kd f).at ⟨putT t' o.dst v, []⟩ (.inRegion ops rest :: k)) cs := by
  have e : Go.Conc.served (G ((baseK kd f).at ⟨t', []⟩ (.inRegion ops (i :: rest) :: k)) cs) v = G (((baseK kd f).at ⟨t', []⟩ (.inRegion ops (i :: rest) :: k)).finish v) cs := rfl
  rw [e, Frame.finish_at, ho]
  simp only [Option.bind_some]
  rw [put_bare]

/-- The first hears. -/
theorem Crew.hear (h : Crew P S V post N0 W0 μ gs w' t n q D Pv rf σ r w a) {w0 : World} {idle : Option Nat} {c : Nat} {spec : Spec} {l : List (Nat × Spec)} {z : Value} {m : Mt} (hσ : σ = ⟨some w0, idle, (c, spec) :: l⟩) (hμ : μ.1 = (m, 1))
    (hst : stepG P true a w' = .comm a #[rcase c z] true (.recv false) w' #[]) (hm : Meets P S V post m r w a w0 idle spec l) (sl : Option (Nat × Nat)) : Onward P S V post N0 W0 μ (runT P (crowd gs w' sl) 0) t := by
  subst hσ
  obtain ⟨hqn, hc, hsp⟩ := h.head rfl
  obtain ⟨c1, _⟩ := h.chan c (.inr ⟨q, Nat.le_refl q, hqn, hc⟩)
  have his := h.size
  obtain ⟨_, g, hg, hW⟩ := h.work q (Nat.le_refl q) hqn
  have others : ∀ k x, k ≠ q + 1 → (gs.setIfInBounds 0 ph)[k]? = some x → offersAt x c true = [] := fun k x hk hx => by
    rcases getElem?_stand gs 0 k x hx with ⟨_, rfl⟩ | ⟨k0, hx⟩
    · exact offersAt_ph _ _
    · obtain ⟨j, rfl⟩ : ∃ j, k = j + 1 := ⟨k - 1, by omega⟩
      have hjn : j < n := by have := (Array.getElem?_eq_some_iff.1 hx).1; omega
      exact h.offers hx c true (.inr fun hq e => by
        have := h.apart j q hq hjn (Nat.le_refl q) hqn (by rw [e, hc])
        omega)
  by_cases he : (D q).e.2 = 0
  · -- it was waiting
    generalize hE : (D q).e = E at hW he
    cases hW with
    | born _ _ _ _ _ => simp at he
    | runs _ _ => simp at he
    | @waits m2 gk vs v' zk x k1 k2 k3 k4 =>
      rw [hc] at hg
      have hp : partners (gs.setIfInBounds 0 ph) c true = [(q + 1, 0)] := by
        rw [partners_one (j := q + 1) (g := parked gk #[scase c v' zk] .send) (by rw [Array.getElem?_setIfInBounds_ne (by omega)]; exact hg) others, offersAt_parked_send]
        simp
      have hrun := crowd_recv_meets (P := P) (sl := sl) (i := 0) (j := q + 1) h.zero hst c1 (by omega) hg hp
      rw [ops_nil, Array.empty_append, finishComm_send, finishComm_recv] at hrun
      have e1 : recvd false v' true = v' := rfl
      rw [e1] at hrun
      obtain ⟨μ', D', r1, wL, l1, l2⟩ := h.meet (m := m) (g0 := a) (gk := gk) hm (by rw [hμ]) k1 k2 k3 k4 (gs' := (gs.setIfInBounds (q + 1) (Go.Conc.served gk undef)).setIfInBounds 0 (Go.Conc.served a v')) (by simp) (get_set_eq _ (by simp; omega))
        (by rw [get_set_ne _ (by omega)]; exact get_set_eq _ (by omega)) (fun j h0 h1 => by rw [get_set_ne _ (by omega), get_set_ne _ (by omega)])
        (x1 := { g := q + 1, fn := gk.frame.fn, pos := gk.frame.place, act := .send c 0 }) (x2 := { g := 0, fn := a.frame.fn, pos := a.frame.place, act := .recv c 0 0 }) (x3 := { g := q + 1, fn := gk.frame.fn, pos := gk.frame.place, act := .sendDone c 0 }) (x4 := { g := 0, fn := a.frame.fn, pos := a.frame.place, act := .recvDone c 0 }) ⟨rfl, rfl⟩ ⟨rfl, rfl⟩ ⟨rfl, rfl⟩ ⟨rfl, rfl⟩
      exact ⟨_, _, _, μ', _, _, D', _, _, _, r1, wL, _, _, hrun, l1, l2⟩
  · -- it waits for it
    have hp : partners (gs.setIfInBounds 0 ph) c true = [] := partners_nil fun k x hx => by
      by_cases hk : k = q + 1
      · subst hk
        rcases getElem?_stand gs 0 _ x hx with ⟨hk, _⟩ | ⟨_, hx⟩
        · omega
        · exact h.offers hx c true (.inr fun _ _ => he)
      · exact others k x hk hx
    have hrun := crowd_waits (P := P) (sl := sl) (i := 0) h.zero hst (fun cc hcc => by
      simp at hcc
      subst hcc
      exact ways_recv_none c1 hp)
    rw [ops_nil] at hrun
    obtain ⟨μ', l1, l2⟩ := h.turnM (m, 0) (parked a #[rcase c z] (.recv false)) (.waits hm) (fun _ => he) (by rw [hμ]; exact .right _ (by omega))
    exact ⟨_, _, _, μ', _, _, _, _, _, _, _, _, _, _, hrun, l1, by rw [Array.append_empty]; exact l2⟩

/-- One sends. -/
theorem Crew.send (h : Crew P S V post N0 W0 μ gs w' t n q D Pv rf σ r w a) {i : Nat} (hq : q ≤ i) (hi : i < n) {g : Goroutine} (hg : gs[i + 1]? = some g) {m : Mt} {vs : Array Value} {v' z : Value} {x : Nat} (he : (D i).e = (m, 1))
    (hst : stepG P false g w' = .comm g #[scase (D i).c v' z] true .send w' #[]) (k1 : (D i).spec (D i).w (.agg vs)) (k2 : Nwv (szp σ) (.agg vs)) (k3 : VR S (D i).r (.agg vs) v') (k4 : QuitsIn P x (Go.Conc.served g undef)) (sl : Option (Nat × Nat)) :
    Onward P S V post N0 W0 μ (runT P (crowd gs w' sl) (i + 1)) t := by
  obtain ⟨c1, _⟩ := h.chan (D i).c (.inr ⟨i, hq, hi, rfl⟩)
  have his := h.size
  have others : ∀ k x, k ≠ 0 → (gs.setIfInBounds (i + 1) ph)[k]? = some x → offersAt x (D i).c false = [] := fun k x hk hx => by
    rcases getElem?_stand gs (i + 1) k x hx with ⟨_, rfl⟩ | ⟨k0, hx⟩
    · exact offersAt_ph _ _
    · obtain ⟨j, rfl⟩ : ∃ j, k = j + 1 := ⟨k - 1, by omega⟩
      exact h.offers hx _ _ (.inl rfl)
  by_cases hw : i = q ∧ μ.1.2 = 0
  · obtain ⟨rfl, hw⟩ := hw
    have hm := h.main
    generalize hμ : μ.1 = E at hm hw
    cases hm with
    | runs _ _ => simp at hw
    | @waits m0 g0 z0 c spec w0 idle l hM =>
      obtain ⟨_, hc, hsp⟩ := h.head rfl
      have hz := h.zero
      have hp : partners (gs.setIfInBounds (i + 1) ph) (D i).c false = [(0, 0)] := by
        rw [partners_one (j := 0) (g := parked g0 #[rcase c z0] (.recv false)) (by rw [Array.getElem?_setIfInBounds_ne (by omega)]; exact hz) others, offersAt_parked_recv, hc]
        simp
      have hrun := crowd_send_meets (P := P) (sl := sl) (i := i + 1) (j := 0) hg (by simpa using hst) c1 (by omega) (by rw [hc]; exact hz) hp
      rw [ops_nil, Array.empty_append, finishComm_send, finishComm_recv] at hrun
      have e1 : recvd false v' true = v' := rfl
      rw [e1, hc] at hrun
      obtain ⟨μ', D', r1, wL, l1, l2⟩ := h.meet (m := m0) (g0 := g0) (gk := g) hM (by rw [hμ]) k1 k2 k3 k4 (gs' := (gs.setIfInBounds 0 (Go.Conc.served g0 v')).setIfInBounds (i + 1) (Go.Conc.served g undef)) (by simp) (by rw [get_set_ne _ (by omega)]; exact get_set_eq _ (by omega))
        (get_set_eq _ (by simp; omega)) (fun j h0 h1 => by rw [get_set_ne _ (by omega), get_set_ne _ (by omega)])
        (x1 := { g := i + 1, fn := g.frame.fn, pos := g.frame.place, act := .send c 0 }) (x2 := { g := 0, fn := g0.frame.fn, pos := g0.frame.place, act := .recv c 0 0 }) (x3 := { g := i + 1, fn := g.frame.fn, pos := g.frame.place, act := .sendDone c 0 }) (x4 := { g := 0, fn := g0.frame.fn, pos := g0.frame.place, act := .recvDone c 0 }) ⟨rfl, rfl⟩ ⟨rfl, rfl⟩ ⟨rfl, rfl⟩ ⟨rfl, rfl⟩
      exact ⟨_, _, _, μ', _, _, D', _, _, _, r1, wL, _, _, hrun, l1, l2⟩
  · have hp : partners (gs.setIfInBounds (i + 1) ph) (D i).c false = [] := partners_nil fun k y hy => by
      by_cases hk : k = 0
      · subst hk
        rcases getElem?_stand gs (i + 1) _ y hy with ⟨hk, _⟩ | ⟨_, hy⟩
        · omega
        · rw [h.zero] at hy
          cases hy
          refine h.offers0 _ _ (.inr ?_)
          by_cases e : i = q
          · exact .inl fun e0 => hw ⟨e, e0⟩
          · exact .inr fun e0 => by have := h.apart q i (Nat.le_refl q) (by omega) hq hi e0; omega
      · exact others k y hk hy
    have hrun := crowd_waits (P := P) (sl := sl) (i := i + 1) hg (by simpa using hst) (fun cc hcc => by
      simp at hcc
      subst hcc
      exact ways_send_none c1 (by simp) hp)
    rw [ops_nil] at hrun
    obtain ⟨μ', l1, l2⟩ := h.turn hi (m, 0) (parked g #[scase (D i).c v' z] .send) (fun hc => absurd hc (by omega)) (fun _ => .waits k1 k2 k3 k4) (fun e _ e0 => hw ⟨e, e0⟩) (by rw [he]; exact .right _ (by omega))
    exact ⟨_, _, _, μ', _, _, _, _, _, _, _, _, _, _, hrun, l1, by rw [Array.append_empty]; exact l2⟩
end
end Go.Proofs.Ytcobehkadhcjiaa

/-
  Goroutines among others: part 18 of what the law's own text rests on.
-/
import Derived.Test.YtcobehkadhcjiaaCc11
import Derived.Test.YtcobehkadhcjiaaCc17
/-
  THE CREW beside sync.WaitGroup: the first within Wait, until it says 'acquire'.
-/
namespace Go.Proofs.Ytcobehkadhcjiaa
open Go Go.Conc Go.ConcN Go.Conc.Lib
open Go.ConcR (KK WgAt wgBlock stA smA Payload DC0 Bk rd wr mk)
variable [Shift] [Payload]

omit [Shift] [Payload] in
theorem none_counted {j : Nat} {E : Nat → WD} (ho : OpenSt j E) (hv : Vc j E = 0) : AllQuit j E := fun i hi => by
  have h1 := le_sumTo (f := fun x => cnt (E x)) hi
  have h2 : cnt (E i) = 0 := by simp only [Vc] at hv; omega
  have := ho i hi
  simp only [cnt] at h2
  split at h2 <;> omega

section
variable {P : Program} {L : WgLink} {S V : FuncId → Bool} {post : Value → World → Prop} {Wg : Nat} {R : Bool → Nat} {r r1 : BR} {w w' w1 w2 : World}
variable {N0 : Nat} {W0 : World} {μ : Mj} {gs : Array Goroutine} {t : Trace} {n q : Nat} {D : Nat → Dj} {Pv Rb : Nat → Nat → Prop} {Gs : Nat → Prop} {p0 : Nat} {st sm st' sm' : Int} {tag tag1 : CTag} {d0 d1 : Nat} {σ σ1 : Sj} {a : Goroutine}

/-- What becomes of the first behind the wait. -/
abbrev Waited (P : Program) (L : WgLink) (S V : FuncId → Bool) (post : Value → World → Prop) (rows : Option Rw) (l : List Spec) (m : Mt) (r : BR) (w : World) (B : Goroutine) : Prop :=
  ∀ r1 w1 w2', (∀ a b, r a b → r1 a b) → (rows = none ∧ l = [] ∧ w1 = w ∨ ∃ rw vs, rows = some rw ∧ Told rw l w w1 vs) → Back P L S V post ⟨none, false, none, []⟩ m r1 w1 B w2'

/-- Ahead of the load. -/
theorem Cj.wait1 (h : Cj P L S V post N0 W0 μ gs w' t n q D Pv Rb Gs Wg R p0 st sm tag 1 σ r w a) {wg : Nat} {rows : Option Rw} {l : List Spec} {m : Mt} {rk f : Nat} {b0 : Frame} {a0 : Act} {ops0 : Array Oper} {i0 : Nat} {rest0 : List Nat} {k0 : List Item} {cs : List Frame} (hσ : σ = ⟨some wg, false, rows, l⟩) (htag : tag = .anch ∨ tag = .w1)
    (hl : l.length < 1000000) (hrows : ∀ rw, rows = some rw → l.length = rw.n) (hB : Waited P L S V post rows l m r w (G (b0.at (a0.put ((ops0[i0]?).bind (·.dst)) (.tuple #[])) (.inRegion ops0 rest0 :: k0)) cs))
    (hG : Goes P true (RL L.tWg Wg) DC0 (W1 P L.tWg Wg (G (b0.at (a0.put ((ops0[i0]?).bind (·.dst)) (.tuple #[])) (.inRegion ops0 rest0 :: k0)) cs) (WHd L Wg (b0.at a0 (.inRegion ops0 (i0 :: rest0) :: k0)) cs)) f a w') (hrk : 4 * (Vc (n - q) fun j => (D (q + j)).wd) + 5 ≤ rk)
    (hm : ∀ k, k < rk → Em.Lt (m, k) μ.1) (hf : ∀ f1, f1 < f → Em.Lt (m, rk) μ.1 ∨ ((m, rk) = μ.1 ∧ f1 < μ.2.2)) (sl : Option (Nat × Nat)) : OnJ P L S V post N0 W0 μ (runT P (crowd gs w' sl) 0) t := by
  subst hσ
  obtain ⟨g1, g2, g3, g4⟩ := h.wg wg rfl
  have hn1 : n - q < 1000000 := by have := h.list; simp only at this; omega
  have hVn := Vc_le (n - q) (fun j => (D (q + j)).wd)
  have hop : isOpen tag := by rcases htag with rfl | rfl <;> trivial
  have hpe : pend tag = 0 := by rcases htag with rfl | rfl <;> rfl
  rcases Goes.cases hG with hstop | ⟨m', rfl, hstep⟩
  · obtain ⟨_, hall⟩ := hstop w' (rl_refl _ _)
    obtain ⟨o1, o2, rfl, _⟩ := g4.open_inv hop
    rw [hpe, Nat.add_zero] at o2
    subst o2
    obtain ⟨g', hgo, hz, hnz⟩ := hall _ (by omega) g3
    by_cases hv : (Vc (n - q) fun j => (D (q + j)).wd) = 0
    · obtain ⟨m2, hk⟩ := hz hv
      refine h.stepA (hbg := rfl) (tag1 := .ke) hgo (.refl Wg w') g3 ?_ (.waits (.ke hk) rfl hl hrows hB) ⟨rfl, rfl, rfl⟩ (bk_ev (bk1 _ (.inr (.inr ⟨_, _, rfl, rfl⟩)))) rfl (by simp [Ytcobehkadhcjiaa.need]) (.inl (hm _ (by omega))) sl
      rw [hv]
      simpa using ConcN.Mode.fin (tag := .ke) trivial (none_counted o1 hv)
    · obtain ⟨m2, hk⟩ := hnz hv
      refine h.stepA (hbg := rfl) (tag1 := .w2 _) hgo (.refl Wg w') g3 (g4.reopen hop trivial (by rw [hpe]; rfl) (fun vs e => ?_)) (.waits (.w2 hk) rfl hl hrows hB) ⟨rfl, rfl, rfl⟩ (bk_ev (bk1 _ (.inr (.inr ⟨_, _, rfl, rfl⟩)))) rfl (by simp [Ytcobehkadhcjiaa.need]) (.inl (hm _ (by omega))) sl
      cases e
      omega
  · obtain ⟨g', w2, es, hgo, ⟨rfl, rfl⟩, hg'⟩ := hstep w' (rl_refl _ _)
    exact h.stepA (hbg := rfl) (tag1 := .w1) hgo (.refl Wg w2) g3 (g4.reopen hop trivial (by rw [hpe]; rfl) (by simp)) (.waits (.w1 (rk := rk) hg') rfl hl hrows hB) ⟨rfl, rfl, rfl⟩ (bk_ev (by simp)) rfl (by simp only [Ytcobehkadhcjiaa.need]; omega) (hf m' (by omega)) sl

/-- Within Wait. -/
theorem Cj.waits (H : WgLib P L) (h : Cj P L S V post N0 W0 μ gs w' t n q D Pv Rb Gs Wg R p0 st sm tag d0 σ r w a) {wg : Nat} {rows : Option Rw} {l : List Spec} {m : Mt} {rk f : Nat} {b0 : Frame} {a0 : Act} {ops0 : Array Oper} {i0 : Nat} {rest0 : List Nat} {k0 : List Item} {cs : List Frame} (hσ : σ = ⟨some wg, false, rows, l⟩)
    (hA : WaitSt P L Wg (G (b0.at (a0.put ((ops0[i0]?).bind (·.dst)) (.tuple #[])) (.inRegion ops0 rest0 :: k0)) cs) (b0.at a0 (.inRegion ops0 (i0 :: rest0) :: k0)) cs tag d0 rk f a w') (hrun : a.status = .running)
    (hl : l.length < 1000000) (hrows : ∀ rw, rows = some rw → l.length = rw.n) (hB : Waited P L S V post rows l m r w (G (b0.at (a0.put ((ops0[i0]?).bind (·.dst)) (.tuple #[])) (.inRegion ops0 rest0 :: k0)) cs))
    (hμ : μ.1 = (m, rk)) (hf : μ.2.2 = f) (hjoin : ∀ m', Goes P true (RL L.tWg Wg) DC0 (WAc P L.tWg Wg (G (b0.at (a0.put ((ops0[i0]?).bind (·.dst)) (.tuple #[])) (.inRegion ops0 rest0 :: k0)) cs)) m' a w' → tag = .acq → d0 = 0 → (∀ w₁, RL L.tWg Wg w' w₁ → WAc P L.tWg Wg (G (b0.at (a0.put ((ops0[i0]?).bind (·.dst)) (.tuple #[])) (.inRegion ops0 rest0 :: k0)) cs) a w₁) → rk = 2 →
      ∀ sl, OnJ P L S V post N0 W0 μ (runT P (crowd gs w' sl) 0) t) (sl : Option (Nat × Nat)) : OnJ P L S V post N0 W0 μ (runT P (crowd gs w' sl) 0) t := by
  subst hσ
  obtain ⟨g1, g2, g3, g4⟩ := h.wg wg rfl
  have hn1 : n - q < 1000000 := by have := h.list; simp only at this; omega
  have hVn := Vc_le (n - q) (fun j => (D (q + j)).wd)
  have lt : ∀ k, k < rk → Em.Lt (m, k) μ.1 := fun k hk => by rw [hμ]; exact .right _ hk
  have hnd := h.need
  rw [hμ] at hnd
  cases hA with
  | kd hG =>
    rcases Goes.cases hG with hstop | ⟨m', rfl, hstep⟩
    · obtain ⟨_, g', hgo, m2, hk⟩ := hstop w' (rl_refl _ _)
      exact h.stepA (hbg := rfl) hgo (.refl Wg w') g3 (g4.reopen (tag' := .anch) trivial trivial rfl (by simp)) (.waits (.anch (rk := 4 * (Vc (n - q) fun j => (D (q + j)).wd) + 6) hk) rfl hl hrows hB) ⟨rfl, rfl, rfl⟩ (bk_ev (bk1 _ (.inl rfl))) rfl (by simp [Ytcobehkadhcjiaa.need]) (.inl (lt _ (by omega))) sl
    · obtain ⟨g', w2, es, hgo, ⟨rfl, rfl⟩, hg'⟩ := hstep w' (rl_refl _ _)
      exact h.stepI hgo (by rw [hμ]; exact .waits (.kd hg') rfl hl hrows hB) (by omega) sl
  | anch hG =>
    simp only [Ytcobehkadhcjiaa.need] at hnd
    rcases Goes.cases hG with hstop | ⟨m', rfl, hstep⟩
    · obtain ⟨m2, hk⟩ := wait_round H a w' (hstop w' (rl_refl _ _))
      exact h.wait1 rfl (.inl rfl) hl hrows hB hk (rk := rk - 1) (by omega) (fun k hk => lt _ (by omega)) (fun _ _ => .inl (lt _ (by omega))) sl
    · obtain ⟨g', w2, es, hgo, ⟨rfl, rfl⟩, hg'⟩ := hstep w' (rl_refl _ _)
      exact h.stepI hgo (by rw [hμ]; exact .waits (.anch hg') rfl hl hrows hB) (by omega) sl
  | w1 hG =>
    simp only [Ytcobehkadhcjiaa.need] at hnd
    exact h.wait1 rfl (.inr rfl) hl hrows hB hG hnd lt (fun f1 h1 => .inr ⟨hμ.symm, by omega⟩) sl
  | @w2 vs _ _ _ hG =>
    rcases Goes.cases hG with hstop | ⟨m', rfl, hstep⟩
    · obtain ⟨_, hall⟩ := hstop w' (rl_refl _ _)
      obtain ⟨o1, o2, rfl, o4⟩ := g4.open_inv trivial
      obtain ⟨o4, o5⟩ := o4 vs rfl
      simp only [pend, Nat.add_zero] at o2
      subst o2
      obtain ⟨hhit, hmiss⟩ := hall _ (by omega) g3
      by_cases hv : (Vc (n - q) fun j => (D (q + j)).wd) = vs
      · obtain ⟨g', hgo, m2, hk⟩ := hhit hv
        exact h.stepA (hbg := rfl) (tag1 := .w3) hgo (aside_setCell w' (stA Wg) _) (g3.setSt _) (.reg trivial o1 (by omega)) (.waits (.wr hk) rfl hl hrows hB) ⟨rfl, rfl, rfl⟩ (bk_ev (by intro e he; simp at he; rcases he with rfl | rfl <;> exact bk_cell _ _ rfl)) (by simp [deafBehind, rd, wr]) (by simp [Ytcobehkadhcjiaa.need]) (.inl (lt _ (by omega))) sl
      · obtain ⟨g', hgo, m2, hk⟩ := hmiss hv
        exact h.stepA (hbg := rfl) hgo (.refl Wg w') g3 (g4.reopen (tag' := .anch) trivial trivial rfl (by simp)) (.waits (.anch (rk := 4 * (Vc (n - q) fun j => (D (q + j)).wd) + 6) hk) rfl hl hrows hB) ⟨rfl, rfl, rfl⟩ (bk_ev (bk1 _ (.inr (.inr ⟨_, _, rfl, rfl⟩)))) rfl (by simp [Ytcobehkadhcjiaa.need]) (.inl (lt _ (by omega))) sl
    · obtain ⟨g', w2, es, hgo, ⟨rfl, rfl⟩, hg'⟩ := hstep w' (rl_refl _ _)
      exact h.stepI hgo (by rw [hμ]; exact .waits (.w2 hg') rfl hl hrows hB) (by omega) sl
  | wr hG =>
    rcases Goes.cases hG with hstop | ⟨m', rfl, hstep⟩
    · obtain ⟨_, g', hgo, m2, hk⟩ := hstop w' (rl_refl _ _)
      exact h.stepA (hbg := rfl) hgo (.refl Wg w') g3 g4 (.waits (.w3 hk) rfl hl hrows hB) ⟨rfl, rfl, rfl⟩ (said_ev _ (.inr (.inl rfl))) rfl (by simp [Ytcobehkadhcjiaa.need]) (.inl (lt _ (by omega))) sl
    · obtain ⟨g', w2, es, hgo, ⟨rfl, rfl⟩, hg'⟩ := hstep w' (rl_refl _ _)
      exact h.stepI hgo (by rw [hμ]; exact .waits (.wr hg') rfl hl hrows hB) (by omega) sl
  | w3 hG =>
    rcases Goes.cases hG with hstop | ⟨m', rfl, hstep⟩
    · obtain ⟨_, _, hblk, hgo⟩ := hstop w' (rl_refl _ _)
      have blocked : ∀ {st' : Int}, WgAt L.tWg Wg w' st' 0 → ConcN.Mode (n - q) (fun j => (D (q + j)).wd) .blk st' 0 → OnJ P L S V post N0 W0 μ (runT P (crowd gs w' sl) 0) t := fun hw hmd =>
        h.stepA (hbg := rfl) (tag1 := .blk) (hblk ⟨_, hw⟩) (.refl Wg w') hw hmd (.waits (.blk hstop) rfl hl hrows hB) ⟨rfl, rfl, rfl⟩ (bk_ev (by simp)) rfl (by simp [Ytcobehkadhcjiaa.need]) (.inr ⟨hμ.symm, by omega⟩) sl
      cases g4 with
      | opn m1 _ _ => exact m1.elim
      | reg m1 m2 m3 => exact blocked g3 (.reg trivial m2 m3)
      | last K m1 m2 m3 m4 => exact blocked g3 (.last K trivial m2 m3 m4)
      | sema m2 =>
        obtain ⟨g', hgo, m2', hk⟩ := hgo g3
        exact h.stepA (hbg := rfl) (tag1 := .w4) hgo (aside_setCell w' (smA Wg) _) (g3.setSm 0) (.fin trivial m2) (.waits (.w4 hk) rfl hl hrows hB) ⟨rfl, rfl, rfl⟩ (bk_ev (by
          intro e he
          simp [semEvents] at he
          rcases he with rfl | rfl | rfl | rfl
          · exact .inl rfl
          · exact bk_cell _ _ rfl
          · exact bk_cell _ _ rfl
          · exact .inr (.inl rfl))) (by simp [deafBehind, semEvents]) (by simp [Ytcobehkadhcjiaa.need]) (.inl (lt _ (by omega))) sl
      | fin m1 _ => exact m1.elim
    · obtain ⟨g', w2, es, hgo, ⟨rfl, rfl⟩, hg'⟩ := hstep w' (rl_refl _ _)
      exact h.stepI hgo (by rw [hμ]; exact .waits (.w3 hg') rfl hl hrows hB) (by omega) sl
  | blk _ => cases hrun
  | w4 hG =>
    rcases Goes.cases hG with hstop | ⟨m', rfl, hstep⟩
    · obtain ⟨_, hx⟩ := hstop w' (rl_refl _ _)
      obtain ⟨o1, rfl, rfl⟩ := g4.fin_inv trivial
      obtain ⟨g', hgo, m2, hk⟩ := hx g3
      exact h.stepA (hbg := rfl) (tag1 := .ke) hgo (.refl Wg w') g3 (.fin trivial o1) (.waits (.ke hk) rfl hl hrows hB) ⟨rfl, rfl, rfl⟩ (bk_ev (bk1 _ (.inr (.inr ⟨_, _, rfl, rfl⟩)))) rfl (by simp [Ytcobehkadhcjiaa.need]) (.inl (lt _ (by omega))) sl
    · obtain ⟨g', w2, es, hgo, ⟨rfl, rfl⟩, hg'⟩ := hstep w' (rl_refl _ _)
      exact h.stepI hgo (by rw [hμ]; exact .waits (.w4 hg') rfl hl hrows hB) (by omega) sl
  | ke hG =>
    rcases Goes.cases hG with hstop | ⟨m', rfl, hstep⟩
    · obtain ⟨_, g', hgo, m2, hk⟩ := hstop w' (rl_refl _ _)
      obtain ⟨o1, rfl, rfl⟩ := g4.fin_inv trivial
      exact h.stepA (hbg := rfl) (tag1 := .acq) hgo (.refl Wg w') g3 (.fin trivial o1) (.waits (.acq hk) rfl hl hrows hB) ⟨rfl, rfl, rfl⟩ (bk_ev (bk1 _ (.inr (.inl rfl)))) rfl (by simp [Ytcobehkadhcjiaa.need]) (.inl (lt _ (by omega))) sl
    · obtain ⟨g', w2, es, hgo, ⟨rfl, rfl⟩, hg'⟩ := hstep w' (rl_refl _ _)
      exact h.stepI hgo (by rw [hμ]; exact .waits (.ke hg') rfl hl hrows hB) (by omega) sl
  | acq hG =>
    rcases Goes.cases hG with hstop | ⟨m', rfl, hstep⟩
    · exact hjoin _ hG rfl rfl hstop rfl sl
    · obtain ⟨g', w2, es, hgo, ⟨rfl, rfl⟩, hg'⟩ := hstep w' (rl_refl _ _)
      exact h.stepI hgo (by rw [hμ]; exact .waits (.acq hg') rfl hl hrows hB) (by omega) sl
end
end Go.Proofs.Ytcobehkadhcjiaa

/-
  THE CREW beside sync.WaitGroup: the first has waited: what the others have told is its own.
-/
namespace Go.Proofs.Ytcobehkadhcjiaa
open Go Go.Conc Go.ConcN Go.Conc.Lib
open Go.ConcR (KK WgAt wgBlock stA smA Payload DC0 Bk rd wr mk)
variable [Shift] [Payload]

omit [Shift] [Payload] in
theorem Nwv.low {s s' : Nat} {v : Value} (h : Nwv s' v) (hs : s ≤ s') : Nwv s v := by
  cases v with
  | agg cs =>
    intro i hi
    rcases h i hi with k | k | ⟨a, n, c, k1, k2⟩
    · exact .inl k
    · exact .inr (.inl k)
    · exact .inr (.inr ⟨a, n, c, k1, k2.imp id fun k => by omega⟩)
  | _ => exact h.elim
omit [Shift] [Payload] in
theorem two_of {cs : Array Value} (h : cs.size = 2) : ∃ a b, cs = #[a, b] := by
  obtain ⟨l⟩ := cs
  match l, h with
  | [a, b], _ => exact ⟨a, b, rfl⟩
omit [Payload] in
theorem vr_two {S : FuncId → Bool} {r : BR} {v u1 u2 : Value} (h : VR S r v (.agg #[u1, u2])) : ∃ v1 v2, v = .agg #[v1, v2] ∧ VR S r v1 u1 ∧ VR S r v2 u2 := by
  generalize hu : Value.agg #[u1, u2] = u at h
  cases h with
  | @agg cs cs' e hc =>
    cases hu
    obtain ⟨a, b, rfl⟩ := two_of (cs := cs) (by simpa using e)
    exact ⟨a, b, rfl, hc 0 (by simp) (by simp), hc 1 (by simp) (by simp)⟩
  | _ => cases hu

section
variable {P : Program} {L : WgLink} {S V : FuncId → Bool} {post : Value → World → Prop} {Wg : Nat} {R : Bool → Nat} {r r1 : BR} {w w' w1 w2 : World}
variable {N0 : Nat} {W0 : World} {μ : Mj} {gs : Array Goroutine} {t : Trace} {n q : Nat} {D : Nat → Dj} {Pv Rb : Nat → Nat → Prop} {Gs : Nat → Prop} {p0 : Nat} {st sm st' sm' : Int} {tag tag1 : CTag} {d0 d1 : Nat} {σ σ1 : Sj} {a : Goroutine}

/-- What the others have made becomes the first's: so many of them. -/
theorem Cj.deliver_ (h : Cj P L S V post N0 W0 μ gs w' t n q D Pv Rb Gs Wg R p0 st sm tag d0 σ r w a) {rw : Rw} (hrw : σ.rows = some rw) (hq1 : ∀ j, j < n - q → (D (q + j)).wd.stage = 1) : ∀ j, j ≤ n - q → ∃ (wj : World) (rj : BR) (vs : List (Value × Value)), vs.length = j ∧ (∀ x b, r x b → rj x b) ∧
    w.heap.size ≤ wj.heap.size ∧ (∀ x, x < w.heap.size → wj.heap[x]? = w.heap[x]?) ∧ wj.os = w.os ∧ wj.output = w.output ∧ HR0 S rj wj w' ∧ (∀ x b, rj x b → r x b ∨ (w.heap.size ≤ x ∧ ∃ i, i < j ∧ Pv (q + i + 1) b)) ∧
    ∀ i, i < j → ∃ v u1 u2, vs[i]? = some v ∧ VR S rj v.1 u1 ∧ VR S rj v.2 u2 ∧ w'.cell? ⟨R false, i, none⟩ = some u1 ∧ w'.cell? ⟨R true, i, none⟩ = some u2 ∧
      ∃ u : World, (D (q + i)).spec u (.agg #[v.1, v.2]) ∧ Nwv w.heap.size (.agg #[v.1, v.2]) ∧ (∀ x, x < w.heap.size → u.heap[x]? = w.heap[x]?) ∧ ∀ x, x < u.heap.size → wj.heap[x]? = u.heap[x]? := by
  intro j
  induction j with
  | zero => exact fun _ => ⟨w, r, [], rfl, fun _ _ k => k, Nat.le_refl _, fun _ _ => rfl, rfl, rfl, h.hr, fun _ _ k => .inl k, fun i hi => by omega⟩
  | succ j ih =>
    intro hj
    obtain ⟨wj, rj, vs, c1, c2, c3, c4, c5, c6, c7, c8, c9⟩ := ih (by omega)
    obtain ⟨rw0, g, k1, k2, k3, k4, k5, k6, sd⟩ := h.work (q + j) (by omega) (by omega)
    obtain rfl : rw0 = rw := by rw [hrw] at k1; exact (Option.some.inj k1).symm
    have hs1 := hq1 j (by omega)
    rw [show q + j - q = j by omega] at k4 k5
    generalize he : (D (q + j)).e = E at k4
    generalize hwd : (D (q + j)).wd = WD' at k4 hs1
    cases k4 with
    | born => simp at hs1
    | runs => simp at hs1
    | @ends m v1 v2 u1 u2 s f d _ a1 a2 a3 a4 a5 a6 a7 a8 =>
      simp only at hs1
      subst hs1
      have hold : ∀ x b, (D (q + j)).r x b → x < (D (q + j)).s → rj x b := fun x b hx hs => c2 _ _ (sd.old x b hx hs)
      have hpriv : ∀ x b, (D (q + j)).r x b → (D (q + j)).s ≤ x → ∀ y, ¬ rj y b := fun x b hx hs y hy => by
        have hp := sd.priv x b hx hs
        rcases c8 y b hy with k | ⟨_, i, hi, k⟩
        · exact (h.pv _ b hp).2.2.2.2 y k
        · have := h.pvp _ _ b hp k
          omega
      obtain ⟨wn, rn, d1, d2, d3, d4, d5, d6, d7, d8⟩ := deliver c7 k3 sd.sn hold hpriv
      have hvr : VR S (D (q + j)).r (.agg #[v1, v2]) (.agg #[u1, u2]) := .agg rfl fun i h1 h2 => by
        match i, h1 with
        | 0, _ => exact a3
        | 1, _ => exact a4
      obtain ⟨v, ⟨e1, e2⟩, e3⟩ := d8 _ k6 #[v1, v2] (.agg #[u1, u2]) a1 a2 hvr
      obtain ⟨x1, x2, rfl, y1, y2⟩ := vr_two e3
      have hwx : ∀ x, x < w.heap.size → wn.heap[x]? = w.heap[x]? := fun x hx => by rw [d3 x (by omega)]; exact c4 x hx
      refine ⟨wn, rn, vs ++ [(x1, x2)], by simp [c1], fun x b hx => d1 _ _ (c2 x b hx), Nat.le_trans c3 d2, hwx, d4.trans c5, d5.trans c6, d6, fun x b hx => ?_, fun i hi => ?_⟩
      · rcases d7 x b hx with k | ⟨k, y, hy1, hy2⟩
        · exact (c8 x b k).imp id fun ⟨l1, i, l2, l3⟩ => ⟨l1, i, by omega, l3⟩
        · exact .inr ⟨by omega, j, by omega, sd.priv y b hy2 hy1⟩
      · by_cases e : i = j
        · subst e
          refine ⟨(x1, x2), u1, u2, by rw [List.getElem?_append_right (by omega)]; simp [c1], y1, y2, a5, a7 (by omega), wn, e1, e2.low c3, hwx, fun _ _ => rfl⟩
        · obtain ⟨v, u1', u2', f1, f2, f3, f4, f5, u, f6, f7, f8, f9⟩ := c9 i (by omega)
          refine ⟨v, u1', u2', by rw [List.getElem?_append_left (by omega)]; exact f1, f2.mono d1, f3.mono d1, f4, f5, u, f6, f7, f8, fun x hx => ?_⟩
          have hxj : x < wj.heap.size := by
            have h1 := f9 x hx
            rcases Nat.lt_or_ge x wj.heap.size with k | k
            · exact k
            · rw [Array.getElem?_eq_none k] at h1
              have := Array.getElem?_eq_none_iff.1 h1.symm
              omega
          rw [d3 x hxj]
          exact f9 x hx

/-- .. all of them, and the rows. -/
theorem Cj.told (h : Cj P L S V post N0 W0 μ gs w' t n q D Pv Rb Gs Wg R p0 st sm tag d0 σ r w a) {rw : Rw} (hrw : σ.rows = some rw) (hq1 : ∀ j, j < n - q → (D (q + j)).wd.stage = 1) (hl : σ.l.length = rw.n) :
    ∃ w1 r1 vs, Told rw σ.l w w1 vs ∧ (∀ x b, r x b → r1 x b) ∧ HR0 S r1 w1 w' ∧ (∀ x b, r1 x b → r x b ∨ ∃ k, Pv k b) ∧ ∀ x b, r x b → (∀ z, b ≠ R z) → w1.heap[x]? = w.heap[x]? := by
  have hnl : n - q = σ.l.length := by have := h.list; omega
  obtain ⟨rat, _⟩ := h.rows rw hrw
  obtain ⟨wn, rn, vs, c1, c2, c3, c4, c5, c6, c7, c8, c9⟩ := h.deliver_ hrw hq1 (n - q) (Nat.le_refl _)
  have rwl : ∀ z, rw.b z < w.heap.size := fun z => (h.hr.lt (rat.rel z)).1
  have bne : rw.b false ≠ rw.b true := fun e => rat.ne (h.hr.fn (rat.rel false) (e ▸ rat.rel true))
  have coro : ∀ z, w.heap[rw.b z]? = some (.coro none) := fun z => h.hid _ _ (rat.rel z) (.inr ⟨by rw [hrw]; simp, z, rfl⟩)
  obtain ⟨w1, hw1⟩ : ∃ w1 : World, w1 = { wn with heap := (wn.heap.setIfInBounds (rw.b false) (.cells (vs.map (·.1)).toArray (rw.y false) (0, 0))).setIfInBounds (rw.b true) (.cells (vs.map (·.2)).toArray (rw.y true) (0, 0)) } := ⟨_, rfl⟩
  have hb1 : w1.heap[rw.b false]? = some (.cells (vs.map (·.1)).toArray (rw.y false) (0, 0)) := by
    rw [hw1]
    show ((wn.heap.setIfInBounds _ _).setIfInBounds _ _)[_]? = _
    rw [Array.getElem?_setIfInBounds_ne bne.symm, Array.getElem?_setIfInBounds_self_of_lt (Nat.lt_of_lt_of_le (rwl false) c3)]
  have hb2 : w1.heap[rw.b true]? = some (.cells (vs.map (·.2)).toArray (rw.y true) (0, 0)) := by
    rw [hw1]
    show ((wn.heap.setIfInBounds _ _).setIfInBounds _ _)[_]? = _
    rw [Array.getElem?_setIfInBounds_self_of_lt (by simp; exact Nat.lt_of_lt_of_le (rwl true) c3)]
  have hbo : ∀ x, x ≠ rw.b false → x ≠ rw.b true → w1.heap[x]? = wn.heap[x]? := fun x h1 h2 => by
    rw [hw1]
    show ((wn.heap.setIfInBounds _ _).setIfInBounds _ _)[_]? = _
    rw [Array.getElem?_setIfInBounds_ne (Ne.symm h2), Array.getElem?_setIfInBounds_ne (Ne.symm h1)]
  have hsz : w1.heap.size = wn.heap.size := by rw [hw1]; simp
  have rowR : ∀ z, ∃ c, w'.heap[R z]? = some (.cells c (rw.y z) (0, 0)) ∧ c.size = vs.length := fun z => by
    obtain ⟨c, k1, k2⟩ := rat.row z
    exact ⟨c, k1, by omega⟩
  refine ⟨w1, rn, vs, ⟨by omega, fun x hx h1 h2 => by rw [hbo x h1 h2]; exact c4 x hx, hb1, hb2, by rw [hw1]; exact c5, by rw [hw1]; exact c6, by omega, fun i spec v hi hv => ?_⟩, c2, ⟨c7.fn, c7.inj, fun {x b} hx => ?_, by rw [hsz]; exact c7.low⟩, fun x b hx => (c8 x b hx).imp id fun ⟨_, i, _, k⟩ => ⟨_, k⟩, fun x b hx hR => ?_⟩
  · have hil : i < n - q := by have := (List.getElem?_eq_some_iff.1 hi).1; omega
    obtain ⟨v0, u1, u2, f1, _, _, _, _, u, f6, f7, f8, f9⟩ := c9 i hil
    rw [hv] at f1
    cases f1
    obtain ⟨rw0, g, _, _, _, _, k5, _, _⟩ := h.work (q + i) (by omega) (by omega)
    rw [show q + i - q = i by omega, hi] at k5
    cases k5
    refine ⟨u, f6, f7, fun x c e f hc => ?_⟩
    have hx : x < u.heap.size := (Array.getElem?_eq_some_iff.1 hc).1
    have hne : ∀ z, x ≠ rw.b z := fun z e' => by
      subst e'
      rw [f8 _ (rwl z), coro z] at hc
      cases hc
    rw [hbo x (hne false) (hne true), f9 x hx]
    exact hc
  · by_cases e1 : x = rw.b false
    · subst e1
      obtain rfl := c7.fn hx (c2 _ _ (rat.rel false))
      obtain ⟨c, k1, k2⟩ := rowR false
      refine ⟨_, _, hb1, k1, .cells _ (rat.low false) ⟨by simp [k2], fun i h1 h2 => ?_⟩ (fun _ k => k) rfl⟩
      obtain ⟨v, u1, u2, f1, f2, f3, f4, f5, _⟩ := c9 i (by simp at h1; omega)
      have : c[i]? = some u1 := by simpa [World.cell?, k1] using f4
      rw [Array.getElem?_eq_getElem h2] at this
      cases this
      have hv : vs[i]'(by simpa using h1) = v := by
        have := List.getElem?_eq_getElem (l := vs) (i := i) (by simpa using h1)
        rw [f1] at this
        exact (Option.some.inj this).symm
      simpa [hv] using f2
    · by_cases e2 : x = rw.b true
      · subst e2
        obtain rfl := c7.fn hx (c2 _ _ (rat.rel true))
        obtain ⟨c, k1, k2⟩ := rowR true
        refine ⟨_, _, hb2, k1, .cells _ (rat.low true) ⟨by simp [k2], fun i h1 h2 => ?_⟩ (fun _ k => k) rfl⟩
        obtain ⟨v, u1, u2, f1, f2, f3, f4, f5, _⟩ := c9 i (by simp at h1; omega)
        have : c[i]? = some u2 := by simpa [World.cell?, k1] using f5
        rw [Array.getElem?_eq_getElem h2] at this
        cases this
        have hv : vs[i]'(by simpa using h1) = v := by
          have := List.getElem?_eq_getElem (l := vs) (i := i) (by simpa using h1)
          rw [f1] at this
          exact (Option.some.inj this).symm
        simpa [hv] using f3
      · obtain ⟨o, o', k1, k2, k3⟩ := c7.obj hx
        exact ⟨o, o', by rw [hbo x e1 e2]; exact k1, k2, k3⟩
  · have hne : ∀ z, x ≠ rw.b z := fun z e => by
      subst e
      exact hR z (h.hr.fn hx (rat.rel z))
    rw [hbo x (hne false) (hne true)]
    exact c4 x (h.hr.lt hx).1

/-- It has waited. -/
theorem Cj.join (h : Cj P L S V post N0 W0 μ gs w' t n q D Pv Rb Gs Wg R p0 st sm tag d0 σ r w a) {wg : Nat} {rows : Option Rw} {l : List Spec} {m : Mt} {B : Goroutine} (hσ : σ = ⟨some wg, false, rows, l⟩) (htag : tag = .acq) (hd : d0 = 0) (hA : WAc P L.tWg Wg B a w')
    (hrows : ∀ rw, rows = some rw → l.length = rw.n) (hB : Waited P L S V post rows l m r w B) (hμ : μ.1 = (m, 2)) (sl : Option (Nat × Nat)) : OnJ P L S V post N0 W0 μ (runT P (crowd gs w' sl) 0) t := by
  subst hσ htag hd
  obtain ⟨_, g', hgo, m2, hk⟩ := hA
  obtain ⟨g1, g2, g3, g4⟩ := h.wg wg rfl
  obtain ⟨hall0, _, _⟩ := g4.fin_inv trivial
  have hall : ∀ j, j < n - q → (D (q + j)).wd.stage = 1 := hall0
  have his : 0 < gs.size := by have := h.size; omega
  have hqn := h.qn
  have hrun := runT_crowd_go (P := P) (sl := sl) (i := 0) h.zero (by simpa using hgo)
  rw [h.mapped] at hrun
  obtain ⟨w1, r1, k1, k2, k3, k4, k5⟩ : ∃ w1 r1, (rows = none ∧ l = [] ∧ w1 = w ∨ ∃ rw vs, rows = some rw ∧ Told rw l w w1 vs) ∧ (∀ x b, r x b → r1 x b) ∧ HR0 S r1 w1 w' ∧ (∀ x b, r1 x b → r x b ∨ ∃ k, Pv k b) ∧ ∀ x b, r x b → (rows = none ∨ ∀ z, b ≠ R z) → w1.heap[x]? = w.heap[x]? := by
    cases hr : rows with
    | none => exact ⟨w, r, .inl ⟨rfl, h.norows (by simpa using hr), rfl⟩, fun _ _ k => k, h.hr, fun _ _ k => .inl k, fun _ _ _ _ => rfl⟩
    | some rw =>
      obtain ⟨w1, r1, vs, e1, e2, e3, e4, e5⟩ := h.told (rw := rw) (by simpa using hr) hall (by simpa using hrows rw hr)
      exact ⟨w1, r1, .inr ⟨rw, vs, rfl, e1⟩, e2, e3, e4, fun x b hx hR => e5 x b hx (hR.resolve_left (by simp))⟩
  have e1 : MemOp.ofEvents 0 a.frame.fn a.frame.place #[Go.ConcR.mk (.acquire (stA Wg))] = #[({ g := 0, fn := a.frame.fn, pos := a.frame.place, act := .mark (.acquire (stA Wg)) } : MemOp)] := by rw [ofEvents_eq]; simp [Go.ConcR.ofEvent_mk]
  rw [e1] at hrun
  have nt : ∀ op ∈ #[({ g := 0, fn := a.frame.fn, pos := a.frame.place, act := .mark (.acquire (stA Wg)) } : MemOp)], op.g = 0 ∧ op.act.touch? = none ∧ op.act ≠ .mark (.release (stA Wg)) := fun op hop => by
    simp at hop
    subst hop
    exact ⟨rfl, rfl, by simp⟩
  have opg := fun op hop => (nt op hop).1
  have hct := h.jt.ct.app0 h.apart fun op hop => ⟨(nt op hop).1, fun y hy => by rw [(nt op hop).2.1] at hy; cases hy⟩
  have njt := h.jt.app (Nat.le_refl _) hct (fun _ k => k) (fun op hop y hy b hb => by rw [(nt op hop).2.1] at hy; cases hy) (fun op hop y hy => by rw [(nt op hop).2.1] at hy; cases hy) (fun op hop => .inl (nt op hop).1)
  have nrel : ∀ i, p0 ≤ i → (t ++ #[({ g := 0, fn := a.frame.fn, pos := a.frame.place, act := .mark (.acquire (stA Wg)) } : MemOp)]).act? i ≠ some (.mark (.release (stA Wg))) := fun i hi e => by
    obtain ⟨op, ho, hoa⟩ := Option.map_eq_some_iff.1 (show ((t ++ #[_])[i]?).map (·.act) = _ from e)
    rcases getElem?_append_cases ho with ⟨_, ho'⟩ | ⟨_, hou⟩
    · exact h.nrel i hi (by rw [act?_of ho', hoa])
    · exact (nt op hou).2.2 hoa
  have hpos : (t ++ #[({ g := 0, fn := a.frame.fn, pos := a.frame.place, act := .mark (.acquire (stA Wg)) } : MemOp)])[t.size]? = some { g := 0, fn := a.frame.fn, pos := a.frame.place, act := .mark (.acquire (stA Wg)) } := by simp
  have jj := njt.join (Wg := Wg) (p := t.size) (by rw [act?_of hpos]) (by simp [Trace.g?]) ⟨0, by simp [Trace.g?], by rw [deaf_old (Nat.le_refl _)]; exact h.deaf0⟩ nrel (fun k hk1 hk2 => by
      obtain ⟨p, hp0, hp⟩ := h.rel (k - 1) (by omega) (by omega) (by have := hall (k - 1 - q) (by omega); rw [show q + (k - 1 - q) = k - 1 by omega] at this; omega)
      rw [show k - 1 + 1 = k by omega] at hp
      exact ⟨p, hp0, hp.appOther opg (by omega), lt_of_act? hp.act⟩) (Own' := OwnF (fun _ _ => False) n n R) (Rd' := RdF fun _ _ => False) (fun k l hkn ho => by
      rcases ho with ⟨_, _, ho⟩ | ⟨ho, _⟩
      · exact ho
      · omega) (fun k l _ ⟨_, _, ho⟩ => ho)
  refine ⟨_, _, _, ((m, 1), μ.2.1, m2), n, n, D, fun _ _ => False, fun _ _ => False, Gs, Wg, R, p0, st, sm, .sp 0 5, 0, ⟨none, false, none, []⟩, r1, w1, g', _, hrun, ?_, {
    size := (by simp [h.size]), list := (by simp), zero := get_set_eq _ (by simp; omega), main := .backs (σ := ⟨none, false, none, []⟩) hk fun w2' => hB r1 w1 w2' k2 k1, hr := k3, gone := fun j hj => ?gone, work := fun j h1 h2 => by omega,
    wg := fun b hb => (by cases hb), nowg := fun _ => rfl, norows := fun _ => rfl, rows := fun rw' hrw' => (by cases hrw'), hid := fun x b hx hh => ?hid,
    gsN := h.gsN, pv := fun k b hb => hb.elim, pvp := fun _ _ _ hb => hb.elim, rb := fun k b hb => hb.elim,
    base := h.base, low := fun x b hx hb => ?low, n0 := h.n0, os := h.os, output := h.output, jt := jj, deaf0 := ?deaf0, deafW := fun j hj => (by rw [Deaf_other t (g' := 0) (by omega) _ opg]; exact h.deafW j hj),
    rel := fun j h1 h2 hs => by omega, nrel := nrel, p0le := (by have := h.p0le; simp; omega), need := (by simp [Ytcobehkadhcjiaa.need]), mu := h.mu }⟩
  · obtain ⟨m0, l0, f0⟩ := μ
    simp only at hμ
    subst hμ
    exact .left _ _ (.right _ (by omega))
  case gone =>
    by_cases hq : j < q
    · obtain ⟨g2, l1, l2⟩ := h.gone j hq
      exact ⟨g2, by rw [get_set_ne _ (by omega), get_set_ne _ (by omega)]; exact l1, l2⟩
    · obtain ⟨rw0, g0, l1, l2, l3, l4, _⟩ := h.work j (by omega) hj
      have hs1 := hall (j - q) (by omega)
      rw [show q + (j - q) = j by omega] at hs1
      generalize he : (D j).e = E at l4
      generalize hwd : (D j).wd = WD' at l4 hs1
      cases l4 with
      | born => simp at hs1
      | runs => simp at hs1
      | ends a1 a2 a3 a4 a5 a6 a7 a8 =>
        simp only at hs1
        subst hs1
        cases a6 with
        | quit hqt => exact ⟨g0, by rw [get_set_ne _ (by omega), get_set_ne _ (by omega)]; exact l2, rfl, hqt⟩
  case hid =>
    rcases hh with hh | ⟨hne, _⟩
    · rcases k4 x b hx with k | ⟨k, hp⟩
      · rw [k5 x b k ?_]
        · exact h.hid x b k (.inl hh)
        · cases hr : rows with
          | none => exact .inl rfl
          | some rw => exact .inr fun z e => (h.rows rw (by simpa using hr)).1.gs z (e ▸ hh)
      · exact absurd hh (h.pv k b hp).2.2.1
    · exact absurd rfl hne
  case low =>
    rcases k4 x b hx with k | ⟨k, hp⟩
    · exact h.low x b k hb
    · have := (h.pv k b hp).2.1.1
      omega
  case deaf0 =>
    rw [← e1, Deaf_own, h.deaf0]
    rfl
end
end Go.Proofs.Ytcobehkadhcjiaa

/-
  THE CREW beside sync.WaitGroup: a group is made; one more is started.
-/
namespace Go.Proofs.Ytcobehkadhcjiaa
open Go Go.Conc Go.ConcN Go.Conc.Lib
open Go.ConcR (KK WgAt wgBlock stA smA Payload DC0 Bk rd wr mk)
variable [Shift] [Payload]

section
variable {P : Program} {L : WgLink} {S V : FuncId → Bool} {post : Value → World → Prop} {Wg : Nat} {R : Bool → Nat} {r r1 : BR} {w w' w1 w2 : World}
variable {N0 : Nat} {W0 : World} {μ : Mj} {gs : Array Goroutine} {t : Trace} {n q : Nat} {D : Nat → Dj} {Pv Rb : Nat → Nat → Prop} {Gs : Nat → Prop} {p0 : Nat} {st sm st' sm' : Int} {tag tag1 : CTag} {d0 d1 : Nat} {σ σ1 : Sj} {a : Goroutine}

/-- A group is made. -/
theorem Cj.stepN (h : Cj P L S V post N0 W0 μ gs w' t n q D Pv Rb Gs Wg R p0 st sm tag 0 ⟨none, false, none, []⟩ r w a) {a1 : Goroutine} {μ1 : Mt × Nat} (hgo : stepG P true a w' = .go a1 (w'.alloc (wgBlock L.tWg 0 0)) #[])
    (hm : ∀ r1, (∀ x b, r x b → r1 x b) → r1 w.heap.size w'.heap.size → HR0 S r1 (w.alloc (.coro none)) (w'.alloc (wgBlock L.tWg 0 0)) → MAj P L S V post w'.heap.size r1 (w.alloc (.coro none)) (w'.alloc (wgBlock L.tWg 0 0)) ⟨some w.heap.size, false, none, []⟩ (.sp 0 5) 0 μ1 0 a1)
    (hlt : Em.Lt μ1 μ.1) (sl : Option (Nat × Nat)) : OnJ P L S V post N0 W0 μ (runT P (crowd gs w' sl) 0) t := by
  have his : 0 < gs.size := by have := h.size; omega
  have hnq : n = q := by have := h.list; simpa using this.symm
  subst hnq
  have hrun := runT_crowd_go (P := P) (sl := sl) (i := 0) h.zero (by simpa using hgo)
  rw [h.mapped, ops_nil] at hrun
  obtain ⟨w2, hw2⟩ : ∃ w2, w2 = w'.alloc (wgBlock L.tWg 0 0) := ⟨_, rfl⟩
  obtain ⟨w1, hw1⟩ : ∃ w1, w1 = w.alloc (.coro none) := ⟨_, rfl⟩
  rw [← hw2] at hrun hm
  rw [← hw1] at hm
  have heap2 : w2.heap = w'.heap.push (wgBlock L.tWg 0 0) := by rw [hw2]; rfl
  have heap1 : w1.heap = w.heap.push (.coro none) := by rw [hw1]; rfl
  have st2 : ∀ b, b < w'.heap.size → w2.heap[b]? = w'.heap[b]? := fun b hb => by rw [heap2, Array.getElem?_push, if_neg (by omega)]
  have st1 : ∀ b, b < w.heap.size → w1.heap[b]? = w.heap[b]? := fun b hb => by rw [heap1, Array.getElem?_push, if_neg (by omega)]
  have new2 : w2.heap[w'.heap.size]? = some (wgBlock L.tWg 0 0) := by rw [heap2, Array.getElem?_push]; simp
  have new1 : w1.heap[w.heap.size]? = some (.coro none) := by rw [heap1, Array.getElem?_push]; simp
  have sz2 : w2.heap.size = w'.heap.size + 1 := by rw [heap2]; simp
  have sz1 : w1.heap.size = w.heap.size + 1 := by rw [heap1]; simp
  obtain ⟨r1, hr1⟩ : ∃ r1 : BR, r1 = fun x b => r x b ∨ (x = w.heap.size ∧ b = w'.heap.size) := ⟨_, rfl⟩
  have r1c : ∀ x b, r1 x b → r x b ∨ (x = w.heap.size ∧ b = w'.heap.size) := fun x b hx => by rw [hr1] at hx; exact hx
  have hext : ∀ x b, r x b → r1 x b := fun x b hx => by rw [hr1]; exact .inl hx
  have hnew : r1 w.heap.size w'.heap.size := by rw [hr1]; exact .inr ⟨rfl, rfl⟩
  have hh : HR0 S r1 w1 w2 := by
    refine ⟨fun {x b c} h1 h2 => ?_, fun {x y c} h1 h2 => ?_, fun {x b} h1 => ?_, by have := h.hr.low; omega⟩
    · rcases r1c _ _ h1 with k1 | ⟨rfl, rfl⟩ <;> rcases r1c _ _ h2 with k2 | ⟨e, rfl⟩
      · exact h.hr.fn k1 k2
      · have := (h.hr.lt k1).1; omega
      · have := (h.hr.lt k2).1; omega
      · rfl
    · rcases r1c _ _ h1 with k1 | ⟨rfl, rfl⟩ <;> rcases r1c _ _ h2 with k2 | ⟨rfl, e⟩
      · exact h.hr.inj k1 k2
      · have := (h.hr.lt k1).2; omega
      · have := (h.hr.lt k2).2; omega
      · exact .inl rfl
    · rcases r1c _ _ h1 with k1 | ⟨rfl, rfl⟩
      · obtain ⟨o, o', l1, l2, l3⟩ := h.hr.obj k1
        obtain ⟨m1, m2⟩ := h.hr.lt k1
        exact ⟨o, o', by rw [st1 x m1]; exact l1, by rw [st2 b m2]; exact l2, l3.mono hext⟩
      · exact ⟨_, _, new1, new2, .inert _ h.hr.low (by simp) fun o hf => by simp [Fz] at hf⟩
  have hnp : ∀ k b, ¬ Pv k b := fun k b hb => by have := (h.pv k b hb).1; omega
  have hnr : ∀ k b, ¬ Rb k b := fun k b hb => by have := (h.rb k b hb).1; omega
  have njt : JT (fun b => Gs b ∨ b = w'.heap.size) (OwnF Pv n n R) (RdF Rb) t n n w2.heap.size := by
    refine ⟨CT.fam h.jt.ct h.jt.seen (fun l ⟨ad, e, hg⟩ => ⟨ad, e, .inl hg⟩) (fun l ⟨ad, e, hg⟩ => ?_) (fun _ _ _ _ k => k) (fun _ _ _ _ k => .inl k) (fun _ _ _ _ k => k) (fun _ _ _ _ k => k), fun op hop y hy b hb => by have := h.jt.seen op hop y hy b hb; omega,
      fun i y hy hns => h.jt.plain i y hy fun ⟨ad, e, hg⟩ => hns ⟨ad, e, .inl hg⟩, h.jt.over⟩
    rcases hg with hg | hg
    · exact .inl ⟨ad, e, hg⟩
    · exact .inr ⟨_, by rw [e]; rfl, by rw [hg]; exact Nat.le_refl _⟩
  have hmj := hm r1 hext hnew hh
  refine ⟨_, w2, sl, (μ1, μ.2.1, 0), n, n, D, Pv, Rb, fun b => Gs b ∨ b = w'.heap.size, w'.heap.size, R, t.size, 0, 0, .sp 0 5, 0, ⟨some w.heap.size, false, none, []⟩, r1, w1, a1, #[], hrun, ?_, ?_⟩
  · obtain ⟨m0, l0, f0⟩ := μ
    exact .left _ _ hlt
  rw [Array.append_empty]
  exact {
    size := (by simp [h.size]), list := h.list, zero := get_set_eq _ (by simp; omega), main := hmj, hr := hh, gone := fun j hj => (by
      obtain ⟨g2, l1, l2⟩ := h.gone j hj
      exact ⟨g2, by rw [get_set_ne _ (by omega), get_set_ne _ (by omega)]; exact l1, l2⟩), work := fun j h1 h2 => by omega,
    wg := fun b hb => (by
      cases hb
      refine ⟨hnew, .inr rfl, new2, ?_⟩
      have := ConcN.Mode.opn (j := n - n) (D := fun j => (D (n + j)).wd) (tag := .sp 0 5) trivial (fun i hi => by omega) (by simp)
      simpa [pend, Vc, sumTo] using this), nowg := fun e => (by cases e), norows := fun _ => rfl, rows := fun rw' hrw' => (by cases hrw'),
    hid := fun x b hx hh' => (by
      rcases hh' with hh' | ⟨hne, _⟩
      · rcases r1c x b hx with k | ⟨rfl, rfl⟩
        · rcases hh' with hh' | rfl
          · rw [st1 x (h.hr.lt k).1]; exact h.hid x b k (.inl hh')
          · have := (h.hr.lt k).2; omega
        · exact new1
      · exact absurd rfl hne),
    gsN := fun b hb => (by
      rcases hb with hb | rfl
      · have := h.gsN b hb; omega
      · have := h.n0; omega), pv := fun k b hb => absurd hb (hnp k b), pvp := h.pvp, rb := fun k b hb => absurd hb (hnr k b),
    base := fun b hb => (by rw [st2 b (Nat.lt_of_lt_of_le hb h.n0)]; exact h.base b hb), low := fun x b hx hb => (by
      rcases r1c x b hx with k | ⟨rfl, rfl⟩
      · exact h.low x b k hb
      · have := h.n0; omega), n0 := (by have := h.n0; omega), os := (by rw [hw2]; exact h.os), output := (by rw [hw2]; exact h.output), jt := njt, deaf0 := h.deaf0, deafW := h.deafW,
    rel := fun j h1 h2 hs => by omega, nrel := fun i hi e => (by
      have := lt_of_act? e
      omega), p0le := Nat.le_refl _, need := (by simp [Ytcobehkadhcjiaa.need]), mu := h.mu }
end
end Go.Proofs.Ytcobehkadhcjiaa

/-
  THE CREW beside sync.WaitGroup: one more is started.
-/
namespace Go.Proofs.Ytcobehkadhcjiaa
open Go Go.Conc Go.ConcN Go.Conc.Lib
open Go.ConcR (KK WgAt wgBlock stA smA Payload DC0 Bk rd wr mk)
variable [Shift] [Payload]

omit [Payload] in
/-- The rows are among what is related. -/
theorem Sees.rel {S : FuncId → Bool} {r : BR} {w w' : World} {vs vs' : Array Value} {rw : Rw} (h : Sees vs w rw) (hr : HR0 S r w w') (hv : RR S r vs vs') : ∃ R : Bool → Nat, ∀ z, r (rw.b z) (R z) := by
  have one : ∀ z, ∃ b, r (rw.b z) b := fun z => by
    obtain ⟨a, cc, e, f, m, c0, h1, h2, h3, h4⟩ := h z
    obtain ⟨i, hi⟩ := Array.getElem?_of_mem h1
    obtain ⟨v', hv1, hv2⟩ := hv.get hi
    have cell : ∀ {u' : Value}, VR S r (.slice (some ⟨rw.b z, 0, none⟩) m c0) u' → ∃ b, r (rw.b z) b := fun {u'} hu => by
      cases hu with
      | slice n c ar => exact ⟨_, ar.block⟩
      | void k e => omega
    cases hv2 with
    | ptr ar =>
      obtain ⟨o, o', k1, k2, k3⟩ := hr.obj ar.block
      simp only at k1
      rw [h2] at k1
      cases k1
      cases k3 with
      | cells e hn rr hz =>
        obtain ⟨u', _, hu⟩ := rr.get h3
        exact cell hu
      | win e hn rr hz _ =>
        obtain ⟨u', _, hu⟩ := rr 0 _ h3
        exact cell hu
  exact Classical.axiomOfChoice one

omit [Shift] [Payload] in
theorem frz_coro {w : World} {x : Nat} (h : w.heap[x]? = some (.coro none)) : (frz w).heap[x]? = some (.coro none) := by rw [frz_heap, h]; rfl

section
variable {P : Program} {L : WgLink} {S V : FuncId → Bool} {post : Value → World → Prop} {Wg : Nat} {R : Bool → Nat} {r r1 : BR} {w w' w1 w2 : World}
variable {N0 : Nat} {W0 : World} {μ : Mj} {gs : Array Goroutine} {t : Trace} {n q : Nat} {D : Nat → Dj} {Pv Rb : Nat → Nat → Prop} {Gs : Nat → Prop} {p0 : Nat} {st sm st' sm' : Int} {tag tag1 : CTag} {d0 d1 : Nat} {σ σ1 : Sj} {a : Goroutine}

/-- From here on the rows are nobody's own. -/
theorem Cj.hide (h : Cj P L S V post N0 W0 μ gs w' t n q D Pv Rb Gs Wg R p0 st sm tag d0 σ r w a) {rw : Rw} (hd : Hides w rw w1) {R' : Bool → Nat} (hR : ∀ z, r (rw.b z) (R' z)) :
    RowsAt N0 Gs R' rw r w' ∧ HR0 S r w1 w' ∧ w1.heap.size = w.heap.size ∧ (∀ x, (∀ z, x ≠ rw.b z) → w1.heap[x]? = w.heap[x]?) ∧ ∀ z, w1.heap[rw.b z]? = some (.coro none) := by
  have bl : ∀ z, rw.b z < w.heap.size := fun z => (h.hr.lt (hR z)).1
  have hsz : w1.heap.size = w.heap.size := by rw [hd.eq]; simp [hideW]
  have other : ∀ x, (∀ z, x ≠ rw.b z) → w1.heap[x]? = w.heap[x]? := fun x hx => by
    rw [hd.eq]
    show ((w.heap.setIfInBounds _ _).setIfInBounds _ _)[_]? = _
    rw [Array.getElem?_setIfInBounds_ne (Ne.symm (hx true)), Array.getElem?_setIfInBounds_ne (Ne.symm (hx false))]
  have coro : ∀ z, w1.heap[rw.b z]? = some (.coro none) := fun z => by
    rw [hd.eq]
    show ((w.heap.setIfInBounds _ _).setIfInBounds _ _)[_]? = _
    cases z with
    | false => rw [Array.getElem?_setIfInBounds_ne hd.ne.symm, Array.getElem?_setIfInBounds_self_of_lt (bl false)]
    | true => rw [Array.getElem?_setIfInBounds_self_of_lt (by simp; exact bl true)]
  have row : ∀ z, ∃ c, w'.heap[R' z]? = some (.cells c (rw.y z) (0, 0)) ∧ c.size = rw.n := fun z => by
    obtain ⟨c, k1, k2⟩ := hd.row z
    obtain ⟨o, o', l1, l2, l3⟩ := h.hr.obj (hR z)
    rw [k1] at l1
    cases l1
    have hlow := hd.low z
    generalize rw.y z = ty at l3 ⊢
    generalize rw.b z = bz at l3 hlow
    cases l3 with
    | cells e hn rr hz hf =>
      subst hf
      exact ⟨_, l2, by rw [← rr.size]; exact k2⟩
    | win e hn _ _ _ => omega
  refine ⟨⟨hR, fun z => ?_, fun z hg => ?_, row, fun e => ?_, hd.pos, hd.few, hd.ety, hd.low⟩, ⟨h.hr.fn, h.hr.inj, fun {x b} hx => ?_, by rw [hsz]; exact h.hr.low⟩, hsz, other, coro⟩
  · rcases Nat.lt_or_ge (R' z) N0 with k | k
    · have := h.low _ _ (hR z) k
      have := hd.low z
      omega
    · exact k
  · obtain ⟨c, k1, _⟩ := hd.row z
    rw [h.hid _ _ (hR z) (.inl hg)] at k1
    cases k1
  · rcases h.hr.inj (hR false) (e ▸ hR true) with k | ⟨k, _⟩
    · exact hd.ne k
    · have := hd.low false
      omega
  · by_cases e : ∃ z, x = rw.b z
    · obtain ⟨z, rfl⟩ := e
      obtain rfl := h.hr.fn hx (hR z)
      obtain ⟨c, k1, k2⟩ := row z
      exact ⟨_, _, coro z, k1, .inert _ (hd.low z) (by have := hd.pos; omega) fun o hf => by simp [Fz] at hf⟩
    · obtain ⟨o, o', l1, l2, l3⟩ := h.hr.obj hx
      exact ⟨o, o', by rw [other x fun z e' => e ⟨z, e'⟩]; exact l1, l2, l3⟩

/-- One more is started. -/
theorem Cj.stepS {wg : Nat} {rows : Option Rw} {l : List Spec} (h : Cj P L S V post N0 W0 μ gs w' t n q D Pv Rb Gs Wg R p0 st sm (.sp 0 2) 0 ⟨some wg, true, rows, l⟩ r w a) {a1 child : Goroutine} {μ1 : Mt × Nat} {rw : Rw} {spec : Spec} {mk : Mt} {qn : Nat} (hgo : stepG P true a w' = .spawn a1 child w' #[])
    (hrw : rows = some rw ∧ w1 = w ∨ rows = none ∧ l = [] ∧ Hides w rw w1 ∧ ∃ vs vs', Sees vs w rw ∧ RR S r vs vs') (hll : l.length < rw.n) (hmv : Moves spec)
    (hA : HR0 S r (frz w1) w' → MAj P L S V post Wg r (frz w1) w' ⟨some wg, false, some rw, l ++ [spec]⟩ (.sp 0 5) 0 μ1 0 a1)
    (hC : ∀ R', HR0 S r (frz w1) w' → WAj P L S V Wg R' ⟨l.length, w1.heap.size, spec, rw⟩ r (frz w1) w' (mk, 9, qn) ⟨7, 0, 0⟩ child) (hlt : Em.Lt μ1 μ.1) (sl : Option (Nat × Nat)) : OnJ P L S V post N0 W0 μ (runT P (crowd gs w' sl) 0) t := by
  have hlist : l.length + q = n := h.list
  have hqn := h.qn
  have hsz := h.size
  obtain ⟨g1, g2, g3, g4⟩ := h.wg wg rfl
  have hrun := runT_crowd_spawn (P := P) (sl := sl) (i := 0) h.zero (by simpa using hgo)
  rw [ops_nil] at hrun
  -- the rows
  obtain ⟨R', b1, b2, b3, b4, b5, b6⟩ : ∃ R' : Bool → Nat, RowsAt N0 Gs R' rw r w' ∧ HR0 S r w1 w' ∧ w1.heap.size = w.heap.size ∧ (∀ x b, r x b → (Gs b ∨ ∃ z, b = R' z) → w1.heap[x]? = some (.coro none)) ∧ (q < n → R' = R ∧ rows = some rw) ∧ (∀ k b, Pv k b → ∀ z, b ≠ R' z) := by
    rcases hrw with ⟨e1, rfl⟩ | ⟨e1, e2, hd, vs, vs', hs, hv⟩
    · obtain ⟨rat, _⟩ := h.rows rw e1
      exact ⟨R, rat, h.hr, rfl, fun x b hx hh => h.hid x b hx (hh.imp id fun k => ⟨by simp [e1], k⟩), fun _ => ⟨rfl, e1⟩, fun k b hb => (h.pv k b hb).2.2.2.1⟩
    · obtain ⟨R', hR⟩ := hs.rel h.hr hv
      obtain ⟨c1, c2, c3, c4, c5⟩ := h.hide hd hR
      have hnq : n = q := by rw [e2] at hlist; simpa using hlist.symm
      refine ⟨R', c1, c2, c3, fun x b hx hh => ?_, fun hq => by omega, fun k b hb => by have := (h.pv k b hb).1; omega⟩
      by_cases e : ∃ z, x = rw.b z
      · obtain ⟨z, rfl⟩ := e
        exact c5 z
      · rw [c4 x fun z e' => e ⟨z, e'⟩]
        rcases hh with hh | ⟨z, rfl⟩
        · exact h.hid x b hx (.inl hh)
        · rcases h.hr.inj hx (hR z) with k | ⟨_, k⟩
          · exact absurd ⟨z, k⟩ e
          · have := c1.low z; omega
  have hrf : HR0 S r (frz w1) w' := b2.frz
  have rlt : ∀ z, R' z < w'.heap.size := fun z => (h.hr.lt (b1.rel z)).2
  obtain ⟨D', hD⟩ : ∃ D', D' = upd D n ⟨w1.heap.size, spec, r, frz w1, (mk, 9, qn), ⟨7, 0, 0⟩⟩ := ⟨_, rfl⟩
  have dN : D' n = ⟨w1.heap.size, spec, r, frz w1, (mk, 9, qn), ⟨7, 0, 0⟩⟩ := by rw [hD]; exact upd_same _ _ _
  have dO : ∀ j, j < n → D' j = D j := fun j hj => by rw [hD]; exact upd_ne _ _ (by omega)
  obtain ⟨Rb', hRb⟩ : ∃ Rb' : Nat → Nat → Prop, Rb' = fun k b => Rb k b ∨ (k = n + 1 ∧ (∃ x, x < w1.heap.size ∧ r x b) ∧ ¬ Gs b ∧ ∀ z, b ≠ R' z) := ⟨_, rfl⟩
  have rbc : ∀ k b, Rb' k b → Rb k b ∨ (k = n + 1 ∧ (∃ x, x < w1.heap.size ∧ r x b) ∧ ¬ Gs b ∧ ∀ z, b ≠ R' z) := fun k b hb => by rw [hRb] at hb; exact hb
  have rbi : ∀ k b, Rb k b → Rb' k b := fun k b hb => by rw [hRb]; exact .inl hb
  have nrb : ∀ k b, Rb' k b → (q < k ∧ k ≤ n + 1) ∧ (∃ x, x < (D' (k - 1)).s ∧ r x b) ∧ ¬ Gs b ∧ ∀ z, b ≠ R' z := fun k b hb => by
    rcases rbc k b hb with k1 | ⟨rfl, k1, k2, k3⟩
    · obtain ⟨l1, l2, l3, l4⟩ := h.rb k b k1
      rw [dO (k - 1) (by omega), (b5 (by omega)).1]
      exact ⟨by omega, l2, l3, l4⟩
    · rw [show n + 1 - 1 = n by omega, dN]
      exact ⟨by omega, k1, k2, k3⟩
  have nap : Apart (ShG Gs) (OwnF Pv q (n + 1) R') (RdF Rb') := by
    refine apartF (fun k b hb => ⟨(h.pv k b hb).2.2.1, b6 k b hb⟩) h.pvp (fun k k' b hp hr => ?_) (fun k b hb => ⟨(nrb k b hb).2.2.1, (nrb k b hb).2.2.2⟩) (fun _ z => b1.gs z)
    obtain ⟨_, ⟨x, _, hx⟩, _⟩ := nrb k' b hr
    exact (h.pv k b hp).2.2.2.2 x hx
  obtain ⟨x, hx⟩ : ∃ x : MemOp, x = { g := 0, fn := a.frame.fn, pos := a.frame.place, act := .go gs.size } := ⟨_, rfl⟩
  obtain ⟨y, hy⟩ : ∃ y : MemOp, y = { g := gs.size, fn := child.frame.fn, pos := a.frame.place, act := .start } := ⟨_, rfl⟩
  have eops : (((#[] : Trace).push { g := 0, fn := a.frame.fn, pos := a.frame.place, act := .go gs.size }).push { g := gs.size, fn := child.frame.fn, pos := a.frame.place, act := .start }) = #[x, y] := by rw [hx, hy]; rfl
  rw [eops] at hrun
  have hx1 : x.g = 0 ∧ x.act = .go (n + 1) := by rw [hx, hsz]; exact ⟨rfl, rfl⟩
  have hy1 : y.g = n + 1 ∧ y.act = .start := by rw [hy, hsz]; exact ⟨rfl, rfl⟩
  have opc : ∀ op ∈ #[x, y], (op.g = 0 ∨ op.g = n + 1) ∧ op.act.touch? = none ∧ op.act ≠ .mark (.release (stA Wg)) ∧ (op.act ≠ .mark .disable ∧ op.act ≠ .mark .enable) := fun op hop => by
    simp at hop
    rcases hop with rfl | rfl
    · rw [hx1.2]; exact ⟨.inl hx1.1, rfl, by simp, by simp⟩
    · rw [hy1.2]; exact ⟨.inr hy1.1, rfl, by simp, by simp⟩
  have hct : CT (ShG Gs) (OwnF Pv q (n + 1) R') (RdF Rb') (t ++ #[x, y]) (n + 1) := by
    refine (CT.fam h.jt.ct h.jt.seen (fun _ k => k) (fun _ k => .inl k) (fun k _ hkn l hl => ?_) (fun k _ hkn l hl => .inl ?_) (fun k _ _ l ⟨b, e, hb⟩ => ⟨b, e, rbi _ _ hb⟩) (fun k _ hkn l ⟨b, e, hb⟩ => ⟨b, e, ?_⟩)).fork nap hx1 hy1 h.deaf0
    · rcases hl with hl | ⟨q1, q2, z, e⟩
      · exact .inl hl
      · exact .inr ⟨q1, by omega, z, by rw [(b5 (by omega)).1]; exact e⟩
    · rcases hl with hl | ⟨q1, q2, z, e⟩
      · exact .inl hl
      · exact .inr ⟨q1, by omega, z, by rw [← (b5 (by omega)).1]; exact e⟩
    · rcases rbc k b hb with k1 | ⟨k1, _⟩
      · exact k1
      · omega
  have njt := h.jt.app (Nat.le_refl _) hct (fun _ k => k) (fun op hop y hy b hb => by rw [(opc op hop).2.1] at hy; cases hy) (fun op hop y hy => by rw [(opc op hop).2.1] at hy; cases hy) (fun op hop => (opc op hop).1.imp id fun e => .inl (by omega))
  have get0 : ∀ j x, j ≠ 0 → gs[j]? = some x → ((gs.setIfInBounds 0 a1).push child)[j]? = some x := fun j x hj hx => by
    have hlt := (Array.getElem?_eq_some_iff.1 hx).1
    rw [Array.getElem?_push, if_neg (by simp; omega), get_set_ne _ (by omega)]
    exact hx
  have dcalm : ∀ k, Deaf (t ++ #[x, y]) k = Deaf t k := fun k => Deaf_calm (fun op hop => (opc op hop).2.2.2) k
  refine ⟨_, w', sl, (μ1, elj D' (n + 1), 0), n + 1, q, D', Pv, Rb', Gs, Wg, R', p0, st, sm, .sp 0 5, 0, ⟨some wg, false, some rw, l ++ [spec]⟩, r, frz w1, a1, _, hrun, ?_, {
    size := (by simp [hsz]), list := (by simp; omega), zero := ?zero, main := hA hrf, hr := hrf, gone := fun j hj => ?gone, work := fun j h1 h2 => ?work,
    wg := fun b hb => ?wg, nowg := fun e => (by cases e), norows := fun e => (by cases e), rows := fun rw' hrw' => (by cases hrw'; exact ⟨b1, by simp; omega⟩), hid := fun x b hxb hh => ?hid,
    gsN := h.gsN, pv := fun k b hb => ?pv, pvp := h.pvp, rb := nrb,
    base := h.base, low := h.low, n0 := h.n0, os := h.os, output := h.output, jt := njt, deaf0 := (by rw [dcalm]; exact h.deaf0), deafW := fun j hj => ?deafW,
    rel := fun j h1 h2 hs => ?rel, nrel := fun j hj => ?nrel, p0le := (by have := h.p0le; simp; omega), need := (by simp [Ytcobehkadhcjiaa.need]), mu := rfl }⟩
  · obtain ⟨m0, l0, f0⟩ := μ
    exact .left _ _ hlt
  case zero =>
    rw [Array.getElem?_push, if_neg (by simp; omega)]
    exact get_set_eq _ (by omega)
  case gone =>
    rw [dO j (by omega)]
    obtain ⟨g2, l1, l2⟩ := h.gone j hj
    exact ⟨g2, get0 _ _ (by omega) l1, l2⟩
  case work =>
    by_cases e : j = n
    · subst e
      rw [dN]
      refine ⟨rw, child, rfl, ?_, hrf, ?_, ?_, hmv, ?_⟩
      · rw [Array.getElem?_push, if_pos (by simp; omega)]
      · have := hC R' hrf
        rw [show l.length = j - q by omega] at this
        exact this
      · rw [List.getElem?_append_right (by omega)]
        simp [show j - q - l.length = 0 by omega]
      · refine ⟨b2.low, by simp only [frz_size]; exact Nat.le_refl _, by simp only [frz_size]; exact Nat.le_refl _, fun _ _ k _ => k, fun x o _ => frz_wr w1 x o, fun x o _ => frz_wr w1 x o, fun x b hxb hs => ?_, fun x b hxb hs hg hR => ?_, fun x b hxb hh => frz_coro (b4 x b hxb hh), b1.rel⟩
        · have := (b2.lt hxb).1
          simp only at hs
          omega
        · rw [hRb]
          exact .inr ⟨rfl, ⟨x, hs, hxb⟩, hg, hR⟩
    · rw [dO j (by omega)]
      obtain ⟨rw0, g0, l1, l2, l3, l4, l5, l6, sd⟩ := h.work j h1 (by omega)
      obtain ⟨eR, erw⟩ := b5 (by omega)
      simp only at l1 l5
      obtain rfl : rw0 = rw := by rw [erw] at l1; exact (Option.some.inj l1).symm
      rw [eR]
      refine ⟨rw0, g0, rfl, get0 _ _ (by omega) l2, l3, l4, by rw [List.getElem?_append_left (by omega)]; exact l5, l6, ?_⟩
      exact { sn := sd.sn, sle := sd.sle, slem := (by rw [frz_size, b3]; exact sd.slem), old := sd.old, fro := fun x o _ => frz_wr w1 x o, wfro := sd.wfro, priv := sd.priv, rd := fun x b hx hs hg hR => rbi _ _ (sd.rd x b hx hs hg hR), hid := sd.hid, wrow := sd.wrow }
  case wg =>
    cases hb
    refine ⟨g1, g2, g3, ?_⟩
    obtain ⟨o1, o2, rfl, _⟩ := g4.open_inv trivial
    have e1 : n + 1 - q = n - q + 1 := by omega
    have e2 : (Vc (n + 1 - q) fun i => (D' (q + i)).wd) = (Vc (n - q) fun i => (D (q + i)).wd) + 1 := by
      rw [e1]
      simp only [Vc, sumTo]
      rw [show q + (n - q) = n by omega, dN, sumTo_congr (g := fun i => cnt (D (q + i)).wd) fun i hi => by rw [dO _ (by omega)]]
      rfl
    have := ConcN.Mode.opn (j := n + 1 - q) (D := fun i => (D' (q + i)).wd) (tag := .sp 0 5) trivial (fun i hi => by
      dsimp only
      by_cases e : q + i = n
      · rw [e, dN]; exact .inl rfl
      · rw [dO _ (by omega)]; exact o1 i (by omega)) (by simp)
    rw [e2] at this
    rw [o2]
    simpa [pend] using this
  case hid =>
    exact frz_coro (b4 x b hxb (hh.imp id fun k => k.2))
  case pv =>
    obtain ⟨l1, l2, l3, l4, l5⟩ := h.pv k b hb
    exact ⟨by omega, l2, l3, b6 k b hb, l5⟩
  case deafW =>
    rw [dcalm]
    by_cases e : j = n
    · subst e
      rw [dN]
      exact Deaf_absent fun i op hop e => by have := h.jt.ct.gs i op hop; omega
    · rw [dO j (by omega)]
      exact h.deafW j (by omega)
  case rel =>
    by_cases e : j = n
    · subst e
      rw [dN] at hs
      simp at hs
    · rw [dO j (by omega)] at hs
      obtain ⟨p, hp0, hp⟩ := h.rel j h1 (by omega) hs
      refine ⟨p, hp0, hp.app fun i hi hg => ?_⟩
      exfalso
      obtain ⟨op, ho, hog⟩ := Option.map_eq_some_iff.1 hg
      rcases getElem?_append_cases ho with ⟨hlt, _⟩ | ⟨_, hou⟩
      · omega
      · have := (opc op hou).1
        omega
  case nrel =>
    intro e
    obtain ⟨op, ho, hoa⟩ := Option.map_eq_some_iff.1 (show ((t ++ #[x, y])[j]?).map (·.act) = _ from e)
    rcases getElem?_append_cases ho with ⟨_, ho'⟩ | ⟨_, hou⟩
    · exact h.nrel j hj (by rw [act?_of ho', hoa])
    · exact (opc op hou).2.2.1 hoa
end
end Go.Proofs.Ytcobehkadhcjiaa

/-
  THE CREW beside sync.WaitGroup: whatever step the first takes.
-/
namespace Go.Proofs.Ytcobehkadhcjiaa
open Go Go.Conc Go.ConcN Go.Conc.Lib
open Go.ConcR (KK WgAt wgBlock stA smA Payload DC0 Bk rd wr mk)
variable [Shift] [Payload]

section
variable {P : Program} {L : WgLink} {S V : FuncId → Bool} {post : Value → World → Prop} {Wg : Nat} {R : Bool → Nat} {r r1 : BR} {w w' w1 w2 : World}
variable {N0 : Nat} {W0 : World} {μ : Mj} {gs : Array Goroutine} {t : Trace} {n q : Nat} {D : Nat → Dj} {Pv Rb : Nat → Nat → Prop} {Gs : Nat → Prop} {p0 : Nat} {st sm st' sm' : Int} {tag tag1 : CTag} {d0 d1 : Nat} {σ σ1 : Sj} {a : Goroutine}

omit [Payload] in
theorem hr_now {S : FuncId → Bool} (h : HR0 S r w w') : HR S r (retape w fun k q => w'.tape (w'.drawn + k) q) w' := ⟨h.retape _, fun n q => by
  have : ¬ (w.drawn + n < w.drawn) := by omega
  show (if w.drawn + n < w.drawn then w.tape (w.drawn + n) q else w'.tape (w'.drawn + (w.drawn + n - w.drawn)) q) = _
  rw [if_neg this, Nat.add_sub_cancel_left]⟩

/-- The pointer to the group. -/
theorem Cj.wgp (h : Cj P L S V post N0 W0 μ gs w' t n q D Pv Rb Gs Wg R p0 st sm tag d0 σ r w a) {bg : Nat} (hbg : σ.wg = some bg) {v : Value} (hv : VR S r (.pointer (some ⟨bg, 0, none⟩)) v) : v = .pointer (some ⟨Wg, 0, none⟩) := by
  obtain ⟨g1, g2, _, _⟩ := h.wg bg hbg
  have hlow : Shift.n ≤ bg := by
    obtain ⟨o, o', k1, k2, k3⟩ := h.hr.obj g1
    rw [h.hid bg Wg g1 (.inl g2)] at k1
    cases k1
    cases k3 with
    | inert _ hn _ _ => exact hn
  cases hv with
  | @ptr a a' ar =>
    obtain ⟨ab, ao, asp⟩ := a'
    have e1 := ar.block
    have e2 := ar.off
    have e3 := ar.spot
    simp only at e1 e2 e3
    rw [shf_new hlow] at e2
    obtain rfl := h.hr.fn e1 g1
    subst e2 e3
    rfl

/-- It has come to its end. -/
theorem Cj.ends_ (h : Cj P L S V post N0 W0 μ gs w' t n q D Pv Rb Gs Wg R p0 st sm tag 0 σ r w a) (hl : σ.l = []) {Q : Value → World → Prop}
    (hQ : ∀ v v' r w w', post v w → VR S r v v' → HR0 S r w w' → (∀ b, b < N0 → w'.heap[b]? = W0.heap[b]?) → N0 ≤ w'.heap.size → w'.os = W0.os → w'.output = W0.output → Q v' w')
    {f : FuncId} {t0 : Array Value} {fn : Func} {v : Value} {k : List Item} (hf : P.funcs[f]? = some fn) (hi : P.inits.idxOf? f = none) (hres : ∀ w0, (results fn t0).run P w0 = .ok v w0) (hpost : post v w)
    (hs : Sit P S V (botD [] .normal (by decide) k) [] r (bareR f t0) [] [] w a w') (sl : Option (Nat × Nat)) :
    ∃ o w2 ops, runT P (crowd gs w' sl) 0 = (.ended o w2, ops) ∧ ∀ (w3 : World) (sl3 : Option (Nat × Nat)), Conc.Good P Q (crowd gs w3 sl3) o w2 (t ++ ops) := by
  obtain ⟨t', cs', k', rfl, tt, hm⟩ := hs.bareRD
  cases hm
  have hn : n = q := by have := h.list; rw [hl] at this; simpa using this.symm
  subst hn
  obtain ⟨r1, v', w2', l, h1, h2, hv, h4, h5, h6, h7⟩ := sr_results fn tt _ w' #[] (hr_now hs.hr) _ _ (hres _)
  have h6' : FR r r1 w w' w2' := h6.untape
  have hr2 : HR0 S r1 w w2' := ⟨h4.fn, h4.inj, h4.obj, h4.low⟩
  have hend := stepG_fin (P := P) (k := k') hf hi h1
  have hl2 : ∀ e ∈ seen P f ((results fn t').events P w' #[]), EvS r1 w e := fun e he => by
    rw [h2] at he
    obtain ⟨m1, m2⟩ := mem_seen he
    exact ⟨h7 e (by simpa using m1), m2⟩
  have hbase : ∀ b, b < N0 → w2'.heap[b]? = W0.heap[b]? := fun b hb => by
    rw [h6'.old b (Nat.lt_of_lt_of_le hb h.n0) fun x o hx hw => by have := (h.mine hx hw).1; omega]
    exact h.base b hb
  have old : ∀ {x b}, r1 x b → b < w'.heap.size → r x b := fun hx hb => (h6'.new _ _ hx).resolve_right fun ⟨k, _⟩ => by omega
  obtain ⟨u, hu⟩ : ∃ u, u = MemOp.ofEvents 0 f (Frame.place { (Go.Conc.base f).at ⟨t', []⟩ k' with mode := .returning }) (seen P f ((results fn t').events P w' #[])) := ⟨_, rfl⟩
  have opg : ∀ op ∈ u, op.g = 0 := fun op hop => by rw [hu] at hop; exact Go.ConcR.g_of_ofEvents op hop
  have hact : ∀ op ∈ u, _ := fun op hop => act_at hl2 (by rw [hu] at hop; exact hop)
  have plainy : ∀ op ∈ u, ∀ y, op.act.touch? = some y → y.kind = .plain ∧ ∃ b, blkOf y.loc = some b ∧ ¬ Gs b := fun op hop y hy => by
    obtain ⟨y1, y0, b, y2, y3, y4⟩ := (hact op hop).1 y hy
    refine ⟨y1, b, y3, fun hg => ?_⟩
    have hb := (h.gsN b hg).2
    have k := old y2 hb
    exact (y4 (h.hr.lt k).1).1 (h.hid y0 b k (.inl hg))
  have hct : CT (ShG Gs) (OwnF Pv n n R) (RdF Rb) (t ++ u) n := by
    refine h.jt.ct.app0 h.apart fun op hop => ⟨opg op hop, fun y hy => ?_⟩
    obtain ⟨y1, b, y2, y3⟩ := plainy op hop y hy
    refine .inr ⟨fun ⟨ad, e, hg⟩ => ?_, fun k k1 k2 ho => ?_, fun _ k k1 k2 ⟨b', _, hb'⟩ => by have := (h.rb k b' hb').1; omega⟩
    · rw [e] at y2
      simp only [blkOf, Option.some.injEq] at y2
      exact y3 (y2 ▸ hg)
    · rcases ho with ⟨b', _, hb'⟩ | ⟨k3, _⟩
      · have := (h.pv k b' hb').1; omega
      · omega
  have over : (t ++ u).HandedOver := fun i g hg h0 hc => by
    rcases Nat.lt_or_ge i t.size with hlt | hge
    · rw [g?_old hlt] at hg
      rw [counts_old hlt] at hc
      rcases h.jt.over i g hg h0 hc with ⟨j, hj, hb⟩ | hA
      · exact ⟨j, g?_app hj, hb_app u hb⟩
      · exfalso
        obtain ⟨op, ho, he⟩ := Option.map_eq_some_iff.1 (show (t[i]?).map (·.g) = some g from hg)
        have := h.jt.ct.gs i op ho
        omega
    · exfalso
      obtain ⟨op, ho, he⟩ := Option.map_eq_some_iff.1 (show ((t ++ u)[i]?).map (·.g) = some g from hg)
      rcases getElem?_append_cases ho with ⟨hlt, _⟩ | ⟨_, hou⟩
      · omega
      · rw [opg op hou] at he
        exact h0 he.symm
  subst hu
  refine ⟨_, _, _, runT_many_ended (i := 0) h.zero (by simpa using hend), fun w3 sl3 => ⟨v', rfl, hQ v v' r1 w w2' hpost hv hr2 hbase (Nat.le_trans h.n0 h6'.size) (h6'.os.trans h.os) (h6'.output.trans h.output), ?_, ?_, ⟨fun g hg => ?_, rfl⟩, fun i g hg hi0 => ?_⟩⟩
  · exact hct.nr
  · exact over
  · obtain ⟨j, hj⟩ := List.getElem?_of_mem hg
    rw [List.getElem?_drop] at hj
    have hj' : gs[j + 1]? = some g := by
      rw [← Array.getElem?_toList, Nat.add_comm]
      exact hj
    have hjn : j < n := by have := (Array.getElem?_eq_some_iff.1 hj').1; have := h.size; omega
    obtain ⟨g2, k1, _, k3⟩ := h.gone j hjn
    rw [hj'] at k1
    cases k1
    exact ⟨_, k3.leaves⟩
  · obtain ⟨j, rfl⟩ : ∃ j, i = j + 1 := ⟨i - 1, by omega⟩
    have hg' : gs[j + 1]? = some g := hg
    have hjn : j < n := by have := (Array.getElem?_eq_some_iff.1 hg').1; have := h.size; omega
    obtain ⟨g2, k1, _, k3⟩ := h.gone j hjn
    rw [hg'] at k1
    cases k1
    refine ⟨(D j).wd.fuel, ?_⟩
    have hd := Deaf_other t (g := j + 1) (g' := 0) (by omega) _ opg
    rw [h.deafW j hjn] at hd
    have := k3.hears (crowd gs w3 sl3).world
    rw [← hd] at this
    exact this
end
end Go.Proofs.Ytcobehkadhcjiaa

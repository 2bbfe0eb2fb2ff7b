/-
  Goroutines among others: part 17 of what the law's own text rests on.
-/
import Derived.Test.YtcobehkadhcjiaaCc16
/-
  THE CREW beside sync.WaitGroup: one of the others says that it is done, and leaves.
-/
namespace Go.Proofs.Ytcobehkadhcjiaa
open Go Go.Conc Go.ConcN Go.Conc.Lib
open Go.ConcR (KK WgAt wgBlock stA smA Payload DC0 Bk rd wr mk)
variable [Shift] [Payload]

section
variable {P : Program} {L : WgLink} {S V : FuncId → Bool} {post : Value → World → Prop} {Wg : Nat} {R : Bool → Nat} {r : BR} {w w' w2 : World}
variable {N0 : Nat} {W0 : World} {μ : Mj} {gs : Array Goroutine} {t : Trace} {n q : Nat} {D : Nat → Dj} {Pv Rb : Nat → Nat → Prop} {Gs : Nat → Prop} {p0 : Nat} {st sm st' sm' : Int} {tag : CTag} {d0 : Nat} {σ : Sj} {a : Goroutine}

omit [Shift] [Payload] in
theorem upd_wd (D : Nat → Dj) {i : Nat} (hq : q ≤ i) (x : Dj) : (fun j => (upd D i x (q + j)).wd) = upd (fun j => (D (q + j)).wd) (i - q) x.wd := by
  funext j
  by_cases e : j = i - q
  · subst e
    rw [upd_same, show q + (i - q) = i by omega, upd_same]
  · rw [upd_ne _ _ e, upd_ne _ _ (by omega)]
omit [Shift] [Payload] in
theorem eff_wg {ty : TypeId} {X : Nat → Prop} {o : Option Nat} (ha : Aside Wg w' w2) (hl : WgAt ty Wg w2 st' sm') (hR : ∀ z, R z ≠ Wg) : Eff ty Wg R X o w' w2 :=
  ⟨fun b _ _ hb _ => ha.block b hb, fun _ => ⟨_, _, hl⟩, fun z c y f hc => ⟨c, by rw [ha.block _ (hR z)]; exact hc, rfl, fun _ _ => rfl⟩, Nat.le_of_eq ha.size.symm, ha.os, ha.output⟩
omit [Shift] [Payload] in
theorem bk_touch {es : Array Event} (h : ∀ e ∈ es, Bk Wg e) : ∀ e ∈ es, (∀ y, (MemAct.ofEvent e).touch? = some y → (∃ ad, y.loc = .cell ad ∧ ad.block = Wg) ∧ y.kind ≠ .plain ∧ y.kind ≠ .said) ∧ e.loc ≠ .mark (.release (stA Wg)) := fun e he => by
  rcases h e he with k | k | ⟨ad, wr, rfl, k⟩
  · refine ⟨fun y hy => ?_, by rw [k]; simp⟩
    rw [Go.ConcR.ofEvent_loc_mark k] at hy
    cases hy
  · refine ⟨fun y hy => ?_, by rw [k]; simp⟩
    rw [Go.ConcR.ofEvent_loc_mark k] at hy
    cases hy
  · refine ⟨fun y hy => ?_, by simp⟩
    rw [Go.ConcR.ofEvent_cell] at hy
    simp only [MemAct.touch?, Option.some.injEq] at hy
    subst hy
    exact ⟨⟨ad, rfl, k⟩, by simp, by simp⟩

set_option maxHeartbeats 1600000 in
theorem Cj.stepE (h : Cj P L S V post N0 W0 μ gs w' t n q D Pv Rb Gs Wg R p0 st sm tag d0 σ r w a) {i : Nat} (hq : q ≤ i) (hi : i < n) {g : Goroutine} {rw : Rw} (hrw : σ.rows = some rw) (hg : gs[i + 1]? = some g) (hrun : g.status = .running) {v1 v2 u1 u2 : Value} {s f d : Nat}
    (h1 : (D i).spec (D i).w (.agg #[v1, v2])) (h2 : Nwv (D i).s (.agg #[v1, v2])) (h3 : VR S (D i).r v1 u1) (h4 : VR S (D i).r v2 u2) (h5 : w'.cell? ⟨R false, i - q, none⟩ = some u1) (h6 : WSit P L.tWg Wg (R true) rw.n noP noP 0 (i - q + 1) u2 s f d g w')
    (h7 : s ≤ 6 → w'.cell? ⟨R true, i - q, none⟩ = some u2) (h8 : s ≤ 7) (hst : (D i).wd.stage = s) (hde : (D i).wd.deaf = d) (hlt : ∀ s2 f2, (s2 < s ∨ s2 = s ∧ f2 < f) → Ej.Lt ((D i).e.1, s2, f2) (D i).e) (sl : Option (Nat × Nat)) :
    OnJ P L S V post N0 W0 μ (runT P (crowd gs w' sl) (i + 1)) t := by
  obtain ⟨rw0, g0, k1', k2, k3, k4, k5, k6, sd⟩ := h.work i hq hi
  obtain ⟨bg, hbg⟩ := h.hasWg hrw
  obtain ⟨g1r, g2, g3, hmode⟩ := h.wg bg hbg
  obtain ⟨rat, rlen⟩ := h.rows rw hrw
  have hRW : ∀ z, R z ≠ Wg := fun z e => rat.gs z (e ▸ g2)
  have hi' : i - q < n - q := by omega
  obtain ⟨E, hE⟩ : ∃ E : Nat → WD, E = fun j => (D (q + j)).wd := ⟨_, rfl⟩
  have hEi : E (i - q) = (D i).wd := by rw [hE]; simp only; rw [show q + (i - q) = i by omega]
  have hEs : (E (i - q)).stage = s := by rw [hEi]; exact hst
  rw [← hE] at hmode
  have fin : ∀ {g1 : Goroutine} {w2 : World} {es : Array Event} {s2 f2 d2 : Nat} {st' sm' : Int}, stepG P false g w' = .go g1 w2 es → Eff L.tWg Wg R (fun _ => False) (some (i - q)) w' w2 → WgAt L.tWg Wg w2 st' sm' →
      (∀ e ∈ es, (∀ y, (MemAct.ofEvent e).touch? = some y → (∃ ad, y.loc = .cell ad ∧ ad.block = Wg) ∧ y.kind ≠ .plain ∧ y.kind ≠ .said) ∧ e.loc ≠ .mark (.release (stA Wg))) → w2.cell? ⟨R false, i - q, none⟩ = w'.cell? ⟨R false, i - q, none⟩ →
      WSit P L.tWg Wg (R true) rw.n noP noP 0 (i - q + 1) u2 s2 f2 d2 g1 w2 → (s2 ≤ 6 → w2.cell? ⟨R true, i - q, none⟩ = some u2) → s2 ≤ 7 → deafBehind d es = d2 →
      (s2 ≤ 6 → ∃ p, p0 ≤ p ∧ RelBy (stA Wg) (t ++ MemOp.ofEvents (i + 1) g.frame.fn g.frame.place es) (i + 1) p) →
      (∀ tag', (tag' = tag ∨ (tag = .blk ∧ tag' = .w3)) → (mayWake P g = true → g1.status = .running → tag' ≠ .blk) → ConcN.Mode (n - q) (upd E (i - q) ⟨s2, f2, d2⟩) tag' st' sm') → cnt ⟨s2, f2, d2⟩ ≤ cnt (E (i - q)) → (s2 < s ∨ s2 = s ∧ f2 < f) →
      OnJ P L S V post N0 W0 μ (runT P (crowd gs w' sl) (i + 1)) t := by
    intro g1 w2 es s2 f2 d2 st' sm' hgo he hwg hev hc1 hS hc2 h27 hdd hrel hmd hvc hl
    have hr2 : HR0 S (D i).r (D i).w w2 := k3.eff he (fun _ _ _ => id) (fun x b hx hh => sd.hid x b hx (hh.imp (fun e => by rw [e]; exact g2) id)) ⟨_, _, g3⟩ (h.rowsOk hrw)
    have eX := upd_wd D hq ⟨(D i).s, (D i).spec, (D i).r, (D i).w, ((D i).e.1, s2, f2), ⟨s2, f2, d2⟩⟩
    rw [← hE] at eX
    obtain ⟨gs', μ', D', Pv', tag', a', ops, l1, l2, l3⟩ := h.stepW (x := ⟨(D i).s, (D i).spec, (D i).r, (D i).w, ((D i).e.1, s2, f2), ⟨s2, f2, d2⟩⟩) hq hi hrw hg hgo rfl rfl ⟨fun b hb _ x y => he.stays b hb id x y, he.live, he.row, he.size, he.os, he.output⟩ hr2 (fun x b hx => .inl hx) (fun _ _ k => k) (LF.refl _)
      (.ends h1 h2 h3 h4 (by rw [hc1]; exact h5) hS hc2 h27)
      (fun op hop => by
        obtain ⟨e, he, rfl⟩ := Go.Conc.mem_ofEvents hop
        obtain ⟨j1, j2⟩ := hev e he
        exact ⟨fun y hy => .inl (j1 y hy), fun ex => j2 (Go.ConcR.loc_of_ofEvent ex)⟩)
      (by rw [hde]; exact hdd) hrel hwg (by rw [eX]; exact hmd) (by
        rw [eX, ← hE]
        have := Vc_upd E (⟨s2, f2, d2⟩ : WD) hi'
        show Vc (n - q) (upd E (i - q) ⟨s2, f2, d2⟩) ≤ Vc (n - q) E
        omega) (hlt s2 f2 hl) sl
    exact ⟨_, _, _, μ', _, _, D', Pv', _, _, _, _, _, _, _, tag', _, _, _, _, a', _, l1, l2, l3⟩
  have hdk : Deaf t (i + 1) = d := by rw [h.deafW i hi, hde]
  -- the library's bookkeeping: the group's block alone turns
  have book : ∀ {g1 : Goroutine} {w2 : World} {es : Array Event} {s2 f2 d2 : Nat} {st' sm' : Int}, stepG P false g w' = .go g1 w2 es → Aside Wg w' w2 → WgAt L.tWg Wg w2 st' sm' → (∀ e ∈ es, Bk Wg e) →
      (∀ j e, es[j]? = some e → (MemAct.ofEvent e).touch? = none ∨ 0 < deafBehind d (es.extract 0 j)) → WSit P L.tWg Wg (R true) rw.n noP noP 0 (i - q + 1) u2 s2 f2 d2 g1 w2 → deafBehind d es = d2 → s ≤ 6 → s2 ≤ s →
      (∀ tag', (tag' = tag ∨ (tag = .blk ∧ tag' = .w3)) → (mayWake P g = true → g1.status = .running → tag' ≠ .blk) → ConcN.Mode (n - q) (upd E (i - q) ⟨s2, f2, d2⟩) tag' st' sm') → cnt ⟨s2, f2, d2⟩ ≤ cnt (E (i - q)) → (s2 < s ∨ s2 = s ∧ f2 < f) →
      OnJ P L S V post N0 W0 μ (runT P (crowd gs w' sl) (i + 1)) t := by
    intro g1 w2 es s2 f2 d2 st' sm' hgo hAs hwg hbk hd hS hdd h6' hle hmd hvc hl
    refine fin hgo (eff_wg hAs hwg hRW) hwg (bk_touch hbk) (cell_of_block (hAs.block _ (hRW false)) _) hS (fun _ => (cell_of_block (hAs.block _ (hRW true)) _).trans (h7 h6')) (by omega) hdd (fun _ => ?_) hmd hvc hl
    obtain ⟨p, hp0, hp⟩ := h.rel i hq hi (by rw [hst]; exact h6')
    exact ⟨p, hp0, hp.book hdk _ _ hbk hd⟩
  have idle : ∀ {g1 : Goroutine} {f2 : Nat}, stepG P false g w' = .go g1 w' #[] → WSit P L.tWg Wg (R true) rw.n noP noP 0 (i - q + 1) u2 s f2 d g1 w' → f2 < f → s ≤ 6 → OnJ P L S V post N0 W0 μ (runT P (crowd gs w' sl) (i + 1)) t := by
    intro g1 f2 hgo hS hf h6'
    refine book hgo (.refl Wg w') g3 (by simp) (by simp) hS rfl h6' (Nat.le_refl _) (fun tag' ht _ => Mode.retag ?_ ht) (by simp only [cnt, hEs]; exact Nat.le_refl _) (.inr ⟨rfl, hf⟩)
    have := hmode.same (i := i - q) f2 d
    rw [hEs] at this
    exact this
  have c5 : 5 ≤ s → cnt (E (i - q)) = 1 := fun h => by simp [cnt, hEs, h]
  cases h6 with
  | @r0 m _ _ hG =>
    rcases Goes.cases hG with hstop | ⟨m', rfl, hstep⟩
    · obtain ⟨_, hhas, g', hgo, m2, hk⟩ := hstop w' (RW.refl w')
      refine fin hgo ⟨fun _ _ _ _ _ => rfl, id, fun z c y f hc => ⟨c, hc, rfl, fun _ _ => rfl⟩, Nat.le_refl _, rfl, rfl⟩ g3 (fun e he => ?_) rfl (.k1 hk) (fun _ => by simpa [Has] using hhas) (by omega) rfl (fun _ => ⟨t.size, h.p0le, RelBy.new hdk _ _⟩) (fun tag' ht _ => (hmode.counted hi' (by rw [hEs]; omega) (.inl rfl) _ _).retag ht) (by rw [c5 (by omega)]; simp [cnt]) (.inl (by omega))
      simp at he
      subst he
      exact ⟨fun y hy => (by cases hy), by simp [Go.ConcR.mk]⟩
    · obtain ⟨g', w2, es, hgo, ⟨hac, hev⟩, hg'⟩ := hstep w' (RW.refl w')
      simp only [Nat.add_sub_cancel] at hac
      have hne : R false ≠ R true := rat.ne
      have wgS := g3.of_block (hac.block Wg (Ne.symm (hRW true)))
      refine fin hgo ⟨fun b _ _ _ hR => hac.block b (hR true), fun _ => ⟨_, _, wgS⟩, fun z c y f hc => ?_, Nat.le_of_eq hac.size.symm, hac.os, hac.output⟩ wgS (fun e he => ?_) (cell_of_block (hac.block _ hne) _) (.r0 hg') (fun h => by omega) (by omega) (deafBehind_idle (fun e he => ⟨(hev e he).2.1, (hev e he).2.2.1⟩) 0) (fun h => by omega)
        (fun tag' ht _ => Mode.retag (by have := hmode.same (i := i - q) m' 0; rw [hEs] at this; exact this) ht) (by simp only [cnt, hEs]; exact Nat.le_refl _) (.inr ⟨rfl, by omega⟩)
      · cases z with
        | false => exact ⟨c, by rw [hac.block _ hne]; exact hc, rfl, fun _ _ => rfl⟩
        | true =>
          obtain ⟨cs, hcs, hn⟩ := rat.row true
          rw [hcs] at hc
          cases hc
          rw [rat.ety] at hcs
          obtain ⟨c2, q1, q2⟩ := hac.pay ⟨_, hcs, hn⟩
          refine ⟨c2, by rw [q1, rat.ety], by omega, fun j hj => ?_⟩
          have := hac.cells j (fun e => hj (by rw [e]))
          simpa [World.cell?, q1, hcs] using this
      · refine ⟨fun y hy => ?_, (hev e he).2.2.2⟩
        have := ((hev e he).1 0 "").2 y hy
        rcases this with ⟨⟨ad, k1, k2⟩, k3⟩ | k | ⟨k, _⟩
        · exact ⟨⟨ad, k1, k2⟩, k3⟩
        · exact k.elim
        · exact k.elim
  | @k1 m _ _ hG =>
    rcases Goes.cases hG with hstop | ⟨m', rfl, hstep⟩
    · obtain ⟨_, g', hgo, m2, hk⟩ := hstop w' (RW.refl w')
      exact book hgo (.refl Wg w') g3 (by intro e he; simp at he; subst he; exact .inl rfl) (by intro jx e he; exact .inl (by have := Array.mem_of_getElem? he; simp at this; subst this; rfl)) (.d1 hk) rfl (by omega) (by omega)
        (fun tag' ht _ => (hmode.counted hi' (by rw [hEs]; omega) (.inr rfl) _ _).retag ht) (by rw [c5 (by omega)]; simp [cnt]) (.inl (by omega))
    · obtain ⟨g', w2, es, hgo, ⟨rfl, rfl⟩, hg'⟩ := hstep w' (RW.refl w')
      exact idle hgo (.k1 hg') (by omega) (by omega)
  | @d1 m _ _ hG =>
    rcases Goes.cases hG with hstop | ⟨m', rfl, hstep⟩
    · obtain ⟨_, hall⟩ := hstop w' (RW.refl w')
      have hc1 : cnt (E (i - q)) = 1 := c5 (by omega)
      have hV1 : 1 ≤ Vc (n - q) E := by have := le_sumTo (f := fun x => cnt (E x)) hi'; simp only [Vc]; omega
      have hVn := Vc_le (n - q) E
      have hn1 : n - q ≤ 1000000 := by
        have := h.list
        have := rat.few
        omega
      have bk2 : ∀ e ∈ #[rd (stA Wg), wr (stA Wg)], Bk Wg e := by intro e he; simp at he; rcases he with rfl | rfl <;> exact bk_cell _ _ rfl
      have df2 : ∀ jx e, (#[rd (stA Wg), wr (stA Wg)] : Array Event)[jx]? = some e → (MemAct.ofEvent e).touch? = none ∨ 0 < deafBehind 1 ((#[rd (stA Wg), wr (stA Wg)] : Array Event).extract 0 jx) := by
        intro jx e he
        match jx, he with
        | 0, _ => exact .inr (by simp [deafBehind])
        | 1, _ => exact .inr (by simp [deafBehind, rd])
        | jx + 2, he => simp at he
      have hq0 : ∀ x, cnt (⟨1, x, 1⟩ : WD) = 0 := fun _ => rfl
      have opq : ∀ x, OpenSt (n - q) E → OpenSt (n - q) (upd E (i - q) ⟨1, x, 1⟩) := fun x ho y hy => by
        by_cases e : y = i - q
        · subst e; rw [upd_same]; simp
        · rw [upd_ne E _ e]; exact ho y hy
      cases hmode with
      | opn m1 m2 m3 =>
        obtain ⟨v, hv⟩ : ∃ v, Vc (n - q) E + pend tag = v + 1 := ⟨Vc (n - q) E + pend tag - 1, by omega⟩
        have hp1 : pend tag ≤ 1 := by cases tag <;> simp only [pend] <;> (try split) <;> omega
        rw [hv] at g3
        have hw1 : WgAt L.tWg Wg w' (((v : Nat) + 1) * KK + ((0 : Nat) : Int)) 0 := by simpa using g3
        obtain ⟨g', hgo, _, hqt⟩ := hall v 0 (by omega) (by omega) hw1
        obtain ⟨x, hqt⟩ := hqt (by omega)
        have hv' : Vc (n - q) (upd E (i - q) ⟨1, x, 1⟩) + pend tag = v := by have := Vc_upd E (⟨1, x, 1⟩ : WD) hi'; have := hq0 x; omega
        refine book hgo (Go.Conc.aside_setCell w' (stA Wg) _) (g3.setSt _) bk2 df2 (.quit hqt) rfl (by omega) (by omega) (fun tag' ht _ => Mode.retag ?_ ht) (by rw [hq0]; omega) (.inl (by omega))
        have e : ((v : Nat) : Int) * KK + ((0 : Nat) : Int) = ((Vc (n - q) (upd E (i - q) ⟨1, x, 1⟩) + pend tag : Nat) : Int) * KK := by rw [hv']; simp
        rw [e]
        exact .opn m1 (opq x m2) (fun vs ev => by have := m3 vs ev; omega)
      | reg m1 m2 m3 =>
        obtain ⟨v, hv⟩ : ∃ v, Vc (n - q) E = v + 1 := ⟨Vc (n - q) E - 1, by omega⟩
        rw [hv] at g3
        have hw1 : WgAt L.tWg Wg w' (((v : Nat) + 1) * KK + ((1 : Nat) : Int)) 0 := by simpa using g3
        obtain ⟨g', hgo, hl, hqt⟩ := hall v 1 (by omega) (by omega) hw1
        by_cases hv0 : v = 0
        · subst hv0
          obtain ⟨x, hk⟩ := hl ⟨rfl, rfl⟩
          refine book hgo (Go.Conc.aside_setCell w' (stA Wg) _) (g3.setSt _) bk2 df2 (.d2 hk) rfl (by omega) (by omega) (fun tag' ht _ => Mode.retag ?_ ht) (by simp [cnt]) (.inl (by omega))
          have hoth : ∀ y, y < n - q → y ≠ i - q → (E y).stage = 1 := fun y hy e => by
            have c0 := others_uncounted hi' hv hc1 y hy e
            have := m2 y hy
            simp only [cnt] at c0
            split at c0 <;> omega
          have := ConcN.Mode.last (j := n - q) (D := upd E (i - q) ⟨4, x, 1⟩) (tag := tag) (i - q) m1 hi' (by rw [upd_same]; simp) (fun y hy e => by rw [upd_ne E _ e]; exact hoth y hy e)
          rw [upd_same] at this
          simpa using this
        · obtain ⟨x, hqt⟩ := hqt (by omega)
          have hv' : Vc (n - q) (upd E (i - q) ⟨1, x, 1⟩) = v := by have := Vc_upd E (⟨1, x, 1⟩ : WD) hi'; have := hq0 x; omega
          refine book hgo (Go.Conc.aside_setCell w' (stA Wg) _) (g3.setSt _) bk2 df2 (.quit hqt) rfl (by omega) (by omega) (fun tag' ht _ => Mode.retag ?_ ht) (by rw [hq0]; omega) (.inl (by omega))
          have e : ((v : Nat) : Int) * KK + ((1 : Nat) : Int) = ((Vc (n - q) (upd E (i - q) ⟨1, x, 1⟩) : Nat) : Int) * KK + 1 := by rw [hv']; simp
          rw [e]
          exact .reg m1 (opq x m2) (by omega)
      | last K _ m2 m3 m4 =>
        by_cases e : i - q = K
        · subst e; omega
        · have := m4 (i - q) hi' e; omega
      | sema m2 => have := m2 (i - q) hi'; omega
      | fin _ m2 => have := m2 (i - q) hi'; omega
    · obtain ⟨g', w2, es, hgo, ⟨rfl, rfl⟩, hg'⟩ := hstep w' (RW.refl w')
      exact idle hgo (.d1 hg') (by omega) (by omega)
  | @d2 m _ _ hG =>
    rcases Goes.cases hG with hstop | ⟨m', rfl, hstep⟩
    · obtain ⟨_, hx⟩ := hstop w' (RW.refl w')
      obtain ⟨hW3, hoth, hst', rfl⟩ := hmode.isLast hi' (by omega)
      rw [hEs] at hst'
      subst hst'
      obtain ⟨g', hgo, x, hk⟩ := hx (by simpa using g3)
      refine book hgo (.refl Wg w') g3 (by intro e he; simp at he; subst he; exact bk_cell _ _ rfl) (by intro jx e he; match jx, he with | 0, _ => exact .inr (by simp [deafBehind]) | jx + 1, he => simp at he) (.d3 hk) rfl (by omega) (by omega) (fun tag' ht _ => Mode.retag ?_ ht) (by simp [cnt]) (.inl (by omega))
      have := ConcN.Mode.last (j := n - q) (D := upd E (i - q) ⟨3, x, 1⟩) (tag := tag) (i - q) hW3 hi' (by rw [upd_same]; simp) (fun y hy e => by rw [upd_ne E _ e]; exact hoth y hy e)
      rw [upd_same] at this
      simpa using this
    · obtain ⟨g', w2, es, hgo, ⟨rfl, rfl⟩, hg'⟩ := hstep w' (RW.refl w')
      exact idle hgo (.d2 hg') (by omega) (by omega)
  | @d3 m _ _ hG =>
    rcases Goes.cases hG with hstop | ⟨m', rfl, hstep⟩
    · obtain ⟨_, hx⟩ := hstop w' (RW.refl w')
      obtain ⟨hW3, hoth, hst', rfl⟩ := hmode.isLast hi' (by omega)
      rw [hEs] at hst'
      subst hst'
      obtain ⟨g', hgo, x, hk⟩ := hx (by simpa using g3)
      refine book hgo (Go.Conc.aside_setCell w' (stA Wg) _) (g3.setSt 0) (by intro e he; simp at he; subst he; exact bk_cell _ _ rfl) (by intro jx e he; match jx, he with | 0, _ => exact .inr (by simp [deafBehind]) | jx + 1, he => simp at he) (.d4 hk) rfl (by omega) (by omega) (fun tag' ht _ => Mode.retag ?_ ht) (by simp [cnt]) (.inl (by omega))
      have := ConcN.Mode.last (j := n - q) (D := upd E (i - q) ⟨2, x, 1⟩) (tag := tag) (i - q) hW3 hi' (by rw [upd_same]; simp) (fun y hy e => by rw [upd_ne E _ e]; exact hoth y hy e)
      rw [upd_same] at this
      simpa using this
    · obtain ⟨g', w2, es, hgo, ⟨rfl, rfl⟩, hg'⟩ := hstep w' (RW.refl w')
      exact idle hgo (.d3 hg') (by omega) (by omega)
  | @d4 m _ _ hG =>
    rcases Goes.cases hG with hstop | ⟨m', rfl, hstep⟩
    · obtain ⟨_, hmw, hx⟩ := hstop w' (RW.refl w')
      obtain ⟨hW3, hoth, hst', rfl⟩ := hmode.isLast hi' (by omega)
      rw [hEs] at hst'
      subst hst'
      obtain ⟨g', hgo, x, hqt⟩ := hx (by simpa using g3)
      have hrun' : g'.status = .running := by
        cases x with
        | zero => exact absurd hqt.2 (by decide)
        | succ x => exact hqt.elim (fun y => absurd y.2 (by decide)) (fun y => y.1)
      refine book hgo (Go.Conc.aside_setCell w' (smA Wg) _) (g3.setSm 1) (es := semEvents (smA Wg)) ?_ ?_ (.quit hqt) (by simp [deafBehind, semEvents]) (by omega) (by omega) ?_ (by simp [cnt]) (.inl (by omega))
      · intro e he
        simp [semEvents] at he
        rcases he with rfl | rfl | rfl | rfl
        · exact .inl rfl
        · exact bk_cell _ _ rfl
        · exact bk_cell _ _ rfl
        · exact .inr (.inl rfl)
      · intro jx e he
        match jx, he with
        | 0, he => simp [semEvents] at he; subst he; exact .inl rfl
        | 1, _ => exact .inr (by simp [deafBehind, semEvents])
        | 2, _ => exact .inr (by simp [deafBehind, semEvents])
        | 3, he => simp [semEvents] at he; subst he; exact .inl rfl
        | jx + 4, he => simp [semEvents] at he
      · intro tag' ht hw
        have hnb := hw hmw hrun'
        have e3 : tag' = .w3 := by
          rcases ht with rfl | ⟨_, rfl⟩
          · cases tag' <;> first | rfl | exact hW3.elim | exact absurd rfl hnb
          · rfl
        subst e3
        simp only [if_true]
        exact .sema fun y hy => by
          by_cases e : y = i - q
          · subst e; rw [upd_same]
          · rw [upd_ne E _ e]; exact hoth y hy e
    · obtain ⟨g', w2, es, hgo, ⟨rfl, rfl⟩, hg'⟩ := hstep w' (RW.refl w')
      exact idle hgo (.d4 hg') (by omega) (by omega)
  | quit hqt =>
    cases f with
    | zero => rw [hqt.1] at hrun; cases hrun
    | succ f =>
      rcases hqt with ⟨hf, _⟩ | ⟨_, g', es, hmute, hstep, hqt⟩
      · rw [hf] at hrun; cases hrun
      · have hbk : ∀ e ∈ es, Bk Wg e := fun e he => Go.ConcR.bk_of_mute (hmute e he)
        have hno : ∀ jx e, es[jx]? = some e → (MemAct.ofEvent e).touch? = none ∨ 0 < deafBehind d (es.extract 0 jx) := fun jx e he => .inl (by
          rcases Go.ConcR.bk_of_mute (Wg := Wg) (hmute e (Array.mem_of_getElem? he)) with x | x | ⟨a, wr, rfl, _⟩
          · rw [Go.ConcR.ofEvent_loc_mark x]; rfl
          · rw [Go.ConcR.ofEvent_loc_mark x]; rfl
          · have := hmute _ (Array.mem_of_getElem? he); simp [Event.mute] at this)
        exact book (hstep w') (.refl Wg w') g3 hbk hno (.quit hqt) rfl (by omega) (by omega) (fun tag' ht _ => Mode.retag (by have := hmode.same (i := i - q) f (deafBehind d es); rwa [hEs] at this) ht) (by simp [cnt, hEs]) (.inr ⟨rfl, by omega⟩)
end
end Go.Proofs.Ytcobehkadhcjiaa

/-
  THE CREW beside sync.WaitGroup: whatever step one of the others takes.
-/
namespace Go.Proofs.Ytcobehkadhcjiaa
open Go Go.Conc Go.ConcN Go.Conc.Lib
open Go.ConcR (KK WgAt wgBlock stA smA Payload DC0 Bk)
variable [Shift] [Payload]

section
variable {P : Program} {L : WgLink} {S V : FuncId → Bool} {post : Value → World → Prop} {Wg : Nat} {R : Bool → Nat} {r : BR} {w w' w2 : World}
variable {N0 : Nat} {W0 : World} {μ : Mj} {gs : Array Goroutine} {t : Trace} {n q : Nat} {D : Nat → Dj} {Pv Rb : Nat → Nat → Prop} {Gs : Nat → Prop} {p0 : Nat} {st sm st' sm' : Int} {tag : CTag} {d0 : Nat} {σ : Sj} {a : Goroutine}

/-- One that leaves. -/
theorem Cj.stepQ (h : Cj P L S V post N0 W0 μ gs w' t n q D Pv Rb Gs Wg R p0 st sm tag d0 σ r w a) {i : Nat} (hi : i < q) {g : Goroutine} (hg : gs[i + 1]? = some g) (hrun : g.status = .running) (sl : Option (Nat × Nat)) : OnJ P L S V post N0 W0 μ (runT P (crowd gs w' sl) (i + 1)) t := by
  obtain ⟨g2, k1, k2, k3⟩ := h.gone i hi
  rw [hg] at k1
  cases k1
  have hqn := h.qn
  obtain ⟨f, hf⟩ : ∃ f, (D i).wd.fuel = f := ⟨_, rfl⟩
  rw [hf] at k2 k3
  cases f with
  | zero => rw [k3.1] at hrun; cases hrun
  | succ f =>
    rcases k3 with ⟨hfi, _⟩ | ⟨_, g', es, hmute, hstep, hqt⟩
    · rw [hfi] at hrun; cases hrun
    · have hrm : HR0 S r w w' := h.hr
      obtain ⟨tag', f', hm', ht1, _⟩ := h.main.woken hrm g g'
      have hrun' := runT_crowd_go (P := P) (sl := sl) (i := i + 1) hg (by simpa using hstep w')
      rw [h.mapped] at hrun'
      have his : i + 1 < gs.size := by have := h.size; omega
      obtain ⟨x, hx⟩ : ∃ x : Dj, x = ⟨(D i).s, (D i).spec, (D i).r, (D i).w, ((D i).e.1, (D i).e.2.1, f), ⟨(D i).wd.stage, f, deafBehind (D i).wd.deaf es⟩⟩ := ⟨_, rfl⟩
      obtain ⟨D', hD⟩ : ∃ D', D' = upd D i x := ⟨_, rfl⟩
      have dI : D' i = x := by rw [hD]; exact upd_same _ _ _
      have dO : ∀ j, j ≠ i → D' j = D j := fun j hj => by rw [hD]; exact upd_ne _ _ hj
      have opg : ∀ op ∈ MemOp.ofEvents (i + 1) g.frame.fn g.frame.place es, op.g = i + 1 := fun op hop => Go.ConcR.g_of_ofEvents op hop
      have nt : ∀ op ∈ MemOp.ofEvents (i + 1) g.frame.fn g.frame.place es, op.act.touch? = none ∧ op.act ≠ .mark (.release (stA Wg)) := fun op hop => by
        obtain ⟨e, he, rfl⟩ := Go.Conc.mem_ofEvents hop
        rcases Go.ConcR.bk_of_mute (Wg := Wg) (hmute e he) with x | x | ⟨a, wr, rfl, _⟩
        · simp only [Go.ConcR.ofEvent_loc_mark x]; exact ⟨rfl, by simp⟩
        · simp only [Go.ConcR.ofEvent_loc_mark x]; exact ⟨rfl, by simp⟩
        · have := hmute _ he; simp [Event.mute] at this
      have hct := h.jt.ct.appW h.apart (k := i + 1) (by omega) (by omega) (u := MemOp.ofEvents (i + 1) g.frame.fn g.frame.place es) fun op hop => ⟨opg op hop, fun y hy => by rw [(nt op hop).1] at hy; cases hy⟩
      have njt := h.jt.app (Nat.le_refl _) hct (fun _ k => k) (fun op hop y hy b hb => by rw [(nt op hop).1] at hy; cases hy) (fun op hop y hy => by rw [(nt op hop).1] at hy; cases hy) (fun op hop => .inr (.inr (nt op hop).1))
      have eD : (fun j => (D' (q + j)).wd) = fun j => (D (q + j)).wd := by funext j; rw [dO _ (by omega)]
      have lt1 : Mj.Lt (μ.1, elj D' n, f') μ := by
        obtain ⟨m0, l0, f0⟩ := μ
        have := h.mu
        simp only at this
        subst this
        rw [hD]
        refine .right _ (.left _ _ (elj_lt ?_ (by omega)))
        rw [hx]
        obtain ⟨e1, e2, e3⟩ : ∃ e1 e2, (D i).e = (e1, e2, f + 1) := ⟨(D i).e.1, (D i).e.2.1, by rw [← k2]⟩
        rw [e3]
        exact .right _ (.right _ (Nat.lt_succ_self f))
      refine ⟨_, _, _, _, _, _, D', _, _, _, _, _, p0, st, sm, tag', d0, σ, r, w, _, _, hrun', lt1, {
        size := (by simp [h.size]), list := h.list, zero := ?zero, main := hm', hr := hrm, gone := fun j hj => ?gone, work := fun j h1 h2 => ?work,
        wg := fun b hb => ?wg, nowg := h.nowg, norows := h.norows, rows := h.rows, hid := h.hid, gsN := h.gsN, pv := h.pv, pvp := h.pvp, rb := fun k b hb => ?rb,
        base := h.base, low := h.low, n0 := h.n0, os := h.os, output := h.output, jt := njt, deaf0 := ?deaf0, deafW := fun j hj => ?deafW, rel := fun j h1 h2 hs => ?rel, nrel := fun j hj => ?nrel, p0le := (by have := h.p0le; simp; omega), need := ?need, mu := rfl }⟩
      case zero =>
        rw [get_set_ne _ (by omega)]
        exact get_set_eq _ (by omega)
      case gone =>
        by_cases e : j = i
        · subst e
          rw [dI, hx]
          exact ⟨g', get_set_eq _ (by simp; omega), rfl, hqt⟩
        · rw [dO j e]
          obtain ⟨g2, l1, l2⟩ := h.gone j hj
          exact ⟨g2, by rw [get_set_ne _ (by omega), get_set_ne _ (by omega)]; exact l1, l2⟩
      case work =>
        rw [dO j (by omega)]
        obtain ⟨rw0, g0, l1, l2, l3⟩ := h.work j h1 h2
        exact ⟨rw0, g0, l1, by rw [get_set_ne _ (by omega), get_set_ne _ (by omega)]; exact l2, l3⟩
      case wg =>
        obtain ⟨l1, l2, l3, l4⟩ := h.wg b hb
        refine ⟨l1, l2, l3, ?_⟩
        rw [eD]
        exact l4.retag ht1
      case rb =>
        obtain ⟨l1, l2, l3⟩ := h.rb k b hb
        rw [dO _ (by omega)]
        exact ⟨l1, l2, l3⟩
      case deaf0 =>
        rw [Deaf_other t (g' := i + 1) (by omega) _ opg]
        exact h.deaf0
      case deafW =>
        by_cases e : j = i
        · subst e
          rw [dI, hx, Deaf_own, h.deafW j hj]
        · rw [dO j e, Deaf_other t (g' := i + 1) (by omega) _ opg]
          exact h.deafW j hj
      case rel =>
        rw [dO j (by omega)] at hs
        obtain ⟨p, hp0, hp⟩ := h.rel j h1 h2 hs
        exact ⟨p, hp0, hp.appOther opg (by omega)⟩
      case nrel =>
        intro e
        obtain ⟨op, ho, hoa⟩ := Option.map_eq_some_iff.1 (show ((t ++ MemOp.ofEvents (i + 1) g.frame.fn g.frame.place es)[j]?).map (·.act) = _ from e)
        rcases getElem?_append_cases ho with ⟨_, ho'⟩ | ⟨_, hou⟩
        · exact h.nrel j hj (by rw [act?_of ho', hoa])
        · exact (nt op hou).2 hoa
      case need =>
        have k := h.need
        rw [eD]
        exact Nat.le_trans (need_mono (Nat.le_refl _) ht1) k

omit [Shift] [Payload] in
theorem Leads.running {q : Nat} {g g1 : Goroutine} (h : Leads P q g g1) (h1 : g1.status = .running) : g.status = .running := by
  cases h with
  | refl => exact h1
  | step k _ _ => exact k

theorem Cj.runs_ (hP : OkP P S V) (h : Cj P L S V post N0 W0 μ gs w' t n q D Pv Rb Gs Wg R p0 st sm tag d0 σ r w a) {i : Nat} (hq : q ≤ i) (hi : i < n) {g : Goroutine} {rw : Rw} (hrw : σ.rows = some rw) (hg : gs[i + 1]? = some g) {b : Bool} {m : Mt} {u : Bool → Option Value} {fr : Frame} {ct : List Frame} {k : List Item}
    (hJ : Jm P L S V b (.wk ⟨i - q, (D i).s, (D i).spec, rw⟩ u) m fr ct k [] (D i).w) (hs : Sit P S V (botD (dDone L Wg) .deferred (by decide) k) [botF P] (D i).r fr ct [] (D i).w g w') (hu : ∀ z v, u z = some v → ∃ v', VR S (D i).r v v' ∧ w'.cell? ⟨R z, i - q, none⟩ = some v')
    (hm : (D i).e.1 = m) (he : 8 ≤ (D i).e.2.1) (hwd : (D i).wd.stage = 7 ∧ (D i).wd.deaf = 0) (hrun : g.status = .running) (sl : Option (Nat × Nat)) : OnJ P L S V post N0 W0 μ (runT P (crowd gs w' sl) (i + 1)) t := by
  obtain ⟨rw0, g0, k1', k2, k3, k4, k5, k6, sd⟩ := h.work i hq hi
  obtain rfl : rw0 = rw := by rw [hrw] at k1'; exact (Option.some.inj k1').symm
  obtain ⟨bg, hbg⟩ := h.hasWg hrw
  obtain ⟨g1r, g2, g3, g4⟩ := h.wg bg hbg
  obtain ⟨rat, rlen⟩ := h.rows rw0 hrw
  rcases jm_res hP hJ (dDone L Wg) .deferred (by decide) (fun _ _ e => by cases e) [botF P] false hs with hG | ⟨m1, fr1, ct1, k1, cs1, hle, hI, hs1⟩
  · exact h.stepT hq hi hrw hg hG hu hm hwd sl
  · generalize hρ : Rj.wk ⟨i - q, (D i).s, (D i).spec, rw0⟩ u = ρ at hI
    generalize hw0 : (D i).w = wi at hI
    cases hI with
    | @put b1 gx c u' z f t0 ops i2 rest o k w0 x y v ho hw hx hy hev hev2 hv hst hsub =>
      cases hρ
      subst hw0
      obtain ⟨t', cs', rfl, tt, hmr⟩ := hs1.bareD
      cases hmr
      have hwt' : Region.wanted o (yielded ops t') = true := by rw [wanted_rr tt]; exact hw
      have hv1 := ER.of (a := ⟨t0, []⟩) (a' := ⟨t', dDone L Wg⟩) tt x hx
      rw [hev] at hv1
      have hv2 := ER.of (a := ⟨t0, []⟩) (a' := ⟨t', dDone L Wg⟩) tt y hy
      rw [hev2] at hv2
      obtain ⟨v', hv'⟩ : ∃ v', v' = Act.eval ⟨t', dDone L Wg⟩ y := ⟨_, rfl⟩
      rw [← hv'] at hv2
      have hpt : Act.eval ⟨t', dDone L Wg⟩ x = .pointer (some ⟨R z, i - q, none⟩) := by
        generalize Act.eval ⟨t', dDone L Wg⟩ x = y at hv1
        cases hv1 with
        | @ptr a a' ar =>
          obtain ⟨ab, ao, asp⟩ := a'
          have e1 := ar.block
          have e2 := ar.off
          have e3 := ar.spot
          simp only at e1 e2 e3
          rw [shf_new (rat.low z)] at e2
          obtain rfl := k3.fn e1 (sd.wrow z)
          subst e2 e3
          rfl
      have hcell : v'.oneCell' = true := by
        rcases hv with hv | ⟨a, n, cp, rfl⟩
        · rw [plnv_eq hv2 hv]
          cases v <;> first | rfl | exact hv.elim
        · cases hv2 <;> rfl
      obtain ⟨c, hc, hcn⟩ := rat.row z
      have hin : i - q < c.size := by have := h.list; omega
      have hold : w'.cell? ⟨R z, i - q, none⟩ = some c[i - q] := by simp [World.cell?, hc, hin]
      have hfz : w'.frozen? ⟨R z, i - q, none⟩ = false := by simp [World.frozen?, hc]
      obtain ⟨r1, r2⟩ := hst ⟨t', dDone L Wg⟩ w' #[] ⟨R z, i - q, none⟩ v' _ hpt hv'.symm hcell hold hfz
      have hgo := stepG_none (P := P) (main := false) (b := baseK .deferred f) (a := ⟨t', dDone L Wg⟩) (k := k) (rest := rest) (cs := [] ++ [botF P]) ho hwt' (by simp [baseK]) r1
      rw [put_bareD] at hgo
      refine h.stepP hq hi hrw hg (e := (gx .un, 8, 0)) hgo (fun e he => ?_) (fun hr2 hc1 hc2 => ?_) hwd ?_ sl
      · unfold listed at he
        rw [r2] at he
        obtain ⟨m1, _⟩ := mem_seen he
        simpa using m1
      · have hs2 : Sit P S V (botD (dDone L Wg) .deferred (by decide) (.inRegion ops rest :: k)) [botF P] (D i).r (bare f (putT t0 o.dst undef)) [] [] (D i).w (G ((baseK .deferred f).at ⟨putT t' o.dst undef, dDone L Wg⟩ (.inRegion ops rest :: k)) ([] ++ [botF P])) (w'.setCell ⟨R z, i - q, none⟩ v') := Sit.mkD (cs' := []) (tt.put _ VR.undef) .nil hr2
        refine .runs hsub hs2 fun z' v2 hz => ?_
        by_cases e : z' = z
        · subst e
          rw [if_pos rfl] at hz
          cases hz
          exact ⟨v', hv2, hc1⟩
        · rw [if_neg e] at hz
          obtain ⟨v3, j1, j2⟩ := hu z' v2 hz
          exact ⟨v3, j1, (hc2 z' e).trans j2⟩
      · obtain ⟨e2, he2⟩ : ∃ e2, (D i).e = (m, e2) := ⟨(D i).e.2, by rw [← hm]⟩
        rw [he2]
        exact .left _ _ (hle.elim (fun e => e ▸ lt_one gx .un) fun e => (lt_one gx .un).trans e)
    | @done c u' v1 v2 m2 f t0 k w0 hu1 hu2 hsp hnw hgo =>
      cases hρ
      subst hw0
      obtain ⟨t', cs', rfl, tt, hmr⟩ := hs1.bareD
      cases hmr
      obtain ⟨u1, a1, a2⟩ := hu false v1 hu1
      obtain ⟨u2, b1, b2⟩ := hu true v2 hu2
      obtain ⟨qn, hqn⟩ := hgo t' Wg (R true) rw0.n (i - q + 1) u2 w' ⟨⟨_, _, g3⟩, by simpa [Has] using b2⟩
      refine h.stepE hq hi hrw hg hrun hsp hnw a1 b1 a2 (.r0 hqn) (fun e => by omega) (by omega) hwd.1 hwd.2 (fun s2 f2 hl => ?_) sl
      obtain ⟨e1, e2, e3, he2⟩ : ∃ e1 e2 e3, (D i).e = (e1, e2, e3) := ⟨_, _, _, rfl⟩
      rw [he2] at he ⊢
      exact .right _ (.left _ _ (by simp only at he; omega))
    | _ => cases hρ

/-- A step of one of the others. -/
theorem Cj.other (hP : OkP P S V) (h : Cj P L S V post N0 W0 μ gs w' t n q D Pv Rb Gs Wg R p0 st sm tag d0 σ r w a) {i : Nat} {g : Goroutine} (hg : gs[i + 1]? = some g) (hrun : g.status = .running) (sl : Option (Nat × Nat)) : OnJ P L S V post N0 W0 μ (runT P (crowd gs w' sl) (i + 1)) t := by
  have hin : i < n := by have := (Array.getElem?_eq_some_iff.1 hg).1; have := h.size; omega
  by_cases hq : i < q
  · exact h.stepQ hq hg hrun sl
  · have hq : q ≤ i := by omega
    obtain ⟨rw, g0, hrw, k2, k3, k4, k5, k6, sd⟩ := h.work i hq hin
    rw [hg] at k2
    cases k2
    generalize he : (D i).e = E at k4
    generalize hwd : (D i).wd = WD' at k4
    cases k4 with
    | @born b m qn _ f t0 t' k0 hl tt hr hJ =>
      cases hl with
      | refl =>
        have hs2 : Sit P S V (botD (dDone L Wg) .deferred (by decide) k0) [botF P] (D i).r (bare f t0) [] [] (D i).w (G ((baseK .deferred f).at ⟨t', dDone L Wg⟩ k0) ([] ++ [botF P])) w' := Sit.mkD (cs' := []) tt .nil k3
        exact h.runs_ hP hq hin hrw hg (hJ hs2.gl) hs2 (fun z v hz => by cases hz) (by rw [he]) (by rw [he]; simp) (by rw [hwd]; exact ⟨rfl, rfl⟩) hrun sl
      | @step n1 _ g1 _ hr1 hst hl =>
        refine h.stepL hq hin hrw hg (hst w') (e := (m, 9, n1)) (wd := ⟨7, 0, 0⟩) (.born hl tt (hl.running rfl) hJ) (by rw [hwd]) (by rw [hwd]) (by rw [he]; exact .right _ (.right _ (Nat.lt_succ_self _))) sl
    | runs hJ hs hu => exact h.runs_ hP hq hin hrw hg hJ hs hu (by rw [he]) (by rw [he]; simp) (by rw [hwd]; exact ⟨rfl, rfl⟩) hrun sl
    | ends h1 h2 h3 h4 h5 h6 h7 h8 =>
      refine h.stepE hq hin hrw hg hrun h1 h2 h3 h4 h5 h6 h7 h8 (by rw [hwd]) (by rw [hwd]) (fun s2 f2 hl => ?_) sl
      rw [he]
      rcases hl with hl | ⟨rfl, hl⟩
      · exact .right _ (.left _ _ hl)
      · exact .right _ (.right _ hl)
end
end Go.Proofs.Ytcobehkadhcjiaa

/-
  THE CREW beside sync.WaitGroup: a step of the first's.
-/
namespace Go.Proofs.Ytcobehkadhcjiaa
open Go Go.Conc Go.ConcN Go.Conc.Lib
open Go.ConcR (KK WgAt wgBlock stA smA Payload DC0 Bk)
variable [Shift] [Payload]

section
variable {P : Program} {L : WgLink} {S V : FuncId → Bool} {post : Value → World → Prop} {Wg : Nat} {R : Bool → Nat} {r r1 : BR} {w w' w1 w2 : World}
variable {N0 : Nat} {W0 : World} {μ : Mj} {gs : Array Goroutine} {t : Trace} {n q : Nat} {D : Nat → Dj} {Pv Rb : Nat → Nat → Prop} {Gs : Nat → Prop} {p0 : Nat} {st sm st' sm' : Int} {tag tag1 : CTag} {d0 d1 : Nat} {σ σ1 : Sj} {a : Goroutine}

/-- What the first may write is nobody else's. -/
theorem Cj.mine (h : Cj P L S V post N0 W0 μ gs w' t n q D Pv Rb Gs Wg R p0 st sm tag d0 σ r w a) {x b o : Nat} (hx : r x b) (hw : Wr w x o) :
    N0 ≤ b ∧ ¬ Gs b ∧ (∀ rw, σ.rows = some rw → ∀ z, b ≠ R z) ∧ ∀ j, q ≤ j → j < n → ∀ y, ¬ (D j).r y b := by
  have hc : w.heap[x]? ≠ some (.coro none) := fun e => by
    obtain ⟨c, ty, f, k, _⟩ := hw
    rw [e] at k
    cases k
  refine ⟨?_, fun hg => hc (h.hid x b hx (.inl hg)), fun rw hrw z e => hc (h.hid x b hx (.inr ⟨by rw [hrw]; simp, z, e⟩)), fun j h1 h2 y hy => ?_⟩
  · by_cases hb : N0 ≤ b
    · exact hb
    · exact absurd hw (h.hr.nwr hx (h.low x b hx (by omega)) o)
  · obtain ⟨rw, g, _, _, _, _, _, _, sd⟩ := h.work j h1 h2
    by_cases hs : y < (D j).s
    · rcases h.hr.inj hx (sd.old y b hy hs) with rfl | ⟨k, _⟩
      · exact sd.fro _ o hs hw
      · exact h.hr.nwr hx k o hw
    · exact (h.pv _ b (sd.priv y b hy (by omega))).2.2.2.2 x hx

/-- A step of the first's, as long as nobody is started and nothing is waited for. -/
theorem Cj.stepM (h : Cj P L S V post N0 W0 μ gs w' t n q D Pv Rb Gs Wg R p0 st sm tag d0 σ r w a) {a1 : Goroutine} {es : Array Event} {μ1 : Mt × Nat} {f1 : Nat} (hgo : stepG P true a w' = .go a1 w2 es)
    (hm : MAj P L S V post Wg r1 w1 w2 σ1 tag1 d1 μ1 f1 a1) (hσ : σ1.wg = σ.wg ∧ σ1.rows = σ.rows ∧ σ1.l = σ.l) (hr1 : HR0 S r1 w1 w2) (hext : ∀ x b, r x b → r1 x b)
    (hnew : ∀ x b, r1 x b → r x b ∨ (w'.heap.size ≤ b ∧ b < w2.heap.size ∧ w.heap.size ≤ x)) (hL : LF w w1)
    (hst : ∀ b, b < w'.heap.size → (∀ x o, r x b → ¬ Wr w x o) → (σ.wg = none ∨ b ≠ Wg) → w2.heap[b]? = w'.heap[b]?) (hsz : w'.heap.size ≤ w2.heap.size) (hos : w2.os = w'.os ∧ w2.output = w'.output)
    (hwg : ∀ b, σ.wg = some b → WgAt L.tWg Wg w2 st' sm' ∧ ConcN.Mode (n - q) (fun j => (D (q + j)).wd) tag1 st' sm')
    (hok : ∀ op ∈ MemOp.ofEvents 0 a.frame.fn a.frame.place es, (∀ y, op.act.touch? = some y → ((∃ ad, y.loc = .cell ad ∧ Gs ad.block) ∧ y.kind ≠ .plain) ∨
      (y.kind = .plain ∧ ∃ x b, r1 x b ∧ blkOf y.loc = some b ∧ (x < w.heap.size → w.heap[x]? ≠ some (.coro none) ∧ (y.write = true → ∃ o, Wr w x o)))) ∧ op.act ≠ .mark (.release (stA Wg)))
    (hdeaf : deafBehind d0 es = d1) (hneed : Ytcobehkadhcjiaa.need (Vc (n - q) fun j => (D (q + j)).wd) tag1 ≤ μ1.2) (hlt : Em.Lt μ1 μ.1 ∨ (μ1 = μ.1 ∧ f1 < μ.2.2)) (sl : Option (Nat × Nat)) : OnJ P L S V post N0 W0 μ (runT P (crowd gs w' sl) 0) t := by
  have his : 0 < gs.size := by have := h.size; omega
  have hrun := runT_crowd_go (P := P) (sl := sl) (i := 0) h.zero (by simpa using hgo)
  rw [h.mapped] at hrun
  have old : ∀ {x b}, r1 x b → b < w'.heap.size → r x b := fun hx hb => (hnew _ _ hx).resolve_right fun ⟨k, _⟩ => by omega
  have stR : ∀ rw, σ.rows = some rw → ∀ z, w2.heap[R z]? = w'.heap[R z]? := fun rw hrw z => by
    obtain ⟨rat, _⟩ := h.rows rw hrw
    obtain ⟨c, k, _⟩ := rat.row z
    refine hst _ (Array.getElem?_eq_some_iff.1 k).1 (fun x o hx hw => (h.mine hx hw).2.2.1 rw hrw z rfl) ?_
    cases hwn : σ.wg with
    | none => exact .inl rfl
    | some b => exact .inr fun e => rat.gs z (e ▸ (h.wg b hwn).2.1)
  have eff : ∀ rw, σ.rows = some rw → Eff L.tWg Wg R (fun b => ∃ x o, r x b ∧ Wr w x o) none w' w2 := fun rw hrw => by
    obtain ⟨bg, hbg⟩ := h.hasWg hrw
    refine ⟨fun b hb hX hg _ => hst b hb (fun x o hx hw => hX ⟨x, o, hx, hw⟩) (.inr hg), fun _ => ⟨_, _, (hwg bg hbg).1⟩, fun z c y f hc => ⟨c, by rw [stR rw hrw]; exact hc, rfl, fun _ _ => rfl⟩, hsz, hos.1, hos.2⟩
  have opg : ∀ op ∈ MemOp.ofEvents 0 a.frame.fn a.frame.place es, op.g = 0 := fun op hop => Go.ConcR.g_of_ofEvents op hop
  have rowsk : ∀ k, q < k → k ≤ n → ∃ rw, σ.rows = some rw := fun k h1 h2 => by
    obtain ⟨rw, _, hrw, _⟩ := h.work (k - 1) (by omega) (by omega)
    exact ⟨rw, hrw⟩
  -- a plain touch
  have plainy : ∀ {x b : Nat} {wr : Bool}, r1 x b → (x < w.heap.size → w.heap[x]? ≠ some (.coro none) ∧ (wr = true → ∃ o, Wr w x o)) → ¬ Gs b ∧ (∀ k, ¬ Pv k b) ∧ (∀ rw, σ.rows = some rw → ∀ z, b ≠ R z) ∧ (wr = true → ∀ k, ¬ Rb k b) := fun {x b wr} hx hc => by
    rcases hnew x b hx with k | ⟨k1, k2, k3⟩
    · obtain ⟨c1, c2⟩ := hc (h.hr.lt k).1
      refine ⟨fun hg => c1 (h.hid x b k (.inl hg)), fun k' hp => (h.pv k' b hp).2.2.2.2 x k, fun rw hrw z e => c1 (h.hid x b k (.inr ⟨by rw [hrw]; simp, z, e⟩)), fun hw k' hrb => ?_⟩
      obtain ⟨o, ho⟩ := c2 hw
      obtain ⟨⟨q1, q2⟩, ⟨y, hy, hry⟩, _⟩ := h.rb k' b hrb
      obtain ⟨rw, g, _, _, _, _, _, _, sd⟩ := h.work (k' - 1) (by omega) (by omega)
      rcases h.hr.inj k hry with rfl | ⟨k5, _⟩
      · exact sd.fro _ o hy ho
      · exact h.hr.nwr k k5 o ho
    · refine ⟨fun hg => by have := (h.gsN b hg).2; omega, fun k' hp => by have := (h.pv k' b hp).2.1.2; omega, fun rw hrw z e => ?_, fun _ k' hrb => ?_⟩
      · obtain ⟨c, l, _⟩ := (h.rows rw hrw).1.row z
        have := (Array.getElem?_eq_some_iff.1 l).1
        omega
      · obtain ⟨_, ⟨y, _, hry⟩, _⟩ := h.rb k' b hrb
        have := (h.hr.lt hry).2
        omega
  have hct : CT (ShG Gs) (OwnF Pv q n R) (RdF Rb) (t ++ MemOp.ofEvents 0 a.frame.fn a.frame.place es) n := by
    refine h.jt.ct.app0 h.apart fun op hop => ⟨opg op hop, fun y hy => ?_⟩
    rcases (hok op hop).1 y hy with ⟨k1, k2⟩ | ⟨k1, x, b, k2, k3, k4⟩
    · exact .inl ⟨k1, k2⟩
    · obtain ⟨l1, l2, l3, l4⟩ := plainy (wr := y.write) k2 k4
      refine .inr ⟨fun ⟨ad, e, hg⟩ => ?_, fun k h1 h2 ho => ?_, fun hw k h1 h2 ⟨b', hb', hrb⟩ => ?_⟩
      · rw [e] at k3
        simp only [blkOf, Option.some.injEq] at k3
        subst k3
        exact l1 hg
      · rcases ho with ⟨b', hb', hp⟩ | ⟨q1, q2, z, e⟩
        · rw [k3] at hb'
          obtain rfl := Option.some.inj hb'
          exact l2 k hp
        · obtain ⟨rw, hrw⟩ := rowsk k q1 q2
          rw [e] at k3
          simp only [blkOf, Option.some.injEq] at k3
          exact l3 rw hrw z k3.symm
      · rw [k3] at hb'
        obtain rfl := Option.some.inj hb'
        exact l4 hw k hrb
  have njt : JT Gs (OwnF Pv q n R) (RdF Rb) (t ++ MemOp.ofEvents 0 a.frame.fn a.frame.place es) q n w2.heap.size := by
    refine h.jt.app hsz hct (fun _ k => k) (fun op hop y hy b hb => ?_) (fun op hop y hy hns => ?_) (fun op hop => .inl (opg op hop))
    · rcases (hok op hop).1 y hy with ⟨⟨ad, k1, k2⟩, _⟩ | ⟨_, x, b', k2, k3, _⟩
      · rw [k1] at hb
        simp only [blkOf, Option.some.injEq] at hb
        have := (h.gsN _ k2).2
        omega
      · rw [k3] at hb
        obtain rfl := Option.some.inj hb
        exact (hr1.lt k2).2
    · rcases (hok op hop).1 y hy with ⟨k1, _⟩ | ⟨k0, x, b', k2, k3, _⟩
      · exact absurd k1 hns
      · refine ⟨k0, ?_⟩
        generalize y.loc = l at k3
        cases l <;> first | rfl | cases k3
  refine ⟨_, _, _, (μ1, μ.2.1, f1), n, q, D, Pv, Rb, Gs, Wg, R, p0, st', sm', tag1, d1, σ1, r1, w1, a1, _, hrun, ?_, {
    size := (by simp [h.size]), list := (by rw [hσ.2.2]; exact h.list), zero := get_set_eq _ (by simp; omega), main := hm, hr := hr1, gone := fun j hj => ?gone, work := fun j h1 h2 => ?work,
    wg := fun b hb => ?wg, nowg := fun e => (by rw [hσ.2.1]; exact h.nowg (by rw [← hσ.1]; exact e)), norows := fun e => (by rw [hσ.2.2]; exact h.norows (by rw [← hσ.2.1]; exact e)), rows := fun rw' hrw' => ?rows, hid := fun x b hx hh => ?hid,
    gsN := fun b hb => ⟨(h.gsN b hb).1, Nat.lt_of_lt_of_le (h.gsN b hb).2 hsz⟩, pv := fun k b hb => ?pv, pvp := h.pvp, rb := fun k b hb => ?rb,
    base := fun b hb => ?base, low := fun x b hx hb => ?low, n0 := Nat.le_trans h.n0 hsz, os := hos.1.trans h.os, output := hos.2.trans h.output, jt := njt, deaf0 := (by rw [Deaf_own, h.deaf0]; exact hdeaf), deafW := fun j hj => (by rw [Deaf_other t (g' := 0) (by omega) _ opg]; exact h.deafW j hj),
    rel := fun j h1 h2 hs => ?rel, nrel := fun j hj => ?nrel, p0le := (by have := h.p0le; simp; omega), need := hneed, mu := h.mu }⟩
  · obtain ⟨m0, l0, f0⟩ := μ
    rcases hlt with hlt | ⟨rfl, hlt⟩
    · exact .left _ _ hlt
    · exact .right _ (.right _ hlt)
  case gone =>
    obtain ⟨g2, k1, k2⟩ := h.gone j hj
    exact ⟨g2, by rw [get_set_ne _ (by omega), get_set_ne _ (by omega)]; exact k1, k2⟩
  case work =>
    obtain ⟨rw0, g0, k1, k2, k3, k4, k5, k6, sd⟩ := h.work j h1 h2
    have hrj : HR0 S (D j).r (D j).w w2 := h.wkeep k1 (eff rw0 k1) h1 h2 fun y b hy ⟨x, o, hx, hw⟩ => (h.mine hx hw).2.2.2 j h1 h2 y hy
    have hne : (none : Option Nat) ≠ some (j - q) := by simp
    refine ⟨rw0, g0, by rw [hσ.2.1]; exact k1, by rw [get_set_ne _ (by omega), get_set_ne _ (by omega)]; exact k2, hrj, k4.else_ hrj (fun z => (eff rw0 k1).cell (h.rowsOk k1 z) hne) ((eff rw0 k1).rw_ (h.rowsOk k1 true) hne), by rw [hσ.2.2]; exact k5, k6, ?_⟩
    exact { sn := sd.sn, sle := sd.sle, slem := Nat.le_trans sd.slem hL.size, old := fun x b hx hs => hext _ _ (sd.old x b hx hs), fro := fun x o hs hw => sd.fro x o hs (hL.wr (Nat.lt_of_lt_of_le hs sd.slem) hw), wfro := sd.wfro, priv := sd.priv, rd := sd.rd, hid := sd.hid, wrow := sd.wrow }
  case wg =>
    rw [hσ.1] at hb
    obtain ⟨k1, k2, _, _⟩ := h.wg b hb
    obtain ⟨k3, k4⟩ := hwg b hb
    exact ⟨hext _ _ k1, k2, k3, k4⟩
  case rows =>
    rw [hσ.2.1] at hrw'
    obtain ⟨k1, k2⟩ := h.rows rw' hrw'
    refine ⟨{ rel := fun z => hext _ _ (k1.rel z), n0 := k1.n0, gs := k1.gs, row := fun z => ?_, ne := k1.ne, pos := k1.pos, few := k1.few, ety := k1.ety, low := k1.low }, by rw [hσ.2.2]; exact k2⟩
    rw [stR rw' hrw']
    exact k1.row z
  case hid =>
    rw [hσ.2.1] at hh
    have hb : b < w'.heap.size := by
      rcases hh with hh | ⟨hne, z, rfl⟩
      · exact (h.gsN b hh).2
      · obtain ⟨rw, hrw⟩ := Option.ne_none_iff_exists'.1 hne
        obtain ⟨c, l, _⟩ := (h.rows rw hrw).1.row z
        exact (Array.getElem?_eq_some_iff.1 l).1
    exact hL.non x _ (h.hid x b (old hx hb) hh) (by simp)
  case pv =>
    obtain ⟨k1, k2, k3, k4, k5⟩ := h.pv k b hb
    exact ⟨k1, ⟨k2.1, by omega⟩, k3, k4, fun x hx => k5 x (old hx k2.2)⟩
  case rb =>
    obtain ⟨k1, ⟨y, k2, k3⟩, k4⟩ := h.rb k b hb
    exact ⟨k1, ⟨y, k2, hext _ _ k3⟩, k4⟩
  case base =>
    rw [hst b (Nat.lt_of_lt_of_le hb h.n0) (fun x o hx hw => by have := (h.mine hx hw).1; omega) ?_]
    · exact h.base b hb
    · cases hwn : σ.wg with
      | none => exact .inl rfl
      | some bg => exact .inr fun e => by have := (h.gsN Wg (h.wg bg hwn).2.1).1; omega
  case low =>
    exact h.low x b (old hx (Nat.lt_of_lt_of_le hb h.n0)) hb
  case rel =>
    obtain ⟨p, hp0, hp⟩ := h.rel j h1 h2 hs
    exact ⟨p, hp0, hp.appOther opg (by omega)⟩
  case nrel =>
    intro e
    obtain ⟨op, ho, hoa⟩ := Option.map_eq_some_iff.1 (show ((t ++ MemOp.ofEvents 0 a.frame.fn a.frame.place es)[j]?).map (·.act) = _ from e)
    rcases getElem?_append_cases ho with ⟨_, ho'⟩ | ⟨_, hou⟩
    · exact h.nrel j hj (by rw [act?_of ho', hoa])
    · exact (hok op hou).2 hoa
end
end Go.Proofs.Ytcobehkadhcjiaa

/-
  THE CREW beside sync.WaitGroup: the first within Add and within Wait.
-/
namespace Go.Proofs.Ytcobehkadhcjiaa
open Go Go.Conc Go.ConcN Go.Conc.Lib
open Go.ConcR (KK WgAt wgBlock stA smA Payload DC0 Bk rd wr mk)
variable [Shift] [Payload]

section
variable {P : Program} {L : WgLink} {S V : FuncId → Bool} {post : Value → World → Prop} {Wg : Nat} {R : Bool → Nat} {r r1 : BR} {w w' w1 w2 : World}
variable {N0 : Nat} {W0 : World} {μ : Mj} {gs : Array Goroutine} {t : Trace} {n q : Nat} {D : Nat → Dj} {Pv Rb : Nat → Nat → Prop} {Gs : Nat → Prop} {p0 : Nat} {st sm st' sm' : Int} {tag tag1 : CTag} {d0 d1 : Nat} {σ σ1 : Sj} {a : Goroutine}

/-- A step at which the group's block alone turns. -/
theorem Cj.stepA (h : Cj P L S V post N0 W0 μ gs w' t n q D Pv Rb Gs Wg R p0 st sm tag d0 σ r w a) {a1 : Goroutine} {es : Array Event} {μ1 : Mt × Nat} {f1 : Nat} {bg : Nat} (hbg : σ.wg = some bg) (hgo : stepG P true a w' = .go a1 w2 es) (hAs : Aside Wg w' w2)
    (hwg : WgAt L.tWg Wg w2 st' sm') (hmd : ConcN.Mode (n - q) (fun j => (D (q + j)).wd) tag1 st' sm') (hm : MAj P L S V post Wg r w w2 σ1 tag1 d1 μ1 f1 a1) (hσ : σ1.wg = σ.wg ∧ σ1.rows = σ.rows ∧ σ1.l = σ.l)
    (hev : ∀ e ∈ es, (∀ y, (MemAct.ofEvent e).touch? = some y → (∃ ad, y.loc = .cell ad ∧ ad.block = Wg) ∧ y.kind ≠ .plain) ∧ e.loc ≠ .mark (.release (stA Wg)))
    (hdeaf : deafBehind d0 es = d1) (hneed : Ytcobehkadhcjiaa.need (Vc (n - q) fun j => (D (q + j)).wd) tag1 ≤ μ1.2) (hlt : Em.Lt μ1 μ.1 ∨ (μ1 = μ.1 ∧ f1 < μ.2.2)) (sl : Option (Nat × Nat)) : OnJ P L S V post N0 W0 μ (runT P (crowd gs w' sl) 0) t := by
  obtain ⟨g1, g2, g3, g4⟩ := h.wg bg hbg
  have hr2 : HR0 S r w w2 := h.hr.keep fun x b hx => by
    by_cases e : b = Wg
    · subst e
      exact .inr ⟨h.hid x b hx (.inl g2), _, _, _, hwg, by simp, fun o hf => by simp [Fz] at hf⟩
    · exact .inl (hAs.block b e)
  refine h.stepM hgo hm hσ hr2 (fun _ _ k => k) (fun _ _ k => .inl k) (LF.refl _) (fun b _ _ hb => hAs.block b (hb.resolve_left (by rw [hbg]; simp))) (Nat.le_of_eq hAs.size.symm) ⟨hAs.os, hAs.output⟩ (fun _ _ => ⟨hwg, hmd⟩) (fun op hop => ?_) hdeaf hneed hlt sl
  obtain ⟨e, he, rfl⟩ := Go.Conc.mem_ofEvents hop
  obtain ⟨j1, j2⟩ := hev e he
  refine ⟨fun y hy => .inl ?_, fun ex => j2 (Go.ConcR.loc_of_ofEvent ex)⟩
  obtain ⟨⟨ad, k1, k2⟩, k3⟩ := j1 y hy
  exact ⟨⟨ad, k1, by rw [k2]; exact g2⟩, k3⟩

omit [Shift] [Payload] in
theorem bk_ev {es : Array Event} (h : ∀ e ∈ es, Bk Wg e) : ∀ e ∈ es, (∀ y, (MemAct.ofEvent e).touch? = some y → (∃ ad, y.loc = .cell ad ∧ ad.block = Wg) ∧ y.kind ≠ .plain) ∧ e.loc ≠ .mark (.release (stA Wg)) := fun e he =>
  ⟨fun y hy => ⟨((bk_touch h e he).1 y hy).1, ((bk_touch h e he).1 y hy).2.1⟩, (bk_touch h e he).2⟩
omit [Shift] [Payload] in
theorem said_ev (m : Mark) (hm : m = .read (smA Wg) ∨ m = .write (smA Wg) ∨ m = .acquire (stA Wg)) : ∀ e ∈ #[mk m], (∀ y, (MemAct.ofEvent e).touch? = some y → (∃ ad, y.loc = .cell ad ∧ ad.block = Wg) ∧ y.kind ≠ .plain) ∧ e.loc ≠ .mark (.release (stA Wg)) := fun e he => by
  simp at he
  subst he
  refine ⟨fun y hy => ?_, ?_⟩
  · rw [Go.ConcR.ofEvent_mk] at hy
    rcases hm with rfl | rfl | rfl
    · cases hy; exact ⟨⟨_, rfl, rfl⟩, by simp⟩
    · cases hy; exact ⟨⟨_, rfl, rfl⟩, by simp⟩
    · cases hy
  · rcases hm with rfl | rfl | rfl <;> simp [Go.ConcR.mk]
omit [Shift] [Payload] in
theorem bk1 (e : Event) (h : e = mk .disable ∨ e = mk .enable ∨ ∃ ad wr, e = ⟨.cell ad, wr, true⟩ ∧ ad.block = Wg) : ∀ x ∈ #[e], Bk Wg x := fun x hx => by
  simp at hx
  subst hx
  rcases h with rfl | rfl | h
  · exact .inl rfl
  · exact .inr (.inl rfl)
  · exact .inr (.inr h)

/-- An idle step. -/
theorem Cj.stepI (h : Cj P L S V post N0 W0 μ gs w' t n q D Pv Rb Gs Wg R p0 st sm tag d0 σ r w a) {a1 : Goroutine} {f1 : Nat} (hgo : stepG P true a w' = .go a1 w' #[]) (hm : MAj P L S V post Wg r w w' σ tag d0 μ.1 f1 a1) (hf : f1 < μ.2.2) (sl : Option (Nat × Nat)) : OnJ P L S V post N0 W0 μ (runT P (crowd gs w' sl) 0) t := by
  have e0 : MemOp.ofEvents 0 a.frame.fn a.frame.place #[] = #[] := ops_nil _ _ _
  exact h.stepM hgo hm ⟨rfl, rfl, rfl⟩ h.hr (fun _ _ k => k) (fun _ _ k => .inl k) (LF.refl _) (fun _ _ _ _ => rfl) (Nat.le_refl _) ⟨rfl, rfl⟩ (fun b hb => ⟨(h.wg b hb).2.2.1, (h.wg b hb).2.2.2⟩) (fun op hop => by rw [e0] at hop; simp at hop) rfl h.need (.inr ⟨rfl, hf⟩) sl

/-- Within Add. -/
theorem Cj.adds (h : Cj P L S V post N0 W0 μ gs w' t n q D Pv Rb Gs Wg R p0 st sm tag d0 σ r w a) {wg : Nat} {rows : Option Rw} {l : List Spec} {m : Mt} {s rk f : Nat} {B : Goroutine} (hσ : σ = ⟨some wg, true, rows, l⟩) (htag : tag = .sp 0 s) (hA : AddSt P L Wg B s d0 rk f a w') (hl : l.length < 1000000)
    (hB : ∀ w2', Back P L S V post ⟨some wg, true, rows, l⟩ m r w B w2') (hμ : μ.1 = (m, rk)) (hf : μ.2.2 = f) (sl : Option (Nat × Nat)) : OnJ P L S V post N0 W0 μ (runT P (crowd gs w' sl) 0) t := by
  subst hσ htag
  obtain ⟨g1, g2, g3, g4⟩ := h.wg wg rfl
  have hn1 : n - q < 1000000 := by have := h.list; simp only at this; omega
  have hVn := Vc_le (n - q) (fun j => (D (q + j)).wd)
  have lt : ∀ {k}, k < rk → Em.Lt (m, k) μ.1 := fun hk => by rw [hμ]; exact .right _ hk
  cases hA with
  | kd hG =>
    rcases Goes.cases hG with hstop | ⟨m', rfl, hstep⟩
    · obtain ⟨_, g', hgo, m2, hk⟩ := hstop w' (rl_refl _ _)
      exact h.stepA (hbg := rfl) hgo (.refl Wg w') g3 (g4.reopen (tag' := .sp 0 4) trivial trivial rfl (by simp)) (.adds (.a1 hk) hl hB) ⟨rfl, rfl, rfl⟩ (bk_ev (bk1 _ (.inl rfl))) rfl (by simp [Ytcobehkadhcjiaa.need]) (.inl (lt (by omega))) sl
    · obtain ⟨g', w2, es, hgo, ⟨rfl, rfl⟩, hg'⟩ := hstep w' (rl_refl _ _)
      exact h.stepI hgo (by rw [hμ]; exact .adds (.kd hg') hl hB) (by omega) sl
  | a1 hG =>
    rcases Goes.cases hG with hstop | ⟨m', rfl, hstep⟩
    · obtain ⟨_, hall⟩ := hstop w' (rl_refl _ _)
      obtain ⟨o1, o2, rfl, _⟩ := g4.open_inv trivial
      subst o2
      simp only [pend] at g3
      simp only [show ¬ (4 : Nat) ≤ 3 by omega, if_false, Nat.add_zero] at g3
      obtain ⟨g', hgo, m2, hk⟩ := hall _ (by omega) g3
      have hmd : ConcN.Mode (n - q) (fun j => (D (q + j)).wd) (.sp 0 3) ((((Vc (n - q) fun j => (D (q + j)).wd : Nat) : Int) + 1) * KK) 0 := by
        have := ConcN.Mode.opn (j := n - q) (D := fun j => (D (q + j)).wd) (tag := .sp 0 3) trivial o1 (by simp)
        simpa [pend] using this
      by_cases hv : (Vc (n - q) fun j => (D (q + j)).wd) = 0
      · rw [if_pos hv] at hk
        exact h.stepA (hbg := rfl) hgo (aside_setCell w' (stA Wg) _) (g3.setSt _) hmd (.adds (.rd hk) hl hB) ⟨rfl, rfl, rfl⟩ (bk_ev (by intro e he; simp at he; rcases he with rfl | rfl <;> exact bk_cell _ _ rfl)) (by simp [deafBehind, rd, wr]) (by simp [Ytcobehkadhcjiaa.need]) (.inl (lt (by omega))) sl
      · rw [if_neg hv] at hk
        exact h.stepA (hbg := rfl) hgo (aside_setCell w' (stA Wg) _) (g3.setSt _) hmd (.adds (.ke hk) hl hB) ⟨rfl, rfl, rfl⟩ (bk_ev (by intro e he; simp at he; rcases he with rfl | rfl <;> exact bk_cell _ _ rfl)) (by simp [deafBehind, rd, wr]) (by simp [Ytcobehkadhcjiaa.need]) (.inl (lt (by omega))) sl
    · obtain ⟨g', w2, es, hgo, ⟨rfl, rfl⟩, hg'⟩ := hstep w' (rl_refl _ _)
      exact h.stepI hgo (by rw [hμ]; exact .adds (.a1 hg') hl hB) (by omega) sl
  | rd hG =>
    rcases Goes.cases hG with hstop | ⟨m', rfl, hstep⟩
    · obtain ⟨_, g', hgo, m2, hk⟩ := hstop w' (rl_refl _ _)
      exact h.stepA (hbg := rfl) hgo (.refl Wg w') g3 g4 (.adds (.ke hk) hl hB) ⟨rfl, rfl, rfl⟩ (said_ev _ (.inl rfl)) rfl (by simp [Ytcobehkadhcjiaa.need]) (.inl (lt (by omega))) sl
    · obtain ⟨g', w2, es, hgo, ⟨rfl, rfl⟩, hg'⟩ := hstep w' (rl_refl _ _)
      exact h.stepI hgo (by rw [hμ]; exact .adds (.rd hg') hl hB) (by omega) sl
  | ke hG =>
    rcases Goes.cases hG with hstop | ⟨m', rfl, hstep⟩
    · obtain ⟨_, g', hgo, m2, hk⟩ := hstop w' (rl_refl _ _)
      exact h.stepA (hbg := rfl) hgo (.refl Wg w') g3 (g4.reopen (tag' := .sp 0 2) trivial trivial rfl (by simp)) (.backs (σ := ⟨some wg, true, rows, l⟩) hk hB) ⟨rfl, rfl, rfl⟩ (bk_ev (bk1 _ (.inr (.inl rfl)))) rfl (by simp [Ytcobehkadhcjiaa.need]) (.inl (lt (by omega))) sl
    · obtain ⟨g', w2, es, hgo, ⟨rfl, rfl⟩, hg'⟩ := hstep w' (rl_refl _ _)
      exact h.stepI hgo (by rw [hμ]; exact .adds (.ke hg') hl hB) (by omega) sl
end
end Go.Proofs.Ytcobehkadhcjiaa

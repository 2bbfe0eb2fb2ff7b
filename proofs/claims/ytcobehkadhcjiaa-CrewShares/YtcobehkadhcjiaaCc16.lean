/-
  Goroutines among others: part 16 of what the law's own text rests on.
-/
import Derived.Test.YtcobehkadhcjiaaCc15
/-
  THE CREW beside sync.WaitGroup: what stays while another takes a step.
-/
namespace Go.Proofs.Ytcobehkadhcjiaa
open Go Go.Conc Go.ConcN Go.Conc.Lib
open Go.ConcR (KK WgAt wgBlock stA smA Payload DC0)
variable [Shift] [Payload]

/-- What a step leaves of the world: but for X, the group, and one place of each row. -/
structure Eff (ty : TypeId) (Wg : Nat) (R : Bool → Nat) (X : Nat → Prop) (o : Option Nat) (w' w2 : World) : Prop where
  stays : ∀ b, b < w'.heap.size → ¬ X b → b ≠ Wg → (∀ z, b ≠ R z) → w2.heap[b]? = w'.heap[b]?
  live : WgLive ty Wg w' → WgLive ty Wg w2
  row : ∀ z c y f, w'.heap[R z]? = some (.cells c y f) → ∃ c2, w2.heap[R z]? = some (.cells c2 y f) ∧ c2.size = c.size ∧ ∀ j, o ≠ some j → c2[j]? = c[j]?
  size : w'.heap.size ≤ w2.heap.size
  os : w2.os = w'.os
  output : w2.output = w'.output

omit [Payload] in
theorem HR0.eff {S : FuncId → Bool} {r : BR} {w w' w2 : World} {ty : TypeId} {Wg : Nat} {R : Bool → Nat} {X : Nat → Prop} {o : Option Nat} (h : HR0 S r w w') (he : Eff ty Wg R X o w' w2) (hx : ∀ a b, r a b → ¬ X b)
    (hh : ∀ a b, r a b → (b = Wg ∨ ∃ z, b = R z) → w.heap[a]? = some (.coro none)) (hwg : WgLive ty Wg w') (hrow : ∀ z, ∃ c y, w'.heap[R z]? = some (.cells c y (0, 0)) ∧ 0 < c.size) : HR0 S r w w2 := by
  refine h.keep fun a b hab => ?_
  have hb := (h.lt hab).2
  by_cases e1 : b = Wg
  · refine .inr ⟨hh a b hab (.inl e1), ?_⟩
    obtain ⟨st, sm, hl⟩ := he.live hwg
    subst e1
    exact ⟨_, _, _, hl, by simp, fun o hf => by simp [Fz] at hf⟩
  · by_cases e2 : ∃ z, b = R z
    · refine .inr ⟨hh a b hab (.inr e2), ?_⟩
      obtain ⟨z, rfl⟩ := e2
      obtain ⟨c, y, k1, k2⟩ := hrow z
      obtain ⟨c2, k3, k4, _⟩ := he.row z c y _ k1
      exact ⟨c2, y, _, k3, by omega, fun o hf => by simp [Fz] at hf⟩
    · exact .inl (he.stays b hb (hx a b hab) e1 fun z e => e2 ⟨z, e⟩)

omit [Shift] [Payload] in
theorem Eff.cell {ty : TypeId} {Wg : Nat} {R : Bool → Nat} {X : Nat → Prop} {o : Option Nat} {w' w2 : World} (he : Eff ty Wg R X o w' w2) {z : Bool} (hrow : ∃ c y, w'.heap[R z]? = some (.cells c y (0, 0)) ∧ 0 < c.size) {j : Nat} (hj : o ≠ some j) :
    w2.cell? ⟨R z, j, none⟩ = w'.cell? ⟨R z, j, none⟩ := by
  obtain ⟨c, y, k1, _⟩ := hrow
  obtain ⟨c2, k3, _, k5⟩ := he.row z c y _ k1
  simp [World.cell?, k1, k3, k5 j hj]
omit [Shift] in
theorem Eff.rw_ {ty : TypeId} {Wg : Nat} {R : Bool → Nat} {X : Nat → Prop} {o : Option Nat} {w' w2 : World} (he : Eff ty Wg R X o w' w2) (hrow : ∃ c y, w'.heap[R true]? = some (.cells c y (0, 0)) ∧ 0 < c.size) {j n : Nat} (hj : o ≠ some j) :
    RW ty Wg (R true) n 0 j w' w2 := by
  refine ⟨fun b hb => absurd hb (Nat.not_lt_zero b), he.live, fun ⟨cs, h1, h2⟩ => ?_, he.cell hrow hj⟩
  obtain ⟨c2, k3, k4, _⟩ := he.row true cs _ _ h1
  exact ⟨c2, k3, by omega⟩

section
variable {P : Program} {L : WgLink} {S V : FuncId → Bool} {post : Value → World → Prop} {Wg : Nat} {R : Bool → Nat} {r : BR} {w w' w2 : World}
theorem WAj.else_ {c : Wc} {e : Ej} {wd : WD} {g : Goroutine} (h : WAj P L S V Wg R c r w w' e wd g) (hr : HR0 S r w w2) (hrow : ∀ z, w2.cell? ⟨R z, c.i, none⟩ = w'.cell? ⟨R z, c.i, none⟩) (hrw : RW L.tWg Wg (R true) c.rw.n 0 c.i w' w2) : WAj P L S V Wg R c r w w2 e wd g := by
  cases h with
  | born h1 h2 h3 h4 => exact .born h1 h2 h3 h4
  | runs h1 h2 h3 => exact .runs h1 (h2.else_ hr) fun z v hv => (by rw [hrow]; exact h3 z v hv)
  | ends h1 h2 h3 h4 h5 h6 h7 h8 => exact .ends h1 h2 h3 h4 (by rw [hrow]; exact h5) (h6.rely (by simpa using hrw)) (fun hs => by rw [hrow]; exact h7 hs) h8
theorem WAj.status {c : Wc} {e : Ej} {wd : WD} {g : Goroutine} (h : WAj P L S V Wg R c r w w' e wd g) : g.status = .running ∨ g.status = .finished := by
  cases h with
  | born _ _ h3 _ => exact .inl h3
  | runs _ h2 _ => exact .inl h2.running
  | ends _ _ _ _ _ h6 _ _ => exact h6.status
omit [Shift] [Payload] in
theorem rl_refl (ty : TypeId) (w : World) : RL ty Wg w w := id
omit [Shift] [Payload] in
theorem rl_trans {ty : TypeId} : ∀ a b c, RL ty Wg a b → RL ty Wg b c → RL ty Wg a c := fun _ _ _ h k x => k (h x)
omit [Shift] [Payload] in
theorem AddSt.rely {B : Goroutine} {s d rk f : Nat} {a : Goroutine} (h : AddSt P L Wg B s d rk f a w') (hl : RL L.tWg Wg w' w2) : AddSt P L Wg B s d rk f a w2 := by
  cases h with
  | kd h => exact .kd (Goes.rely rl_trans h hl)
  | a1 h => exact .a1 (Goes.rely rl_trans h hl)
  | rd h => exact .rd (Goes.rely rl_trans h hl)
  | ke h => exact .ke (Goes.rely rl_trans h hl)
omit [Shift] [Payload] in
theorem WaitSt.rely {B : Goroutine} {c : Frame} {cs : List Frame} {tag : CTag} {d rk f : Nat} {a : Goroutine} (h : WaitSt P L Wg B c cs tag d rk f a w') (hl : RL L.tWg Wg w' w2) : WaitSt P L Wg B c cs tag d rk f a w2 := by
  cases h with
  | kd h => exact .kd (Goes.rely rl_trans h hl)
  | anch h => exact .anch (Goes.rely rl_trans h hl)
  | w1 h => exact .w1 (Goes.rely rl_trans h hl)
  | w2 h => exact .w2 (Goes.rely rl_trans h hl)
  | wr h => exact .wr (Goes.rely rl_trans h hl)
  | w3 h => exact .w3 (Goes.rely rl_trans h hl)
  | blk h => exact .blk fun w3 h3 => h w3 (rl_trans _ _ _ hl h3)
  | w4 h => exact .w4 (Goes.rely rl_trans h hl)
  | ke h => exact .ke (Goes.rely rl_trans h hl)
  | acq h => exact .acq (Goes.rely rl_trans h hl)
theorem MAj.rely {σ : Sj} {tag : CTag} {d f : Nat} {μ : Mt × Nat} {a : Goroutine} (h : MAj P L S V post Wg r w w' σ tag d μ f a) (hr : HR0 S r w w2) (hl : RL L.tWg Wg w' w2) : MAj P L S V post Wg r w w2 σ tag d μ f a := by
  cases h with
  | runs h1 h2 => exact .runs h1 (h2.else_ hr)
  | mid h1 h2 h3 h4 h5 h6 h7 h8 h9 h10 h11 h12 h13 h14 h15 => exact .mid h1 h2 h3 h4 h5 h6 h7 h8 h9 h10 h11 h12 h13 h14 h15
  | adds h1 h2 h3 => exact .adds (h1.rely hl) h2 h3
  | waits h1 h0 h2 h3 h4 => exact .waits (h1.rely hl) h0 h2 h3 h4
  | backs h1 h2 => exact .backs (Goes.rely rl_trans h1 hl) h2
omit [Shift] [Payload] in
theorem AddSt.running {B : Goroutine} {s d rk f : Nat} {a : Goroutine} (h : AddSt P L Wg B s d rk f a w') : a.status = .running := by
  cases h with
  | kd h => exact Goes.running (fun _ _ x => x.1) w' (rl_refl _ _) h
  | a1 h => exact Goes.running (fun _ _ x => x.1) w' (rl_refl _ _) h
  | rd h => exact Goes.running (fun _ _ x => x.1) w' (rl_refl _ _) h
  | ke h => exact Goes.running (fun _ _ x => x.1) w' (rl_refl _ _) h
omit [Shift] [Payload] in
theorem WaitSt.status {B : Goroutine} {c : Frame} {cs : List Frame} {tag : CTag} {d rk f : Nat} {a : Goroutine} (h : WaitSt P L Wg B c cs tag d rk f a w') : (a.status = .running ∧ tag ≠ .blk) ∨ (a.status = .blocked ∧ tag = .blk) := by
  cases h with
  | kd h => exact .inl ⟨Goes.running (fun _ _ x => x.1) w' (rl_refl _ _) h, by simp⟩
  | anch h => exact .inl ⟨Goes.running (fun g w x => by obtain ⟨T, rfl, _⟩ := x; rfl) w' (rl_refl _ _) h, by simp⟩
  | w1 h => exact .inl ⟨Goes.running (fun _ _ x => x.1) w' (rl_refl _ _) h, by simp⟩
  | w2 h => exact .inl ⟨Goes.running (fun _ _ x => x.1) w' (rl_refl _ _) h, by simp⟩
  | wr h => exact .inl ⟨Goes.running (fun _ _ x => x.1) w' (rl_refl _ _) h, by simp⟩
  | w3 h => exact .inl ⟨Goes.running (fun _ _ x => x.1) w' (rl_refl _ _) h, by simp⟩
  | blk h => exact .inr ⟨rfl, rfl⟩
  | w4 h => exact .inl ⟨Goes.running (fun _ _ x => x.1) w' (rl_refl _ _) h, by simp⟩
  | ke h => exact .inl ⟨Goes.running (fun _ _ x => x.1) w' (rl_refl _ _) h, by simp⟩
  | acq h => exact .inl ⟨Goes.running (fun _ _ x => x.1) w' (rl_refl _ _) h, by simp⟩
/-- It runs, or it waits where the group's semaphore is. -/
theorem MAj.status {σ : Sj} {tag : CTag} {d f : Nat} {μ : Mt × Nat} {a : Goroutine} (hr : HR0 S r w w') (h : MAj P L S V post Wg r w w' σ tag d μ f a) : (a.status = .running ∧ tag ≠ .blk) ∨ (a.status = .blocked ∧ tag = .blk) := by
  cases h with
  | runs _ h2 => exact .inl ⟨h2.running, by simp⟩
  | mid => exact .inl ⟨rfl, by simp⟩
  | adds h1 _ _ => exact .inl ⟨h1.running, by simp⟩
  | waits h1 _ _ _ _ => exact h1.status
  | backs h1 h2 =>
    refine .inl ⟨?_, by simp⟩
    obtain ⟨b, m1, fr, ct, k, cs, _, _, hs⟩ := h2 w' hr
    exact Goes.running (fun g w x => by rw [show g = _ from x]; exact hs.running) w' (rl_refl _ _) h1
/-- Another has taken a step. -/
theorem MAj.woken {σ : Sj} {tag : CTag} {d f : Nat} {μ : Mt × Nat} {a : Goroutine} (hr : HR0 S r w w') (h : MAj P L S V post Wg r w w' σ tag d μ f a) (g g1 : Goroutine) :
    ∃ tag' f', MAj P L S V post Wg r w w' σ tag' d μ f' (Go.Conc.woken P g g1 w' a) ∧ (tag' = tag ∨ (tag = .blk ∧ tag' = .w3)) ∧ (mayWake P g = true → g1.status = .running → tag' ≠ .blk) := by
  unfold Go.Conc.woken
  split
  · rcases h.status hr with ⟨hs, hne⟩ | ⟨_, rfl⟩
    · exact ⟨tag, f, by rw [again_running _ (.inl hs)]; exact h, .inl rfl, fun _ _ => hne⟩
    · cases h with
      | waits h1 h0 h2 h3 h4 =>
        cases h1 with
        | blk hb =>
          have k := hb w' (rl_refl _ _)
          exact ⟨.w3, 0 + 1, by rw [Go.ConcR.again_blocked k.1 k.2.1]; exact .waits (.w3 (Goes.stop hb)) h0 h2 h3 h4, .inr ⟨rfl, rfl⟩, fun _ _ => by simp⟩
  · rename_i hc
    exact ⟨tag, f, h, .inl rfl, fun h1 h2 => absurd (by simp [h1, h2]) hc⟩

variable {N0 : Nat} {W0 : World} {μ : Mj} {gs : Array Goroutine} {t : Trace} {n q : Nat} {D : Nat → Dj} {Pv Rb : Nat → Nat → Prop} {Gs : Nat → Prop} {p0 : Nat} {st sm : Int} {tag : CTag} {d0 : Nat} {σ : Sj} {a : Goroutine}
theorem Cj.qn (h : Cj P L S V post N0 W0 μ gs w' t n q D Pv Rb Gs Wg R p0 st sm tag d0 σ r w a) : q ≤ n := by have := h.list; omega
/-- Nobody is woken but the first. -/
theorem Cj.wakes (h : Cj P L S V post N0 W0 μ gs w' t n q D Pv Rb Gs Wg R p0 st sm tag d0 σ r w a) (g g1 : Goroutine) (w2 : World) {i : Nat} {x : Goroutine} (hi : gs[i + 1]? = some x) : woken P g g1 w2 x = x := by
  have hin : i < n := by have := (Array.getElem?_eq_some_iff.1 hi).1; have := h.size; omega
  have st : x.status = .running ∨ x.status = .finished := by
    by_cases hq : i < q
    · obtain ⟨g2, k1, _, k3⟩ := h.gone i hq
      rw [hi] at k1
      cases k1
      exact k3.status
    · obtain ⟨rw, g2, _, k1, _, k3, _⟩ := h.work i (by omega) hin
      rw [hi] at k1
      cases k1
      exact k3.status
  unfold Go.Conc.woken
  split
  · exact again_running _ st
  · rfl
theorem Cj.mapped (h : Cj P L S V post N0 W0 μ gs w' t n q D Pv Rb Gs Wg R p0 st sm tag d0 σ r w a) (g g1 : Goroutine) (w2 : World) : gs.map (woken P g g1 w2) = gs.setIfInBounds 0 (woken P g g1 w2 a) := by
  apply Array.ext_getElem?
  intro j
  rw [Array.getElem?_map]
  cases j with
  | zero =>
    have : 0 < gs.size := by have := h.size; omega
    rw [h.zero, Array.getElem?_setIfInBounds_self_of_lt this]
    rfl
  | succ j =>
    rw [Array.getElem?_setIfInBounds_ne (by omega)]
    cases hj : gs[j + 1]? with
    | none => rfl
    | some x => rw [Option.map_some, h.wakes g g1 w2 hj]
end
end Go.Proofs.Ytcobehkadhcjiaa

/-
  THE CREW beside sync.WaitGroup: a step of one of the others.
-/
namespace Go.Proofs.Ytcobehkadhcjiaa
open Go Go.Conc Go.ConcN Go.Conc.Lib
open Go.ConcR (KK WgAt wgBlock stA smA Payload DC0)
variable [Shift] [Payload]

omit [Shift] [Payload] in
theorem apartF {Pv Rb : Nat → Nat → Prop} {Gs : Nat → Prop} {R : Bool → Nat} {q n : Nat} (p1 : ∀ k b, Pv k b → ¬ Gs b ∧ ∀ z, b ≠ R z) (p2 : ∀ k k' b, Pv k b → Pv k' b → k = k') (p3 : ∀ k k' b, Pv k b → ¬ Rb k' b)
    (p4 : ∀ k b, Rb k b → ¬ Gs b ∧ ∀ z, b ≠ R z) (p5 : q < n → ∀ z, ¬ Gs (R z)) : Apart (ShG Gs) (OwnF Pv q n R) (RdF Rb) := by
  refine ⟨fun k k' l h1 h2 => ?_, fun k k' l h1 h2 => ?_, fun k l h1 ⟨a, e, hg⟩ => ?_, fun k l ⟨b, hb, hr⟩ ⟨a, e, hg⟩ => ?_⟩
  · rcases h1 with ⟨b, hb, hp⟩ | ⟨q1, q2, z, rfl⟩ <;> rcases h2 with ⟨b', hb', hp'⟩ | ⟨q3, q4, z', e⟩
    · rw [hb] at hb'
      obtain rfl := Option.some.inj hb'
      exact p2 _ _ _ hp hp'
    · subst e
      simp only [blkOf, Option.some.injEq] at hb
      exact absurd hb.symm ((p1 _ _ hp).2 z')
    · simp only [blkOf, Option.some.injEq] at hb'
      exact absurd hb'.symm ((p1 _ _ hp').2 z)
    · simp only [Loc.cell.injEq, Addr.mk.injEq] at e
      omega
  · obtain ⟨b', hb', hr⟩ := h2
    rcases h1 with ⟨b, hb, hp⟩ | ⟨q1, q2, z, rfl⟩
    · rw [hb] at hb'
      obtain rfl := Option.some.inj hb'
      exact p3 _ _ _ hp hr
    · simp only [blkOf, Option.some.injEq] at hb'
      exact (p4 _ _ hr).2 z hb'.symm
  · subst e
    rcases h1 with ⟨b, hb, hp⟩ | ⟨q1, q2, z, e⟩
    · simp only [blkOf, Option.some.injEq] at hb
      subst hb
      exact (p1 _ _ hp).1 hg
    · simp only [Loc.cell.injEq] at e
      subst e
      exact p5 (by omega) z hg
  · subst e
    simp only [blkOf, Option.some.injEq] at hb
    subst hb
    exact (p4 _ _ hr).1 hg

omit [Shift] [Payload] in
theorem need_mono {v v' : Nat} (h : v' ≤ v) {tag tag' : CTag} (e : tag' = tag ∨ (tag = .blk ∧ tag' = .w3)) : need v' tag' ≤ need v tag := by
  rcases e with rfl | ⟨rfl, rfl⟩
  · cases tag' <;> simp only [need] <;> omega
  · simp [need]

section
variable {P : Program} {L : WgLink} {S V : FuncId → Bool} {post : Value → World → Prop} {Wg : Nat} {R : Bool → Nat} {r : BR} {w w' w2 : World}
variable {N0 : Nat} {W0 : World} {μ : Mj} {gs : Array Goroutine} {t : Trace} {n q : Nat} {D : Nat → Dj} {Pv Rb : Nat → Nat → Prop} {Gs : Nat → Prop} {p0 : Nat} {st sm st' sm' : Int} {tag : CTag} {d0 : Nat} {σ : Sj} {a : Goroutine}

theorem Cj.rowsOk (h : Cj P L S V post N0 W0 μ gs w' t n q D Pv Rb Gs Wg R p0 st sm tag d0 σ r w a) {rw : Rw} (hrw : σ.rows = some rw) (z : Bool) : ∃ c y, w'.heap[R z]? = some (.cells c y (0, 0)) ∧ 0 < c.size := by
  obtain ⟨k, _⟩ := h.rows rw hrw
  obtain ⟨c, h1, h2⟩ := k.row z
  exact ⟨c, _, h1, by have := k.pos; omega⟩
theorem Cj.hasWg (h : Cj P L S V post N0 W0 μ gs w' t n q D Pv Rb Gs Wg R p0 st sm tag d0 σ r w a) {rw : Rw} (hrw : σ.rows = some rw) : ∃ b, σ.wg = some b := by
  cases hw : σ.wg with
  | none => rw [h.nowg hw] at hrw; cases hrw
  | some b => exact ⟨b, rfl⟩
/-- What is whose own. -/
theorem Cj.apart (h : Cj P L S V post N0 W0 μ gs w' t n q D Pv Rb Gs Wg R p0 st sm tag d0 σ r w a) : Apart (ShG Gs) (OwnF Pv q n R) (RdF Rb) := by
  refine apartF (fun k b hb => ?_) h.pvp (fun k k' b hp hr => ?_) (fun k b hb => ?_) (fun hqn z => ?_)
  · obtain ⟨_, _, k1, k2, _⟩ := h.pv k b hb
    exact ⟨k1, k2⟩
  · obtain ⟨_, ⟨x, _, hx⟩, _⟩ := h.rb k' b hr
    exact (h.pv k b hp).2.2.2.2 x hx
  · obtain ⟨_, _, k1, k2⟩ := h.rb k b hb
    exact ⟨k1, k2⟩
  · obtain ⟨rw, _, hrw, _⟩ := h.work q (Nat.le_refl q) hqn
    exact (h.rows rw hrw).1.gs z
/-- A step of another leaves the world of one that works. -/
theorem Cj.wkeep (h : Cj P L S V post N0 W0 μ gs w' t n q D Pv Rb Gs Wg R p0 st sm tag d0 σ r w a) {rw : Rw} (hrw : σ.rows = some rw) {X : Nat → Prop} {o : Option Nat} (he : Eff L.tWg Wg R X o w' w2) {j : Nat} (h1 : q ≤ j) (h2 : j < n) (hx : ∀ x b, (D j).r x b → ¬ X b) : HR0 S (D j).r (D j).w w2 := by
  obtain ⟨rw', g, hr', _, k0, _, _, _, sd⟩ := h.work j h1 h2
  obtain ⟨b, hb⟩ := h.hasWg hrw
  obtain ⟨_, k2, k3, _⟩ := h.wg b hb
  refine k0.eff he hx (fun x b hxb hh => sd.hid x b hxb (hh.imp (fun e => by rw [e]; exact k2) id)) ⟨_, _, k3⟩ (h.rowsOk hrw)

/-- A step of one of the others. -/
theorem Cj.stepW (h : Cj P L S V post N0 W0 μ gs w' t n q D Pv Rb Gs Wg R p0 st sm tag d0 σ r w a) {i : Nat} (hq : q ≤ i) (hi : i < n) {g g1 : Goroutine} {es : Array Event} {x : Dj} {rw : Rw} (hrw : σ.rows = some rw) (hg : gs[i + 1]? = some g) (hgo : stepG P false g w' = .go g1 w2 es)
    (xs : x.s = (D i).s) (xsp : x.spec = (D i).spec) (he : Eff L.tWg Wg R (Pv (i + 1)) (some (i - q)) w' w2) (hr1 : HR0 S x.r x.w w2)
    (hnew : ∀ a b, x.r a b → (D i).r a b ∨ (w'.heap.size ≤ b ∧ b < w2.heap.size ∧ (D i).w.heap.size ≤ a)) (hext : ∀ a b, (D i).r a b → x.r a b) (hL : LF (D i).w x.w)
    (hA : WAj P L S V Wg R ⟨i - q, x.s, x.spec, rw⟩ x.r x.w w2 x.e x.wd g1)
    (hok : ∀ op ∈ MemOp.ofEvents (i + 1) g.frame.fn g.frame.place es, (∀ y, op.act.touch? = some y → ((∃ ad, y.loc = .cell ad ∧ ad.block = Wg) ∧ y.kind ≠ .plain ∧ y.kind ≠ .said) ∨
      (y.kind = .plain ∧ ∃ b, blkOf y.loc = some b ∧ (Pv (i + 1) b ∨ (w'.heap.size ≤ b ∧ b < w2.heap.size) ∨ (Rb (i + 1) b ∧ y.write = false))) ∨ (y.kind = .plain ∧ ∃ z, y.loc = .cell ⟨R z, i - q, none⟩)) ∧ op.act ≠ .mark (.release (stA Wg)))
    (hdeaf : deafBehind (D i).wd.deaf es = x.wd.deaf) (hrel : x.wd.stage ≤ 6 → ∃ p, p0 ≤ p ∧ RelBy (stA Wg) (t ++ MemOp.ofEvents (i + 1) g.frame.fn g.frame.place es) (i + 1) p) (hwg : WgAt L.tWg Wg w2 st' sm')
    (hmode : ∀ tag', (tag' = tag ∨ (tag = .blk ∧ tag' = .w3)) → (mayWake P g = true → g1.status = .running → tag' ≠ .blk) → ConcN.Mode (n - q) (fun j => (upd D i x (q + j)).wd) tag' st' sm')
    (hVc : Vc (n - q) (fun j => (upd D i x (q + j)).wd) ≤ Vc (n - q) fun j => (D (q + j)).wd) (hlt : Ej.Lt x.e (D i).e) (sl : Option (Nat × Nat)) :
    ∃ gs' μ' D' Pv' tag' a' ops, runT P (crowd gs w' sl) (i + 1) = (.next (crowd gs' w2 sl), ops) ∧ Mj.Lt μ' μ ∧ Cj P L S V post N0 W0 μ' gs' w2 (t ++ ops) n q D' Pv' Rb Gs Wg R p0 st' sm' tag' d0 σ r w a' := by
  obtain ⟨bg, hbg⟩ := h.hasWg hrw
  obtain ⟨g1r, g2, g3, g4⟩ := h.wg bg hbg
  obtain ⟨rat, rlen⟩ := h.rows rw hrw
  have hsz1 := he.size
  have rlt : ∀ z, R z < w'.heap.size := fun z => by
    obtain ⟨c, k1, _⟩ := rat.row z
    exact (Array.getElem?_eq_some_iff.1 k1).1
  -- the first
  have hrm : HR0 S r w w2 := h.hr.eff he (fun x b hxb hp => (h.pv _ b hp).2.2.2.2 x hxb) (fun x b hxb hh => h.hid x b hxb (hh.imp (fun e => by rw [e]; exact g2) fun e => ⟨by rw [hrw]; simp, e⟩)) ⟨_, _, g3⟩ (h.rowsOk hrw)
  obtain ⟨tag', f', hm', ht1, ht2⟩ := (h.main.rely hrm he.live).woken hrm g g1
  have hrun := runT_crowd_go (P := P) (sl := sl) (i := i + 1) hg (by simpa using hgo)
  rw [h.mapped] at hrun
  have his : i + 1 < gs.size := by have := h.size; omega
  obtain ⟨D', hD⟩ : ∃ D', D' = upd D i x := ⟨_, rfl⟩
  have dI : D' i = x := by rw [hD]; exact upd_same _ _ _
  have dO : ∀ j, j ≠ i → D' j = D j := fun j hj => by rw [hD]; exact upd_ne _ _ hj
  obtain ⟨Pv', hPv⟩ : ∃ Pv' : Nat → Nat → Prop, Pv' = fun k b => Pv k b ∨ (k = i + 1 ∧ w'.heap.size ≤ b ∧ b < w2.heap.size) := ⟨_, rfl⟩
  have pv1 : ∀ k b, Pv k b → Pv' k b := fun k b hb => by rw [hPv]; exact .inl hb
  have pv2 : ∀ b, w'.heap.size ≤ b → b < w2.heap.size → Pv' (i + 1) b := fun b h1 h2 => by rw [hPv]; exact .inr ⟨rfl, h1, h2⟩
  have pvc : ∀ k b, Pv' k b → Pv k b ∨ (k = i + 1 ∧ w'.heap.size ≤ b ∧ b < w2.heap.size) := fun k b hb => by rw [hPv] at hb; exact hb
  have npv : ∀ k b, Pv' k b → (q < k ∧ k ≤ n) ∧ (N0 ≤ b ∧ b < w2.heap.size) ∧ ¬ Gs b ∧ (∀ z, b ≠ R z) ∧ ∀ x, ¬ r x b := fun k b hb => by
    rcases pvc k b hb with k1 | ⟨rfl, k1, k2⟩
    · obtain ⟨e1, e2, e3⟩ := h.pv k b k1
      exact ⟨e1, ⟨e2.1, by omega⟩, e3⟩
    · have := h.n0
      exact ⟨⟨by omega, by omega⟩, ⟨by omega, k2⟩, fun hgs => by have := (h.gsN b hgs).2; omega, fun z e => by have := rlt z; omega, fun x hx => by have := (h.hr.lt hx).2; omega⟩
  have npvp : ∀ k k' b, Pv' k b → Pv' k' b → k = k' := fun k k' b h1 h2 => by
    rcases pvc k b h1 with k1 | ⟨rfl, k1, k2⟩ <;> rcases pvc k' b h2 with l1 | ⟨rfl, l1, l2⟩
    · exact h.pvp k k' b k1 l1
    · have := (h.pv k b k1).2.1.2; omega
    · have := (h.pv k' b l1).2.1.2; omega
    · rfl
  have nap : Apart (ShG Gs) (OwnF Pv' q n R) (RdF Rb) := by
    refine apartF (fun k b hb => ⟨(npv k b hb).2.2.1, (npv k b hb).2.2.2.1⟩) npvp (fun k k' b hp hr => ?_) (fun k b hb => ⟨(h.rb k b hb).2.2.1, (h.rb k b hb).2.2.2⟩) (fun _ z => rat.gs z)
    obtain ⟨_, ⟨x, _, hx⟩, _⟩ := h.rb k' b hr
    exact (npv k b hp).2.2.2.2 x hx
  have opg : ∀ op ∈ MemOp.ofEvents (i + 1) g.frame.fn g.frame.place es, op.g = i + 1 := fun op hop => Go.ConcR.g_of_ofEvents op hop
  have hct : CT (ShG Gs) (OwnF Pv' q n R) (RdF Rb) (t ++ MemOp.ofEvents (i + 1) g.frame.fn g.frame.place es) n := by
    refine (CT.fam h.jt.ct h.jt.seen (fun _ k => k) (fun _ k => .inl k) (fun k _ _ l hl => ?_) (fun k _ _ l hl => ?_) (fun _ _ _ _ k => k) (fun _ _ _ _ k => k)).appW nap (k := i + 1) (by omega) (by omega) fun op hop => ⟨opg op hop, fun y hy => ?_⟩
    · exact hl.imp (fun ⟨b, k1, k2⟩ => ⟨b, k1, pv1 _ _ k2⟩) id
    · rcases hl with ⟨b, k1, k2⟩ | k1
      · rcases pvc k b k2 with k3 | ⟨_, k3, _⟩
        · exact .inl (.inl ⟨b, k1, k3⟩)
        · exact .inr ⟨b, k1, k3⟩
      · exact .inl (.inr k1)
    · rcases (hok op hop).1 y hy with ⟨⟨ad, k1, k2⟩, k3, k4⟩ | ⟨_, b, k1, k2⟩ | ⟨_, z, k1⟩
      · exact .inl ⟨⟨ad, k1, by rw [k2]; exact g2⟩, k3, k4⟩
      · rcases k2 with k2 | k2 | ⟨k2, k3⟩
        · exact .inr (.inl (.inl ⟨b, k1, pv1 _ _ k2⟩))
        · exact .inr (.inl (.inl ⟨b, k1, pv2 b k2.1 k2.2⟩))
        · exact .inr (.inr ⟨⟨b, k1, k2⟩, k3⟩)
      · exact .inr (.inl (.inr ⟨by omega, by omega, z, by rw [k1, show i + 1 - q - 1 = i - q by omega]⟩))
  have njt : JT Gs (OwnF Pv' q n R) (RdF Rb) (t ++ MemOp.ofEvents (i + 1) g.frame.fn g.frame.place es) q n w2.heap.size := by
    refine h.jt.app hsz1 hct (fun _ k => k) (fun op hop y hy b hb => ?_) (fun op hop y hy hns => ?_) (fun op hop => .inr (.inl (by rw [opg op hop]; omega)))
    · rcases (hok op hop).1 y hy with ⟨⟨ad, k1, k2⟩, _⟩ | ⟨k0, b', k1, k2⟩ | ⟨k0, z, k1⟩
      · rw [k1] at hb
        simp only [blkOf, Option.some.injEq] at hb
        have := (h.gsN Wg g2).2
        omega
      · rw [k1] at hb
        obtain rfl := Option.some.inj hb
        rcases k2 with k2 | k2 | ⟨k2, _⟩
        · have := (h.pv _ _ k2).2.1.2; omega
        · exact k2.2
        · obtain ⟨_, ⟨x0, _, hx0⟩, _⟩ := h.rb _ _ k2
          have := (h.hr.lt hx0).2; omega
      · rw [k1] at hb
        simp only [blkOf, Option.some.injEq] at hb
        have := rlt z
        omega
    rcases (hok op hop).1 y hy with ⟨⟨ad, k1, k2⟩, _⟩ | ⟨k0, b, k1, _⟩ | ⟨k0, z, k1⟩
    · exact absurd ⟨ad, k1, by rw [k2]; exact g2⟩ hns
    · refine ⟨k0, ?_⟩
      generalize y.loc = l at k1
      cases l <;> first | rfl | cases k1
    · exact ⟨k0, by rw [k1]; rfl⟩
  refine ⟨_, (μ.1, elj D' n, f'), D', Pv', tag', _, _, hrun, ?_, {
    size := (by simp [h.size]), list := h.list, zero := ?zero, main := hm', hr := hrm, gone := fun j hj => ?gone, work := fun j h1 h2 => ?work,
    wg := fun b hb => ?wg, nowg := h.nowg, norows := h.norows, rows := fun rw' hrw' => ?rows, hid := h.hid, gsN := fun b hb => ⟨(h.gsN b hb).1, Nat.lt_of_lt_of_le (h.gsN b hb).2 hsz1⟩, pv := npv, pvp := npvp, rb := fun k b hb => ?rb,
    base := fun b hb => ?base, low := h.low, n0 := Nat.le_trans h.n0 hsz1, os := he.os.trans h.os, output := he.output.trans h.output, jt := njt, deaf0 := ?deaf0, deafW := fun j hj => ?deafW, rel := fun j h1 h2 hs => ?rel, nrel := fun j hj => ?nrel, p0le := (by have := h.p0le; simp; omega), need := ?need, mu := rfl }⟩
  · obtain ⟨m0, l0, f0⟩ := μ
    have := h.mu
    simp only at this
    subst this
    rw [hD]
    exact .right _ (.left _ _ (elj_lt hlt hi))
  case zero =>
    rw [get_set_ne _ (by omega)]
    exact get_set_eq _ (by omega)
  case gone =>
    rw [dO j (by omega)]
    obtain ⟨g2, k1, k2⟩ := h.gone j hj
    exact ⟨g2, by rw [get_set_ne _ (by omega), get_set_ne _ (by omega)]; exact k1, k2⟩
  case work =>
    by_cases e : j = i
    · subst e
      rw [dI]
      obtain ⟨rw0, g0, k1, _, _, _, k5, k6, sd⟩ := h.work j h1 h2
      obtain rfl : rw0 = rw := by rw [hrw] at k1; exact (Option.some.inj k1).symm
      refine ⟨rw0, g1, hrw, get_set_eq _ (by simp; omega), hr1, hA, by rw [xsp]; exact k5, by rw [xsp]; exact k6, ?_⟩
      refine ⟨by rw [xs]; exact sd.sn, by rw [xs]; exact Nat.le_trans sd.sle hL.size, by rw [xs]; exact sd.slem, fun y b hy hs => ?_, by rw [xs]; exact sd.fro, fun y o hs => ?_, fun y b hy hs => ?_, fun y b hy hs hg hr => ?_, fun y b hy hh => ?_, fun z => hext _ _ (sd.wrow z)⟩
      · rw [xs] at hs
        rcases hnew y b hy with k | ⟨_, _, k⟩
        · exact sd.old y b k hs
        · have := sd.sle; omega
      · rw [xs] at hs
        rintro ⟨c, ty, f, l1, l2, l3⟩
        have hyl : y < (D j).w.heap.size := Nat.lt_of_lt_of_le hs sd.sle
        obtain ⟨c0, l4, l5⟩ := hL.obj y c ty f hyl l1
        exact sd.wfro y o hs ⟨c0, ty, f, l4, by omega, l3⟩
      · rw [xs] at hs
        rcases hnew y b hy with k | ⟨k, k', _⟩
        · exact pv1 _ _ (sd.priv y b k hs)
        · exact pv2 b k k'
      · rw [xs] at hs
        rcases hnew y b hy with k | ⟨_, _, k⟩
        · exact sd.rd y b k hs hg hr
        · have := sd.sle; omega
      · have hb : b < w'.heap.size := by
          rcases hh with hh | ⟨z, rfl⟩
          · exact (h.gsN b hh).2
          · exact rlt z
        rcases hnew y b hy with k | ⟨k, _, _⟩
        · exact hL.non y _ (sd.hid y b k hh) (by simp)
        · omega
    · rw [dO j e]
      obtain ⟨rw0, g0, k1, k2, k3, k4, k5, k6, sd⟩ := h.work j h1 h2
      have hrj : HR0 S (D j).r (D j).w w2 := h.wkeep hrw he h1 h2 fun y b hy hp => by
        by_cases hs : y < (D j).s
        · exact (h.pv _ b hp).2.2.2.2 y (sd.old y b hy hs)
        · have := h.pvp _ _ b (sd.priv y b hy (by omega)) hp
          omega
      have hne : (some (i - q) : Option Nat) ≠ some (j - q) := fun e' => by have := Option.some.inj e'; omega
      refine ⟨rw0, g0, k1, by rw [get_set_ne _ (by omega), get_set_ne _ (by omega)]; exact k2, hrj, k4.else_ hrj (fun z => he.cell (h.rowsOk hrw z) hne) (he.rw_ (h.rowsOk hrw true) hne), k5, k6, ?_⟩
      exact { sn := sd.sn, sle := sd.sle, slem := sd.slem, old := sd.old, fro := sd.fro, wfro := sd.wfro, priv := fun y b hy hs => pv1 _ _ (sd.priv y b hy hs), rd := sd.rd, hid := sd.hid, wrow := sd.wrow }
  case wg =>
    obtain ⟨k1, k2, _, _⟩ := h.wg b hb
    refine ⟨k1, k2, hwg, ?_⟩
    rw [hD]
    exact hmode tag' ht1 ht2
  case rows =>
    obtain ⟨k1, k2⟩ := h.rows rw' hrw'
    refine ⟨{ rel := k1.rel, n0 := k1.n0, gs := k1.gs, row := fun z => ?_, ne := k1.ne, pos := k1.pos, few := k1.few, ety := k1.ety, low := k1.low }, k2⟩
    obtain ⟨c, l1, l2⟩ := k1.row z
    obtain ⟨c2, l3, l4, _⟩ := he.row z c _ _ l1
    exact ⟨c2, l3, by omega⟩
  case rb =>
    obtain ⟨k1, ⟨y, k2, k3⟩, k4⟩ := h.rb k b hb
    refine ⟨k1, ⟨y, ?_, k3⟩, k4⟩
    by_cases e : k - 1 = i
    · rw [e, dI, xs]; rw [e] at k2; exact k2
    · rw [dO _ e]; exact k2
  case base =>
    have hb' : b < w'.heap.size := Nat.lt_of_lt_of_le hb h.n0
    rw [he.stays b hb' (fun hp => by have := (h.pv _ b hp).2.1.1; omega) (fun e => by have := (h.gsN Wg g2).1; omega) (fun z e => by have := rat.n0 z; omega)]
    exact h.base b hb
  case deaf0 =>
    rw [Deaf_other t (g' := i + 1) (by omega) _ opg]
    exact h.deaf0
  case deafW =>
    by_cases e : j = i
    · subst e
      rw [dI, Deaf_own, h.deafW j hj]
      exact hdeaf
    · rw [dO j e, Deaf_other t (g' := i + 1) (by omega) _ opg]
      exact h.deafW j hj
  case rel =>
    by_cases e : j = i
    · subst e
      rw [dI] at hs
      exact hrel hs
    · rw [dO j e] at hs
      obtain ⟨p, hp0, hp⟩ := h.rel j h1 h2 hs
      exact ⟨p, hp0, hp.appOther opg (by omega)⟩
  case nrel =>
    intro e
    obtain ⟨op, ho, hoa⟩ := Option.map_eq_some_iff.1 (show ((t ++ MemOp.ofEvents (i + 1) g.frame.fn g.frame.place es)[j]?).map (·.act) = _ from e)
    rcases getElem?_append_cases ho with ⟨_, ho'⟩ | ⟨_, hou⟩
    · exact h.nrel j hj (by rw [act?_of ho', hoa])
    · exact (hok op hou).2 hoa
  case need =>
    have k := h.need
    have := need_mono hVc ht1
    rw [hD]
    exact Nat.le_trans this k
end
end Go.Proofs.Ytcobehkadhcjiaa

/-
  THE CREW beside sync.WaitGroup: one of the others at its own work.
-/
namespace Go.Proofs.Ytcobehkadhcjiaa
open Go Go.Conc Go.ConcN Go.Conc.Lib
open Go.ConcR (KK WgAt wgBlock stA smA Payload DC0)
variable [Shift] [Payload]

omit [Shift] [Payload] in
/-- What is listed: where it lies on the left. -/
theorem act_at {r1 : BR} {w : World} {g : Nat} {fn : FuncId} {pos : String} {es : Array Event} (h : ∀ e ∈ es, EvS r1 w e) {op : MemOp} (hop : op ∈ MemOp.ofEvents g fn pos es) :
    (∀ x, op.act.touch? = some x → x.kind = .plain ∧ ∃ a b, r1 a b ∧ blkOf x.loc = some b ∧ (a < w.heap.size → w.heap[a]? ≠ some (.coro none) ∧ (x.write = true → ∃ o, Wr w a o))) ∧ ∀ ad, op.act ≠ .mark (.release ad) := by
  obtain ⟨e, he, rfl⟩ := Go.Conc.mem_ofEvents hop
  obtain ⟨h1, h2⟩ := h e he
  rcases h1 with ⟨ad, wr, rfl, a, ha, hb⟩ | ⟨b, rfl, a, ha, hb⟩ | rfl | ⟨f, rfl⟩
  · refine ⟨fun x hx => ?_, fun ad => by simp [MemAct.ofEvent]⟩
    cases hx
    refine ⟨rfl, a, _, ha, rfl, fun w2 => ⟨fun e => ?_, fun w1 => ⟨_, (hb w2).2 w1⟩⟩⟩
    obtain ⟨c, t, f, k⟩ := (hb w2).1
    rw [e] at k
    cases k
  · refine ⟨fun x hx => ?_, fun ad => by simp [MemAct.ofEvent]⟩
    cases hx
    refine ⟨rfl, a, _, ha, rfl, fun w2 => ⟨fun e => ?_, fun w1 => by cases w1⟩⟩
    obtain ⟨c, t, k⟩ := hb w2
    rw [e] at k
    cases k
  · exact ⟨fun x hx => (by cases hx), fun ad => by simp [MemAct.ofEvent]⟩
  · exact absurd rfl (h2 f)
omit [Shift] [Payload] in
theorem evs_idle {r1 : BR} {w : World} {es : Array Event} (h : ∀ e ∈ es, EvS r1 w e) (d : Nat) : deafBehind d es = d := by
  have key : ∀ (l : List Event), (∀ e ∈ l, e.loc ≠ .mark .disable ∧ e.loc ≠ .mark .enable) → deafBehind d l.toArray = d := by
    intro l
    induction l with
    | nil => intro _; rfl
    | cons y l ih =>
      intro hl
      have e1 : deafBehind d #[y] = d := Go.ConcR.deafBehind_one (hl y (by simp)).1 (hl y (by simp)).2 d
      rw [Go.ConcR.deafBehind_cons, e1]
      exact ih fun e he => hl e (by simp [he])
  have := key es.toList fun e he => by
    obtain ⟨h1, h2⟩ := h e (by simpa using he)
    rcases h1 with ⟨ad, wr, rfl, _⟩ | ⟨b, rfl, _⟩ | rfl | ⟨f, rfl⟩
    · exact ⟨by simp, by simp⟩
    · exact ⟨by simp, by simp⟩
    · exact ⟨by simp, by simp⟩
    · exact absurd rfl (h2 f)
  simpa using this

section
variable {P : Program} {L : WgLink} {S V : FuncId → Bool} {post : Value → World → Prop} {Wg : Nat} {R : Bool → Nat} {r : BR} {w w' w2 : World}
variable {N0 : Nat} {W0 : World} {μ : Mj} {gs : Array Goroutine} {t : Trace} {n q : Nat} {D : Nat → Dj} {Pv Rb : Nat → Nat → Prop} {Gs : Nat → Prop} {p0 : Nat} {st sm st' sm' : Int} {tag : CTag} {d0 : Nat} {σ : Sj} {a : Goroutine}

variable (P L S V post N0 W0) in
/-- The machine goes on. -/
def OnJ (μ : Mj) (m : Stepped × Array MemOp) (t : Trace) : Prop :=
  ∃ gs' w2 sl μ' n' q' D' Pv' Rb' Gs' Wg' R' p' st' sm' tag' d' σ' r' w1 a' ops, m = (.next (crowd gs' w2 sl), ops) ∧ Mj.Lt μ' μ ∧ Cj P L S V post N0 W0 μ' gs' w2 (t ++ ops) n' q' D' Pv' Rb' Gs' Wg' R' p' st' sm' tag' d' σ' r' w1 a'

omit [Shift] [Payload] in
theorem vc_same {j i : Nat} {D : Nat → Dj} {x : Dj} (hs : x.wd.stage = (D i).wd.stage) : Vc j (fun a => (upd D i x (q + a)).wd) = Vc j fun a => (D (q + a)).wd :=
  sumTo_congr fun a _ => by
    dsimp only
    by_cases e : q + a = i
    · rw [e, upd_same]; simp only [cnt, hs]
    · rw [upd_ne _ _ e]
omit [Shift] [Payload] in
theorem mode_same {j i : Nat} {D : Nat → Dj} {x : Dj} (hs : x.wd.stage = (D i).wd.stage) {tag tag' : CTag} (hm : ConcN.Mode j (fun a => (D (q + a)).wd) tag st sm) (ht : tag' = tag ∨ (tag = .blk ∧ tag' = .w3)) : ConcN.Mode j (fun a => (upd D i x (q + a)).wd) tag' st sm :=
  (Mode.congr (fun a _ => by
    by_cases e : q + a = i
    · rw [e, upd_same]; exact hs
    · rw [upd_ne _ _ e]) hm).retag ht

/-- A step of its own. -/
theorem Cj.stepT (h : Cj P L S V post N0 W0 μ gs w' t n q D Pv Rb Gs Wg R p0 st sm tag d0 σ r w a) {i : Nat} (hq : q ≤ i) (hi : i < n) {g : Goroutine} {rw : Rw} (hrw : σ.rows = some rw) (hg : gs[i + 1]? = some g) {m : Mt} {u : Bool → Option Value}
    (hG : GoesJ P L S V (dDone L Wg) .deferred (by decide) [botF P] false (.wk ⟨i - q, (D i).s, (D i).spec, rw⟩ u) m (D i).r (D i).w g w' []) (hu : ∀ z v, u z = some v → ∃ v', VR S (D i).r v v' ∧ w'.cell? ⟨R z, i - q, none⟩ = some v')
    (hm : (D i).e.1 = m) (hwd : (D i).wd.stage = 7 ∧ (D i).wd.deaf = 0) (sl : Option (Nat × Nat)) : OnJ P L S V post N0 W0 μ (runT P (crowd gs w' sl) (i + 1)) t := by
  obtain ⟨b1, m1, r1, fr1, ct1, k1, cs1, w1, a1, w1', es, q1, q2, q3, q4, q5, q6, q7, q8⟩ := hG
  obtain rfl := q8 _ _ rfl
  obtain ⟨rw0, g0, k1', k2, k3, k4, k5, k6, sd⟩ := h.work i hq hi
  obtain rfl : rw0 = rw := by rw [hrw] at k1'; exact (Option.some.inj k1').symm
  obtain ⟨bg, hbg⟩ := h.hasWg hrw
  obtain ⟨g1r, g2, g3, g4⟩ := h.wg bg hbg
  obtain ⟨rat, rlen⟩ := h.rows rw0 hrw
  have stays : ∀ b, b < w'.heap.size → ¬ Pv (i + 1) b → w1'.heap[b]? = w'.heap[b]? := fun b hb hp => q6.old b hb fun y o hy hw => by
    by_cases hs : y < (D i).s
    · exact sd.wfro y o hs hw
    · exact hp (sd.priv y b hy (by omega))
  have rowS : ∀ z, w1'.heap[R z]? = w'.heap[R z]? := fun z => by
    obtain ⟨c, l1, _⟩ := rat.row z
    exact stays _ (Array.getElem?_eq_some_iff.1 l1).1 fun hp => (h.pv _ _ hp).2.2.2.1 z rfl
  have wgS : w1'.heap[Wg]? = w'.heap[Wg]? := stays _ (h.gsN Wg g2).2 fun hp => (h.pv _ _ hp).2.2.1 g2
  have he : Eff L.tWg Wg R (Pv (i + 1)) (some (i - q)) w' w1' := ⟨fun b hb hp _ _ => stays b hb hp, fun ⟨x, y, hl⟩ => ⟨x, y, hl.of_block wgS⟩, fun z c y f hc => ⟨c, by rw [rowS]; exact hc, rfl, fun _ _ => rfl⟩, q6.size, q6.os, q6.output⟩
  obtain ⟨gs', μ', D', Pv', tag', a', ops, l1, l2, l3⟩ := h.stepW (x := ⟨(D i).s, (D i).spec, r1, w1, (m1, 8, 0), ⟨7, 0, 0⟩⟩) hq hi hrw hg q1 rfl rfl he q4.hr (fun x b hx => (q6.new x b hx).imp id fun ⟨x1, x2, x3⟩ => ⟨x1, x2, x3⟩) q6.ext q5
    (.runs q3 q4 fun z v hv => by
      obtain ⟨v', j1, j2⟩ := hu z v hv
      exact ⟨v', j1.mono q6.ext, by rw [← j2]; simp [World.cell?, rowS]⟩)
    (fun op hop => by
      obtain ⟨j1, j3⟩ := act_at q7 hop
      refine ⟨fun y hy => ?_, j3 _⟩
      obtain ⟨y1, y0, b, y2, y3, y4⟩ := j1 y hy
      refine .inr (.inl ⟨y1, b, y3, ?_⟩)
      rcases q6.new y0 b y2 with x1 | ⟨x1, x2, _⟩
      · by_cases hs : y0 < (D i).s
        · obtain ⟨z1, z2⟩ := y4 (Nat.lt_of_lt_of_le hs sd.sle)
          refine .inr (.inr ⟨sd.rd y0 b x1 hs (fun hgs => z1 (sd.hid y0 b x1 (.inl hgs))) (fun z e => z1 (sd.hid y0 b x1 (.inr ⟨z, e⟩))), ?_⟩)
          cases hw : y.write with
          | false => rfl
          | true =>
            obtain ⟨o, ho⟩ := z2 hw
            exact absurd ho (sd.wfro y0 o hs)
        · exact .inl (sd.priv y0 b x1 (by omega))
      · exact .inr (.inl ⟨x1, x2⟩))
    (by rw [evs_idle q7]; exact hwd.2) (fun hs => by simp at hs) (g3.of_block wgS) (fun tag' ht _ => mode_same hwd.1.symm g4 ht) (Nat.le_of_eq (vc_same hwd.1.symm)) (by
      obtain ⟨e1, e2⟩ : ∃ e2, (D i).e = (m, e2) := ⟨(D i).e.2, by rw [← hm]⟩
      rw [e2]
      exact .left _ _ q2) sl
  exact ⟨_, _, _, μ', _, _, D', Pv', _, _, _, _, _, _, _, tag', _, _, _, _, a', _, l1, l2, l3⟩

/-- A step that does nothing but go on. -/
theorem Cj.stepL (h : Cj P L S V post N0 W0 μ gs w' t n q D Pv Rb Gs Wg R p0 st sm tag d0 σ r w a) {i : Nat} (hq : q ≤ i) (hi : i < n) {g g1 : Goroutine} {rw : Rw} (hrw : σ.rows = some rw) (hg : gs[i + 1]? = some g) (hgo : stepG P false g w' = .go g1 w' #[])
    {e : Ej} {wd : WD} (hA : WAj P L S V Wg R ⟨i - q, (D i).s, (D i).spec, rw⟩ (D i).r (D i).w w' e wd g1) (hst : wd.stage = (D i).wd.stage) (hd : wd.deaf = (D i).wd.deaf) (hlt : Ej.Lt e (D i).e) (sl : Option (Nat × Nat)) : OnJ P L S V post N0 W0 μ (runT P (crowd gs w' sl) (i + 1)) t := by
  obtain ⟨rw0, g0, k1', k2, k3, k4, k5, k6, sd⟩ := h.work i hq hi
  obtain ⟨bg, hbg⟩ := h.hasWg hrw
  obtain ⟨g1r, g2, g3, g4⟩ := h.wg bg hbg
  have he : Eff L.tWg Wg R (Pv (i + 1)) (some (i - q)) w' w' := ⟨fun _ _ _ _ _ => rfl, id, fun z c y f hc => ⟨c, hc, rfl, fun _ _ => rfl⟩, Nat.le_refl _, rfl, rfl⟩
  have e0 : MemOp.ofEvents (i + 1) g.frame.fn g.frame.place #[] = #[] := ops_nil _ _ _
  obtain ⟨gs', μ', D', Pv', tag', a', ops, l1, l2, l3⟩ := h.stepW (x := ⟨(D i).s, (D i).spec, (D i).r, (D i).w, e, wd⟩) hq hi hrw hg hgo rfl rfl he k3 (fun x b hx => .inl hx) (fun _ _ k => k) (LF.refl _) hA (fun op hop => by rw [e0] at hop; simp at hop)
    (by show (D i).wd.deaf = _; rw [hd]) (fun hs => by
      obtain ⟨p, hp0, hp⟩ := h.rel i hq hi (by rw [← hst]; exact hs)
      exact ⟨p, hp0, by rw [e0, Array.append_empty]; exact hp⟩) g3 (fun tag' ht _ => mode_same (x := ⟨(D i).s, (D i).spec, (D i).r, (D i).w, e, wd⟩) hst g4 ht) (Nat.le_of_eq (vc_same (x := ⟨(D i).s, (D i).spec, (D i).r, (D i).w, e, wd⟩) hst)) hlt sl
  exact ⟨_, _, _, μ', _, _, D', Pv', _, _, _, _, _, _, _, tag', _, _, _, _, a', _, l1, l2, l3⟩

omit [Shift] [Payload] in
theorem set_row {w' : World} {b j : Nat} {v : Value} {c : Array Value} {y : TypeId} {f : Nat × Nat} (hc : w'.heap[b]? = some (.cells c y f)) : (w'.setCell ⟨b, j, none⟩ v).heap[b]? = some (.cells (c.setIfInBounds j v) y f) ∧ ∀ b', b' ≠ b → (w'.setCell ⟨b, j, none⟩ v).heap[b']? = w'.heap[b']? := by
  refine ⟨by simp [World.setCell, Array.getElem?_modify, hc], fun b' hb' => ?_⟩
  simp [World.setCell, Array.getElem?_modify, Ne.symm hb']

/-- It writes its place of a row. -/
theorem Cj.stepP (h : Cj P L S V post N0 W0 μ gs w' t n q D Pv Rb Gs Wg R p0 st sm tag d0 σ r w a) {i : Nat} (hq : q ≤ i) (hi : i < n) {g g1 : Goroutine} {rw : Rw} (hrw : σ.rows = some rw) (hg : gs[i + 1]? = some g) {z : Bool} {v' : Value} {es : Array Event} (hgo : stepG P false g w' = .go g1 (w'.setCell ⟨R z, i - q, none⟩ v') es) (hes : ∀ e ∈ es, e = ⟨.cell ⟨R z, i - q, none⟩, true, false⟩)
    {e : Ej} (hA : HR0 S (D i).r (D i).w (w'.setCell ⟨R z, i - q, none⟩ v') → (w'.setCell ⟨R z, i - q, none⟩ v').cell? ⟨R z, i - q, none⟩ = some v' → (∀ z', z' ≠ z → (w'.setCell ⟨R z, i - q, none⟩ v').cell? ⟨R z', i - q, none⟩ = w'.cell? ⟨R z', i - q, none⟩) →
      WAj P L S V Wg R ⟨i - q, (D i).s, (D i).spec, rw⟩ (D i).r (D i).w (w'.setCell ⟨R z, i - q, none⟩ v') e ⟨7, 0, 0⟩ g1) (hwd : (D i).wd.stage = 7 ∧ (D i).wd.deaf = 0) (hlt : Ej.Lt e (D i).e) (sl : Option (Nat × Nat)) : OnJ P L S V post N0 W0 μ (runT P (crowd gs w' sl) (i + 1)) t := by
  obtain ⟨rw0, g0, k1', k2, k3, k4, k5, k6, sd⟩ := h.work i hq hi
  obtain ⟨bg, hbg⟩ := h.hasWg hrw
  obtain ⟨g1r, g2, g3, g4⟩ := h.wg bg hbg
  obtain ⟨rat, rlen⟩ := h.rows rw hrw
  obtain ⟨c, hc, hcn⟩ := rat.row z
  obtain ⟨s1, s2⟩ := set_row (j := i - q) (v := v') hc
  have hin : i - q < c.size := by
    have := h.list
    omega
  have size2 : (w'.setCell ⟨R z, i - q, none⟩ v').heap.size = w'.heap.size := by simp [World.setCell]
  have hWR : ∀ z', Wg ≠ R z' := fun z' e => rat.gs z' (e ▸ g2)
  have hzz : ∀ z', z' ≠ z → R z' ≠ R z := fun z' hz e => by
    cases z <;> cases z' <;> first | exact hz rfl | exact rat.ne e | exact rat.ne e.symm
  have os2 : (w'.setCell ⟨R z, i - q, none⟩ v').os = w'.os ∧ (w'.setCell ⟨R z, i - q, none⟩ v').output = w'.output := ⟨rfl, rfl⟩
  have wgS := g3.of_block (s2 Wg (hWR z))
  have he : Eff L.tWg Wg R (Pv (i + 1)) (some (i - q)) w' (w'.setCell ⟨R z, i - q, none⟩ v') := by
    refine ⟨fun b hb _ _ hR => s2 b (hR z), fun _ => ⟨_, _, wgS⟩, fun z' c' y f hc' => ?_, by rw [size2]; exact Nat.le_refl _, os2.1, os2.2⟩
    by_cases e : z' = z
    · subst e
      rw [hc] at hc'
      cases hc'
      exact ⟨_, s1, by simp, fun j hj => Array.getElem?_setIfInBounds_ne fun e => hj (by rw [e])⟩
    · exact ⟨c', by rw [s2 _ (hzz z' e)]; exact hc', rfl, fun _ _ => rfl⟩
  have hr2 : HR0 S (D i).r (D i).w (w'.setCell ⟨R z, i - q, none⟩ v') := k3.eff (he := (⟨fun b hb _ _ hR => s2 b (hR z), fun _ => ⟨_, _, wgS⟩, he.row, he.size, he.os, he.output⟩ : Eff L.tWg Wg R (fun _ => False) (some (i - q)) w' (w'.setCell ⟨R z, i - q, none⟩ v'))) (fun _ _ _ => id)
    (fun x b hx hh => sd.hid x b hx (hh.imp (fun e => by rw [e]; exact g2) id)) ⟨_, _, g3⟩ (h.rowsOk hrw)
  obtain ⟨gs', μ', D', Pv', tag', a', ops, l1, l2, l3⟩ := h.stepW (x := ⟨(D i).s, (D i).spec, (D i).r, (D i).w, e, ⟨7, 0, 0⟩⟩) hq hi hrw hg hgo rfl rfl he hr2 (fun x b hx => .inl hx) (fun _ _ k => k) (LF.refl _)
    (hA hr2 (by simp [World.cell?, s1, hin]) fun z' hz => by simp [World.cell?, s2 _ (hzz z' hz)])
    (fun op hop => by
      obtain ⟨e, he, rfl⟩ := Go.Conc.mem_ofEvents hop
      obtain rfl := hes e he
      refine ⟨fun y hy => ?_, by simp [MemAct.ofEvent]⟩
      cases hy
      exact .inr (.inr ⟨rfl, z, rfl⟩))
    (by rw [hwd.2]; exact deafBehind_idle (fun e he => by rw [hes e he]; simp) 0) (fun hs => by simp at hs) wgS (fun tag' ht _ => mode_same (x := ⟨(D i).s, (D i).spec, (D i).r, (D i).w, e, ⟨7, 0, 0⟩⟩) hwd.1.symm g4 ht) (Nat.le_of_eq (vc_same (x := ⟨(D i).s, (D i).spec, (D i).r, (D i).w, e, ⟨7, 0, 0⟩⟩) hwd.1.symm)) hlt sl
  exact ⟨_, _, _, μ', _, _, D', Pv', _, _, _, _, _, _, _, tag', _, _, _, _, a', _, l1, l2, l3⟩
end
end Go.Proofs.Ytcobehkadhcjiaa

/-
  A broker's book, plain: what the keep laws ask.
-/
import Derived.Test.YtiolkeghgodggajBp
namespace Go.Proofs.Ytiolkeghgodggaj.Bo
namespace Plain

theorem begB_n (b : Bk) : (begB b).n = b.n := by unfold begB; split <;> rfl
theorem begB_cap (b : Bk) : (begB b).cap = b.cap := by unfold begB; split <;> rfl
theorem begB_ticks (b : Bk) : (begB b).ticks = b.ticks := by unfold begB; split <;> rfl
theorem begB_rounds (b : Bk) : (begB b).rounds = b.rounds := by unfold begB; split <;> rfl
theorem begB_wants (b : Bk) : (begB b).wants = b.wants := by unfold begB; split <;> rfl
theorem begB_given (b : Bk) : (begB b).given = b.given := by unfold begB; split <;> rfl
theorem begB_reserve (b : Bk) : (begB b).reserve = b.reserve := by unfold begB; split <;> rfl
theorem begB_ever (b : Bk) : (begB b).ever = b.ever := by unfold begB; split <;> rfl
theorem roundB_n (b : Bk) : (roundB b).n = b.n := begB_n b
theorem roundB_cap (b : Bk) : (roundB b).cap = b.cap := begB_cap b
theorem roundB_ticks (b : Bk) : (roundB b).ticks = b.ticks := begB_ticks b
theorem roundB_wants (b : Bk) : (roundB b).wants = b.wants := begB_wants b
theorem roundB_ever (b : Bk) : (roundB b).ever = b.ever := begB_ever b
theorem roundB_quotas (b : Bk) : (roundB b).quotas = (begB b).quotas := rfl
theorem roundB_rounds (b : Bk) : (roundB b).rounds = (b.rounds + 1) % b.ticks := by
  show ((begB b).rounds + 1) % (begB b).ticks = _
  rw [begB_rounds, begB_ticks]
theorem roundB_reserve (b : Bk) : (roundB b).reserve = b.reserve - sumL (mapN b.n (amt (begB b))) := by
  show (begB b).reserve - sumL (mapN (begB b).n (amt (begB b))) = _
  rw [begB_reserve, begB_n]
theorem roundB_given (b : Bk) {i : Nat} (hi : i < b.n) : (roundB b).given.getD i 0 = b.given.getD i 0 + amt (begB b) i := by
  show (mapN (begB b).n fun i => (begB b).given.getD i 0 + amt (begB b) i).getD i 0 = _
  rw [mapN_at (by rw [begB_n]; exact hi), begB_given]
theorem roundB_since (b : Bk) {i : Nat} (hi : i < b.n) : (roundB b).since.getD i 0 = (begB b).since.getD i 0 + amt (begB b) i := by
  show (mapN (begB b).n fun i => (begB b).since.getD i 0 + amt (begB b) i).getD i 0 = _
  rw [mapN_at (by rw [begB_n]; exact hi)]
theorem roundB_len {b : Bk} : (roundB b).given.length = b.n := by
  show (mapN (begB b).n _).length = _
  rw [mapN_len, begB_n]

/-! ### Nothing is given twice -/
/-- All that is asked of a branch in a round. -/
theorem sums_round {b : Bk} (h : Ok b) {i : Nat} (hi : i < b.n) : b.given.getD i 0 ≤ (roundB b).given.getD i 0 ∧ (roundB b).given.getD i 0 ≤ b.wants.getD i 0 ∧ (roundB b).since.getD i 0 ≤ b.cap ∧ (roundB b).since.getD i 0 = (begB b).since.getD i 0 + ((roundB b).given.getD i 0 - b.given.getD i 0) := by
  have hi' : i < (begB b).n := by rw [begB_n]; exact hi
  have ha := amt_bd h.beg hi'
  have hs := h.beg.si i hi'
  have hq := h.beg.qu i hi'
  rw [begB_wants, begB_given] at ha
  rw [begB_cap] at hq
  rw [roundB_given b hi, roundB_since b hi]
  omega
theorem sums_reserve {b : Bk} (h : Ok b) {k : Nat} (hk : k ≤ b.n) : 0 ≤ b.reserve - sumL (mapN k (amt (begB b))) := by
  have h1 := h.round.re
  rw [roundB_reserve] at h1
  have h2 := sumN_part (n := b.n) (k := k) (f := amt (begB b)) (fun i hi => (amt_bd h.beg (by rw [begB_n]; exact hi)).1) hk
  omega

/-! ### What one branch is given hangs on what it wants alone -/
/-- Two brokers who differ at most in what one branch wants and has. -/
structure Apart (w : Nat) (b c : Bk) : Prop where
  n : b.n = c.n
  cap : b.cap = c.cap
  tk : b.ticks = c.ticks
  rd : b.rounds = c.rounds
  ev : b.ever = c.ever
  qu : b.quotas = c.quotas
  wa : ∀ k, k ≠ w → b.wants.getD k 0 = c.wants.getD k 0
  gi : ∀ k, k ≠ w → b.given.getD k 0 = c.given.getD k 0
  si : ∀ k, k ≠ w → b.since.getD k 0 = c.since.getD k 0
theorem Apart.refl (w : Nat) (b : Bk) : Apart w b b := ⟨rfl, rfl, rfl, rfl, rfl, rfl, fun _ _ => rfl, fun _ _ => rfl, fun _ _ => rfl⟩
theorem Apart.beg {w : Nat} {b c : Bk} (h : Apart w b c) (hr : reportB b = reportB c) : Apart w (begB b) (begB c) := by
  unfold begB
  rw [← h.rd]
  by_cases h0 : b.rounds = 0
  · rw [if_pos h0, if_pos h0]
    unfold reportB at hr
    rw [← h.rd, if_pos h0, if_pos h0] at hr
    exact ⟨h.n, h.cap, h.tk, rfl, h.ev, by show splitL b.reserve _ = splitL c.reserve _; rw [hr, h.n, h.cap], h.wa, h.gi, fun k _ => by show (zeros b.n).getD k 0 = (zeros c.n).getD k 0; rw [zeros_at, zeros_at]⟩
  · rw [if_neg h0, if_neg h0]; exact h
theorem Apart.amt {w : Nat} {b c : Bk} (h : Apart w b c) {k : Nat} (hk : k ≠ w) : amt b k = amt c k := by
  unfold Plain.amt
  rw [h.wa k hk, h.gi k hk, h.si k hk, h.qu]
theorem mapN_out {n i : Nat} {f : Nat → Int} (h : n ≤ i) : (mapN n f).getD i 0 = 0 := by
  unfold mapN
  rw [List.getD_eq_getElem?_getD, List.getElem?_eq_none (by simp; omega)]; rfl
theorem Apart.give {w : Nat} {b c : Bk} (h : Apart w b c) : Apart w (giveB b) (giveB c) := by
  refine ⟨h.n, h.cap, h.tk, ?_, h.ev, h.qu, h.wa, fun k hk => ?_, fun k hk => ?_⟩
  · show (b.rounds + 1) % b.ticks = (c.rounds + 1) % c.ticks
    rw [h.rd, h.tk]
  · show (mapN b.n fun i => b.given.getD i 0 + Plain.amt b i).getD k 0 = (mapN c.n fun i => c.given.getD i 0 + Plain.amt c i).getD k 0
    rw [← h.n]
    by_cases hl : k < b.n
    · rw [mapN_at hl, mapN_at hl, h.gi k hk, h.amt hk]
    · rw [mapN_out (by omega), mapN_out (by omega)]
  · show (mapN b.n fun i => b.since.getD i 0 + Plain.amt b i).getD k 0 = (mapN c.n fun i => c.since.getD i 0 + Plain.amt c i).getD k 0
    rw [← h.n]
    by_cases hl : k < b.n
    · rw [mapN_at hl, mapN_at hl, h.si k hk, h.amt hk]
    · rw [mapN_out (by omega), mapN_out (by omega)]
theorem Apart.err {w : Nat} {b c : Bk} (h : Apart w b c) (x : Ca) : caE b x = caE c x := by
  unfold caE
  rw [h.ev, h.n]
/-- The same call, and the same report. -/
theorem Apart.same {w : Nat} {b c : Bk} (h : Apart w b c) (hb : Ok b) (hc : Ok c) (x : Ca) (hr : (caT b x).report = (caT c x).report) : Apart w (caB b x) (caB c x) ∧ (x.kind = 3 → ∀ k, k ≠ w → (caT b x).grants.getD k 0 = (caT c x).grants.getD k 0) := by
  have he := h.err x
  unfold caB caT at *
  rw [← he] at hr ⊢
  by_cases h0 : caE b x ≠ 0
  · rw [if_pos h0, if_pos h0, if_pos h0, if_pos h0]; exact ⟨h, fun _ _ _ => rfl⟩
  rw [if_neg h0, if_neg h0] at hr
  rw [if_neg h0, if_neg h0, if_neg h0, if_neg h0]
  by_cases h3 : x.kind = 3
  · rw [if_pos h3, if_pos h3] at hr
    rw [if_pos h3, if_pos h3, if_pos h3, if_pos h3]
    have g := (h.beg hr).give
    exact ⟨g, fun _ => g.gi⟩
  rw [if_neg h3, if_neg h3]
  refine ⟨?_, fun e => absurd e h3⟩
  by_cases h1 : x.kind = 1
  · rw [if_pos h1, if_pos h1]
    exact ⟨h.n, h.cap, h.tk, h.rd, by show b.ever + _ = c.ever + _; rw [h.ev], h.qu, h.wa, h.gi, h.si⟩
  · rw [if_neg h1, if_neg h1]
    obtain ⟨_, x1, x2, _, _⟩ := caE_want (Classical.not_not.1 h0) h3 h1
    have hwb : x.who.toNat < b.wants.length := by rw [hb.lw]; omega
    have hwc : x.who.toNat < c.wants.length := by rw [hc.lw, ← h.n]; omega
    refine ⟨h.n, h.cap, h.tk, h.rd, h.ev, h.qu, fun k hk => ?_, h.gi, h.si⟩
    show (b.wants.set _ _).getD k 0 = (c.wants.set _ _).getD k 0
    rw [getD_set _ _ _ _ hwb, getD_set _ _ _ _ hwc]
    by_cases e : k = x.who.toNat
    · rw [if_pos e, if_pos e, ← e, h.wa k hk]
    · rw [if_neg e, if_neg e, h.wa k hk]
/-- A call of the branch itself. -/
theorem Apart.own {w : Nat} {b c : Bk} (h : Apart w b c) (hb : Ok b) (hc : Ok c) (x y : Ca) (kx : x.kind = 2) (ky : y.kind = 2) (wx : x.who = w) (wy : y.who = w) (hw : w < b.n) : Apart w (caB b x) (caB c y) := by
  have one : ∀ {d : Bk} {z : Ca}, Ok d → z.kind = 2 → z.who = w → w < d.n → Apart w d (caB d z) := fun {d z} hd kz wz hw => by
    unfold caB
    by_cases h0 : caE d z ≠ 0
    · rw [if_pos h0]; exact Apart.refl w d
    rw [if_neg h0, if_neg (by omega), if_neg (by omega)]
    refine ⟨rfl, rfl, rfl, rfl, rfl, rfl, fun k hk => ?_, fun _ _ => rfl, fun _ _ => rfl⟩
    show d.wants.getD k 0 = (d.wants.set z.who.toNat _).getD k 0
    rw [getD_set _ _ _ _ (by rw [hd.lw]; omega), if_neg (by omega)]
  have h1 := one hb kx wx hw
  have h2 := one hc ky wy (by rw [← h.n]; exact hw)
  exact ⟨h1.n.symm.trans (h.n.trans h2.n), h1.cap.symm.trans (h.cap.trans h2.cap), h1.tk.symm.trans (h.tk.trans h2.tk), h1.rd.symm.trans (h.rd.trans h2.rd), h1.ev.symm.trans (h.ev.trans h2.ev), h1.qu.symm.trans (h.qu.trans h2.qu),
    fun k hk => (h1.wa k hk).symm.trans ((h.wa k hk).trans (h2.wa k hk)), fun k hk => (h1.gi k hk).symm.trans ((h.gi k hk).trans (h2.gi k hk)), fun k hk => (h1.si k hk).symm.trans ((h.si k hk).trans (h2.si k hk))⟩

/-! ### Who waits is served -/
/-- Of enough each one's share is something. -/
theorem split_some {R cap : Int} {n : Nat} (hc : 1 ≤ cap ∧ cap ≤ 1048576) (hR : (n : Int) ≤ R) {i : Nat} (hi : i < n) : 1 ≤ (splitL R (List.replicate n cap)).getD i 0 := by
  have hw := wm_rep (n := n) (cap := cap) ⟨by omega, hc.2⟩
  have hl : (List.replicate n cap).length = n := List.length_replicate
  have hR0 : 0 ≤ R := by omega
  have hb := split_bd hw hR0 i (by rw [hl]; exact hi)
  rw [rep_at hi] at hb
  refine Classical.byContradiction fun hlt => ?_
  have h0 : (splitL R (List.replicate n cap)).getD i 0 = 0 := by omega
  have hf := fun k (hk : k < n) => split_fair hw hR0 i k (by rw [hl]; exact hi) (by rw [hl]; exact hk) (by rw [rep_at hi]; omega)
  have hs := split_sum hw hR0
  have hsl : (splitL R (List.replicate n cap)).length = n := by rw [split_len, hl]
  rw [sumL_list hsl] at hs
  have hcap : (n : Int) ≤ sumL (List.replicate n cap) := by
    rw [sumL_list hl]
    have : ∀ m : Nat, m ≤ n → (m : Int) ≤ sumL (mapN m fun i => (List.replicate n cap).getD i 0) := fun m => by
      induction m with
      | zero => intro _; exact Int.le_refl _
      | succ m ih =>
        intro hm
        have h1 := ih (by omega)
        rw [sumN_succ, rep_at (by omega)]
        omega
    exact this n (Nat.le_refl _)
  have hlt2 : ∀ m : Nat, m ≤ n → i < m → sumL (mapN m fun k => (splitL R (List.replicate n cap)).getD k 0) ≤ (m : Int) - 1 := fun m => by
    induction m with
    | zero => intro _ h; omega
    | succ m ih =>
      intro hm him
      rw [sumN_succ]
      by_cases e : i = m
      · subst e
        rw [h0]
        have : ∀ p : Nat, p ≤ i → sumL (mapN p fun k => (splitL R (List.replicate n cap)).getD k 0) ≤ (p : Int) := fun p => by
          induction p with
          | zero => intro _; exact Int.le_refl _
          | succ p ih2 =>
            intro hp
            have h1 := ih2 (by omega)
            have h2 := hf p (by omega)
            rw [sumN_succ]
            omega
        have := this i (Nat.le_refl _)
        omega
      · have h1 := ih (by omega) (by omega)
        have h2 := hf m (by omega)
        omega
  have := hlt2 n (Nat.le_refl _) hi
  omega
/-- Rounds, one behind the other. -/
def roundsB (b : Bk) : Nat → Bk
  | 0 => b
  | k + 1 => roundB (roundsB b k)
theorem roundsB_ok {b : Bk} (h : Ok b) (k : Nat) : Ok (roundsB b k) := by
  induction k with
  | zero => exact h
  | succ k ih => exact ih.round
theorem roundsB_same (b : Bk) (k : Nat) : (roundsB b k).n = b.n ∧ (roundsB b k).cap = b.cap ∧ (roundsB b k).ticks = b.ticks ∧ (roundsB b k).wants = b.wants ∧ (roundsB b k).ever = b.ever := by
  induction k with
  | zero => exact ⟨rfl, rfl, rfl, rfl, rfl⟩
  | succ k ih =>
    obtain ⟨h1, h2, h3, h4, h5⟩ := ih
    exact ⟨(roundB_n _).trans h1, (roundB_cap _).trans h2, (roundB_ticks _).trans h3, (roundB_wants _).trans h4, (roundB_ever _).trans h5⟩
theorem roundsB_rounds {b : Bk} (h : Ok b) (k : Nat) : (roundsB b k).rounds = (b.rounds + k) % b.ticks := by
  induction k with
  | zero => rw [Nat.add_zero, Nat.mod_eq_of_lt h.rd]; rfl
  | succ k ih =>
    show (roundB (roundsB b k)).rounds = _
    rw [roundB_rounds, ih, (roundsB_same b k).2.2.1, Nat.mod_add_mod, Nat.add_assoc]
theorem roundsB_add (b : Bk) (k m : Nat) : roundsB b (k + m) = roundsB (roundsB b k) m := by
  induction m with
  | zero => rfl
  | succ m ih => show roundB (roundsB b (k + m)) = roundB (roundsB (roundsB b k) m); rw [ih]
theorem roundsB_mono {b : Bk} (h : Ok b) (k : Nat) {i : Nat} (hi : i < b.n) : b.given.getD i 0 ≤ (roundsB b k).given.getD i 0 := by
  induction k with
  | zero => exact Int.le_refl _
  | succ k ih =>
    have := (sums_round (roundsB_ok h k) (i := i) (by rw [(roundsB_same b k).1]; exact hi)).1
    exact Int.le_trans ih this
/-- An epoch in which there is something for each. -/
theorem serve_epoch {b : Bk} (h : Ok b) (h0 : b.rounds = 0) (hc : 1 ≤ b.cap) (hR : (b.n : Int) ≤ b.reserve) {i : Nat} (hi : i < b.n) : min (b.wants.getD i 0) (b.given.getD i 0 + 1) ≤ (roundB b).given.getD i 0 := by
  rw [roundB_given b hi]
  have hq : 1 ≤ (begB b).quotas.getD i 0 := by
    unfold begB
    rw [if_pos h0]
    exact split_some ⟨hc, h.cap.2⟩ hR hi
  have hs : (begB b).since.getD i 0 = 0 := by
    unfold begB
    rw [if_pos h0]
    exact zeros_at _ _
  unfold amt
  rw [begB_wants, begB_given, hs]
  omega
/-- All is given in the end. -/
theorem serve_all {b : Bk} (h : Ok b) (h0 : b.rounds = 0) (hc : 1 ≤ b.cap) (hen : (∀ i, i < b.n → b.wants.getD i 0 = 0) ∨ (b.n : Int) + sumL b.wants ≤ b.ever) (e : Nat) : ∀ i, i < b.n → min (b.wants.getD i 0) (e : Int) ≤ (roundsB b (e * b.ticks)).given.getD i 0 := by
  induction e with
  | zero =>
    intro i hi
    have h1 := (h.gi i hi).1
    have h2 := roundsB_mono h (0 * b.ticks) hi
    have h3 := h.wa i hi
    simp only [Int.ofNat_zero] at *
    omega
  | succ e ih =>
    intro i hi
    have ih := ih i hi
    have hk := roundsB_ok h (e * b.ticks)
    obtain ⟨s1, s2, s3, s4, s5⟩ := roundsB_same b (e * b.ticks)
    have hr : (roundsB b (e * b.ticks)).rounds = 0 := by rw [roundsB_rounds h, h0, Nat.zero_add, Nat.mul_mod_left]
    rcases hen with hz | hen
    · have h1 := (roundsB_ok h ((e + 1) * b.ticks)).gi i (by rw [(roundsB_same b _).1]; exact hi)
      have h2 := hz i hi
      omega
    have hres : ((roundsB b (e * b.ticks)).n : Int) ≤ (roundsB b (e * b.ticks)).reserve := by
      have h1 := hk.ev
      have h2 := sumN_le (n := b.n) (f := fun i => (roundsB b (e * b.ticks)).given.getD i 0) (g := fun i => b.wants.getD i 0) (fun j hj => by have := (hk.gi j (by rw [s1]; exact hj)).2; rw [s4] at this; exact this)
      rw [← sumL_list (by rw [hk.lg, s1]), ← sumL_list h.lw] at h2
      rw [s1]
      omega
    have hep := serve_epoch hk hr (by rw [s2]; exact hc) hres (i := i) (by rw [s1]; exact hi)
    have hm : (roundB (roundsB b (e * b.ticks))).given.getD i 0 ≤ (roundsB b ((e + 1) * b.ticks)).given.getD i 0 := by
      have e1 : (e + 1) * b.ticks = (e * b.ticks + 1) + (b.ticks - 1) := by have := h.tk; rw [Nat.add_mul, Nat.one_mul]; omega
      rw [e1, roundsB_add]
      exact roundsB_mono (b := roundsB b (e * b.ticks + 1)) (roundsB_ok h _) (b.ticks - 1) (by rw [(roundsB_same b _).1]; exact hi)
    rw [s4] at hep
    have := h.wa i hi
    push_cast
    omega

/-! ### Of a greater reserve nobody gets less -/
/-- In the first epoch. -/
structure More (b c : Bk) : Prop where
  n : b.n = c.n
  cap : b.cap = c.cap
  tk : b.ticks = c.ticks
  rd : b.rounds = c.rounds
  wa : b.wants = c.wants
  re : b.rounds = 0 → b.reserve ≤ c.reserve
  z1 : b.rounds = 0 → ∀ i, i < b.n → b.given.getD i 0 = 0
  z2 : c.rounds = 0 → ∀ i, i < c.n → c.given.getD i 0 = 0
  s1 : b.rounds ≠ 0 → ∀ i, i < b.n → b.since.getD i 0 = b.given.getD i 0
  s2 : c.rounds ≠ 0 → ∀ i, i < c.n → c.since.getD i 0 = c.given.getD i 0
  qu : b.rounds ≠ 0 → ∀ i, i < b.n → b.quotas.getD i 0 ≤ c.quotas.getD i 0
  gi : ∀ i, i < b.n → b.given.getD i 0 ≤ c.given.getD i 0
/-- Behind a round of the first epoch a branch has what it wants, as far as its share goes. -/
theorem first_given {b : Bk} (z : b.rounds = 0 → ∀ i, i < b.n → b.given.getD i 0 = 0) (s : b.rounds ≠ 0 → ∀ i, i < b.n → b.since.getD i 0 = b.given.getD i 0) {i : Nat} (hi : i < b.n) :
    (begB b).since.getD i 0 = b.given.getD i 0 ∧ (roundB b).given.getD i 0 = max (b.given.getD i 0) (min (b.wants.getD i 0) ((begB b).quotas.getD i 0)) := by
  have hs : (begB b).since.getD i 0 = b.given.getD i 0 := by
    unfold begB
    by_cases h : b.rounds = 0
    · rw [if_pos h, z h i hi]; exact zeros_at _ _
    · rw [if_neg h]; exact s h i hi
  refine ⟨hs, ?_⟩
  rw [roundB_given b hi]
  unfold amt
  rw [begB_wants, begB_given, hs]
  omega
theorem More.round {b c : Bk} (h : More b c) (hb : Ok b) (hlast : b.rounds + 1 < b.ticks) : More (roundB b) (roundB c) := by
  have hq : ∀ i, i < b.n → (begB b).quotas.getD i 0 ≤ (begB c).quotas.getD i 0 := fun i hi => by
    unfold begB
    rw [← h.rd]
    by_cases h0 : b.rounds = 0
    · rw [if_pos h0, if_pos h0]
      show (splitL b.reserve (List.replicate b.n b.cap)).getD i 0 ≤ (splitL c.reserve (List.replicate c.n c.cap)).getD i 0
      rw [← h.n, ← h.cap]
      exact split_grows (wm_rep hb.cap) hb.re (h.re h0) i (by rw [List.length_replicate]; exact hi)
    · rw [if_neg h0, if_neg h0]; exact h.qu h0 i hi
  have er : (roundB b).rounds = b.rounds + 1 := by rw [roundB_rounds, Nat.mod_eq_of_lt hlast]
  have er2 : (roundB c).rounds = b.rounds + 1 := by rw [roundB_rounds, ← h.rd, ← h.tk, Nat.mod_eq_of_lt hlast]
  have f1 := fun i (hi : i < b.n) => first_given h.z1 h.s1 hi
  have f2 := fun i (hi : i < c.n) => first_given h.z2 h.s2 hi
  refine ⟨by rw [roundB_n, roundB_n, h.n], by rw [roundB_cap, roundB_cap, h.cap], by rw [roundB_ticks, roundB_ticks, h.tk], by rw [er, er2], by rw [roundB_wants, roundB_wants, h.wa], fun e => by omega, fun e => by omega, fun e => by omega, fun _ i hi => ?_, fun _ i hi => ?_, fun _ i hi => ?_, fun i hi => ?_⟩
  · rw [roundB_n] at hi
    rw [roundB_since b hi, roundB_given b hi, (f1 i hi).1]
  · rw [roundB_n] at hi
    rw [roundB_since c hi, roundB_given c hi, (f2 i hi).1]
  · rw [roundB_n] at hi
    exact hq i hi
  · rw [roundB_n] at hi
    rw [(f1 i hi).2, (f2 i (by rw [← h.n]; exact hi)).2]
    have g1 := h.gi i hi
    have g2 := hq i hi
    rw [h.wa]
    omega
theorem More.want {b c : Bk} (h : More b c) (x : Ca) (h3 : x.kind ≠ 3) (h1 : x.kind ≠ 1) : More (caB b x) (caB c x) := by
  have he : caE b x = caE c x := by unfold caE; rw [if_neg h3, if_neg h1, if_neg h3, if_neg h1, h.n]
  unfold caB
  rw [← he]
  by_cases h0 : caE b x ≠ 0
  · rw [if_pos h0, if_pos h0]; exact h
  rw [if_neg h0, if_neg h0, if_neg h3, if_neg h3, if_neg h1, if_neg h1]
  exact ⟨h.n, h.cap, h.tk, h.rd, by show b.wants.set _ _ = c.wants.set _ _; rw [h.wa], h.re, h.z1, h.z2, h.s1, h.s2, h.qu, h.gi⟩
end Plain
end Go.Proofs.Ytiolkeghgodggaj.Bo

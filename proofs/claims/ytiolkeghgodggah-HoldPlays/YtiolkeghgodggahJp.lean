/-
  Holds, plain: what orders come to, one by one.
-/
import Derived.Test.YtiolkeghgodggahRows
import Derived.WalkKit
namespace Go.Proofs.Ytiolkeghgodggah.Hd
namespace Plain

/-- An order. -/
structure Or where
  kind : Int
  count : Int
  life : Int
  id : Int
  deriving DecidableEq, Inhabited
/-- What is told of an order. -/
structure St where
  code : Nat
  id : Int
  free : Int
  held : Int
  used : Int
  deriving DecidableEq, Inhabited
/-- What there is: of each hold that was made how much, and how many ticks it has. -/
structure Rk where
  free : Int
  used : Int
  cs : List Int
  ls : List Int
  deriving DecidableEq, Inhabited
def Rk.nil : Rk := ⟨0, 0, [], []⟩

/-- What those have that are open. -/
def heldL : List Int → List Int → Int
  | c :: cs, x :: ls => (if 0 < x then c else 0) + heldL cs ls
  | _, _ => 0
/-- What those had that a tick ends. -/
def overL : List Int → List Int → Int
  | c :: cs, x :: ls => (if x = 1 then c else 0) + overL cs ls
  | _, _ => 0
def opensL : List Int → Int
  | [] => 0
  | x :: ls => (if 0 < x then 1 else 0) + opensL ls
def tickL (ls : List Int) : List Int := ls.map fun x => if 0 < x then x - 1 else x
def Rk.held (r : Rk) : Int := heldL r.cs r.ls
def counted (k : Int) : Bool := decide (k = 1 ∨ k = 2 ∨ k = 3 ∨ k = 6)
/-- Which error an order comes to; 0: none. -/
def ordE (r : Rk) (o : Or) : Nat :=
  if o.kind < 1 ∨ 7 < o.kind then 3
  else if counted o.kind = true ∧ (o.count < 1 ∨ 1048576 < o.count) then 2
  else if o.kind = 1 then (if 1048576 < r.free + r.held + r.used + o.count then 12 else 0)
  else if o.kind = 2 then (if r.free < o.count then 9 else 0)
  else if o.kind = 6 then (if r.used < o.count then 9 else 0)
  else if o.kind = 3 then (if o.life < 1 ∨ 20 < o.life then 2 else if 4 ≤ opensL r.ls then 8 else if r.free < o.count then 9 else 0)
  else if o.kind = 7 then 0
  else (if o.id < 1 ∨ (r.cs.length : Int) < o.id then 6 else if r.ls.getD (o.id - 1).toNat 0 = 0 then 10 else 0)
/-- What it makes of what there is, where nothing is refused. -/
def ordR (r : Rk) (o : Or) : Rk :=
  if o.kind = 1 then { r with free := r.free + o.count }
  else if o.kind = 2 then { r with free := r.free - o.count, used := r.used + o.count }
  else if o.kind = 6 then { r with free := r.free + o.count, used := r.used - o.count }
  else if o.kind = 3 then { r with free := r.free - o.count, cs := r.cs ++ [o.count], ls := r.ls ++ [o.life] }
  else if o.kind = 4 then { r with used := r.used + r.cs.getD (o.id - 1).toNat 0, ls := r.ls.set (o.id - 1).toNat 0 }
  else if o.kind = 5 then { r with free := r.free + r.cs.getD (o.id - 1).toNat 0, ls := r.ls.set (o.id - 1).toNat 0 }
  else { r with free := r.free + overL r.cs r.ls, ls := tickL r.ls }
def stepR (r : Rk) (o : Or) : Rk := if ordE r o = 0 then ordR r o else r
def ordI (r : Rk) (o : Or) : Int := if ordE r o = 0 ∧ o.kind = 3 then r.cs.length + 1 else 0
def toldR (r : Rk) (o : Or) : St := ⟨ordE r o, ordI r o, (stepR r o).free, (stepR r o).held, (stepR r o).used⟩
/-- What all come to, from what there is on. -/
def playF (r : Rk) : List Or → List St
  | [] => []
  | o :: l => toldR r o :: playF (stepR r o) l
def runF (r : Rk) : List Or → Rk
  | [] => r
  | o :: l => runF (stepR r o) l
def holdE (l : List Or) : Nat := if 300 < l.length then 1 else 0
def holdV (l : List Or) : List St := if 300 < l.length then [] else playF Rk.nil l

theorem playF_len (r : Rk) (l : List Or) : (playF r l).length = l.length := by
  induction l generalizing r with
  | nil => rfl
  | cons o l ih => simp [playF, ih]
theorem runF_app (r : Rk) (a b : List Or) : runF r (a ++ b) = runF (runF r a) b := by
  induction a generalizing r with
  | nil => rfl
  | cons o a ih => simp only [List.cons_append, runF, ih]
theorem playF_app (r : Rk) (a b : List Or) : playF r (a ++ b) = playF r a ++ playF (runF r a) b := by
  induction a generalizing r with
  | nil => rfl
  | cons o a ih => simp only [List.cons_append, playF, runF, ih]
theorem runF_take (r : Rk) (l : List Or) (k : Nat) (hk : k < l.length) : runF r (l.take (k + 1)) = stepR (runF r (l.take k)) (l.getD k default) := by
  rw [List.take_succ_eq_append_getElem hk, runF_app, List.getD_eq_getElem?_getD, List.getElem?_eq_getElem hk]
  rfl
theorem playF_at (r : Rk) (l : List Or) (k : Nat) (hk : k < l.length) : (playF r l).getD k default = toldR (runF r (l.take k)) (l.getD k default) := by
  induction l generalizing r k with
  | nil => simp at hk
  | cons o l ih =>
    cases k with
    | zero => rfl
    | succ k => simpa [playF, runF] using ih (stepR r o) k (by simpa using hk)
theorem playF_take (r : Rk) (l : List Or) (k : Nat) (hk : k < l.length) : playF r (l.take (k + 1)) = playF r (l.take k) ++ [toldR (runF r (l.take k)) (l.getD k default)] := by
  rw [List.take_succ_eq_append_getElem hk, playF_app, List.getD_eq_getElem?_getD, List.getElem?_eq_getElem hk]
  rfl
theorem holdV_len (l : List Or) : (holdV l).length = if 300 < l.length then 0 else l.length := by
  unfold holdV
  split
  · rfl
  · exact playF_len _ _

theorem heldL_nonneg {cs ls : List Int} (h : ∀ c, c ∈ cs → 0 ≤ c) : 0 ≤ heldL cs ls := by
  induction cs generalizing ls with
  | nil => simp [heldL]
  | cons c cs ih =>
    cases ls with
    | nil => simp [heldL]
    | cons x ls =>
      have h1 := h c (List.mem_cons_self ..)
      have h2 := ih (ls := ls) fun d hd => h d (List.mem_cons_of_mem _ hd)
      simp only [heldL]
      split <;> omega
theorem overL_nonneg {cs ls : List Int} (h : ∀ c, c ∈ cs → 0 ≤ c) : 0 ≤ overL cs ls := by
  induction cs generalizing ls with
  | nil => simp [overL]
  | cons c cs ih =>
    cases ls with
    | nil => simp [overL]
    | cons x ls =>
      have h1 := h c (List.mem_cons_self ..)
      have h2 := ih (ls := ls) fun d hd => h d (List.mem_cons_of_mem _ hd)
      simp only [overL]
      split <;> omega
/-- A tick: what was held is held or over. -/
theorem heldL_tick (cs ls : List Int) : heldL cs (tickL ls) + overL cs ls = heldL cs ls := by
  induction cs generalizing ls with
  | nil => simp [heldL, overL]
  | cons c cs ih =>
    cases ls with
    | nil => simp [heldL, overL, tickL]
    | cons x ls =>
      have := ih ls
      simp only [tickL, List.map_cons] at this ⊢
      simp only [heldL, overL]
      by_cases h1 : x = 1
      · subst h1; simp; omega
      · by_cases h2 : 0 < x
        · rw [if_pos h2, if_pos (show 0 < x - 1 by omega), if_neg h1, if_pos h2]; omega
        · rw [if_neg h2, if_neg h2, if_neg h1]; omega
theorem heldL_snoc (cs ls : List Int) (c x : Int) (h : cs.length = ls.length) (hx : 0 < x) : heldL (cs ++ [c]) (ls ++ [x]) = heldL cs ls + c := by
  induction cs generalizing ls with
  | nil =>
    have : ls = [] := List.length_eq_zero_iff.1 h.symm
    subst this
    simp [heldL, hx]
  | cons d cs ih =>
    cases ls with
    | nil => simp at h
    | cons y ls =>
      simp only [List.cons_append, heldL, ih ls (by simpa using h)]; omega
theorem heldL_set (cs ls : List Int) (i : Nat) (h : cs.length = ls.length) (hi : i < ls.length) (hx : 0 < ls.getD i 0) : heldL cs (ls.set i 0) + cs.getD i 0 = heldL cs ls := by
  induction cs generalizing ls i with
  | nil => simp at h; omega
  | cons c cs ih =>
    cases ls with
    | nil => simp at hi
    | cons y ls =>
      cases i with
      | zero =>
        have hy : 0 < y := by simpa using hx
        simp [heldL, hy]; omega
      | succ i =>
        have := ih ls i (by simpa using h) (by simpa using hi) (by simpa using hx)
        simp only [List.set_cons_succ, heldL, List.getD_cons_succ]; omega
theorem opensL_snoc (ls : List Int) (x : Int) : opensL (ls ++ [x]) = opensL ls + if 0 < x then 1 else 0 := by
  induction ls with
  | nil => simp [opensL]
  | cons y ls ih => simp only [List.cons_append, opensL, ih]; omega
theorem opensL_nonneg (ls : List Int) : 0 ≤ opensL ls := by
  induction ls with
  | nil => exact Int.le_refl _
  | cons y ls ih => simp only [opensL]; split <;> omega
theorem opensL_le (ls : List Int) : opensL ls ≤ ls.length := by
  induction ls with
  | nil => exact Int.le_refl _
  | cons y ls ih => simp only [opensL, List.length_cons]; split <;> omega
theorem opensL_tick (ls : List Int) : opensL (tickL ls) ≤ opensL ls := by
  induction ls with
  | nil => exact Int.le_refl _
  | cons y ls ih =>
    simp only [tickL, List.map_cons] at ih ⊢
    simp only [opensL]
    by_cases h : 0 < y
    · rw [if_pos h, if_pos h]; split <;> omega
    · rw [if_neg h, if_neg h]; omega
theorem opensL_set (ls : List Int) (i : Nat) : opensL (ls.set i 0) ≤ opensL ls := by
  induction ls generalizing i with
  | nil => exact Int.le_refl _
  | cons y ls ih =>
    cases i with
    | zero => simp only [List.set_cons_zero, opensL]; split <;> (try split) <;> omega
    | succ i => have := ih i; simp only [List.set_cons_succ, opensL]; omega
/-- All that what is told rests on: numbers in their bounds; what is free, held and used is what was gained. -/
structure Hv (r : Rk) (g : Int) : Prop where
  fr : 0 ≤ r.free
  us : 0 ≤ r.used
  ln : r.cs.length = r.ls.length
  ct : ∀ c, c ∈ r.cs → 1 ≤ c ∧ c ≤ 1048576
  lf : ∀ x, x ∈ r.ls → 0 ≤ x ∧ x ≤ 20
  sm : r.free + r.held + r.used = g
  gb : 0 ≤ g ∧ g ≤ 1048576
  op : opensL r.ls ≤ 4
theorem Hv.nil : Hv Rk.nil 0 := ⟨Int.le_refl _, Int.le_refl _, rfl, (fun c h => nomatch h), (fun c h => nomatch h), rfl, ⟨Int.le_refl _, by omega⟩, by decide⟩
theorem Hv.held {r : Rk} {g : Int} (h : Hv r g) : 0 ≤ r.held := heldL_nonneg fun c hc => by have := h.ct c hc; omega
/-- What an order has gained. -/
def gainO (r : Rk) (o : Or) : Int := if o.kind = 1 ∧ ordE r o = 0 then o.count else 0
theorem mem_set_or {l : List Int} {i : Nat} {x y : Int} (h : x ∈ l.set i y) : x ∈ l ∨ x = y := by
  rcases List.mem_or_eq_of_mem_set h with h | h
  · exact .inl h
  · exact .inr h
theorem getD_mem {ls : List Int} {i : Nat} (h : ls.getD i 0 ≠ 0) : i < ls.length ∧ ls.getD i 0 ∈ ls := by
  by_cases hi : i < ls.length
  · refine ⟨hi, ?_⟩
    rw [List.getD_eq_getElem?_getD, List.getElem?_eq_getElem hi]
    exact List.getElem_mem _
  · rw [List.getD_eq_getElem?_getD, List.getElem?_eq_none (by omega)] at h
    exact absurd rfl h
theorem Hv.step {r : Rk} {g : Int} (h : Hv r g) (o : Or) : Hv (stepR r o) (g + gainO r o) := by
  unfold stepR gainO
  by_cases ne : ordE r o ≠ 0
  · rw [if_neg ne, if_neg (fun x => ne x.2), Int.add_zero]; exact h
  have e : ordE r o = 0 := Classical.not_not.1 ne
  clear ne
  rw [if_pos e]
  have hh := h.held
  have sm := h.sm
  have fr := h.fr
  have us := h.us
  have gb := h.gb
  unfold Rk.held at hh sm
  have e' := e
  unfold ordE at e'
  have nk : ¬ (o.kind < 1 ∨ 7 < o.kind) := by
    intro x; rw [if_pos x] at e'; omega
  rw [if_neg nk] at e'
  have nc : ¬ (counted o.kind = true ∧ (o.count < 1 ∨ 1048576 < o.count)) := by
    intro x; rw [if_pos x] at e'; omega
  rw [if_neg nc] at e'
  unfold counted at nc
  rw [decide_eq_true_iff] at nc
  unfold Rk.held at e'
  unfold ordR
  by_cases k1 : o.kind = 1
  · rw [if_pos k1] at e' ⊢
    rw [if_pos ⟨k1, e⟩]
    have e2 : ¬ 1048576 < r.free + heldL r.cs r.ls + r.used + o.count := by intro x; rw [if_pos x] at e'; omega
    exact ⟨by show 0 ≤ r.free + o.count; omega, us, h.ln, h.ct, h.lf, by show r.free + o.count + heldL r.cs r.ls + r.used = _; omega, by omega, h.op⟩
  rw [if_neg k1] at e' ⊢
  rw [show (if o.kind = 1 ∧ ordE r o = 0 then o.count else 0) = 0 from if_neg (fun x => k1 x.1), Int.add_zero]
  by_cases k2 : o.kind = 2
  · rw [if_pos k2] at e' ⊢
    have e2 : ¬ r.free < o.count := by intro x; rw [if_pos x] at e'; omega
    exact ⟨by show 0 ≤ r.free - o.count; omega, by show 0 ≤ r.used + o.count; omega, h.ln, h.ct, h.lf, by show r.free - o.count + heldL r.cs r.ls + (r.used + o.count) = _; omega, gb, h.op⟩
  rw [if_neg k2] at e' ⊢
  by_cases k6 : o.kind = 6
  · rw [if_pos k6] at e' ⊢
    have e2 : ¬ r.used < o.count := by intro x; rw [if_pos x] at e'; omega
    exact ⟨by show 0 ≤ r.free + o.count; omega, by show 0 ≤ r.used - o.count; omega, h.ln, h.ct, h.lf, by show r.free + o.count + heldL r.cs r.ls + (r.used - o.count) = _; omega, gb, h.op⟩
  rw [if_neg k6] at e' ⊢
  by_cases k3 : o.kind = 3
  · rw [if_pos k3] at e' ⊢
    have e2 : ¬ (o.life < 1 ∨ 20 < o.life) := by intro x; rw [if_pos x] at e'; omega
    rw [if_neg e2] at e'
    have e3 : ¬ 4 ≤ opensL r.ls := by intro x; rw [if_pos x] at e'; omega
    rw [if_neg e3] at e'
    have e4 : ¬ r.free < o.count := by intro x; rw [if_pos x] at e'; omega
    refine ⟨by show 0 ≤ r.free - o.count; omega, us, by simp [h.ln], fun c hc => ?_, fun x hx => ?_, ?_, gb, ?_⟩
    · rcases List.mem_append.1 hc with hc | hc
      · exact h.ct c hc
      · have : c = o.count := by simpa using hc
        omega
    · rcases List.mem_append.1 hx with hx | hx
      · exact h.lf x hx
      · have : x = o.life := by simpa using hx
        omega
    · show r.free - o.count + heldL (r.cs ++ [o.count]) (r.ls ++ [o.life]) + r.used = g
      rw [heldL_snoc _ _ _ _ h.ln (by omega)]; omega
    · show opensL (r.ls ++ [o.life]) ≤ 4
      rw [opensL_snoc]; split <;> omega
  rw [if_neg k3] at e' ⊢
  by_cases k7 : o.kind = 7
  · rw [if_neg (by omega), if_neg (by omega)]
    have ht := heldL_tick r.cs r.ls
    have ho := overL_nonneg (cs := r.cs) (ls := r.ls) fun c hc => by have := h.ct c hc; omega
    refine ⟨by show 0 ≤ r.free + overL r.cs r.ls; omega, us, by simp [tickL, h.ln], h.ct, fun x hx => ?_, ?_, gb, ?_⟩
    · obtain ⟨y, hy, rfl⟩ := List.mem_map.1 hx
      have := h.lf y hy
      split <;> omega
    · show r.free + overL r.cs r.ls + heldL r.cs (tickL r.ls) + r.used = g
      omega
    · show opensL (tickL r.ls) ≤ 4
      have := opensL_tick r.ls
      have := h.op
      omega
  rw [if_neg k7] at e'
  have e2 : ¬ (o.id < 1 ∨ (r.cs.length : Int) < o.id) := by intro x; rw [if_pos x] at e'; omega
  rw [if_neg e2] at e'
  have e3 : ¬ r.ls.getD (o.id - 1).toNat 0 = 0 := by intro x; rw [if_pos x] at e'; omega
  obtain ⟨hi, hm⟩ := getD_mem e3
  have hp := h.lf _ hm
  have hs := heldL_set r.cs r.ls (o.id - 1).toNat h.ln hi (by omega)
  have hc := h.ct (r.cs.getD (o.id - 1).toNat 0) (by
    rw [List.getD_eq_getElem?_getD, List.getElem?_eq_getElem (by rw [h.ln]; exact hi)]
    exact List.getElem_mem _)
  have hos := opensL_set r.ls (o.id - 1).toNat
  have op := h.op
  have lfs : ∀ x, x ∈ r.ls.set (o.id - 1).toNat 0 → 0 ≤ x ∧ x ≤ 20 := fun x hx => by
    rcases mem_set_or hx with hx | rfl
    · exact h.lf x hx
    · omega
  by_cases k4 : o.kind = 4
  · rw [if_pos k4]
    exact ⟨fr, by show 0 ≤ r.used + r.cs.getD (o.id - 1).toNat 0; omega, by simp [h.ln], h.ct, lfs, by show r.free + heldL r.cs (r.ls.set (o.id - 1).toNat 0) + (r.used + r.cs.getD (o.id - 1).toNat 0) = g; omega, gb, by show opensL (r.ls.set _ 0) ≤ 4; omega⟩
  · rw [if_neg k4, if_pos (by omega)]
    exact ⟨by show 0 ≤ r.free + r.cs.getD (o.id - 1).toNat 0; omega, us, by simp [h.ln], h.ct, lfs, by show r.free + r.cs.getD (o.id - 1).toNat 0 + heldL r.cs (r.ls.set (o.id - 1).toNat 0) + r.used = g; omega, gb, by show opensL (r.ls.set _ 0) ≤ 4; omega⟩
/-- What all orders have gained, from what there is on. -/
def gainF (r : Rk) : List Or → Int
  | [] => 0
  | o :: l => gainO r o + gainF (stepR r o) l
theorem Hv.run {r : Rk} {g : Int} (h : Hv r g) (l : List Or) : Hv (runF r l) (g + gainF r l) := by
  induction l generalizing r g with
  | nil => simpa [runF, gainF] using h
  | cons o l ih =>
    have := ih (h.step o)
    simp only [runF, gainF]
    rw [← Int.add_assoc]
    exact this
theorem gainF_app (r : Rk) (a b : List Or) : gainF r (a ++ b) = gainF r a + gainF (runF r a) b := by
  induction a generalizing r with
  | nil => simp [gainF, runF]
  | cons o a ih => simp only [List.cons_append, gainF, runF, ih]; omega
theorem gainF_take (r : Rk) (l : List Or) (k : Nat) (hk : k < l.length) : gainF r (l.take (k + 1)) = gainF r (l.take k) + gainO (runF r (l.take k)) (l.getD k default) := by
  rw [List.take_succ_eq_append_getElem hk, gainF_app, List.getD_eq_getElem?_getD, List.getElem?_eq_getElem hk]
  simp [gainF]
/-- What is refused changes nothing. -/
theorem stepR_no {r : Rk} {o : Or} (h : ordE r o ≠ 0) : stepR r o = r := if_neg h
end Plain
end Go.Proofs.Ytiolkeghgodggah.Hd

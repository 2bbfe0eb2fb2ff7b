/-
  Clocks as lists of numbers, and the events of a play: plain, no program in it.
-/
namespace Go.Proofs.Ytlckhpfokijknae
namespace Plain

/-- May a number stand in a clock? -/
def okN (n : Int) : Bool := decide (0 ≤ n) && decide (n ≤ 1048576)
/-- May a clock be? -/
def okC (c : List Int) : Bool := (decide (1 ≤ c.length) && decide (c.length ≤ 8)) && c.all okN
/-- What two clocks come to: 0, or the error's number. -/
def cE (a b : List Int) : Nat := if okC a && okC b then (if a.length = b.length then 0 else 1) else 4
def joinL (a b : List Int) : List Int := (List.range a.length).map (fun i => max (a.getD i 0) (b.getD i 0))
def jV (a b : List Int) : List Int := if cE a b = 0 then joinL a b else []
/-- Is a number of a, among the first k, less than b's? -/
def lessK (a b : List Int) (k : Nat) : Bool := (List.range k).any (fun i => decide (a.getD i 0 < b.getD i 0))
def less (a b : List Int) : Bool := lessK a b a.length
def oV (a b : List Int) : Int := if cE a b = 0 then (if less a b && less b a then 2 else if less a b then -1 else if less b a then 1 else 0) else 0

theorem okN_iff (n : Int) : okN n = true ↔ 0 ≤ n ∧ n ≤ 1048576 := by simp [okN]
theorem okC_iff (c : List Int) : okC c = true ↔ (1 ≤ c.length ∧ c.length ≤ 8) ∧ ∀ n ∈ c, okN n = true := by simp [okC]
theorem joinL_len (a b : List Int) : (joinL a b).length = a.length := by simp [joinL]
theorem getD_map_range {α : Type} (f : Nat → α) (n i : Nat) (d : α) (h : i < n) : ((List.range n).map f).getD i d = f i := by
  simp [List.getD_eq_getElem?_getD, h]
theorem joinL_at (a b : List Int) (i : Nat) (h : i < a.length) : (joinL a b).getD i 0 = max (a.getD i 0) (b.getD i 0) := getD_map_range _ _ _ _ h
theorem lessK_iff (a b : List Int) (k : Nat) : lessK a b k = true ↔ ∃ i, i < k ∧ a.getD i 0 < b.getD i 0 := by simp [lessK]
theorem less_iff (a b : List Int) : less a b = true ↔ ∃ i, i < a.length ∧ a.getD i 0 < b.getD i 0 := lessK_iff _ _ _
theorem lessK_succ (a b : List Int) (k : Nat) : lessK a b (k + 1) = (lessK a b k || decide (a.getD k 0 < b.getD k 0)) := by simp [lessK, List.range_succ, List.any_append]

theorem getD_out {α : Type} (l : List α) (i : Nat) (d : α) (h : l.length ≤ i) : l.getD i d = d := by simp [List.getD_eq_getElem?_getD, List.getElem?_eq_none h]
theorem getD_set {α : Type} (l : List α) (w i : Nat) (x d : α) : (l.set w x).getD i d = if i = w ∧ w < l.length then x else l.getD i d := by
  simp only [List.getD_eq_getElem?_getD, List.getElem?_set]
  by_cases h : w = i
  · subst h
    by_cases h2 : w < l.length
    · simp [h2]
    · simp [h2]
  · have : ¬ (i = w ∧ w < l.length) := fun ⟨a, _⟩ => h a.symm
    rw [if_neg h, if_neg this]
theorem getD_snoc {α : Type} (l : List α) (x d : α) (i : Nat) : (l ++ [x]).getD i d = if i < l.length then l.getD i d else if i = l.length then x else d := by
  simp only [List.getD_eq_getElem?_getD, List.getElem?_append]
  by_cases h : i < l.length
  · rw [if_pos h, if_pos h]
  · rw [if_neg h, if_neg h]
    by_cases h2 : i = l.length
    · subst h2; simp
    · rw [if_neg h2, List.getElem?_eq_none (by simp; omega)]; rfl

/-! ## Events -/
abbrev Ev := Int × Int × Int
def ev (l : List Ev) (i : Nat) : Ev := l.getD i (0, 0, 0)
def kd (l : List Ev) (i : Nat) : Int := (ev l i).1
def wh (l : List Ev) (i : Nat) : Nat := (ev l i).2.1.toNat
def ofp (l : List Ev) (i : Nat) : Nat := (ev l i).2.2.toNat
/-- What an event comes to: 0, or the error's number. -/
def evE (sites : Int) (l : List Ev) (i : Nat) : Nat :=
  if (ev l i).1 ≠ 1 ∧ (ev l i).1 ≠ 2 ∧ (ev l i).1 ≠ 3 then 3
  else if (ev l i).2.1 < 0 ∨ sites ≤ (ev l i).2.1 then 2
  else if (ev l i).1 ≠ 3 then 0
  else if (ev l i).2.2 < 0 ∨ (i : Int) ≤ (ev l i).2.2 then 2
  else if kd l (ofp l i) ≠ 2 then 4 else 0
/-- The first that is not 0. -/
def firstE (f : Nat → Nat) : Nat → Nat
  | 0 => 0
  | n + 1 => if firstE f n = 0 then f n else firstE f n
theorem firstE_ok {f : Nat → Nat} {n : Nat} (h : ∀ j, j < n → f j = 0) : firstE f n = 0 := by
  induction n with
  | zero => rfl
  | succ n ih => unfold firstE; rw [if_pos (ih fun j hj => h j (by omega))]; exact h n (by omega)
theorem firstE_no {f : Nat → Nat} {n k : Nat} (h : ∀ j, j < k → f j = 0) (hk : k < n) (hf : f k ≠ 0) : firstE f n = f k := by
  induction n with
  | zero => omega
  | succ n ih =>
    unfold firstE
    by_cases e : k = n
    · subst e; rw [if_pos (firstE_ok h)]
    · have := ih (by omega); rw [this, if_neg hf]
def playE (sites : Int) (l : List Ev) : Nat := if sites < 1 ∨ 8 < sites then 2 else if 200 < l.length then 1 else firstE (evE sites l) l.length

theorem evE_wh {sites : Int} {l : List Ev} {i : Nat} (h : evE sites l i = 0) : 0 ≤ (ev l i).2.1 ∧ (ev l i).2.1 < sites := by
  unfold evE at h
  split at h
  · omega
  · split at h
    · omega
    · omega
theorem evE_kd {sites : Int} {l : List Ev} {i : Nat} (h : evE sites l i = 0) : kd l i = 1 ∨ kd l i = 2 ∨ kd l i = 3 := by
  unfold evE at h
  unfold kd
  split at h
  · omega
  · omega
theorem evE_of {sites : Int} {l : List Ev} {i : Nat} (h : evE sites l i = 0) (hk : kd l i = 3) : 0 ≤ (ev l i).2.2 ∧ (ev l i).2.2 < i ∧ kd l (ofp l i) = 2 := by
  unfold kd at hk
  unfold evE at h
  split at h
  · omega
  · split at h
    · omega
    · split at h
      · omega
      · split at h
        · omega
        · split at h
          · omega
          · omega

/-- What a site's clock is behind an event. -/
def base (l : List Ev) (now cs : List (List Int)) (i : Nat) : List Int :=
  if kd l i = 3 then joinL (now.getD (wh l i) []) (cs.getD (ofp l i) []) else now.getD (wh l i) []
def bump (c : List Int) (w : Nat) : List Int := c.set w (c.getD w 0 + 1)
/-- The sites' clocks and the events' behind i events. -/
def st (sites : Nat) (l : List Ev) : Nat → List (List Int) × List (List Int)
  | 0 => (List.replicate sites (List.replicate sites 0), [])
  | i + 1 =>
    ((st sites l i).1.set (wh l i) (bump (base l (st sites l i).1 (st sites l i).2 i) (wh l i)), (st sites l i).2 ++ [bump (base l (st sites l i).1 (st sites l i).2 i) (wh l i)])

/-- How many of the first events are of a site. -/
def cnt (l : List Ev) (s : Nat) : Nat → Nat
  | 0 => 0
  | n + 1 => cnt l s n + (if wh l n = s then 1 else 0)
theorem cnt_mono (l : List Ev) (s : Nat) {a b : Nat} (h : a ≤ b) : cnt l s a ≤ cnt l s b := by
  induction b with
  | zero => have : a = 0 := by omega
            subst this; exact Nat.le_refl _
  | succ b ih =>
    by_cases e : a = b + 1
    · subst e; exact Nat.le_refl _
    · have := ih (by omega)
      show cnt l s a ≤ cnt l s b + _
      omega
theorem cnt_own (l : List Ev) (j : Nat) : cnt l (wh l j) (j + 1) = cnt l (wh l j) j + 1 := by show cnt l (wh l j) j + _ = _; rw [if_pos rfl]
theorem rank_iff (l : List Ev) (j b : Nat) : cnt l (wh l j) j < cnt l (wh l j) b ↔ j < b := by
  constructor
  · intro h
    by_cases e : j < b
    · exact e
    · have := cnt_mono l (wh l j) (show b ≤ j by omega); omega
  · intro h
    have := cnt_mono l (wh l j) (show j + 1 ≤ b by omega)
    rw [cnt_own] at this; omega
theorem cnt_le (l : List Ev) (s n : Nat) : cnt l s n ≤ n := by
  induction n with
  | zero => exact Nat.le_refl _
  | succ n ih => unfold cnt; split <;> omega

/-- Does event i hang on k at one step? -/
def stepB (l : List Ev) (i k : Nat) : Bool := decide (wh l k = wh l i) || (decide (kd l i = 3) && decide (ofp l i = k))
/-- What the first events hang on. -/
def hangs (l : List Ev) (n : Nat) : Nat → List (List Bool)
  | 0 => []
  | i + 1 => hangs l n i ++ [(List.range n).map (fun j => decide (j = i) || (List.range i).any (fun k => stepB l i k && ((hangs l n i).getD k []).getD j false))]
theorem hangs_len (l : List Ev) (n i : Nat) : (hangs l n i).length = i := by
  induction i with
  | zero => rfl
  | succ i ih => unfold hangs; rw [List.length_append, ih]; rfl
def on (l : List Ev) (n i k j : Nat) : Bool := ((hangs l n i).getD k []).getD j false
theorem on_old (l : List Ev) (n i k j : Nat) (h : k < i) : on l n (i + 1) k j = on l n i k j := by
  unfold on; rw [hangs, getD_snoc, hangs_len, if_pos h]
theorem on_new (l : List Ev) (n i j : Nat) (hj : j < n) : on l n (i + 1) i j = true ↔ j = i ∨ ∃ k, k < i ∧ stepB l i k = true ∧ on l n i k j = true := by
  unfold on; rw [hangs, getD_snoc, hangs_len, if_neg (by omega), if_pos rfl, getD_map_range _ _ _ _ hj]; simp
theorem on_up (l : List Ev) (n k j : Nat) {i m : Nat} (h : k < i) (hm : i ≤ m) : on l n m k j = on l n i k j := by
  induction m with
  | zero => have : i = 0 := by omega
            omega
  | succ m ih =>
    by_cases e : i = m + 1
    · subst e; rfl
    · rw [on_old _ _ _ _ _ (by omega), ih (by omega)]

def N (sites : Nat) (l : List Ev) (i s t : Nat) : Int := ((st sites l i).1.getD s []).getD t 0
def V (sites : Nat) (l : List Ev) (i k t : Nat) : Int := ((st sites l i).2.getD k []).getD t 0

/-- What stands fast behind i events. -/
structure Good (sites : Nat) (l : List Ev) (n i : Nat) : Prop where
  nowLen : (st sites l i).1.length = sites
  rowLen : ∀ s, s < sites → ((st sites l i).1.getD s []).length = sites
  csLen : (st sites l i).2.length = i
  csRow : ∀ k, k < i → ((st sites l i).2.getD k []).length = sites
  nBd : ∀ s t, s < sites → 0 ≤ N sites l i s t ∧ N sites l i s t ≤ cnt l t i
  nOwn : ∀ s, s < sites → N sites l i s s = cnt l s i
  vBd : ∀ k t, k < i → 0 ≤ V sites l i k t ∧ V sites l i k t ≤ cnt l t (k + 1)
  vOwn : ∀ k, k < i → V sites l i k (wh l k) = cnt l (wh l k) (k + 1)
  vOn : ∀ k j, k < i → j < n → (on l n i k j = true ↔ (cnt l (wh l j) j : Int) < V sites l i k (wh l j))
  nOn : ∀ s j, s < sites → j < n → ((∃ k, k < i ∧ wh l k = s ∧ on l n i k j = true) ↔ (cnt l (wh l j) j : Int) < N sites l i s (wh l j))

theorem good_zero (sites : Nat) (l : List Ev) (n : Nat) : Good sites l n 0 := by
  have hz : ∀ s t, N sites l 0 s t = 0 := by
    intro s t
    unfold N st
    by_cases h : s < sites
    · by_cases h2 : t < sites
      · simp [List.getD_eq_getElem?_getD, h, h2]
      · simp [List.getD_eq_getElem?_getD, h, h2]
    · simp [List.getD_eq_getElem?_getD, h]
  refine ⟨by simp [st], ?_, rfl, fun k hk => by omega, fun s t _ => ⟨by rw [hz]; exact Int.le_refl _, by rw [hz]; omega⟩, fun s _ => by rw [hz]; rfl, fun k t hk => by omega, fun k hk => by omega, fun k j hk => by omega, ?_⟩
  · intro s hs
    simp [st, List.getD_eq_getElem?_getD, hs]
  · intro s j _ _
    rw [hz]
    constructor
    · rintro ⟨k, hk, _⟩; omega
    · intro h; omega

/-- The clock of the next event, number by number. -/
theorem base_len {sites : Nat} {l : List Ev} {n i : Nat} (g : Good sites l n i) (hw : wh l i < sites) :
    (base l (st sites l i).1 (st sites l i).2 i).length = sites := by
  unfold base
  split
  · rw [joinL_len]; exact g.rowLen _ hw
  · exact g.rowLen _ hw
theorem base_at {sites : Nat} {l : List Ev} {n i : Nat} (g : Good sites l n i) (hw : wh l i < sites) (ho : kd l i = 3 → ofp l i < i) (t : Nat) :
    (base l (st sites l i).1 (st sites l i).2 i).getD t 0 = if kd l i = 3 then max (N sites l i (wh l i) t) (V sites l i (ofp l i) t) else N sites l i (wh l i) t := by
  unfold base
  split
  · rename_i h
    by_cases ht : t < sites
    · rw [joinL_at _ _ _ (by rw [g.rowLen _ hw]; exact ht)]; rfl
    · rw [getD_out _ _ _ (by rw [joinL_len, g.rowLen _ hw]; omega)]
      unfold N V
      rw [getD_out _ _ _ (by rw [g.rowLen _ hw]; omega), getD_out _ t _ (by rw [g.csRow _ (ho h)]; omega)]; rfl
  · rfl
theorem bump_at (c : List Int) (w t : Nat) (h : w < c.length) : (bump c w).getD t 0 = c.getD t 0 + (if t = w then 1 else 0) := by
  unfold bump
  rw [getD_set]
  by_cases e : t = w
  · subst e; rw [if_pos ⟨rfl, h⟩, if_pos rfl]
  · rw [if_neg (fun h => e h.1), if_neg e]; omega
theorem bump_len (c : List Int) (w : Nat) : (bump c w).length = c.length := by simp [bump]

theorem good_step {sites : Nat} {l : List Ev} {n i : Nat} (g : Good sites l n i) (hi : i < n) (hw : wh l i < sites) (ho : kd l i = 3 → ofp l i < i) : Good sites l n (i + 1) := by
  have hbl := base_len g hw
  have hat := fun t => base_at g hw ho t
  obtain ⟨b, hb⟩ : ∃ b, b = base l (st sites l i).1 (st sites l i).2 i := ⟨_, rfl⟩
  rw [← hb] at hbl hat
  have hcl : (bump b (wh l i)).length = sites := by rw [bump_len, hbl]
  have e1 : (st sites l (i + 1)).1 = (st sites l i).1.set (wh l i) (bump b (wh l i)) := by rw [hb]; rfl
  have e2 : (st sites l (i + 1)).2 = (st sites l i).2 ++ [bump b (wh l i)] := by rw [hb]; rfl
  have hN : ∀ s t, N sites l (i + 1) s t = if s = wh l i then (bump b (wh l i)).getD t 0 else N sites l i s t := by
    intro s t
    unfold N
    rw [e1, getD_set, g.nowLen]
    by_cases e : s = wh l i
    · rw [if_pos ⟨e, hw⟩, if_pos e]
    · rw [if_neg (fun h => e h.1), if_neg e]
  have hVo : ∀ k t, k < i → V sites l (i + 1) k t = V sites l i k t := by
    intro k t hk
    unfold V
    rw [e2, getD_snoc, g.csLen, if_pos hk]
  have hVn : ∀ t, V sites l (i + 1) i t = (bump b (wh l i)).getD t 0 := by
    intro t
    unfold V
    rw [e2, getD_snoc, g.csLen, if_neg (by omega), if_pos rfl]
  have hbu : ∀ t, (bump b (wh l i)).getD t 0 = b.getD t 0 + (if t = wh l i then 1 else 0) := fun t => bump_at b _ t (by rw [hbl]; exact hw)
  have hb0 : ∀ t, N sites l i (wh l i) t ≤ b.getD t 0 := by
    intro t; rw [hat]; split <;> omega
  have hb1 : ∀ t, 0 ≤ b.getD t 0 ∧ b.getD t 0 ≤ cnt l t i := by
    intro t
    have h1 := g.nBd (wh l i) t hw
    rw [hat]
    split
    · rename_i h
      have h2 := g.vBd (ofp l i) t (ho h)
      have h3 := cnt_mono l t (show ofp l i + 1 ≤ i from ho h)
      omega
    · exact h1
  have hb2 : b.getD (wh l i) 0 = cnt l (wh l i) i := by
    have h1 := g.nOwn (wh l i) hw
    have h2 := hb0 (wh l i)
    have h3 := hb1 (wh l i)
    omega
  have hcnt : ∀ t, cnt l t (i + 1) = cnt l t i + (if t = wh l i then 1 else 0) := by
    intro t
    show cnt l t i + _ = _
    by_cases e : t = wh l i
    · rw [if_pos e.symm, if_pos e]
    · rw [if_neg (fun h => e h.symm), if_neg e]
  have hbon : ∀ j, j < n → ((cnt l (wh l j) j : Int) < b.getD (wh l j) 0 ↔ ∃ k, k < i ∧ stepB l i k = true ∧ on l n i k j = true) := by
    intro j hj
    have h1 := g.nOn (wh l i) j hw hj
    rw [hat]
    constructor
    · intro h
      by_cases c : (cnt l (wh l j) j : Int) < N sites l i (wh l i) (wh l j)
      · obtain ⟨k, hk, hs, hon⟩ := h1.2 c
        exact ⟨k, hk, by simp [stepB, hs], hon⟩
      · split at h
        · rename_i h3
          have := (g.vOn (ofp l i) j (ho h3) hj).2 (by omega)
          exact ⟨ofp l i, ho h3, by simp [stepB, h3], this⟩
        · exact absurd h c
    · rintro ⟨k, hk, hs, hon⟩
      simp only [stepB, Bool.or_eq_true, decide_eq_true_eq, Bool.and_eq_true] at hs
      rcases hs with hs | ⟨h3, hs⟩
      · have := h1.1 ⟨k, hk, hs, hon⟩
        split <;> omega
      · subst hs
        have := (g.vOn (ofp l i) j hk hj).1 hon
        rw [if_pos h3]; omega
  have hnew : ∀ j, j < n → (on l n (i + 1) i j = true ↔ (cnt l (wh l j) j : Int) < (bump b (wh l i)).getD (wh l j) 0) := by
    intro j hj
    rw [on_new _ _ _ _ hj, ← hbon j hj, hbu]
    by_cases e : wh l j = wh l i
    · rw [if_pos e]
      constructor
      · rintro (rfl | h)
        · rw [hb2]; omega
        · omega
      · intro h
        by_cases c : (cnt l (wh l j) j : Int) < b.getD (wh l j) 0
        · exact .inr c
        · left
          have h2 : cnt l (wh l j) j = cnt l (wh l i) i := by rw [e] at h c ⊢; rw [hb2] at h c; omega
          have h3 := rank_iff l j i
          have h4 := rank_iff l i j
          rw [e] at h3 h2
          omega
    · rw [if_neg e]
      constructor
      · rintro (rfl | h)
        · exact absurd rfl e
        · omega
      · intro h; right; omega
  refine ⟨by rw [e1, List.length_set]; exact g.nowLen, ?_, by rw [e2, List.length_append, g.csLen]; rfl, ?_, ?_, ?_, ?_, ?_, ?_, ?_⟩
  · intro s hs
    rw [e1, getD_set]
    split
    · exact hcl
    · exact g.rowLen s hs
  · intro k hk
    rw [e2, getD_snoc, g.csLen]
    by_cases c : k < i
    · rw [if_pos c]; exact g.csRow k c
    · rw [if_neg c, if_pos (by omega)]; exact hcl
  · intro s t hs
    rw [hN, hcnt]
    split
    · have := hb1 t
      rw [hbu]; split <;> omega
    · have := g.nBd s t hs
      split <;> omega
  · intro s hs
    rw [hN, hcnt]
    by_cases e : s = wh l i
    · rw [if_pos e, if_pos e, hbu, if_pos e, e, hb2]; rfl
    · rw [if_neg e, if_neg e]; exact g.nOwn s hs
  · intro k t hk
    by_cases c : k < i
    · rw [hVo k t c]; exact g.vBd k t c
    · have : k = i := by omega
      subst this
      have := hb1 t
      rw [hVn, hbu, hcnt]; split <;> omega
  · intro k hk
    by_cases c : k < i
    · rw [hVo k _ c]; exact g.vOwn k c
    · have : k = i := by omega
      subst this
      rw [hVn, hbu, hcnt, if_pos rfl, if_pos rfl, hb2]; rfl
  · intro k j hk hj
    by_cases c : k < i
    · rw [hVo k _ c, on_old _ _ _ _ _ c]; exact g.vOn k j c hj
    · have : k = i := by omega
      subst this
      rw [hVn]; exact hnew j hj
  · intro s j hs hj
    rw [hN]
    by_cases e : s = wh l i
    · rw [if_pos e]
      rw [← hnew j hj]
      constructor
      · rintro ⟨k, hk, hks, hon⟩
        by_cases c : k < i
        · rw [on_old _ _ _ _ _ c] at hon
          rw [on_new _ _ _ _ hj]
          exact .inr ⟨k, c, by simp [stepB, hks, e], hon⟩
        · have : k = i := by omega
          subst this; exact hon
      · intro h
        exact ⟨i, by omega, e.symm, h⟩
    · rw [if_neg e, ← g.nOn s j hs hj]
      constructor
      · rintro ⟨k, hk, hks, hon⟩
        by_cases c : k < i
        · exact ⟨k, c, hks, by rwa [on_old _ _ _ _ _ c] at hon⟩
        · have : k = i := by omega
          subst this; exact absurd hks.symm e
      · rintro ⟨k, hk, hks, hon⟩
        exact ⟨k, by omega, hks, by rwa [on_old _ _ _ _ _ hk]⟩

theorem good_all {sites : Nat} {l : List Ev} {n : Nat} : ∀ i, i ≤ n → (∀ k, k < i → evE sites l k = 0) → Good sites l n i := by
  intro i
  induction i with
  | zero => intro _ _; exact good_zero _ _ _
  | succ i ih =>
    intro hi hv
    have h := hv i (by omega)
    have hw := evE_wh h
    refine good_step (ih (by omega) fun k hk => hv k (by omega)) (by omega) (by unfold wh; omega) fun h3 => ?_
    have := evE_of h h3
    unfold ofp; omega

/-- How many of the first k events that an event hangs on are of a site. -/
def tally (l : List Ev) (f : Nat → Bool) (s : Nat) : Nat → Nat
  | 0 => 0
  | k + 1 => tally l f s k + (if f k = true ∧ wh l k = s then 1 else 0)
theorem tally_min (l : List Ev) (f : Nat → Bool) (s : Nat) (v : Nat) (n : Nat) (h : ∀ j, j < n → wh l j = s → (f j = true ↔ cnt l s j < v)) : tally l f s n = min v (cnt l s n) := by
  induction n with
  | zero => simp [tally, cnt]
  | succ n ih =>
    have ih := ih fun j hj => h j (by omega)
    unfold tally cnt
    rw [ih]
    by_cases e : wh l n = s
    · have := h n (by omega) e
      by_cases c : f n = true
      · rw [if_pos ⟨c, e⟩, if_pos e]; have := this.1 c; omega
      · rw [if_neg (fun h => c h.1), if_pos e]
        have : ¬ cnt l s n < v := fun hh => c (this.2 hh)
        omega
    · rw [if_neg (fun h => e h.2), if_neg e]; omega

/-- An event's clock counts, of each site, the events that it hangs on. -/
theorem counted {sites : Nat} {l : List Ev} {n i k : Nat} (g : Good sites l n i) (hi : i ≤ n) (hk : k < i) (s : Nat) :
    V sites l i k s = (tally l (on l n i k) s n : Int) := by
  have h1 := g.vBd k s hk
  have h2 := cnt_mono l s (show k + 1 ≤ n by omega)
  rw [tally_min l _ s (V sites l i k s).toNat n]
  · omega
  · intro j hj e
    have := g.vOn k j hk hj
    rw [e] at this
    rw [this]; omega
end Plain
end Go.Proofs.Ytlckhpfokijknae

/-
  Shares, plain: what is refused, what the search finds, and the document's rounds place by place.
-/
import Derived.Test.YtiolkeghgodggajHq
namespace Go.Proofs.Ytiolkeghgodggaj.Bo
namespace Plain

/-- A number that is no count. -/
def badC (x : Int) : Bool := decide (x < 0 ∨ 1048576 < x)
theorem badC_no {x : Int} : badC x = false ↔ 0 ≤ x ∧ x ≤ 1048576 := by
  unfold badC; rw [decide_eq_false_iff_not]; omega
theorem badC_yes {x : Int} : badC x = true ↔ x < 0 ∨ 1048576 < x := by
  unfold badC; rw [decide_eq_true_iff]
def splitE (t : Int) (ws : List Int) : Nat := if 16 < ws.length then 1 else if badC t || ws.any badC then 2 else 0
def splitV (t : Int) (ws : List Int) : List Int := if splitE t ws = 0 then splitL t ws else []
theorem any_no {ws : List Int} (h : ws.any badC = false) : Wm ws := fun w hw => by
  have := List.any_eq_false.1 h w hw
  exact badC_no.1 (by simpa using this)
theorem wm_any {ws : List Int} (h : Wm ws) : ws.any badC = false := by
  rw [List.any_eq_false]
  intro w hw e
  rw [badC_no.2 (h w hw)] at e
  cases e
theorem splitE_zero {t : Int} {ws : List Int} (h : splitE t ws = 0) : ws.length ≤ 16 ∧ (0 ≤ t ∧ t ≤ 1048576) ∧ Wm ws := by
  unfold splitE at h
  split at h
  · omega
  · split at h
    · omega
    · rename_i h1 h2
      simp only [Bool.or_eq_true, not_or, Bool.not_eq_true] at h2
      exact ⟨by omega, badC_no.1 h2.1, any_no h2.2⟩
theorem splitE_ok {t : Int} {ws : List Int} (h1 : ws.length ≤ 16) (h2 : 0 ≤ t ∧ t ≤ 1048576) (h3 : Wm ws) : splitE t ws = 0 := by
  unfold splitE
  rw [if_neg (by omega), badC_no.2 h2, wm_any h3]
  rfl
theorem splitV_ok {t : Int} {ws : List Int} (h : splitE t ws = 0) : splitV t ws = splitL t ws := if_pos h
theorem splitV_no {t : Int} {ws : List Int} (h : splitE t ws ≠ 0) : splitV t ws = [] := if_neg h
theorem splitV_len (t : Int) (ws : List Int) : (splitV t ws).length ≤ 1000000 := by
  unfold splitV
  split
  · rename_i h
    have := splitE_zero h
    rw [split_len]; omega
  · simp

theorem sm_app (L : Int) (a b : List Int) : sm L (a ++ b) = sm L a + sm L b := by
  induction a with
  | nil => simp [sm]
  | cons w a ih => simp only [List.cons_append, sm, ih]; omega
theorem sm_next (L : Int) (ws : List Int) (k : Nat) (hk : k < ws.length) : sm L (ws.take (k + 1)) = sm L (ws.take k) + min (ws.getD k 0) L := by
  rw [take_next' ws k hk, sm_app]; simp [sm]
theorem wm_take {ws : List Int} (h : Wm ws) (k : Nat) : Wm (ws.take k) := fun w hw => h w (List.mem_of_mem_take hw)
theorem sumL_le {ws : List Int} (h : Wm ws) : sumL ws ≤ 1048576 * ws.length := by
  induction ws with
  | nil => simp [sumL]
  | cons w ws ih => have := h.head; have := ih h.tail; simp only [sumL, List.length_cons]; omega
theorem sm_bd {L : Int} {ws : List Int} (h : Wm ws) (hL : 0 ≤ L) : 0 ≤ sm L ws ∧ sm L ws ≤ 1048576 * ws.length := by
  have h1 := sm_mono hL ws
  rw [sm_zero h] at h1
  have := sm_le L ws
  have := sumL_le h
  omega
theorem give_all {L : Int} (r : Int) {ws : List Int} (h : ∀ w, w ∈ ws → w ≤ L) : give L r ws = ws := by
  induction ws with
  | nil => rfl
  | cons w ws ih =>
    simp only [give]
    rw [if_pos (h w (List.mem_cons_self ..)), ih fun x hx => h x (List.mem_cons_of_mem _ hx)]
/-- What the search finds is the level. -/
theorem split_found {t : Int} {ws : List Int} (hw : Wm ws) (h0 : 0 ≤ t) (s : Nat) (hs : s ≤ 1048576) (h1 : ∀ i : Nat, i < s → decide (t < sm ((i : Int) + 1) ws) = false) (h2 : ∀ i : Nat, s ≤ i → i < 1048576 → decide (t < sm ((i : Int) + 1) ws) = true) :
    splitL t ws = give s (t - sm s ws) ws ∧ sm s ws ≤ t := by
  have a : sm s ws ≤ t := by
    cases s with
    | zero => rw [show ((0 : Nat) : Int) = 0 from rfl, sm_zero hw]; exact h0
    | succ s =>
      have := h1 s (by omega)
      rw [decide_eq_false_iff_not] at this
      rw [show ((s + 1 : Nat) : Int) = (s : Int) + 1 by omega]
      omega
  refine ⟨?_, a⟩
  by_cases c : s = 1048576
  · have hall : ∀ w, w ∈ ws → w ≤ (s : Int) := fun w hx => by have := (hw w hx).2; omega
    rw [give_all _ hall, split_enough]
    rw [← sm_full hall]; exact a
  · have := h2 s (Nat.le_refl _) (by omega)
    rw [decide_eq_true_iff, sm_succ] at this
    exact split_ones hw h0 (by omega) (by omega) (by omega)
/-- What is left for those from the k-th place on. -/
def lft (L r : Int) (ws : List Int) (k : Nat) : Int := max (r - cnt L (ws.take k)) 0
theorem lft_next (L r : Int) (ws : List Int) (k : Nat) (hk : k < ws.length) : lft L r ws (k + 1) = if L < ws.getD k 0 ∧ 0 < lft L r ws k then lft L r ws k - 1 else lft L r ws k := by
  unfold lft
  rw [cnt_next L ws k hk]
  by_cases c : L < ws.getD k 0
  · rw [if_pos c]
    by_cases d : 0 < max (r - cnt L (ws.take k)) 0
    · rw [if_pos ⟨c, d⟩]; omega
    · rw [if_neg (fun h => d h.2)]; omega
  · rw [if_neg c, if_neg (fun h => c h.1), Int.add_zero]
theorem lft_bd (L r : Int) (ws : List Int) (k : Nat) : 0 ≤ lft L r ws k ∧ (0 ≤ r → lft L r ws k ≤ r) := by
  unfold lft
  have := cnt_nonneg L (ws.take k)
  omega
theorem lft_zero (L r : Int) (ws : List Int) (h : 0 ≤ r) : lft L r ws 0 = r := by
  unfold lft
  simp [cnt]; omega
theorem give_here (L r : Int) (ws : List Int) (k : Nat) (hk : k < ws.length) (h : 0 ≤ r) : (give L r ws).getD k 0 = if ws.getD k 0 ≤ L then ws.getD k 0 else if 0 < lft L r ws k then L + 1 else L := by
  have e : ws = ws.take k ++ (ws.getD k 0 :: ws.drop (k + 1)) := by
    conv => lhs; rw [← List.take_append_drop k ws, List.drop_eq_getElem_cons hk]
    rw [List.getD_eq_getElem?_getD, List.getElem?_eq_getElem hk]; rfl
  have hl : (give L r (ws.take k)).length = k := by rw [give_len, List.length_take]; omega
  have e2 : give L r ws = give L r (ws.take k) ++ give L (lft L r ws k) (ws.getD k 0 :: ws.drop (k + 1)) := by
    conv => lhs; rw [e]
    rw [give_app L r _ _ h]; rfl
  rw [e2, List.getD_eq_getElem?_getD, List.getElem?_append_right (by omega), hl, Nat.sub_self]
  simp only [give]
  split
  · rfl
  · split <;> rfl

/-- How many of the first k still want more, where each has what out says. -/
def opn (ws out : List Int) : Nat → Int
  | 0 => 0
  | k + 1 => opn ws out k + if out.getD k 0 < ws.getD k 0 then 1 else 0
/-- The least that one of the first k still wants. -/
def stq (ws out : List Int) : Nat → Int
  | 0 => 0
  | k + 1 => if out.getD k 0 < ws.getD k 0 then (if stq ws out k = 0 ∨ ws.getD k 0 - out.getD k 0 < stq ws out k then ws.getD k 0 - out.getD k 0 else stq ws out k) else stq ws out k
theorem opn_bd (ws out : List Int) (k : Nat) : 0 ≤ opn ws out k ∧ opn ws out k ≤ k := by
  induction k with
  | zero => exact ⟨Int.le_refl _, Int.le_refl _⟩
  | succ k ih => simp only [opn]; split <;> omega
/-- Each has something between nothing and what it wants. -/
def Mid (ws out : List Int) : Prop := ∀ j, j < ws.length → 0 ≤ out.getD j 0 ∧ out.getD j 0 ≤ ws.getD j 0 ∧ ws.getD j 0 ≤ 1048576
theorem stq_bd {ws out : List Int} (h : Mid ws out) (k : Nat) (hk : k ≤ ws.length) : 0 ≤ stq ws out k ∧ stq ws out k ≤ 1048576 := by
  induction k with
  | zero => exact ⟨Int.le_refl _, by simp [stq]⟩
  | succ k ih =>
    have := ih (by omega)
    have := h k (by omega)
    simp only [stq]
    split
    · split <;> omega
    · omega
theorem mid_fill {L : Int} {ws : List Int} (h : Wm ws) (hL : 0 ≤ L) : Mid ws (fillL L ws) := fun j hj => by
  have := h _ (mem_getD hj)
  rw [fill_at L ws j hj]; omega
theorem mid_split {t : Int} {ws : List Int} (h : Wm ws) (h0 : 0 ≤ t) : Mid ws (splitL t ws) := fun j hj => by
  have := h _ (mem_getD hj)
  have := split_bd h h0 j hj
  omega
theorem opn_fill (L : Int) (ws : List Int) (k : Nat) (hk : k ≤ ws.length) : opn ws (fillL L ws) k = cnt L (ws.take k) := by
  induction k with
  | zero => rfl
  | succ k ih =>
    simp only [opn]
    rw [ih (by omega), cnt_next L ws k (by omega), fill_at L ws k (by omega)]
    by_cases c : L < ws.getD k 0
    · rw [if_pos c, if_pos (by omega)]
    · rw [if_neg c, if_neg (by omega)]
theorem stq_fill (L : Int) (ws : List Int) (k : Nat) (hk : k ≤ ws.length) : stq ws (fillL L ws) k = stp L (ws.take k) 0 := by
  induction k with
  | zero => rfl
  | succ k ih =>
    simp only [stq]
    rw [ih (by omega), stp_next L ws k (by omega), fill_at L ws k (by omega)]
    by_cases c : L < ws.getD k 0
    · rw [if_pos c, if_pos (by omega), show min (ws.getD k 0) L = L by omega]
    · rw [if_neg c, if_neg (by omega)]
/-- What one round leaves at a place: by steps, or by ones. -/
def upS (ws out : List Int) (s : Int) (j : Nat) : Int := if out.getD j 0 < ws.getD j 0 then out.getD j 0 + s else out.getD j 0
def upL (ws out : List Int) (s : Int) : List Int := (List.range ws.length).map (upS ws out s)
theorem upL_len (ws out : List Int) (s : Int) : (upL ws out s).length = ws.length := by simp [upL]
theorem upL_at (ws out : List Int) (s : Int) (j : Nat) (h : j < ws.length) : (upL ws out s).getD j 0 = upS ws out s j := by
  simp [upL, List.getD_eq_getElem?_getD, h]
theorem ext_getD {a b : List Int} (hl : a.length = b.length) (h : ∀ j, j < b.length → a.getD j 0 = b.getD j 0) : a = b := by
  apply List.ext_getElem hl
  intro i h1 h2
  have := h i h2
  simpa [List.getD_eq_getElem?_getD, h1, h2] using this
theorem up_fill {L s : Int} {ws : List Int} (h0 : 0 ≤ s) (h : ∀ w, w ∈ ws → L < w → s ≤ w - L) : upL ws (fillL L ws) s = fillL (L + s) ws := by
  refine ext_getD (by rw [upL_len, fill_len]) fun j hj => ?_
  rw [fill_len] at hj
  rw [upL_at _ _ _ _ hj, fill_at _ _ _ hj]
  unfold upS
  rw [fill_at _ _ _ hj]
  have h1 := h _ (mem_getD hj)
  by_cases c : L < ws.getD j 0
  · have := h1 c
    rw [if_pos (by omega)]; omega
  · rw [if_neg (by omega)]; omega
/-- By ones: to the first r of those that want more. -/
def onS (ws out : List Int) (r : Int) (j : Nat) : Int := if out.getD j 0 < ws.getD j 0 ∧ 0 < max (r - opn ws out j) 0 then out.getD j 0 + 1 else out.getD j 0
def onL (ws out : List Int) (r : Int) : List Int := (List.range ws.length).map (onS ws out r)
theorem onL_len (ws out : List Int) (s : Int) : (onL ws out s).length = ws.length := by simp [onL]
theorem onL_at (ws out : List Int) (s : Int) (j : Nat) (h : j < ws.length) : (onL ws out s).getD j 0 = onS ws out s j := by
  simp [onL, List.getD_eq_getElem?_getD, h]
theorem on_fill {L r : Int} {ws : List Int} (h0 : 0 ≤ r) : onL ws (fillL L ws) r = give L r ws := by
  refine ext_getD (by rw [onL_len, give_len]) fun j hj => ?_
  rw [give_len] at hj
  rw [onL_at _ _ _ _ hj, give_here L r ws j hj h0]
  unfold onS
  rw [opn_fill L ws j (by omega), fill_at _ _ _ hj]
  rw [show max (r - cnt L (ws.take j)) 0 = lft L r ws j from rfl]
  by_cases c : ws.getD j 0 ≤ L
  · rw [if_pos c, if_neg (by omega)]; omega
  · rw [if_neg c]
    by_cases d : 0 < lft L r ws j
    · rw [if_pos ⟨by omega, d⟩, if_pos d]; omega
    · rw [if_neg (fun h => d h.2), if_neg d]; omega

/-- How it stands ahead of a round: all filled up to a level, or done. -/
def Rd (t : Int) (ws : List Int) (T : Int) (out : List Int) : Prop :=
  0 ≤ T ∧ T ≤ 1048576 ∧ out.length = ws.length ∧ Mid ws out ∧ ((∃ L, 0 ≤ L ∧ out = fillL L ws ∧ T = t - sm L ws) ∨ (T = 0 ∧ out = splitL t ws))
theorem Rd.start {t : Int} {ws : List Int} (hw : Wm ws) (h0 : 0 ≤ t) (h1 : t ≤ 1048576) : Rd t ws t (List.replicate ws.length 0) := by
  rw [← fill_zero hw]
  exact ⟨h0, h1, fill_len _ _, mid_fill hw (Int.le_refl _), .inl ⟨0, Int.le_refl _, rfl, by rw [sm_zero hw]; omega⟩⟩
theorem take_all (ws : List Int) : ws.take ws.length = ws := List.take_of_length_le (Nat.le_refl _)
theorem Rd.done {t T : Int} {ws out : List Int} (hw : Wm ws) (h0 : 0 ≤ t) (h : Rd t ws T out) (hd : opn ws out ws.length = 0 ∨ T = 0) : out = splitL t ws := by
  obtain ⟨h1, _, _, _, ⟨L, hL, rfl, hT⟩ | ⟨_, h2⟩⟩ := h
  · rw [opn_fill L ws _ (Nat.le_refl _), take_all] at hd
    symm
    refine split_done hw h0 ?_
    rcases hd with hd | hd
    · exact .inl ⟨hd, by omega⟩
    · exact .inr (by omega)
  · exact h2
/-- A round that goes on: what the steps are. -/
theorem Rd.goes {t T : Int} {ws out : List Int} (hw : Wm ws) (h0 : 0 ≤ t) (h : Rd t ws T out) (hd : opn ws out ws.length ≠ 0) (hT : T ≠ 0) :
    0 < stq ws out ws.length ∧ 0 < opn ws out ws.length ∧
    (∀ s, 0 < s → s ≤ stq ws out ws.length → s * opn ws out ws.length ≤ T → Rd t ws (T - s * opn ws out ws.length) (upL ws out s)) ∧
    (T < opn ws out ws.length → Rd t ws 0 (onL ws out T)) := by
  obtain ⟨h1, h1b, _, hm, ⟨L, hL, rfl, hTe⟩ | ⟨h2, _⟩⟩ := h
  · have hb := opn_bd ws (fillL L ws) ws.length
    rw [opn_fill L ws _ (Nat.le_refl _), take_all] at hd hb ⊢
    rw [stq_fill L ws _ (Nat.le_refl _), take_all]
    obtain ⟨i1, i2, i3, i4⟩ := stp_ok L ws 0 (Int.le_refl _)
    have hp : 0 < cnt L ws := by omega
    refine ⟨i4 (.inr hp), hp, fun s hs hle hT2 => ?_, fun hlt => ?_⟩
    · have hall : ∀ w, w ∈ ws → L < w → s ≤ w - L := fun w hx hx2 => by have := i3 w hx hx2; omega
      have hnn : 0 ≤ s * cnt L ws := Int.mul_nonneg (by omega) (by omega)
      rw [up_fill (by omega) hall]
      have e := sm_step L s ws (by omega) hall
      exact ⟨by omega, by omega, fill_len _ _, mid_fill hw (by omega), .inl ⟨L + s, by omega, rfl, by omega⟩⟩
    · rw [on_fill h1]
      have e : splitL t ws = give L T ws := split_ones hw h0 h1 hlt (by omega)
      rw [← e]
      exact ⟨Int.le_refl _, by omega, split_len _ _, mid_split hw h0, .inr ⟨rfl, rfl⟩⟩
  · exact absurd h2 hT
end Plain
end Go.Proofs.Ytiolkeghgodggaj.Bo

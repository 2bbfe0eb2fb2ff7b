/-
  Goroutines among others: part 22 of what the law's own text rests on.
-/
import Derived.Test.YtcobehkadhcjiaaRows
import Derived.WalkKit
/-
  Shares, plain: the level, what each gets, and what comes of it.
-/
namespace Go.Proofs.Ytcobehkadhcjiaa.Bo
namespace Plain

def sumL : List Int → Int
  | [] => 0
  | w :: ws => w + sumL ws
/-- What all want, each no more than L. -/
def sm (L : Int) : List Int → Int
  | [] => 0
  | w :: ws => min w L + sm L ws
/-- How many want more than L. -/
def cnt (L : Int) : List Int → Int
  | [] => 0
  | w :: ws => (if L < w then 1 else 0) + cnt L ws
/-- Each what it wants, but no more than L; and one more to the first r of those that want more. -/
def give (L : Int) : Int → List Int → List Int
  | _, [] => []
  | r, w :: ws => if w ≤ L then w :: give L r ws else if 0 < r then (L + 1) :: give L (r - 1) ws else L :: give L r ws
/-- All wants may be. -/
def Wm (ws : List Int) : Prop := ∀ w, w ∈ ws → 0 ≤ w ∧ w ≤ 1048576

theorem Wm.tail {w : Int} {ws : List Int} (h : Wm (w :: ws)) : Wm ws := fun x hx => h x (List.mem_cons_of_mem _ hx)
theorem Wm.head {w : Int} {ws : List Int} (h : Wm (w :: ws)) : 0 ≤ w ∧ w ≤ 1048576 := h w (List.mem_cons_self ..)
theorem sm_succ (L : Int) (ws : List Int) : sm (L + 1) ws = sm L ws + cnt L ws := by
  induction ws with
  | nil => rfl
  | cons w ws ih => simp only [sm, cnt, ih]; split <;> omega
theorem cnt_nonneg (L : Int) (ws : List Int) : 0 ≤ cnt L ws := by
  induction ws with
  | nil => exact Int.le_refl _
  | cons w ws ih => simp only [cnt]; split <;> omega
theorem cnt_le (L : Int) (ws : List Int) : cnt L ws ≤ ws.length := by
  induction ws with
  | nil => exact Int.le_refl _
  | cons w ws ih => simp only [cnt, List.length_cons]; split <;> omega
theorem sm_mono {L M : Int} (h : L ≤ M) (ws : List Int) : sm L ws ≤ sm M ws := by
  induction ws with
  | nil => exact Int.le_refl _
  | cons w ws ih => simp only [sm]; omega
theorem sm_le (L : Int) (ws : List Int) : sm L ws ≤ sumL ws := by
  induction ws with
  | nil => exact Int.le_refl _
  | cons w ws ih => simp only [sm, sumL]; omega
theorem sm_full {L : Int} {ws : List Int} (h : ∀ w, w ∈ ws → w ≤ L) : sm L ws = sumL ws := by
  induction ws with
  | nil => rfl
  | cons w ws ih =>
    have h1 := h w (List.mem_cons_self ..)
    have h2 := ih fun x hx => h x (List.mem_cons_of_mem _ hx)
    simp only [sm, sumL]; omega
theorem sm_zero {ws : List Int} (h : Wm ws) : sm 0 ws = 0 := by
  induction ws with
  | nil => rfl
  | cons w ws ih => have := h.head; have := ih h.tail; simp only [sm]; omega
theorem sumL_nonneg {ws : List Int} (h : Wm ws) : 0 ≤ sumL ws := by
  induction ws with
  | nil => exact Int.le_refl _
  | cons w ws ih => have := h.head; have := ih h.tail; simp only [sumL]; omega
theorem cnt_pos_of {L : Int} {ws : List Int} (h : sm L ws < sumL ws) : 0 < cnt L ws := by
  induction ws with
  | nil => simp [sm, sumL] at h
  | cons w ws ih =>
    simp only [sm, sumL] at h
    simp only [cnt]
    have := cnt_nonneg L ws
    by_cases c : L < w
    · rw [if_pos c]; omega
    · rw [if_neg c]; have := ih (by omega); omega
theorem give_len (L r : Int) (ws : List Int) : (give L r ws).length = ws.length := by
  induction ws generalizing r with
  | nil => rfl
  | cons w ws ih =>
    simp only [give]
    by_cases c : w ≤ L
    · rw [if_pos c]; simp [ih]
    · rw [if_neg c]; split <;> simp [ih]
theorem give_sum (L r : Int) (ws : List Int) (h0 : 0 ≤ r) (h1 : r ≤ cnt L ws) : sumL (give L r ws) = sm L ws + r := by
  induction ws generalizing r with
  | nil => simp only [cnt] at h1; simp only [give, sumL, sm]; omega
  | cons w ws ih =>
    simp only [cnt] at h1
    simp only [give, sm]
    by_cases c : w ≤ L
    · rw [if_neg (by omega)] at h1
      rw [if_pos c]; simp only [sumL]; rw [ih r h0 (by omega)]; omega
    · rw [if_pos (by omega)] at h1
      rw [if_neg c]
      by_cases d : 0 < r
      · rw [if_pos d]; simp only [sumL]; rw [ih (r - 1) (by omega) (by omega)]; omega
      · rw [if_neg d]; simp only [sumL]; rw [ih r h0 (by have := cnt_nonneg L ws; omega)]; omega
/-- What is given at a place. -/
theorem give_at (L r : Int) (ws : List Int) (i : Nat) (hi : i < ws.length) :
    (ws.getD i 0 ≤ L → (give L r ws).getD i 0 = ws.getD i 0) ∧ (L < ws.getD i 0 → (give L r ws).getD i 0 = L ∨ (give L r ws).getD i 0 = L + 1) := by
  induction ws generalizing r i with
  | nil => simp at hi
  | cons w ws ih =>
    simp only [give]
    cases i with
    | zero =>
      simp only [List.getD_cons_zero]
      constructor
      · intro h; rw [if_pos h]; rfl
      · intro h; rw [if_neg (by omega)]; split
        · exact .inr rfl
        · exact .inl rfl
    | succ i =>
      simp only [List.getD_cons_succ]
      have hi' : i < ws.length := by simpa using hi
      split
      · simpa using ih r i hi'
      · split
        · simpa using ih (r - 1) i hi'
        · simpa using ih r i hi'
theorem give_full (L r : Int) (ws : List Int) (h : cnt L ws ≤ r) : give L r ws = give (L + 1) 0 ws := by
  induction ws generalizing r with
  | nil => rfl
  | cons w ws ih =>
    simp only [cnt] at h
    simp only [give]
    have := cnt_nonneg L ws
    by_cases c : w ≤ L
    · rw [if_neg (by omega)] at h
      rw [if_pos c, if_pos (by omega), ih r (by omega)]
    · rw [if_pos (by omega)] at h
      rw [if_neg c, if_pos (by omega), ih (r - 1) (by omega)]
      by_cases d : w ≤ L + 1
      · rw [if_pos d]; have : w = L + 1 := by omega
        rw [this]
      · rw [if_neg d, if_neg (by omega)]
theorem give_mono (L r s : Int) (ws : List Int) (h : r ≤ s) (i : Nat) : (give L r ws).getD i 0 ≤ (give L s ws).getD i 0 := by
  induction ws generalizing r s i with
  | nil => exact Int.le_refl _
  | cons w ws ih =>
    simp only [give]
    by_cases c : w ≤ L
    · rw [if_pos c, if_pos c]
      cases i with
      | zero => exact Int.le_refl _
      | succ i => simpa using ih r s h i
    · rw [if_neg c, if_neg c]
      by_cases d : 0 < r
      · rw [if_pos d, if_pos (by omega)]
        cases i with
        | zero => exact Int.le_refl _
        | succ i => simpa using ih (r - 1) (s - 1) (by omega) i
      · rw [if_neg d]
        by_cases e : 0 < s
        · rw [if_pos e]
          cases i with
          | zero => simp only [List.getD_cons_zero]; omega
          | succ i => simpa using ih r (s - 1) (by omega) i
        · rw [if_neg e]
          cases i with
          | zero => exact Int.le_refl _
          | succ i => simpa using ih r s h i

/-- The greatest level up to k. -/
def lev (t : Int) (ws : List Int) : Nat → Nat
  | 0 => 0
  | k + 1 => if sm (k + 1) ws ≤ t then k + 1 else lev t ws k
theorem lev_le (t : Int) (ws : List Int) (h : sm 0 ws ≤ t) (k : Nat) : sm (lev t ws k) ws ≤ t := by
  induction k with
  | zero => exact h
  | succ k ih =>
    simp only [lev]
    split
    · rename_i c; simpa using c
    · exact ih
theorem lev_bd (t : Int) (ws : List Int) (k : Nat) : lev t ws k ≤ k := by
  induction k with
  | zero => exact Nat.le_refl _
  | succ k ih => simp only [lev]; split <;> omega
theorem lev_gt (t : Int) (ws : List Int) (k j : Nat) (h1 : lev t ws k < j) (h2 : j ≤ k) : t < sm j ws := by
  induction k with
  | zero => omega
  | succ k ih =>
    simp only [lev] at h1
    split at h1
    · omega
    · rename_i c
      by_cases e : j = k + 1
      · subst e; simp only [Int.natCast_add, Int.cast_ofNat_Int] at *; omega
      · exact ih h1 (by omega)
def level (t : Int) (ws : List Int) : Nat := lev t ws 1048576
theorem level_ok {t : Int} {ws : List Int} (hw : Wm ws) (h0 : 0 ≤ t) (h1 : t < sumL ws) : sm (level t ws) ws ≤ t ∧ t < sm (level t ws + 1 : Int) ws ∧ level t ws < 1048576 := by
  have a := lev_le t ws (by rw [sm_zero hw]; exact h0) 1048576
  have b := lev_bd t ws 1048576
  have c : lev t ws 1048576 ≠ 1048576 := by
    intro e
    rw [e] at a
    have : sm ((1048576 : Nat) : Int) ws = sumL ws := sm_full fun w hw' => (hw w hw').2
    omega
  have d := lev_gt t ws 1048576 (lev t ws 1048576 + 1) (by omega) (by omega)
  refine ⟨a, ?_, ?_⟩
  · unfold level; simpa using d
  · unfold level; omega
/-- What each gets. -/
def splitL (t : Int) (ws : List Int) : List Int := if sumL ws ≤ t then ws else give (level t ws) (t - sm (level t ws) ws) ws
theorem level_unique {t L M : Int} {ws : List Int} (h1 : sm L ws ≤ t) (h2 : t < sm (L + 1) ws) (h3 : sm M ws ≤ t) (h4 : t < sm (M + 1) ws) : L = M := by
  by_cases c : L < M
  · have := sm_mono (show L + 1 ≤ M by omega) ws; omega
  · by_cases d : M < L
    · have := sm_mono (show M + 1 ≤ L by omega) ws; omega
    · omega
/-- Whoever fills up to a level, and gives the rest one each, has split it. -/
theorem split_of {t L r : Int} {ws : List Int} (hw : Wm ws) (h0 : 0 ≤ t) (ht : t < sumL ws) (hr0 : 0 ≤ r) (hr1 : r ≤ cnt L ws) (he : t = sm L ws + r) : splitL t ws = give L r ws := by
  obtain ⟨a, b, _⟩ := level_ok hw h0 ht
  unfold splitL
  rw [if_neg (by omega)]
  by_cases c : r < cnt L ws
  · have e : (level t ws : Int) = L := level_unique a b (by omega) (by rw [sm_succ]; omega)
    rw [e]
    congr 1
    omega
  · have e1 : sm (L + 1) ws = t := by rw [sm_succ]; omega
    have e2 : (level t ws : Int) = L + 1 := level_unique a b (by omega) (by
      rw [sm_succ]
      have := cnt_pos_of (L := L + 1) (ws := ws) (by omega)
      omega)
    rw [e2, give_full L r ws (by omega), e1]
    congr 1
    omega
theorem split_enough {t : Int} {ws : List Int} (h : sumL ws ≤ t) : splitL t ws = ws := if_pos h
theorem split_len (t : Int) (ws : List Int) : (splitL t ws).length = ws.length := by
  unfold splitL
  split
  · rfl
  · exact give_len _ _ _
/-- The split, where there is not enough. -/
theorem split_less {t : Int} {ws : List Int} (hw : Wm ws) (h0 : 0 ≤ t) (ht : t < sumL ws) :
    ∃ L r : Int, 0 ≤ L ∧ 0 ≤ r ∧ r < cnt L ws ∧ t = sm L ws + r ∧ splitL t ws = give L r ws := by
  obtain ⟨a, b, _⟩ := level_ok hw h0 ht
  rw [sm_succ] at b
  refine ⟨level t ws, t - sm (level t ws) ws, by omega, by omega, by omega, by omega, ?_⟩
  unfold splitL
  rw [if_neg (by omega)]

theorem mem_getD {ws : List Int} {i : Nat} (hi : i < ws.length) : ws.getD i 0 ∈ ws := by
  rw [List.getD_eq_getElem?_getD, List.getElem?_eq_getElem hi]
  exact List.getElem_mem _
/-- Nobody gets more than it wants, nor less than nothing. -/
theorem split_bd {t : Int} {ws : List Int} (hw : Wm ws) (h0 : 0 ≤ t) (i : Nat) (hi : i < ws.length) : 0 ≤ (splitL t ws).getD i 0 ∧ (splitL t ws).getD i 0 ≤ ws.getD i 0 := by
  have hwi := hw _ (mem_getD hi)
  by_cases c : sumL ws ≤ t
  · rw [split_enough c]; omega
  · obtain ⟨L, r, hL, _, _, _, e⟩ := split_less hw h0 (by omega)
    rw [e]
    have g := give_at L r ws i hi
    by_cases d : ws.getD i 0 ≤ L
    · rw [g.1 d]; omega
    · have := g.2 (by omega); omega
theorem split_fair {t : Int} {ws : List Int} (hw : Wm ws) (h0 : 0 ≤ t) (i k : Nat) (hi : i < ws.length) (hk : k < ws.length) (h : (splitL t ws).getD i 0 < ws.getD i 0) : (splitL t ws).getD k 0 ≤ (splitL t ws).getD i 0 + 1 := by
  by_cases c : sumL ws ≤ t
  · rw [split_enough c] at h; omega
  · obtain ⟨L, r, hL, _, _, _, e⟩ := split_less hw h0 (by omega)
    rw [e] at h ⊢
    have g := give_at L r ws i hi
    have g2 := give_at L r ws k hk
    by_cases d : ws.getD i 0 ≤ L
    · rw [g.1 d] at h; omega
    · have := g.2 (by omega)
      by_cases d2 : ws.getD k 0 ≤ L
      · rw [g2.1 d2]; omega
      · have := g2.2 (by omega); omega
theorem split_sum {t : Int} {ws : List Int} (hw : Wm ws) (h0 : 0 ≤ t) : sumL (splitL t ws) = min t (sumL ws) := by
  by_cases c : sumL ws ≤ t
  · rw [split_enough c]; omega
  · obtain ⟨L, r, hL, hr, hc, ht, e⟩ := split_less hw h0 (by omega)
    rw [e, give_sum L r ws hr (by omega)]; omega
/-- Of more nobody gets less. -/
theorem split_grows {t s : Int} {ws : List Int} (hw : Wm ws) (h0 : 0 ≤ t) (h : t ≤ s) (i : Nat) (hi : i < ws.length) : (splitL t ws).getD i 0 ≤ (splitL s ws).getD i 0 := by
  by_cases c : sumL ws ≤ s
  · rw [split_enough c]; exact (split_bd hw h0 i hi).2
  · obtain ⟨L, r, hL, hr, hc, ht, e⟩ := split_less hw h0 (by omega)
    obtain ⟨M, q, hM, hq, hd, hs, f⟩ := split_less (t := s) hw (by omega) (by omega)
    rw [e, f]
    have hLM : L ≤ M := by
      by_cases x : M < L
      · have := sm_mono (show M + 1 ≤ L by omega) ws
        rw [sm_succ] at this
        omega
      · omega
    by_cases x : L = M
    · subst x; exact give_mono L r q ws (by omega) i
    · have g := give_at L r ws i hi
      have g2 := give_at M q ws i hi
      by_cases d : ws.getD i 0 ≤ L
      · rw [g.1 d, g2.1 (by omega)]; exact Int.le_refl _
      · have := g.2 (by omega)
        by_cases d2 : ws.getD i 0 ≤ M
        · rw [g2.1 d2]; omega
        · have := g2.2 (by omega); omega

theorem sm_set (M v : Int) (ws : List Int) (i : Nat) (hi : i < ws.length) : sm M (ws.set i v) = sm M ws - min (ws.getD i 0) M + min v M := by
  induction ws generalizing i with
  | nil => simp at hi
  | cons w ws ih =>
    cases i with
    | zero => simp only [List.set_cons_zero, sm, List.getD_cons_zero]; omega
    | succ i => simp only [List.set_cons_succ, sm, List.getD_cons_succ]; rw [ih i (by simpa using hi)]; omega
theorem sumL_set (v : Int) (ws : List Int) (i : Nat) (hi : i < ws.length) : sumL (ws.set i v) = sumL ws - ws.getD i 0 + v := by
  induction ws generalizing i with
  | nil => simp at hi
  | cons w ws ih =>
    cases i with
    | zero => simp only [List.set_cons_zero, sumL, List.getD_cons_zero]; omega
    | succ i => simp only [List.set_cons_succ, sumL, List.getD_cons_succ]; rw [ih i (by simpa using hi)]; omega
theorem cnt_set (L v : Int) (ws : List Int) (i : Nat) (hi : i < ws.length) (h1 : L < ws.getD i 0) (h2 : L < v) : cnt L (ws.set i v) = cnt L ws := by
  induction ws generalizing i with
  | nil => simp at hi
  | cons w ws ih =>
    cases i with
    | zero => simp only [List.getD_cons_zero] at h1; simp only [List.set_cons_zero, cnt]; rw [if_pos h2, if_pos h1]
    | succ i => simp only [List.set_cons_succ, cnt]; rw [ih i (by simpa using hi) (by simpa using h1)]
theorem give_set (L r v : Int) (ws : List Int) (i : Nat) (h1 : L < ws.getD i 0) (h2 : L < v) : give L r (ws.set i v) = give L r ws := by
  induction ws generalizing r i with
  | nil => rfl
  | cons w ws ih =>
    cases i with
    | zero => simp only [List.getD_cons_zero] at h1; simp only [List.set_cons_zero, give]; rw [if_neg (show ¬ v ≤ L by omega), if_neg (show ¬ w ≤ L by omega)]
    | succ i =>
      have h1' : L < ws.getD i 0 := by simpa using h1
      simp only [List.set_cons_succ, give]
      rw [ih r i h1', ih (r - 1) i h1']
/-- Nobody gains by wanting more. -/
theorem split_wants {t : Int} {ws : List Int} (hw : Wm ws) (h0 : 0 ≤ t) (i : Nat) (hi : i < ws.length) (m : Int) (hm : 1 ≤ m) (hw2 : Wm (ws.set i (ws.getD i 0 + m))) :
    (splitL t ws).getD i 0 ≤ (splitL t (ws.set i (ws.getD i 0 + m))).getD i 0 ∧ ((splitL t ws).getD i 0 ≠ ws.getD i 0 → splitL t (ws.set i (ws.getD i 0 + m)) = splitL t ws) := by
  have hs := sumL_set (ws.getD i 0 + m) ws i hi
  have hi2 : i < (ws.set i (ws.getD i 0 + m)).length := by rw [List.length_set]; exact hi
  have hat : (ws.set i (ws.getD i 0 + m)).getD i 0 = ws.getD i 0 + m := by
    rw [List.getD_eq_getElem?_getD, List.getElem?_set, if_pos rfl, if_pos hi]; rfl
  have bdA := split_bd hw h0 i hi
  by_cases c : sumL ws ≤ t
  · rw [split_enough c]
    refine ⟨?_, fun h => absurd rfl h⟩
    by_cases d : sumL (ws.set i (ws.getD i 0 + m)) ≤ t
    · rw [split_enough d, hat]; omega
    · obtain ⟨L, r, hL, hr, hc, ht, e⟩ := split_less hw2 h0 (by omega)
      rw [e]
      have g := give_at L r _ i hi2
      rw [hat] at g
      by_cases x : ws.getD i 0 ≤ L
      · by_cases y : ws.getD i 0 + m ≤ L
        · rw [g.1 y]; omega
        · have := g.2 (by omega); omega
      · have a1 := sm_set (L + 1) (ws.getD i 0 + m) ws i hi
        have a2 := sm_le (L + 1) ws
        have a3 := sm_succ L (ws.set i (ws.getD i 0 + m))
        omega
  · obtain ⟨L, r, hL, hr, hc, ht, e⟩ := split_less hw h0 (by omega)
    have g := give_at L r ws i hi
    by_cases x : L < ws.getD i 0
    · have f : splitL t (ws.set i (ws.getD i 0 + m)) = give L r (ws.set i (ws.getD i 0 + m)) :=
        split_of hw2 h0 (by omega) hr (by rw [cnt_set L _ ws i hi x (by omega)]; omega) (by rw [sm_set L _ ws i hi]; omega)
      rw [give_set L r _ ws i x (by omega), ← e] at f
      rw [f]
      exact ⟨Int.le_refl _, fun _ => rfl⟩
    · have e1 : (splitL t ws).getD i 0 = ws.getD i 0 := by rw [e]; exact g.1 (by omega)
      refine ⟨?_, fun h => absurd e1 h⟩
      rw [e1]
      obtain ⟨M, q, hM, hq, hd, hs2, f⟩ := split_less (t := t) hw2 h0 (by omega)
      rw [f]
      have g2 := give_at M q _ i hi2
      rw [hat] at g2
      by_cases y : ws.getD i 0 ≤ M
      · by_cases z : ws.getD i 0 + m ≤ M
        · rw [g2.1 z]; omega
        · have := g2.2 (by omega); omega
      · have a1 := sm_set (M + 1) (ws.getD i 0 + m) ws i hi
        have a2 := sm_mono (show M + 1 ≤ L by omega) ws
        have a3 := sm_succ M (ws.set i (ws.getD i 0 + m))
        omega
/-- Where one stands is worth no more than one. -/
theorem split_turn {t : Int} {ws vs : List Int} (hw : Wm ws) (hv : Wm vs) (h0 : 0 ≤ t) (hs : ∀ M, sm M vs = sm M ws) (hl : sumL vs = sumL ws) (j m : Nat) (hj : j < ws.length) (hm : m < vs.length) (he : vs.getD m 0 = ws.getD j 0) :
    (splitL t ws).getD j 0 - (splitL t vs).getD m 0 ≤ 1 ∧ (splitL t vs).getD m 0 - (splitL t ws).getD j 0 ≤ 1 := by
  by_cases c : sumL ws ≤ t
  · rw [split_enough c, split_enough (by omega)]; omega
  · obtain ⟨L, r, hL, hr, hc, ht, e⟩ := split_less hw h0 (by omega)
    obtain ⟨M, q, hM, hq, hd, hs2, f⟩ := split_less (t := t) hv h0 (by omega)
    have a1 := sm_succ L ws
    have a2 := sm_succ M vs
    have a3 := hs M
    have a4 := hs (M + 1)
    have e2 : L = M := level_unique (t := t) (ws := ws) (by omega) (by omega) (by omega) (by omega)
    subst e2
    rw [e, f]
    have g := give_at L r ws j hj
    have g2 := give_at L q vs m hm
    rw [he] at g2
    by_cases d : ws.getD j 0 ≤ L
    · rw [g.1 d, g2.1 d]; omega
    · have := g.2 (by omega); have := g2.2 (by omega); omega

theorem sm_erase (M : Int) (ws : List Int) (i : Nat) (hi : i < ws.length) : sm M (ws.eraseIdx i) = sm M ws - min (ws.getD i 0) M := by
  induction ws generalizing i with
  | nil => simp at hi
  | cons w ws ih =>
    cases i with
    | zero => simp only [List.eraseIdx_cons_zero, sm, List.getD_cons_zero]; omega
    | succ i => simp only [List.eraseIdx_cons_succ, sm, List.getD_cons_succ]; rw [ih i (by simpa using hi)]; omega
theorem sumL_erase (ws : List Int) (i : Nat) (hi : i < ws.length) : sumL (ws.eraseIdx i) = sumL ws - ws.getD i 0 := by
  induction ws generalizing i with
  | nil => simp at hi
  | cons w ws ih =>
    cases i with
    | zero => simp only [List.eraseIdx_cons_zero, sumL, List.getD_cons_zero]; omega
    | succ i => simp only [List.eraseIdx_cons_succ, sumL, List.getD_cons_succ]; rw [ih i (by simpa using hi)]; omega
theorem cnt_erase (L : Int) (ws : List Int) (i : Nat) (hi : i < ws.length) : cnt L (ws.eraseIdx i) = cnt L ws - if L < ws.getD i 0 then 1 else 0 := by
  induction ws generalizing i with
  | nil => simp at hi
  | cons w ws ih =>
    cases i with
    | zero => simp only [List.eraseIdx_cons_zero, cnt, List.getD_cons_zero]; omega
    | succ i => simp only [List.eraseIdx_cons_succ, cnt, List.getD_cons_succ]; rw [ih i (by simpa using hi)]; omega
theorem give_none (L r : Int) (ws : List Int) (i : Nat) (hi : i < ws.length) (hr : r ≤ 0) : (give L r ws).getD i 0 = min (ws.getD i 0) L := by
  induction ws generalizing i with
  | nil => simp at hi
  | cons w ws ih =>
    simp only [give]
    cases i with
    | zero =>
      simp only [List.getD_cons_zero]
      by_cases c : w ≤ L
      · rw [if_pos c]; simp only [List.getD_cons_zero]; omega
      · rw [if_neg c, if_neg (by omega)]; simp only [List.getD_cons_zero]; omega
    | succ i =>
      simp only [List.getD_cons_succ]
      by_cases c : w ≤ L
      · rw [if_pos c]; simpa using ih i (by simpa using hi)
      · rw [if_neg c, if_neg (by omega)]; simpa using ih i (by simpa using hi)
/-- Who leaves with its share leaves the others theirs. -/
theorem give_erase (L r : Int) (ws : List Int) (i : Nat) (hi : i < ws.length) : (give L r ws).eraseIdx i = give L (r - ((give L r ws).getD i 0 - min (ws.getD i 0) L)) (ws.eraseIdx i) := by
  induction ws generalizing r i with
  | nil => simp at hi
  | cons w ws ih =>
    cases i with
    | zero =>
      simp only [give, List.eraseIdx_cons_zero, List.getD_cons_zero]
      by_cases c : w ≤ L
      · rw [if_pos c]; simp only [List.eraseIdx_cons_zero, List.getD_cons_zero]; congr 1; omega
      · rw [if_neg c]
        by_cases d : 0 < r
        · rw [if_pos d]; simp only [List.eraseIdx_cons_zero, List.getD_cons_zero]; congr 1; omega
        · rw [if_neg d]; simp only [List.eraseIdx_cons_zero, List.getD_cons_zero]; congr 1; omega
    | succ i =>
      have hi' : i < ws.length := by simpa using hi
      simp only [give, List.eraseIdx_cons_succ, List.getD_cons_succ]
      by_cases c : w ≤ L
      · simp only [if_pos c, List.eraseIdx_cons_succ, List.getD_cons_succ]; rw [ih r i hi']
      · simp only [if_neg c]
        by_cases d : 0 < r
        · simp only [if_pos d, List.eraseIdx_cons_succ, List.getD_cons_succ]
          have g := give_at L (r - 1) ws i hi'
          have g0 := give_none L (r - 1) ws i hi'
          have key : 0 < r - ((give L (r - 1) ws).getD i 0 - min (ws.getD i 0) L) := by
            by_cases x : r - 1 ≤ 0
            · rw [g0 x]; omega
            · by_cases y : ws.getD i 0 ≤ L
              · rw [g.1 y]; omega
              · have := g.2 (by omega); omega
          rw [if_pos key, ih (r - 1) i hi']
          congr 2
          omega
        · simp only [if_neg d, List.eraseIdx_cons_succ, List.getD_cons_succ]
          have g0 := give_none L r ws i hi' (by omega)
          rw [if_neg (by rw [g0]; omega), ih r i hi']
theorem eq_of_sum {a b : List Int} (hl : a.length = b.length) (h : ∀ i, i < b.length → a.getD i 0 ≤ b.getD i 0) (hs : sumL b ≤ sumL a) : a = b := by
  induction a generalizing b with
  | nil => cases b with
    | nil => rfl
    | cons => simp at hl
  | cons x a ih =>
    cases b with
    | nil => simp at hl
    | cons y b =>
      have h0 : x ≤ y := by simpa using h 0 (by simp)
      have ht : ∀ i, i < b.length → a.getD i 0 ≤ b.getD i 0 := fun i hi => by simpa using h (i + 1) (by simpa using hi)
      have hle : sumL a ≤ sumL b := by
        clear ih hs h h0
        induction a generalizing b with
        | nil => cases b with
          | nil => exact Int.le_refl _
          | cons => simp at hl
        | cons p a ih2 =>
          cases b with
          | nil => simp at hl
          | cons q b =>
            have h0 : p ≤ q := by simpa using ht 0 (by simp)
            have := ih2 (b := b) (by simpa using hl) (fun i hi => by simpa using ht (i + 1) (by simpa using hi))
            simp only [sumL]; omega
      simp only [sumL] at hs
      rw [ih (b := b) (by simpa using hl) ht (by omega), show x = y by omega]
theorem wm_erase {ws : List Int} (h : Wm ws) (i : Nat) : Wm (ws.eraseIdx i) := fun w hw => h w (List.mem_of_mem_eraseIdx hw)
/-- Who takes its share and leaves changes nothing for the others. -/
theorem split_leaves {t : Int} {ws : List Int} (hw : Wm ws) (h0 : 0 ≤ t) (i : Nat) (hi : i < ws.length) : splitL (t - (splitL t ws).getD i 0) (ws.eraseIdx i) = (splitL t ws).eraseIdx i := by
  have se := sumL_erase ws i hi
  by_cases c : sumL ws ≤ t
  · rw [split_enough c, split_enough (by omega)]
  · obtain ⟨L, r, hL, hr, hc, ht, e⟩ := split_less hw h0 (by omega)
    have g := give_at L r ws i hi
    have g0 := give_none L r ws i hi
    have ge := give_erase L r ws i hi
    have sme := sm_erase L ws i hi
    have ce := cnt_erase L ws i hi
    have sw := split_sum hw h0
    have bd := split_bd hw h0 i hi
    rw [e] at sw bd ⊢
    generalize ha : (give L r ws).getD i 0 = a at *
    have heps : (a = min (ws.getD i 0) L ∨ (a = min (ws.getD i 0) L + 1 ∧ L < ws.getD i 0 ∧ 0 < r)) := by
      by_cases y : ws.getD i 0 ≤ L
      · left; rw [g.1 y]; omega
      · have := g.2 (by omega)
        by_cases z : r ≤ 0
        · left; exact g0 z
        · omega
    have ca : 0 ≤ r - (a - min (ws.getD i 0) L) ∧ r - (a - min (ws.getD i 0) L) ≤ cnt L (ws.eraseIdx i) := by
      by_cases y : L < ws.getD i 0
      · rw [if_pos y] at ce; omega
      · rw [if_neg y] at ce; omega
    have hta : 0 ≤ t - a := by
      have h1 := give_sum L (r - (a - min (ws.getD i 0) L)) (ws.eraseIdx i) ca.1 ca.2
      have h2 : 0 ≤ sm L (ws.eraseIdx i) := by
        have := sm_mono (show (0 : Int) ≤ L by omega) (ws.eraseIdx i)
        rw [sm_zero (wm_erase hw i)] at this
        exact this
      omega
    rw [ge]
    by_cases d : t - a < sumL (ws.eraseIdx i)
    · exact split_of (wm_erase hw i) hta d ca.1 ca.2 (by omega)
    · rw [split_enough (by omega)]
      have gs := give_sum L (r - (a - min (ws.getD i 0) L)) (ws.eraseIdx i) ca.1 ca.2
      symm
      refine eq_of_sum (give_len _ _ _) (fun k hk => ?_) (by omega)
      have gk := give_at L (r - (a - min (ws.getD i 0) L)) (ws.eraseIdx i) k hk
      by_cases y : (ws.eraseIdx i).getD k 0 ≤ L
      · rw [gk.1 y]; exact Int.le_refl _
      · have := gk.2 (by omega); omega
end Plain
end Go.Proofs.Ytcobehkadhcjiaa.Bo

/-
  Shares, plain: the document's way, round by round.
-/
namespace Go.Proofs.Ytcobehkadhcjiaa.Bo
namespace Plain

/-- All filled up to L. -/
def fillL (L : Int) (ws : List Int) : List Int := ws.map fun w => min w L
theorem fill_len (L : Int) (ws : List Int) : (fillL L ws).length = ws.length := by simp [fillL]
theorem fill_at (L : Int) (ws : List Int) (i : Nat) (hi : i < ws.length) : (fillL L ws).getD i 0 = min (ws.getD i 0) L := by
  simp [fillL, List.getD_eq_getElem?_getD, hi]
theorem fill_give (L : Int) (ws : List Int) : give L 0 ws = fillL L ws := by
  induction ws with
  | nil => rfl
  | cons w ws ih =>
    simp only [give, fillL, List.map_cons]
    by_cases c : w ≤ L
    · rw [if_pos c, ih, show min w L = w by omega]; rfl
    · rw [if_neg c, if_neg (by omega), ih, show min w L = L by omega]; rfl
theorem fill_zero {ws : List Int} (h : Wm ws) : fillL 0 ws = List.replicate ws.length 0 := by
  induction ws with
  | nil => rfl
  | cons w ws ih =>
    have := h.head
    simp only [fillL, List.map_cons, List.length_cons, List.replicate_succ]
    rw [show min w 0 = 0 by omega]
    exact congrArg _ (ih h.tail)
theorem fill_full {L : Int} {ws : List Int} (h : cnt L ws = 0) : fillL L ws = ws ∧ sm L ws = sumL ws := by
  induction ws with
  | nil => exact ⟨rfl, rfl⟩
  | cons w ws ih =>
    simp only [cnt] at h
    have := cnt_nonneg L ws
    by_cases c : L < w
    · rw [if_pos c] at h; omega
    · rw [if_neg c] at h
      obtain ⟨h1, h2⟩ := ih (by omega)
      simp only [fillL, List.map_cons, sm, sumL]
      refine ⟨?_, by omega⟩
      rw [show min w L = w by omega]
      exact congrArg _ h1
/-- The least that is still wanted, beyond L, of the wants up to k; 0: of none. -/
def stp (L : Int) : List Int → Int → Int
  | [], s => s
  | w :: ws, s => stp L ws (if L < w then (if s = 0 ∨ w - L < s then w - L else s) else s)
theorem stp_ok (L : Int) (ws : List Int) (s : Int) (h : 0 ≤ s) :
    0 ≤ stp L ws s ∧ (0 < s → stp L ws s ≤ s) ∧ (∀ w, w ∈ ws → L < w → stp L ws s ≤ w - L) ∧ (0 < s ∨ 0 < cnt L ws → 0 < stp L ws s) := by
  induction ws generalizing s with
  | nil => exact ⟨h, fun _ => Int.le_refl _, fun w hw => (by cases hw), fun h => by simp only [cnt] at h; simp only [stp]; omega⟩
  | cons w ws ih =>
    simp only [stp, cnt]
    by_cases c : L < w
    · simp only [if_pos c]
      by_cases d : s = 0 ∨ w - L < s
      · simp only [if_pos d]
        obtain ⟨i1, i2, i3, i4⟩ := ih (w - L) (by omega)
        refine ⟨i1, fun h => by have := i2 (by omega); omega, fun x hx hL => ?_, fun _ => i4 (by omega)⟩
        rcases List.mem_cons.1 hx with rfl | hx
        · exact i2 (by omega)
        · exact i3 x hx hL
      · simp only [if_neg d]
        obtain ⟨i1, i2, i3, i4⟩ := ih s h
        refine ⟨i1, i2, fun x hx hL => ?_, fun _ => i4 (by omega)⟩
        rcases List.mem_cons.1 hx with rfl | hx
        · have := i2 (by omega); omega
        · exact i3 x hx hL
    · simp only [if_neg c]
      obtain ⟨i1, i2, i3, i4⟩ := ih s h
      refine ⟨i1, i2, fun x hx hL => ?_, fun h => i4 (by omega)⟩
      rcases List.mem_cons.1 hx with rfl | hx
      · omega
      · exact i3 x hx hL
/-- Up to the least that is wanted all that want more go up together. -/
theorem sm_step (L s : Int) (ws : List Int) (h0 : 0 ≤ s) (h : ∀ w, w ∈ ws → L < w → s ≤ w - L) : sm (L + s) ws = sm L ws + s * cnt L ws := by
  induction ws with
  | nil => simp [sm, cnt]
  | cons w ws ih =>
    have h1 := ih fun x hx => h x (List.mem_cons_of_mem _ hx)
    have h2 := h w (List.mem_cons_self ..)
    simp only [sm, cnt]
    rw [h1, Int.mul_add]
    by_cases c : L < w
    · rw [if_pos c]; have := h2 c; omega
    · rw [if_neg c]; omega
theorem fill_step (L s : Int) (ws : List Int) (h : ∀ w, w ∈ ws → L < w → s ≤ w - L) (h0 : 0 ≤ s) : fillL (L + s) ws = ws.map fun w => if L < w then min w L + s else min w L := by
  unfold fillL
  apply List.map_congr_left
  intro w hw
  by_cases c : L < w
  · rw [if_pos c]; have := h w hw c; omega
  · rw [if_neg c]; omega
theorem cnt_app (L : Int) (a b : List Int) : cnt L (a ++ b) = cnt L a + cnt L b := by
  induction a with
  | nil => simp [cnt]
  | cons w a ih => simp only [List.cons_append, cnt, ih]; omega
theorem stp_app (L : Int) (a b : List Int) (s : Int) : stp L (a ++ b) s = stp L b (stp L a s) := by
  induction a generalizing s with
  | nil => rfl
  | cons w a ih => simp only [List.cons_append, stp, ih]
theorem take_next' (ws : List Int) (k : Nat) (hk : k < ws.length) : ws.take (k + 1) = ws.take k ++ [ws.getD k 0] := by
  rw [List.take_succ_eq_append_getElem hk, List.getD_eq_getElem?_getD, List.getElem?_eq_getElem hk]
  rfl
theorem cnt_next (L : Int) (ws : List Int) (k : Nat) (hk : k < ws.length) : cnt L (ws.take (k + 1)) = cnt L (ws.take k) + if L < ws.getD k 0 then 1 else 0 := by
  rw [take_next' ws k hk, cnt_app]; simp [cnt]
theorem stp_next (L : Int) (ws : List Int) (k : Nat) (hk : k < ws.length) (s : Int) : stp L (ws.take (k + 1)) s = if L < ws.getD k 0 then (if stp L (ws.take k) s = 0 ∨ ws.getD k 0 - L < stp L (ws.take k) s then ws.getD k 0 - L else stp L (ws.take k) s) else stp L (ws.take k) s := by
  rw [take_next' ws k hk, stp_app]; rfl
/-- The first r of those that want more have had theirs, up to the k-th place. -/
def midG (L r : Int) (ws : List Int) (k : Nat) : List Int := give L r (ws.take k) ++ fillL L (ws.drop k)
theorem give_app (L r : Int) (a b : List Int) (h : 0 ≤ r) : give L r (a ++ b) = give L r a ++ give L (max (r - cnt L a) 0) b := by
  induction a generalizing r with
  | nil => simp only [List.nil_append, give, cnt]; rw [show max (r - 0) 0 = r by omega]
  | cons w a ih =>
    simp only [List.cons_append, give, cnt]
    by_cases c : w ≤ L
    · rw [if_pos c, if_pos c, if_neg (show ¬ L < w by omega), ih r h, List.cons_append, show r - (0 + cnt L a) = r - cnt L a by omega]
    · rw [if_neg c, if_neg c, if_pos (show L < w by omega)]
      by_cases d : 0 < r
      · rw [if_pos d, if_pos d, ih (r - 1) (by omega), List.cons_append, show r - (1 + cnt L a) = r - 1 - cnt L a by omega]
      · have := cnt_nonneg L a
        rw [if_neg d, if_neg d, ih r h, List.cons_append, show max (r - (1 + cnt L a)) 0 = max (r - cnt L a) 0 by omega]
theorem split_ones {t L r : Int} {ws : List Int} (hw : Wm ws) (h0 : 0 ≤ t) (hr0 : 0 ≤ r) (hr1 : r < cnt L ws) (he : t = sm L ws + r) : splitL t ws = give L r ws := by
  have h1 := sm_le (L + 1) ws
  rw [sm_succ] at h1
  exact split_of hw h0 (by omega) hr0 (by omega) he
theorem split_done {t L : Int} {ws : List Int} (hw : Wm ws) (h0 : 0 ≤ t) (h : cnt L ws = 0 ∧ sm L ws ≤ t ∨ t = sm L ws) : splitL t ws = fillL L ws := by
  rcases h with ⟨h, h1⟩ | h
  · obtain ⟨a, b⟩ := fill_full h
    rw [a, split_enough (by omega)]
  · by_cases c : cnt L ws = 0
    · obtain ⟨a, b⟩ := fill_full c
      rw [a, split_enough (by omega)]
    · have := cnt_nonneg L ws
      rw [← fill_give]
      exact split_ones hw h0 (Int.le_refl _) (by omega) (by omega)
end Plain
end Go.Proofs.Ytcobehkadhcjiaa.Bo

/-
  Shares, plain: what is refused, what the search finds, and the document's rounds place by place.
-/
namespace Go.Proofs.Ytcobehkadhcjiaa.Bo
namespace Plain

/-- A number that is no count. -/
def badC (x : Int) : Bool := decide (x < 0 ∨ 1048576 < x)
theorem badC_no {x : Int} : badC x = false ↔ 0 ≤ x ∧ x ≤ 1048576 := by
  unfold badC; rw [decide_eq_false_iff_not]; omega
theorem badC_yes {x : Int} : badC x = true ↔ x < 0 ∨ 1048576 < x := by
  unfold badC; rw [decide_eq_true_iff]
def splitE (t : Int) (ws : List Int) : Nat := if 16 < ws.length then 1 else if badC t || ws.any badC then 2 else 0
def splitV (t : Int) (ws : List Int) : List Int := if splitE t ws = 0 then splitL t ws else []
theorem any_no {ws : List Int} (h : ws.any badC = false) : Wm ws := fun w hw => by
  have := List.any_eq_false.1 h w hw
  exact badC_no.1 (by simpa using this)
theorem wm_any {ws : List Int} (h : Wm ws) : ws.any badC = false := by
  rw [List.any_eq_false]
  intro w hw e
  rw [badC_no.2 (h w hw)] at e
  cases e
theorem splitE_zero {t : Int} {ws : List Int} (h : splitE t ws = 0) : ws.length ≤ 16 ∧ (0 ≤ t ∧ t ≤ 1048576) ∧ Wm ws := by
  unfold splitE at h
  split at h
  · omega
  · split at h
    · omega
    · rename_i h1 h2
      simp only [Bool.or_eq_true, not_or, Bool.not_eq_true] at h2
      exact ⟨by omega, badC_no.1 h2.1, any_no h2.2⟩
theorem splitE_ok {t : Int} {ws : List Int} (h1 : ws.length ≤ 16) (h2 : 0 ≤ t ∧ t ≤ 1048576) (h3 : Wm ws) : splitE t ws = 0 := by
  unfold splitE
  rw [if_neg (by omega), badC_no.2 h2, wm_any h3]
  rfl
theorem splitV_ok {t : Int} {ws : List Int} (h : splitE t ws = 0) : splitV t ws = splitL t ws := if_pos h
theorem splitV_no {t : Int} {ws : List Int} (h : splitE t ws ≠ 0) : splitV t ws = [] := if_neg h
theorem splitV_len (t : Int) (ws : List Int) : (splitV t ws).length ≤ 1000000 := by
  unfold splitV
  split
  · rename_i h
    have := splitE_zero h
    rw [split_len]; omega
  · simp

theorem sm_app (L : Int) (a b : List Int) : sm L (a ++ b) = sm L a + sm L b := by
  induction a with
  | nil => simp [sm]
  | cons w a ih => simp only [List.cons_append, sm, ih]; omega
theorem sm_next (L : Int) (ws : List Int) (k : Nat) (hk : k < ws.length) : sm L (ws.take (k + 1)) = sm L (ws.take k) + min (ws.getD k 0) L := by
  rw [take_next' ws k hk, sm_app]; simp [sm]
theorem wm_take {ws : List Int} (h : Wm ws) (k : Nat) : Wm (ws.take k) := fun w hw => h w (List.mem_of_mem_take hw)
theorem sumL_le {ws : List Int} (h : Wm ws) : sumL ws ≤ 1048576 * ws.length := by
  induction ws with
  | nil => simp [sumL]
  | cons w ws ih => have := h.head; have := ih h.tail; simp only [sumL, List.length_cons]; omega
theorem sm_bd {L : Int} {ws : List Int} (h : Wm ws) (hL : 0 ≤ L) : 0 ≤ sm L ws ∧ sm L ws ≤ 1048576 * ws.length := by
  have h1 := sm_mono hL ws
  rw [sm_zero h] at h1
  have := sm_le L ws
  have := sumL_le h
  omega
theorem give_all {L : Int} (r : Int) {ws : List Int} (h : ∀ w, w ∈ ws → w ≤ L) : give L r ws = ws := by
  induction ws with
  | nil => rfl
  | cons w ws ih =>
    simp only [give]
    rw [if_pos (h w (List.mem_cons_self ..)), ih fun x hx => h x (List.mem_cons_of_mem _ hx)]
/-- What the search finds is the level. -/
theorem split_found {t : Int} {ws : List Int} (hw : Wm ws) (h0 : 0 ≤ t) (s : Nat) (hs : s ≤ 1048576) (h1 : ∀ i : Nat, i < s → decide (t < sm ((i : Int) + 1) ws) = false) (h2 : ∀ i : Nat, s ≤ i → i < 1048576 → decide (t < sm ((i : Int) + 1) ws) = true) :
    splitL t ws = give s (t - sm s ws) ws ∧ sm s ws ≤ t := by
  have a : sm s ws ≤ t := by
    cases s with
    | zero => rw [show ((0 : Nat) : Int) = 0 from rfl, sm_zero hw]; exact h0
    | succ s =>
      have := h1 s (by omega)
      rw [decide_eq_false_iff_not] at this
      rw [show ((s + 1 : Nat) : Int) = (s : Int) + 1 by omega]
      omega
  refine ⟨?_, a⟩
  by_cases c : s = 1048576
  · have hall : ∀ w, w ∈ ws → w ≤ (s : Int) := fun w hx => by have := (hw w hx).2; omega
    rw [give_all _ hall, split_enough]
    rw [← sm_full hall]; exact a
  · have := h2 s (Nat.le_refl _) (by omega)
    rw [decide_eq_true_iff, sm_succ] at this
    exact split_ones hw h0 (by omega) (by omega) (by omega)
/-- What is left for those from the k-th place on. -/
def lft (L r : Int) (ws : List Int) (k : Nat) : Int := max (r - cnt L (ws.take k)) 0
theorem lft_next (L r : Int) (ws : List Int) (k : Nat) (hk : k < ws.length) : lft L r ws (k + 1) = if L < ws.getD k 0 ∧ 0 < lft L r ws k then lft L r ws k - 1 else lft L r ws k := by
  unfold lft
  rw [cnt_next L ws k hk]
  by_cases c : L < ws.getD k 0
  · rw [if_pos c]
    by_cases d : 0 < max (r - cnt L (ws.take k)) 0
    · rw [if_pos ⟨c, d⟩]; omega
    · rw [if_neg (fun h => d h.2)]; omega
  · rw [if_neg c, if_neg (fun h => c h.1), Int.add_zero]
theorem lft_bd (L r : Int) (ws : List Int) (k : Nat) : 0 ≤ lft L r ws k ∧ (0 ≤ r → lft L r ws k ≤ r) := by
  unfold lft
  have := cnt_nonneg L (ws.take k)
  omega
theorem lft_zero (L r : Int) (ws : List Int) (h : 0 ≤ r) : lft L r ws 0 = r := by
  unfold lft
  simp [cnt]; omega
theorem give_here (L r : Int) (ws : List Int) (k : Nat) (hk : k < ws.length) (h : 0 ≤ r) : (give L r ws).getD k 0 = if ws.getD k 0 ≤ L then ws.getD k 0 else if 0 < lft L r ws k then L + 1 else L := by
  have e : ws = ws.take k ++ (ws.getD k 0 :: ws.drop (k + 1)) := by
    conv => lhs; rw [← List.take_append_drop k ws, List.drop_eq_getElem_cons hk]
    rw [List.getD_eq_getElem?_getD, List.getElem?_eq_getElem hk]; rfl
  have hl : (give L r (ws.take k)).length = k := by rw [give_len, List.length_take]; omega
  have e2 : give L r ws = give L r (ws.take k) ++ give L (lft L r ws k) (ws.getD k 0 :: ws.drop (k + 1)) := by
    conv => lhs; rw [e]
    rw [give_app L r _ _ h]; rfl
  rw [e2, List.getD_eq_getElem?_getD, List.getElem?_append_right (by omega), hl, Nat.sub_self]
  simp only [give]
  split
  · rfl
  · split <;> rfl

/-- How many of the first k still want more, where each has what out says. -/
def opn (ws out : List Int) : Nat → Int
  | 0 => 0
  | k + 1 => opn ws out k + if out.getD k 0 < ws.getD k 0 then 1 else 0
/-- The least that one of the first k still wants. -/
def stq (ws out : List Int) : Nat → Int
  | 0 => 0
  | k + 1 => if out.getD k 0 < ws.getD k 0 then (if stq ws out k = 0 ∨ ws.getD k 0 - out.getD k 0 < stq ws out k then ws.getD k 0 - out.getD k 0 else stq ws out k) else stq ws out k
theorem opn_bd (ws out : List Int) (k : Nat) : 0 ≤ opn ws out k ∧ opn ws out k ≤ k := by
  induction k with
  | zero => exact ⟨Int.le_refl _, Int.le_refl _⟩
  | succ k ih => simp only [opn]; split <;> omega
/-- Each has something between nothing and what it wants. -/
def Mid (ws out : List Int) : Prop := ∀ j, j < ws.length → 0 ≤ out.getD j 0 ∧ out.getD j 0 ≤ ws.getD j 0 ∧ ws.getD j 0 ≤ 1048576
theorem stq_bd {ws out : List Int} (h : Mid ws out) (k : Nat) (hk : k ≤ ws.length) : 0 ≤ stq ws out k ∧ stq ws out k ≤ 1048576 := by
  induction k with
  | zero => exact ⟨Int.le_refl _, by simp [stq]⟩
  | succ k ih =>
    have := ih (by omega)
    have := h k (by omega)
    simp only [stq]
    split
    · split <;> omega
    · omega
theorem mid_fill {L : Int} {ws : List Int} (h : Wm ws) (hL : 0 ≤ L) : Mid ws (fillL L ws) := fun j hj => by
  have := h _ (mem_getD hj)
  rw [fill_at L ws j hj]; omega
theorem mid_split {t : Int} {ws : List Int} (h : Wm ws) (h0 : 0 ≤ t) : Mid ws (splitL t ws) := fun j hj => by
  have := h _ (mem_getD hj)
  have := split_bd h h0 j hj
  omega
theorem opn_fill (L : Int) (ws : List Int) (k : Nat) (hk : k ≤ ws.length) : opn ws (fillL L ws) k = cnt L (ws.take k) := by
  induction k with
  | zero => rfl
  | succ k ih =>
    simp only [opn]
    rw [ih (by omega), cnt_next L ws k (by omega), fill_at L ws k (by omega)]
    by_cases c : L < ws.getD k 0
    · rw [if_pos c, if_pos (by omega)]
    · rw [if_neg c, if_neg (by omega)]
theorem stq_fill (L : Int) (ws : List Int) (k : Nat) (hk : k ≤ ws.length) : stq ws (fillL L ws) k = stp L (ws.take k) 0 := by
  induction k with
  | zero => rfl
  | succ k ih =>
    simp only [stq]
    rw [ih (by omega), stp_next L ws k (by omega), fill_at L ws k (by omega)]
    by_cases c : L < ws.getD k 0
    · rw [if_pos c, if_pos (by omega), show min (ws.getD k 0) L = L by omega]
    · rw [if_neg c, if_neg (by omega)]
/-- What one round leaves at a place: by steps, or by ones. -/
def upS (ws out : List Int) (s : Int) (j : Nat) : Int := if out.getD j 0 < ws.getD j 0 then out.getD j 0 + s else out.getD j 0
def upL (ws out : List Int) (s : Int) : List Int := (List.range ws.length).map (upS ws out s)
theorem upL_len (ws out : List Int) (s : Int) : (upL ws out s).length = ws.length := by simp [upL]
theorem upL_at (ws out : List Int) (s : Int) (j : Nat) (h : j < ws.length) : (upL ws out s).getD j 0 = upS ws out s j := by
  simp [upL, List.getD_eq_getElem?_getD, h]
theorem ext_getD {a b : List Int} (hl : a.length = b.length) (h : ∀ j, j < b.length → a.getD j 0 = b.getD j 0) : a = b := by
  apply List.ext_getElem hl
  intro i h1 h2
  have := h i h2
  simpa [List.getD_eq_getElem?_getD, h1, h2] using this
theorem up_fill {L s : Int} {ws : List Int} (h0 : 0 ≤ s) (h : ∀ w, w ∈ ws → L < w → s ≤ w - L) : upL ws (fillL L ws) s = fillL (L + s) ws := by
  refine ext_getD (by rw [upL_len, fill_len]) fun j hj => ?_
  rw [fill_len] at hj
  rw [upL_at _ _ _ _ hj, fill_at _ _ _ hj]
  unfold upS
  rw [fill_at _ _ _ hj]
  have h1 := h _ (mem_getD hj)
  by_cases c : L < ws.getD j 0
  · have := h1 c
    rw [if_pos (by omega)]; omega
  · rw [if_neg (by omega)]; omega
/-- By ones: to the first r of those that want more. -/
def onS (ws out : List Int) (r : Int) (j : Nat) : Int := if out.getD j 0 < ws.getD j 0 ∧ 0 < max (r - opn ws out j) 0 then out.getD j 0 + 1 else out.getD j 0
def onL (ws out : List Int) (r : Int) : List Int := (List.range ws.length).map (onS ws out r)
theorem onL_len (ws out : List Int) (s : Int) : (onL ws out s).length = ws.length := by simp [onL]
theorem onL_at (ws out : List Int) (s : Int) (j : Nat) (h : j < ws.length) : (onL ws out s).getD j 0 = onS ws out s j := by
  simp [onL, List.getD_eq_getElem?_getD, h]
theorem on_fill {L r : Int} {ws : List Int} (h0 : 0 ≤ r) : onL ws (fillL L ws) r = give L r ws := by
  refine ext_getD (by rw [onL_len, give_len]) fun j hj => ?_
  rw [give_len] at hj
  rw [onL_at _ _ _ _ hj, give_here L r ws j hj h0]
  unfold onS
  rw [opn_fill L ws j (by omega), fill_at _ _ _ hj]
  rw [show max (r - cnt L (ws.take j)) 0 = lft L r ws j from rfl]
  by_cases c : ws.getD j 0 ≤ L
  · rw [if_pos c, if_neg (by omega)]; omega
  · rw [if_neg c]
    by_cases d : 0 < lft L r ws j
    · rw [if_pos ⟨by omega, d⟩, if_pos d]; omega
    · rw [if_neg (fun h => d h.2), if_neg d]; omega

/-- How it stands ahead of a round: all filled up to a level, or done. -/
def Rd (t : Int) (ws : List Int) (T : Int) (out : List Int) : Prop :=
  0 ≤ T ∧ T ≤ 1048576 ∧ out.length = ws.length ∧ Mid ws out ∧ ((∃ L, 0 ≤ L ∧ out = fillL L ws ∧ T = t - sm L ws) ∨ (T = 0 ∧ out = splitL t ws))
theorem Rd.start {t : Int} {ws : List Int} (hw : Wm ws) (h0 : 0 ≤ t) (h1 : t ≤ 1048576) : Rd t ws t (List.replicate ws.length 0) := by
  rw [← fill_zero hw]
  exact ⟨h0, h1, fill_len _ _, mid_fill hw (Int.le_refl _), .inl ⟨0, Int.le_refl _, rfl, by rw [sm_zero hw]; omega⟩⟩
theorem take_all (ws : List Int) : ws.take ws.length = ws := List.take_of_length_le (Nat.le_refl _)
theorem Rd.done {t T : Int} {ws out : List Int} (hw : Wm ws) (h0 : 0 ≤ t) (h : Rd t ws T out) (hd : opn ws out ws.length = 0 ∨ T = 0) : out = splitL t ws := by
  obtain ⟨h1, _, _, _, ⟨L, hL, rfl, hT⟩ | ⟨_, h2⟩⟩ := h
  · rw [opn_fill L ws _ (Nat.le_refl _), take_all] at hd
    symm
    refine split_done hw h0 ?_
    rcases hd with hd | hd
    · exact .inl ⟨hd, by omega⟩
    · exact .inr (by omega)
  · exact h2
/-- A round that goes on: what the steps are. -/
theorem Rd.goes {t T : Int} {ws out : List Int} (hw : Wm ws) (h0 : 0 ≤ t) (h : Rd t ws T out) (hd : opn ws out ws.length ≠ 0) (hT : T ≠ 0) :
    0 < stq ws out ws.length ∧ 0 < opn ws out ws.length ∧
    (∀ s, 0 < s → s ≤ stq ws out ws.length → s * opn ws out ws.length ≤ T → Rd t ws (T - s * opn ws out ws.length) (upL ws out s)) ∧
    (T < opn ws out ws.length → Rd t ws 0 (onL ws out T)) := by
  obtain ⟨h1, h1b, _, hm, ⟨L, hL, rfl, hTe⟩ | ⟨h2, _⟩⟩ := h
  · have hb := opn_bd ws (fillL L ws) ws.length
    rw [opn_fill L ws _ (Nat.le_refl _), take_all] at hd hb ⊢
    rw [stq_fill L ws _ (Nat.le_refl _), take_all]
    obtain ⟨i1, i2, i3, i4⟩ := stp_ok L ws 0 (Int.le_refl _)
    have hp : 0 < cnt L ws := by omega
    refine ⟨i4 (.inr hp), hp, fun s hs hle hT2 => ?_, fun hlt => ?_⟩
    · have hall : ∀ w, w ∈ ws → L < w → s ≤ w - L := fun w hx hx2 => by have := i3 w hx hx2; omega
      have hnn : 0 ≤ s * cnt L ws := Int.mul_nonneg (by omega) (by omega)
      rw [up_fill (by omega) hall]
      have e := sm_step L s ws (by omega) hall
      exact ⟨by omega, by omega, fill_len _ _, mid_fill hw (by omega), .inl ⟨L + s, by omega, rfl, by omega⟩⟩
    · rw [on_fill h1]
      have e : splitL t ws = give L T ws := split_ones hw h0 h1 hlt (by omega)
      rw [← e]
      exact ⟨Int.le_refl _, by omega, split_len _ _, mid_split hw h0, .inr ⟨rfl, rfl⟩⟩
  · exact absurd h2 hT
end Plain
end Go.Proofs.Ytcobehkadhcjiaa.Bo

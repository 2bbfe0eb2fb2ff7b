/-
  Shares, plain: the document's way, round by round.
-/
import Derived.Test.YtiolkeghgodggajHp
namespace Go.Proofs.Ytiolkeghgodggaj.Bo
namespace Plain

/-- All filled up to L. -/
def fillL (L : Int) (ws : List Int) : List Int := ws.map fun w => min w L
theorem fill_len (L : Int) (ws : List Int) : (fillL L ws).length = ws.length := by simp [fillL]
theorem fill_at (L : Int) (ws : List Int) (i : Nat) (hi : i < ws.length) : (fillL L ws).getD i 0 = min (ws.getD i 0) L := by
  simp [fillL, List.getD_eq_getElem?_getD, hi]
theorem fill_give (L : Int) (ws : List Int) : give L 0 ws = fillL L ws := by
  induction ws with
  | nil => rfl
  | cons w ws ih =>
    simp only [give, fillL, List.map_cons]
    by_cases c : w ≤ L
    · rw [if_pos c, ih, show min w L = w by omega]; rfl
    · rw [if_neg c, if_neg (by omega), ih, show min w L = L by omega]; rfl
theorem fill_zero {ws : List Int} (h : Wm ws) : fillL 0 ws = List.replicate ws.length 0 := by
  induction ws with
  | nil => rfl
  | cons w ws ih =>
    have := h.head
    simp only [fillL, List.map_cons, List.length_cons, List.replicate_succ]
    rw [show min w 0 = 0 by omega]
    exact congrArg _ (ih h.tail)
theorem fill_full {L : Int} {ws : List Int} (h : cnt L ws = 0) : fillL L ws = ws ∧ sm L ws = sumL ws := by
  induction ws with
  | nil => exact ⟨rfl, rfl⟩
  | cons w ws ih =>
    simp only [cnt] at h
    have := cnt_nonneg L ws
    by_cases c : L < w
    · rw [if_pos c] at h; omega
    · rw [if_neg c] at h
      obtain ⟨h1, h2⟩ := ih (by omega)
      simp only [fillL, List.map_cons, sm, sumL]
      refine ⟨?_, by omega⟩
      rw [show min w L = w by omega]
      exact congrArg _ h1
/-- The least that is still wanted, beyond L, of the wants up to k; 0: of none. -/
def stp (L : Int) : List Int → Int → Int
  | [], s => s
  | w :: ws, s => stp L ws (if L < w then (if s = 0 ∨ w - L < s then w - L else s) else s)
theorem stp_ok (L : Int) (ws : List Int) (s : Int) (h : 0 ≤ s) :
    0 ≤ stp L ws s ∧ (0 < s → stp L ws s ≤ s) ∧ (∀ w, w ∈ ws → L < w → stp L ws s ≤ w - L) ∧ (0 < s ∨ 0 < cnt L ws → 0 < stp L ws s) := by
  induction ws generalizing s with
  | nil => exact ⟨h, fun _ => Int.le_refl _, fun w hw => (by cases hw), fun h => by simp only [cnt] at h; simp only [stp]; omega⟩
  | cons w ws ih =>
    simp only [stp, cnt]
    by_cases c : L < w
    · simp only [if_pos c]
      by_cases d : s = 0 ∨ w - L < s
      · simp only [if_pos d]
        obtain ⟨i1, i2, i3, i4⟩ := ih (w - L) (by omega)
        refine ⟨i1, fun h => by have := i2 (by omega); omega, fun x hx hL => ?_, fun _ => i4 (by omega)⟩
        rcases List.mem_cons.1 hx with rfl | hx
        · exact i2 (by omega)
        · exact i3 x hx hL
      · simp only [if_neg d]
        obtain ⟨i1, i2, i3, i4⟩ := ih s h
        refine ⟨i1, i2, fun x hx hL => ?_, fun _ => i4 (by omega)⟩
        rcases List.mem_cons.1 hx with rfl | hx
        · have := i2 (by omega); omega
        · exact i3 x hx hL
    · simp only [if_neg c]
      obtain ⟨i1, i2, i3, i4⟩ := ih s h
      refine ⟨i1, i2, fun x hx hL => ?_, fun h => i4 (by omega)⟩
      rcases List.mem_cons.1 hx with rfl | hx
      · omega
      · exact i3 x hx hL
/-- Up to the least that is wanted all that want more go up together. -/
theorem sm_step (L s : Int) (ws : List Int) (h0 : 0 ≤ s) (h : ∀ w, w ∈ ws → L < w → s ≤ w - L) : sm (L + s) ws = sm L ws + s * cnt L ws := by
  induction ws with
  | nil => simp [sm, cnt]
  | cons w ws ih =>
    have h1 := ih fun x hx => h x (List.mem_cons_of_mem _ hx)
    have h2 := h w (List.mem_cons_self ..)
    simp only [sm, cnt]
    rw [h1, Int.mul_add]
    by_cases c : L < w
    · rw [if_pos c]; have := h2 c; omega
    · rw [if_neg c]; omega
theorem fill_step (L s : Int) (ws : List Int) (h : ∀ w, w ∈ ws → L < w → s ≤ w - L) (h0 : 0 ≤ s) : fillL (L + s) ws = ws.map fun w => if L < w then min w L + s else min w L := by
  unfold fillL
  apply List.map_congr_left
  intro w hw
  by_cases c : L < w
  · rw [if_pos c]; have := h w hw c; omega
  · rw [if_neg c]; omega
theorem cnt_app (L : Int) (a b : List Int) : cnt L (a ++ b) = cnt L a + cnt L b := by
  induction a with
  | nil => simp [cnt]
  | cons w a ih => simp only [List.cons_append, cnt, ih]; omega
theorem stp_app (L : Int) (a b : List Int) (s : Int) : stp L (a ++ b) s = stp L b (stp L a s) := by
  induction a generalizing s with
  | nil => rfl
  | cons w a ih => simp only [List.cons_append, stp, ih]
theorem take_next' (ws : List Int) (k : Nat) (hk : k < ws.length) : ws.take (k + 1) = ws.take k ++ [ws.getD k 0] := by
  rw [List.take_succ_eq_append_getElem hk, List.getD_eq_getElem?_getD, List.getElem?_eq_getElem hk]
  rfl
theorem cnt_next (L : Int) (ws : List Int) (k : Nat) (hk : k < ws.length) : cnt L (ws.take (k + 1)) = cnt L (ws.take k) + if L < ws.getD k 0 then 1 else 0 := by
  rw [take_next' ws k hk, cnt_app]; simp [cnt]
theorem stp_next (L : Int) (ws : List Int) (k : Nat) (hk : k < ws.length) (s : Int) : stp L (ws.take (k + 1)) s = if L < ws.getD k 0 then (if stp L (ws.take k) s = 0 ∨ ws.getD k 0 - L < stp L (ws.take k) s then ws.getD k 0 - L else stp L (ws.take k) s) else stp L (ws.take k) s := by
  rw [take_next' ws k hk, stp_app]; rfl
/-- The first r of those that want more have had theirs, up to the k-th place. -/
def midG (L r : Int) (ws : List Int) (k : Nat) : List Int := give L r (ws.take k) ++ fillL L (ws.drop k)
theorem give_app (L r : Int) (a b : List Int) (h : 0 ≤ r) : give L r (a ++ b) = give L r a ++ give L (max (r - cnt L a) 0) b := by
  induction a generalizing r with
  | nil => simp only [List.nil_append, give, cnt]; rw [show max (r - 0) 0 = r by omega]
  | cons w a ih =>
    simp only [List.cons_append, give, cnt]
    by_cases c : w ≤ L
    · rw [if_pos c, if_pos c, if_neg (show ¬ L < w by omega), ih r h, List.cons_append, show r - (0 + cnt L a) = r - cnt L a by omega]
    · rw [if_neg c, if_neg c, if_pos (show L < w by omega)]
      by_cases d : 0 < r
      · rw [if_pos d, if_pos d, ih (r - 1) (by omega), List.cons_append, show r - (1 + cnt L a) = r - 1 - cnt L a by omega]
      · have := cnt_nonneg L a
        rw [if_neg d, if_neg d, ih r h, List.cons_append, show max (r - (1 + cnt L a)) 0 = max (r - cnt L a) 0 by omega]
theorem split_ones {t L r : Int} {ws : List Int} (hw : Wm ws) (h0 : 0 ≤ t) (hr0 : 0 ≤ r) (hr1 : r < cnt L ws) (he : t = sm L ws + r) : splitL t ws = give L r ws := by
  have h1 := sm_le (L + 1) ws
  rw [sm_succ] at h1
  exact split_of hw h0 (by omega) hr0 (by omega) he
theorem split_done {t L : Int} {ws : List Int} (hw : Wm ws) (h0 : 0 ≤ t) (h : cnt L ws = 0 ∧ sm L ws ≤ t ∨ t = sm L ws) : splitL t ws = fillL L ws := by
  rcases h with ⟨h, h1⟩ | h
  · obtain ⟨a, b⟩ := fill_full h
    rw [a, split_enough (by omega)]
  · by_cases c : cnt L ws = 0
    · obtain ⟨a, b⟩ := fill_full c
      rw [a, split_enough (by omega)]
    · have := cnt_nonneg L ws
      rw [← fill_give]
      exact split_ones hw h0 (Int.le_refl _) (by omega) (by omega)
end Plain
end Go.Proofs.Ytiolkeghgodggaj.Bo

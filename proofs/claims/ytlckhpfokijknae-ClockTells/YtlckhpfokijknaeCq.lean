/-
  Clocks tell what could have had to do with what: plain.
-/
import Derived.Test.YtlckhpfokijknaeCp
namespace Go.Proofs.Ytlckhpfokijknae
namespace Plain

theorem on_rec (l : List Ev) (n i k j : Nat) (hk : k < i) (hj : j < n) : on l n i k j = true ↔ j = k ∨ ∃ m, m < k ∧ stepB l k m = true ∧ on l n i m j = true := by
  rw [on_up l n k j (show k < k + 1 by omega) (show k + 1 ≤ i by omega), on_new l n k j hj]
  constructor
  · rintro (h | ⟨m, h1, h2, h3⟩)
    · exact .inl h
    · exact .inr ⟨m, h1, h2, by rw [on_up l n m j h1 (show k ≤ i by omega)]; exact h3⟩
  · rintro (h | ⟨m, h1, h2, h3⟩)
    · exact .inl h
    · exact .inr ⟨m, h1, h2, by rw [← on_up l n m j h1 (show k ≤ i by omega)]; exact h3⟩
theorem on_trans (l : List Ev) (n i a j : Nat) (ha : a < n) (hj : j < n) (h2 : on l n i a j = true) : ∀ b k, k < b → k < i → on l n i k a = true → on l n i k j = true := by
  intro b
  induction b with
  | zero => intro k hk; omega
  | succ b ih =>
    intro k hb hk h1
    rcases (on_rec l n i k a hk ha).1 h1 with rfl | ⟨m, hm, hs, hon⟩
    · exact h2
    · exact (on_rec l n i k j hk hj).2 (.inr ⟨m, hm, hs, ih m (by omega) (by omega) hon⟩)

/-- The ways of the first events, as they are found one by one. -/
def ways (l : List Ev) (n : Nat) : Nat → List (List Bool)
  | 0 => []
  | i + 1 => ways l n i ++ [(List.range n).map (fun j => (List.range i).any (fun k => stepB l i k && (decide (j = k) || (decide (j < k) && ((ways l n i).getD k []).getD j false))))]
theorem ways_len (l : List Ev) (n i : Nat) : (ways l n i).length = i := by
  induction i with
  | zero => rfl
  | succ i ih => unfold ways; rw [List.length_append, ih]; rfl
theorem on_le (l : List Ev) (n i : Nat) (j : Nat) (hj : j < n) : ∀ b k, k < b → k < i → on l n i k j = true → j ≤ k := by
  intro b
  induction b with
  | zero => intro k hk; omega
  | succ b ih =>
    intro k hb hk h1
    rcases (on_rec l n i k j hk hj).1 h1 with rfl | ⟨m, hm, hs, hon⟩
    · exact Nat.le_refl _
    · have := ih m (by omega) (by omega) hon; omega
theorem ways_on (l : List Ev) (n : Nat) : ∀ i, i ≤ n → ∀ k, k < i → ∀ j, j < n → (((ways l n i).getD k []).getD j false = true ↔ j < k ∧ on l n i k j = true) := by
  intro i
  induction i with
  | zero => intro _ k hk; omega
  | succ i ih =>
    intro hi k hk j hj
    rw [ways, getD_snoc, ways_len]
    by_cases c : k < i
    · rw [if_pos c, ih (by omega) k c j hj, on_old _ _ _ _ _ c]
    · have : k = i := by omega
      subst this
      rw [if_neg c, if_pos rfl, getD_map_range _ _ _ _ hj, on_rec l n (k + 1) k j (by omega) hj]
      simp only [List.any_eq_true, List.mem_range, Bool.and_eq_true, Bool.or_eq_true, decide_eq_true_eq]
      constructor
      · rintro ⟨m, hm, hs, rfl | ⟨hlt, hw⟩⟩
        · exact ⟨hm, .inr ⟨j, hm, hs, (on_rec l n (k + 1) j j (by omega) hj).2 (.inl rfl)⟩⟩
        · have := (ih (by omega) m hm j hj).1 hw
          exact ⟨by omega, .inr ⟨m, hm, hs, by rw [on_old _ _ _ _ _ hm]; exact this.2⟩⟩
      · rintro ⟨hlt, rfl | ⟨m, hm, hs, hon⟩⟩
        · omega
        · refine ⟨m, hm, hs, ?_⟩
          have hle := on_le l n (k + 1) j hj (m + 1) m (by omega) (by omega) hon
          by_cases e : j = m
          · exact .inl e
          · exact .inr ⟨by omega, (ih (by omega) m hm j hj).2 ⟨by omega, by rw [on_old _ _ _ _ _ hm] at hon; exact hon⟩⟩

theorem tally_mono (l : List Ev) (f g : Nat → Bool) (s : Nat) (n : Nat) (h : ∀ j, j < n → f j = true → g j = true) : tally l f s n ≤ tally l g s n := by
  induction n with
  | zero => exact Nat.le_refl _
  | succ n ih =>
    have ih := ih fun j hj => h j (by omega)
    have h1 := h n (by omega)
    unfold tally
    by_cases c : f n = true ∧ wh l n = s
    · rw [if_pos c, if_pos ⟨h1 c.1, c.2⟩]; omega
    · rw [if_neg c]; omega

theorem tells_le {sites : Nat} {l : List Ev} {n : Nat} (g : Good sites l n n) {i k : Nat} (hi : i < n) (hk : k < i) :
    on l n n i k = true ↔ ∀ t, V sites l n k t ≤ V sites l n i t := by
  constructor
  · intro h t
    rw [counted g (Nat.le_refl _) (show k < n by omega), counted g (Nat.le_refl _) hi]
    have := tally_mono l (on l n n k) (on l n n i) t n (fun j hj hon => on_trans l n n k j (by omega) hj hon (i + 1) i (by omega) hi h)
    omega
  · intro h
    rw [g.vOn i k hi (by omega)]
    have h1 := h (wh l k)
    rw [g.vOwn k (by omega), cnt_own] at h1
    omega
theorem tells_lt {sites : Nat} {l : List Ev} {n : Nat} (g : Good sites l n n) {i k : Nat} (hi : i < n) (hk : k < i) :
    V sites l n k (wh l i) < V sites l n i (wh l i) := by
  rw [g.vOwn i hi, cnt_own]
  have h1 := (g.vBd k (wh l i) (by omega)).2
  have h2 := cnt_mono l (wh l i) (show k + 1 ≤ i by omega)
  omega

/-- How the clocks of two events stand. -/
theorem tells {sites : Nat} {l : List Ev} {n : Nat} (g : Good sites l n n) (hs : 1 ≤ sites) (hs8 : sites ≤ 8) (hn : n ≤ 1048576) (hw : ∀ i, i < n → wh l i < sites) {i k : Nat} (hi : i < n) (hk : k < i) :
    cE ((st sites l n).2.getD k []) ((st sites l n).2.getD i []) = 0 ∧
      oV ((st sites l n).2.getD k []) ((st sites l n).2.getD i []) = if on l n n i k = true then -1 else 2 := by
  have hok : ∀ m, m < n → okC ((st sites l n).2.getD m []) = true := by
    intro m hm
    rw [okC_iff]
    refine ⟨by rw [g.csRow m hm]; exact ⟨hs, hs8⟩, fun x hx => ?_⟩
    obtain ⟨t, ht, rfl⟩ := List.mem_iff_getElem.1 hx
    have h1 := g.vBd m t hm
    have h2 := cnt_le l t (m + 1)
    have e : V sites l n m t = ((st sites l n).2.getD m [])[t] := by
      unfold V; rw [List.getD_eq_getElem?_getD, List.getElem?_eq_getElem ht]; rfl
    rw [okN_iff, ← e]
    omega
  have h0 : cE ((st sites l n).2.getD k []) ((st sites l n).2.getD i []) = 0 := by
    unfold cE
    rw [hok k (by omega), hok i hi]
    simp only [Bool.and_self, if_true]
    rw [if_pos (by rw [g.csRow k (by omega), g.csRow i hi])]
  refine ⟨h0, ?_⟩
  have h1 : less ((st sites l n).2.getD k []) ((st sites l n).2.getD i []) = true := by
    rw [less_iff]
    exact ⟨wh l i, by rw [g.csRow k (by omega)]; exact hw i hi, tells_lt g hi hk⟩
  have h2 : less ((st sites l n).2.getD i []) ((st sites l n).2.getD k []) = true ↔ ¬ on l n n i k = true := by
    rw [less_iff, tells_le g hi hk, g.csRow i hi]
    constructor
    · rintro ⟨t, _, ht⟩ hall
      have := hall t
      unfold V at this
      omega
    · intro hna
      by_cases c : ∃ t, t < sites ∧ ((st sites l n).2.getD i []).getD t 0 < ((st sites l n).2.getD k []).getD t 0
      · exact c
      · refine absurd (fun t => ?_) hna
        by_cases ht : t < sites
        · by_cases d : V sites l n k t ≤ V sites l n i t
          · exact d
          · exact absurd ⟨t, ht, by unfold V at d; omega⟩ c
        · unfold V
          rw [getD_out _ t _ (by rw [g.csRow k (by omega)]; omega), getD_out _ t _ (by rw [g.csRow i hi]; omega)]
          exact Int.le_refl _
  unfold oV
  rw [if_pos h0, h1]
  by_cases c : on l n n i k = true
  · have : less ((st sites l n).2.getD i []) ((st sites l n).2.getD k []) = false := by
      cases hh : less ((st sites l n).2.getD i []) ((st sites l n).2.getD k [])
      · rfl
      · exact absurd c (h2.1 hh)
    rw [this, if_pos c]; rfl
  · rw [h2.2 c, if_neg c]; rfl
end Plain
end Go.Proofs.Ytlckhpfokijknae

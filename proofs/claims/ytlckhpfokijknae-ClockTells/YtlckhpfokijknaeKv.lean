/-
  The events that are made of happenings: plain.
-/
import Derived.Test.YtlckhpfokijknaeCq
namespace Go.Proofs.Ytlckhpfokijknae
namespace Plain

/-- The event of a happening, where sent are the places of what was sent. -/
def hv (h : Ev) (sent : List Int) : Ev :=
  if h.1 % 3 = 2 then (if sent.length = 0 then (1, h.2.1 % 4, 0) else (3, h.2.1 % 4, sent.getD (h.2.2 % (sent.length : Int)).toNat 0)) else (1 + h.1 % 3, h.2.1 % 4, 0)
/-- The first events, and the places of what was sent. -/
def mk (l : List Ev) : Nat → List Ev × List Int
  | 0 => ([], [])
  | i + 1 => ((mk l i).1 ++ [hv (ev l i) (mk l i).2], if (hv (ev l i) (mk l i).2).1 = 2 then (mk l i).2 ++ [(i : Int)] else (mk l i).2)
theorem mk_len (l : List Ev) (i : Nat) : (mk l i).1.length = i := by
  induction i with
  | zero => rfl
  | succ i ih => unfold mk; rw [List.length_append, ih]; rfl
theorem mk_sent_len (l : List Ev) (i : Nat) : (mk l i).2.length ≤ i := by
  induction i with
  | zero => exact Nat.le_refl _
  | succ i ih =>
    unfold mk
    split
    · rw [List.length_append]; simp; omega
    · show (mk l i).2.length ≤ i + 1
      omega
theorem ev_snoc (l : List Ev) (x : Ev) (k : Nat) : ev (l ++ [x]) k = if k < l.length then ev l k else if k = l.length then x else (0, 0, 0) := getD_snoc _ _ _ _
theorem evE_old {S : Int} {l : List Ev} {x : Ev} {k : Nat} (hk : k < l.length) (h : evE S l k = 0) : evE S (l ++ [x]) k = 0 := by
  have e : ev (l ++ [x]) k = ev l k := by rw [ev_snoc, if_pos hk]
  unfold evE at h ⊢
  rw [e]
  split
  · rename_i c; rw [if_pos c] at h; exact h
  · rename_i c
    rw [if_neg c] at h
    split
    · rename_i d; rw [if_pos d] at h; exact h
    · rename_i d
      rw [if_neg d] at h
      split
      · rfl
      · rename_i f
        rw [if_neg f] at h
        split
        · rename_i g; rw [if_pos g] at h; exact h
        · rename_i g
          rw [if_neg g] at h
          have e2 : ofp (l ++ [x]) k = ofp l k := by unfold ofp; rw [e]
          have e3 : kd (l ++ [x]) (ofp l k) = kd l (ofp l k) := by
            unfold kd
            rw [ev_snoc, if_pos]
            unfold ofp; omega
          rw [e2, e3]
          exact h
/-- All of them may be. -/
theorem mk_ok (l : List Ev) : ∀ i, (∀ k, k < i → evE 4 (mk l i).1 k = 0) ∧ ∀ j, j < (mk l i).2.length → ∃ k : Nat, (mk l i).2.getD j 0 = (k : Int) ∧ k < i ∧ kd (mk l i).1 k = 2 := by
  intro i
  induction i with
  | zero => exact ⟨fun k hk => by omega, fun j hj => by simp [mk] at hj⟩
  | succ i ih =>
    obtain ⟨h1, h2⟩ := ih
    have hl := mk_len l i
    have e1 : (mk l (i + 1)).1 = (mk l i).1 ++ [hv (ev l i) (mk l i).2] := rfl
    have e2 : (mk l (i + 1)).2 = if (hv (ev l i) (mk l i).2).1 = 2 then (mk l i).2 ++ [(i : Int)] else (mk l i).2 := rfl
    have hlast : ev (mk l (i + 1)).1 i = hv (ev l i) (mk l i).2 := by rw [e1, ev_snoc, hl, if_neg (by omega), if_pos rfl]
    have hold : ∀ k, k < i → ev (mk l (i + 1)).1 k = ev (mk l i).1 k := fun k hk => by rw [e1, ev_snoc, hl, if_pos hk]
    refine ⟨fun k hk => ?_, fun j hj => ?_⟩
    · by_cases c : k < i
      · rw [e1]; exact evE_old (by rw [hl]; exact c) (h1 k c)
      · have hk' : k = i := by omega
        subst hk'
        have hw : 0 ≤ (ev l k).2.1 % 4 ∧ (ev l k).2.1 % 4 < 4 := by omega
        unfold evE
        rw [hlast]
        by_cases c3 : (ev l k).1 % 3 = 2
        · by_cases c0 : (mk l k).2.length = 0
          · have e : hv (ev l k) (mk l k).2 = (1, (ev l k).2.1 % 4, 0) := by unfold hv; rw [if_pos c3, if_pos c0]
            rw [e, if_neg (by simp), if_neg (by simp only; omega), if_pos (by simp)]
          · have e : hv (ev l k) (mk l k).2 = (3, (ev l k).2.1 % 4, (mk l k).2.getD ((ev l k).2.2 % ((mk l k).2.length : Int)).toNat 0) := by unfold hv; rw [if_pos c3, if_neg c0]
            have hp : 0 < ((mk l k).2.length : Int) := by omega
            have hm0 := Int.emod_nonneg (ev l k).2.2 (show ((mk l k).2.length : Int) ≠ 0 by omega)
            have hm1 := Int.emod_lt_of_pos (ev l k).2.2 hp
            obtain ⟨o, ho1, ho2, ho3⟩ := h2 ((ev l k).2.2 % ((mk l k).2.length : Int)).toNat (by omega)
            rw [ho1] at e
            have e4 : ofp (mk l (k + 1)).1 k = o := by unfold ofp; rw [hlast, e]; rfl
            have e5 : kd (mk l (k + 1)).1 o = 2 := by unfold kd; rw [hold o ho2]; exact ho3
            rw [e4, e5, e, if_neg (by simp), if_neg (by simp only; omega), if_neg (by simp), if_neg (by simp only; omega), if_neg (by simp)]
        · have e : hv (ev l k) (mk l k).2 = (1 + (ev l k).1 % 3, (ev l k).2.1 % 4, 0) := by unfold hv; rw [if_neg c3]
          rw [e, if_neg (by simp only; omega), if_neg (by simp only; omega), if_pos (by simp only; omega)]
    · by_cases c : (hv (ev l i) (mk l i).2).1 = 2
      · rw [e2, if_pos c] at hj ⊢
        rw [getD_snoc]
        by_cases d : j < (mk l i).2.length
        · rw [if_pos d]
          obtain ⟨k, a, b, e⟩ := h2 j d
          exact ⟨k, a, by omega, by unfold kd; rw [hold k b]; exact e⟩
        · rw [List.length_append] at hj
          have hj' : j = (mk l i).2.length := by simp at hj; omega
          rw [if_neg d, if_pos hj']
          exact ⟨i, rfl, by omega, by unfold kd; rw [hlast]; exact c⟩
      · rw [e2, if_neg c] at hj ⊢
        obtain ⟨k, a, b, e⟩ := h2 j hj
        exact ⟨k, a, by omega, by unfold kd; rw [hold k b]; exact e⟩
/-- How many events are made of so many happenings, at most 60. -/
def evN (l : List Ev) : Nat := min l.length 60
def evs (l : List Ev) : List Ev := (mk l (evN l)).1
theorem evs_len (l : List Ev) : (evs l).length = evN l := mk_len _ _
theorem evs_ok (l : List Ev) : firstE (evE 4 (evs l)) (evs l).length = 0 := firstE_ok fun j hj => (mk_ok l (evN l)).1 j (by rw [evs_len] at hj; exact hj)
end Plain
end Go.Proofs.Ytlckhpfokijknae

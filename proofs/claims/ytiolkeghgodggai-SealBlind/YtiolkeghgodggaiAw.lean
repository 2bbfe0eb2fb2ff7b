/-
  Without what others open: plain.
-/
import Derived.Test.YtiolkeghgodggaiMq
namespace Go.Proofs.Ytiolkeghgodggai.Se
namespace Plain

def mineB (w : Int) (x : Le) : Bool := decide (x.kind = 1 ∨ x.to = w)
/-- The moves without what others open. -/
def fewL (w : Int) (l : List Le) : List Le := l.filter (mineB w)
/-- Where they stand among the first k. -/
def wantL (w : Int) (l : List Le) (k : Nat) : List Nat := (List.range k).filter fun j => mineB w (l.getD j default)
theorem fewL_yes {w : Int} {l : List Le} {k : Nat} (hk : k < l.length) (h : mineB w (l.getD k default) = true) : fewL w (l.take (k + 1)) = fewL w (l.take k) ++ [l.getD k default] := by
  unfold fewL
  rw [List.take_succ_eq_append_getElem hk, List.filter_append]
  rw [List.getD_eq_getElem?_getD, List.getElem?_eq_getElem hk] at h ⊢
  have h' : mineB w l[k] = true := h
  rw [List.filter_cons_of_pos h']; rfl
theorem fewL_no {w : Int} {l : List Le} {k : Nat} (hk : k < l.length) (h : mineB w (l.getD k default) = false) : fewL w (l.take (k + 1)) = fewL w (l.take k) := by
  unfold fewL
  rw [List.take_succ_eq_append_getElem hk, List.filter_append]
  rw [List.getD_eq_getElem?_getD, List.getElem?_eq_getElem hk] at h
  have h' : ¬ (mineB w l[k] = true) := by rw [show mineB w l[k] = false from h]; decide
  rw [List.filter_cons_of_neg h']; simp
theorem wantL_yes {w : Int} {l : List Le} {k : Nat} (h : mineB w (l.getD k default) = true) : wantL w l (k + 1) = wantL w l k ++ [k] := by
  unfold wantL
  rw [List.range_succ, List.filter_append, List.filter_cons_of_pos (p := fun j => mineB w (l.getD j default)) (a := k) h]; rfl
theorem wantL_no {w : Int} {l : List Le} {k : Nat} (h : mineB w (l.getD k default) = false) : wantL w l (k + 1) = wantL w l k := by
  unfold wantL
  rw [List.range_succ, List.filter_append, List.filter_cons_of_neg (p := fun j => mineB w (l.getD j default)) (a := k) (by rw [h]; decide)]; simp
theorem wantL_lt {w : Int} {l : List Le} {k j : Nat} (h : j ∈ wantL w l k) : j < k := List.mem_range.1 (List.mem_filter.1 h).1
theorem few_want (w : Int) (l : List Le) (k : Nat) (hk : k ≤ l.length) : (fewL w (l.take k)).length = (wantL w l k).length := by
  induction k with
  | zero => rfl
  | succ k ih =>
    have ih := ih (by omega)
    cases h : mineB w (l.getD k default) with
    | true => rw [fewL_yes (by omega) h, wantL_yes h, List.length_append, List.length_append, ih]; rfl
    | false => rw [fewL_no (by omega) h, wantL_no h, ih]
theorem away_run (w : Int) (l : List Le) (k : Nat) (hk : k ≤ l.length) : Away w (officeF Off.nil (l.take k)) (officeF Off.nil (fewL w (l.take k))) ∧
    mailF Off.nil (fewL w (l.take k)) = (wantL w l k).map fun j => (mailF Off.nil l).getD j default := by
  induction k with
  | zero => exact ⟨⟨rfl, rfl⟩, rfl⟩
  | succ k ih =>
    obtain ⟨ia, im⟩ := ih (by omega)
    have hkl : k < l.length := by omega
    rw [officeF_take _ _ _ hkl]
    have hf := Fine.nil.run (l.take k)
    have ht := mailF_at Off.nil l k hkl
    cases h : mineB w (l.getD k default) with
    | true =>
      have hx : (l.getD k default).kind = 1 ∨ (l.getD k default).«to» = w := by simpa [mineB] using h
      rw [fewL_yes hkl h, wantL_yes h, officeF_app, mailF_app, List.map_append, im]
      refine ⟨ia.step hf hx, ?_⟩
      congr 1
      show [leT _ _] = [(mailF Off.nil l).getD k default]
      rw [ht, ia.told hx]
    | false =>
      have hx : ¬ ((l.getD k default).kind = 1 ∨ (l.getD k default).«to» = w) := by simpa [mineB] using h
      rw [fewL_no hkl h, wantL_no h]
      exact ⟨ia.skip (fun e => hx (.inl e)) (fun e => hx (.inr e)), im⟩
theorem away_at (w : Int) (l : List Le) {i : Nat} (hi : i < (wantL w l l.length).length) : (mailF Off.nil (fewL w l)).getD i default = (mailF Off.nil l).getD ((wantL w l l.length).getD i 0) default := by
  have h := (away_run w l l.length (Nat.le_refl _)).2
  rw [List.take_length] at h
  rw [h, List.getD_eq_getElem?_getD, List.getElem?_map, List.getD_eq_getElem?_getD (l := wantL w l l.length), List.getElem?_eq_getElem hi]
  rfl
end Plain
end Go.Proofs.Ytiolkeghgodggai.Se

/-
  What one branch is given hangs on what it wants alone: plain.
-/
import Derived.Test.YtiolkeghgodggajV2
namespace Go.Proofs.Ytiolkeghgodggaj.Bo
open Go.RowKit Go.Shelf Go.Sort

namespace Plain
/-- The call, if the branch's own wants are others. -/
def apC (w : Int) (o : List Int) (i : Nat) (c : Ca) : Ca := if c.kind = 2 ∧ c.who = w ∧ i < o.length then { c with count := o.getD i 0 % 60 } else c
def apL (w : Int) (o : List Int) (l : List Ca) (k : Nat) : List Ca := (List.range k).map fun i => apC w o i (l.getD i default)
theorem apL_len (w : Int) (o : List Int) (l : List Ca) (k : Nat) : (apL w o l k).length = k := by simp [apL]
theorem apL_succ (w : Int) (o : List Int) (l : List Ca) (k : Nat) : apL w o l (k + 1) = apL w o l k ++ [apC w o k (l.getD k default)] := by
  unfold apL
  rw [List.range_succ, List.map_append]; rfl
theorem apL_at (w : Int) (o : List Int) (l : List Ca) {k i : Nat} (h : i < k) : (apL w o l k).getD i default = apC w o i (l.getD i default) := by
  unfold apL
  rw [List.getD_eq_getElem?_getD, List.getElem?_map, List.getElem?_range h]; rfl
theorem apL_take (w : Int) (o : List Int) (l : List Ca) {k m : Nat} (h : m ≤ k) : (apL w o l k).take m = apL w o l m := by
  unfold apL
  rw [← List.map_take, List.take_range, show min m k = m by omega]
theorem apC_may {w : Int} {o : List Int} {i : Nat} {c : Ca} (h : MayC c) : MayC (apC w o i c) := by
  unfold apC
  split
  · rename_i hx
    rcases h with ⟨h1, _⟩ | ⟨h1, h2, _⟩ | h1
    · omega
    · exact .inr (.inl ⟨h1, h2, by show 0 ≤ o.getD i 0 % 60; omega, by show o.getD i 0 % 60 < 60; omega⟩)
    · omega
  · exact h
/-- As long as the reports were the same. -/
theorem apart_run {cap : Int} {tk : Nat} (hc : 0 ≤ cap ∧ cap ≤ 1048576) (ht : 0 < tk) {w : Nat} (hw : w < 3) (o : List Int) (l : List Ca) (k : Nat) (hk : k ≤ l.length)
    (hr : ∀ i, i < k → ((bookF (Bk.new 3 cap tk) l).getD i default).report = ((bookF (Bk.new 3 cap tk) (apL (w : Int) o l l.length)).getD i default).report) :
    Apart w (bkF (Bk.new 3 cap tk) (l.take k)) (bkF (Bk.new 3 cap tk) ((apL (w : Int) o l l.length).take k)) := by
  induction k with
  | zero => exact Apart.refl w _
  | succ k ih =>
    have h := ih (by omega) (fun i hi => hr i (by omega))
    have ok := Ok.new (n := 3) hc ht
    have hkl : k < l.length := by omega
    have hka : k < (apL (w : Int) o l l.length).length := by rw [apL_len]; exact hkl
    have hrk := hr k (by omega)
    rw [bookF_at _ _ k hkl, bookF_at _ _ k hka] at hrk
    rw [bkF_take _ _ k hkl, bkF_take _ _ k hka]
    rw [apL_at _ _ _ hkl] at hrk ⊢
    by_cases hx : (l.getD k default).kind = 2 ∧ (l.getD k default).who = (w : Int) ∧ k < o.length
    · have e : apC (w : Int) o k (l.getD k default) = { l.getD k default with count := o.getD k 0 % 60 } := by unfold apC; rw [if_pos hx]
      rw [e]
      exact h.own (ok.run _) (ok.run _) _ _ hx.1 hx.1 hx.2.1 hx.2.1 (by rw [bkF_n']; exact hw)
    · have e : apC (w : Int) o k (l.getD k default) = l.getD k default := by unfold apC; rw [if_neg hx]
      rw [e] at hrk ⊢
      exact (h.same (ok.run _) (ok.run _) _ hrk).1
theorem apart_law {cap : Int} {tk : Nat} (hc : 0 ≤ cap ∧ cap ≤ 1048576) (ht : 0 < tk) {w : Nat} (hw : w < 3) (o : List Int) (l : List Ca) (k : Nat) (hk : k < l.length)
    (hr : ∀ i, i < k + 1 → ((bookF (Bk.new 3 cap tk) l).getD i default).report = ((bookF (Bk.new 3 cap tk) (apL (w : Int) o l l.length)).getD i default).report) (h3 : (l.getD k default).kind = 3) :
    ((bookF (Bk.new 3 cap tk) l).getD k default).grants.length = 3 ∧ ((bookF (Bk.new 3 cap tk) (apL (w : Int) o l l.length)).getD k default).grants.length = 3 ∧
      ∀ j, j ≠ w → ((bookF (Bk.new 3 cap tk) l).getD k default).grants.getD j 0 = ((bookF (Bk.new 3 cap tk) (apL (w : Int) o l l.length)).getD k default).grants.getD j 0 := by
  have ok := Ok.new (n := 3) hc ht
  have h := apart_run hc ht hw o l k (by omega) (fun i hi => hr i (by omega))
  have hka : k < (apL (w : Int) o l l.length).length := by rw [apL_len]; exact hk
  have e : (apL (w : Int) o l l.length).getD k default = l.getD k default := by
    rw [apL_at _ _ _ hk]
    unfold apC
    rw [if_neg (by omega)]
  have hrk := hr k (by omega)
  rw [bookF_at _ _ k hk, bookF_at _ _ k hka] at hrk
  refine ⟨bookF_round ok l k hk h3, bookF_round ok _ k hka (by rw [e]; exact h3), ?_⟩
  rw [bookF_at _ _ k hk, bookF_at _ _ k hka]
  rw [e] at hrk ⊢
  exact (h.same (ok.run _) (ok.run _) _ hrk).2 h3
end Plain
end Go.Proofs.Ytiolkeghgodggaj.Bo

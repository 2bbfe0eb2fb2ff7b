/-
  A letter is opened once: plain, beside what there is.
-/
import Derived.Test.YtiolkeghgodggaiMq
namespace Go.Proofs.Ytiolkeghgodggai.Se
namespace Plain

theorem postsI_mono (l : List Le) {i k : Nat} (h : i ≤ k) : (postsI l i).length ≤ (postsI l k).length := by
  induction k with
  | zero => have : i = 0 := by omega
            subst this; exact Nat.le_refl _
  | succ k ih =>
    rcases Nat.lt_or_ge k i with h1 | h1
    · have : i = k + 1 := by omega
      subst this; exact Nat.le_refl _
    · have := ih h1
      rw [postsI_next]
      split
      · rw [List.length_append]; omega
      · exact this
theorem postsI_snoc {l : List Le} {k : Nat} (h : (l.getD k default).kind = 1) : postsI l (k + 1) = postsI l k ++ [k] := by rw [postsI_next, if_pos h]
theorem postsI_same {l : List Le} {k : Nat} (h : ¬ (l.getD k default).kind = 1) : postsI l (k + 1) = postsI l k := by rw [postsI_next, if_neg h]
theorem mail_no {l : List Le} {k : Nat} (hk : k < l.length) (h : ((mailF Off.nil l).getD k default).code ≠ 0) : ((mailF Off.nil l).getD k default).data = [] := by
  rw [mailF_at _ _ _ hk] at h ⊢
  exact leT_no h
end Plain
end Go.Proofs.Ytiolkeghgodggai.Se

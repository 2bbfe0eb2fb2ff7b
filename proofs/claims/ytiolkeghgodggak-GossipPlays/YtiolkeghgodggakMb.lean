/-
  Contracts of reg.mayBe and of the literals that May and Live hand on.
-/
import Derived.Test.YtiolkeghgodggakNw
namespace Go.Proofs.Ytiolkeghgodggak
open Go.RowKit

set_option maxHeartbeats 2000000 in
theorem mayBe_c (e : Plain.En) (w : World) :
    Calls Try.prog 32 #[aggE e] w fun r w' => r = .returned (.bool (Plain.mayB e)) ∧ w' = w.alloc (boxE e) := by
  obtain ⟨k, v, t, o, g⟩ := e
  by_cases hk : k < 0 ∨ 1048576 < k
  · have e1 : Plain.mayB ⟨k, v, t, o, g⟩ = false := by unfold Plain.mayB; simp only [decide_eq_false_iff_not]; omega
    rw [e1]
    rcases hk with hk | hk
    all_goals
      go_enter Try.func32, Try.ntmps32
      go_wp2
      go_ret
      exact ⟨rfl, rfl⟩
  have hk1 : 0 ≤ k := by omega
  have hk2 : k ≤ 1048576 := by omega
  by_cases hv : v < 0 ∨ 1048576 < v
  · have e1 : Plain.mayB ⟨k, v, t, o, g⟩ = false := by unfold Plain.mayB; simp only [decide_eq_false_iff_not]; omega
    rw [e1]
    clear hk
    rcases hv with hv | hv
    all_goals
      go_enter Try.func32, Try.ntmps32
      go_wp2
      go_ret
      exact ⟨rfl, rfl⟩
  have hv1 : 0 ≤ v := by omega
  have hv2 : v ≤ 1048576 := by omega
  by_cases ht : t < 0 ∨ 1048576 < t
  · have e1 : Plain.mayB ⟨k, v, t, o, g⟩ = false := by unfold Plain.mayB; simp only [decide_eq_false_iff_not]; omega
    rw [e1]
    clear hk hv
    rcases ht with ht | ht
    all_goals
      go_enter Try.func32, Try.ntmps32
      go_wp2
      go_ret
      exact ⟨rfl, rfl⟩
  have ht1 : 0 ≤ t := by omega
  have ht2 : t ≤ 1048576 := by omega
  by_cases ho : o < 0 ∨ 8 ≤ o
  · have e1 : Plain.mayB ⟨k, v, t, o, g⟩ = false := by unfold Plain.mayB; simp only [decide_eq_false_iff_not]; omega
    rw [e1]
    clear hk hv ht
    rcases ho with ho | ho
    all_goals
      go_enter Try.func32, Try.ntmps32
      go_wp2
      go_ret
      exact ⟨rfl, rfl⟩
  have ho1 : 0 ≤ o := by omega
  have ho2 : o < 8 := by omega
  clear hk hv ht ho
  cases g with
  | false =>
    have e1 : Plain.mayB ⟨k, v, t, o, false⟩ = true := by unfold Plain.mayB; simp; omega
    rw [e1]
    go_enter Try.func32, Try.ntmps32
    go_wp2
    go_ret
    exact ⟨rfl, rfl⟩
  | true =>
    by_cases h0 : v = 0
    · subst h0
      have e1 : Plain.mayB ⟨k, 0, t, o, true⟩ = true := by unfold Plain.mayB; simp; omega
      rw [e1]
      go_enter Try.func32, Try.ntmps32
      go_wp2
      go_ret
      exact ⟨rfl, rfl⟩
    · have e1 : Plain.mayB ⟨k, v, t, o, true⟩ = false := by unfold Plain.mayB; simp only [decide_eq_false_iff_not]; intro h; exact h0 (h.2.2.2.2 (by simp))
      rw [e1]
      have b0 : (v == 0) = false := beq_eq_false_iff_ne.2 h0
      go_enter Try.func32, Try.ntmps32
      go_wp2
      go_ret
      exact ⟨rfl, rfl⟩

/-- The literal of May. -/
theorem may1_c (e : Plain.En) (w : World) :
    Calls Try.prog 31 #[aggE e] w fun r w' => r = .returned (.bool (!Plain.mayB e)) ∧ w' = (w.alloc (boxE e)).alloc (boxE e) := by
  have K := fun W => mayBe_c e W
  generalize Plain.mayB e = r at K ⊢
  go_enter Try.func31, Try.ntmps31
  go_wp2_with (go_at_call 32; refine (K _).mono ?_; rintro r w' ⟨rfl, rfl⟩)
  go_ret
  exact ⟨rfl, rfl⟩
end Go.Proofs.Ytiolkeghgodggak

/-
  Contracts of package lab's functions, and of the law's own Picked and flows.
-/
import Derived.Test.YtnmggnlndndbgabRows
import Derived.Test.YtnmggnlndndbgabPlain
import Derived.WalkKit
import Derived.WalkSpells
import Derived.WalkLawsBesides
import Derived.OpenShut
namespace Go.Proofs.Ytnmggnlndndbgab
open Go.RowKit

theorem hid {p : Prop} (h : p) : Hid p := h

theorem ma (a : Nat) (ha : a < 256) : (bits .andNot .i64 (a : Int) 255 == 0) = true := beq_iff_eq.2 ((Plain.may_iff a (by omega) (by omega)).2 (by omega))

theorem ma_no (a : Int) (h1 : -9223372036854775808 ≤ a) (h2 : a ≤ 9223372036854775807) (ha : ¬ (0 ≤ a ∧ a ≤ 255)) : (bits .andNot .i64 a 255 == 0) = false :=
  beq_eq_false_iff_ne.2 (fun e => ha ((Plain.may_iff a h1 (by omega)).1 e))

namespace Plain

/-- Each branch of b is in a. -/
def flowsB (a b : Nat) : Bool := b &&& a == b

theorem flowsB_iff (a b : Nat) (hb : b < 256) : flowsB a b = true ↔ ∀ k, k < 8 → (b / 2 ^ k % 2 == 1) = true → (a / 2 ^ k % 2 == 1) = true := by
  unfold flowsB
  rw [beq_iff_eq]
  constructor
  · intro h k _ hk
    have e := bit_and b a k
    rw [h, hk] at e
    simpa using e.symm
  · intro h
    apply Nat.eq_of_testBit_eq
    intro k
    rw [Nat.testBit_and]
    by_cases hk : k < 8
    · have h1 := h k hk
      simp only [beq_iff_eq] at h1
      simp only [Nat.testBit_eq_decide_div_mod_eq]
      by_cases e : b / 2 ^ k % 2 = 1
      · simp [e, h1 e]
      · simp [e]
    · have : b.testBit k = false := Nat.testBit_lt_two_pow (Nat.lt_of_lt_of_le hb (Nat.pow_le_pow_right (by decide) (by omega) : 2 ^ 8 ≤ 2 ^ k))
      rw [this]; rfl

theorem flows_eq (a b : Nat) (ha : a < 256) (hb : b < 256) : (bits .andNot .i64 (b : Int) (a : Int) == 0) = flowsB a b := by
  unfold flowsB
  rw [Bool.eq_iff_iff, beq_iff_eq, beq_iff_eq, flows_iff b a hb ha]
end Plain

set_option maxHeartbeats 400000 in
theorem join_yes (a b : Nat) (ha : a < 256) (hb : b < 256) (w : World) :
    Calls Try.prog 10 #[.int .i64 a, .int .i64 b] w fun e w' => e = .returned (.tuple #[.int .i64 (a &&& b : Nat), .int .i64 0]) ∧ w' = w := by
  have e1 := ma a ha
  have e2 := ma b hb
  have e3 := Plain.and_nat a b (by omega) (by omega)
  go_enter Try.func10, Try.ntmps10
  go_wp2
  go_ret2
  exact ⟨rfl, rfl⟩

set_option maxHeartbeats 400000 in
theorem meet_yes (a b : Nat) (ha : a < 256) (hb : b < 256) (w : World) :
    Calls Try.prog 11 #[.int .i64 a, .int .i64 b] w fun e w' => e = .returned (.tuple #[.int .i64 (a ||| b : Nat), .int .i64 0]) ∧ w' = w := by
  have e1 := ma a ha
  have e2 := ma b hb
  have e3 := Plain.or_nat a b (by omega) (by omega)
  go_enter Try.func11, Try.ntmps11
  go_wp2
  go_ret2
  exact ⟨rfl, rfl⟩

set_option maxHeartbeats 400000 in
theorem flows_yes (a b : Nat) (ha : a < 256) (hb : b < 256) (w : World) :
    Calls Try.prog 14 #[.int .i64 a, .int .i64 b] w fun e w' => e = .returned (.tuple #[.bool (Plain.flowsB a b), .int .i64 0]) ∧ w' = w := by
  have e1 := ma a ha
  have e2 := ma b hb
  have e3 := Plain.flows_eq a b ha hb
  go_enter Try.func14, Try.ntmps14
  go_wp2
  go_ret2
  exact ⟨rfl, rfl⟩

set_option maxHeartbeats 400000 in
theorem may_yes (a : Nat) (ha : a < 256) (w : World) : Calls Try.prog 8 #[.int .i64 a] w fun e w' => e = .returned (.bool true) ∧ w' = w := by
  have e1 := ma a ha
  go_enter Try.func8, Try.ntmps8
  go_wp2
  go_ret
  exact ⟨rfl, rfl⟩

set_option maxHeartbeats 400000 in
theorem may_no (a : Int) (h1 : -9223372036854775808 ≤ a) (h2 : a ≤ 9223372036854775807) (h : ¬ (0 ≤ a ∧ a ≤ 255)) (w : World) : Calls Try.prog 8 #[.int .i64 a] w fun e w' => e = .returned (.bool false) ∧ w' = w := by
  have e1 := ma_no a h1 h2 h
  clear h
  go_enter Try.func8, Try.ntmps8
  go_wp2
  go_ret
  exact ⟨rfl, rfl⟩

set_option maxHeartbeats 400000 in
theorem fl (a b : Nat) (ha : a < 256) (hb : b < 256) (w : World) :
    Calls Try.prog 9 #[.int .i64 a, .int .i64 b] w fun e w' => e = .returned (.bool (Plain.flowsB a b)) ∧ w' = w := by
  go_enter Try.func9, Try.ntmps9
  go_wp2_with fail
  refine (flows_yes a b ha hb _).mono ?_
  rintro e w' ⟨rfl, rfl⟩
  go_wp2
  go_ret
  exact ⟨rfl, rfl⟩

theorem fl_all (b : Nat) (hb : b < 256) (w : World) :
    Calls Try.prog 9 #[.int .i64 255, .int .i64 b] w fun e w' => e = .returned (.bool (Plain.flowsB 255 b)) ∧ w' = w := fl 255 b (by decide) hb w
theorem fl_none (a : Nat) (ha : a < 256) (w : World) :
    Calls Try.prog 9 #[.int .i64 a, .int .i64 0] w fun e w' => e = .returned (.bool (Plain.flowsB a 0)) ∧ w' = w := fl a 0 ha (by decide) w

theorem tmod_cases (a n : Int) (hn : 0 < n) : (a.tmod n < 0 ∧ a.tmod n + n = a % n ∧ -n < a.tmod n) ∨ (0 ≤ a.tmod n ∧ a.tmod n = a % n) := by
  have h1 := Int.emod_nonneg a (Int.ne_of_gt hn)
  have h2 := Int.emod_lt_of_pos a hn
  rw [Int.tmod_eq_emod]
  split
  · right; omega
  · rename_i h
    have h3 : a % n ≠ 0 := fun e => h (.inr (Int.dvd_of_emod_eq_zero e))
    have : (n.natAbs : Int) = n := by omega
    left; omega

set_option maxHeartbeats 400000 in
theorem picked (a : Int) (x : Nat) (hx : a % 256 = x) (w : World) :
    Calls Try.prog 7 #[.int .i64 a, .int .i64 256] w fun e w' => e = .returned (.int .i64 x) ∧ w' = w := by
  have HX : Hid _ := hx
  clear hx
  rcases tmod_cases a 256 (by decide) with ⟨h, e, h3⟩ | ⟨h, e⟩
  · rw [HX.out] at e
    have E1 : Hid _ := e
    clear e
    go_enter Try.func7, Try.ntmps7
    go_wp2
    go_ret
    rw [E1.out]
    exact ⟨rfl, rfl⟩
  · rw [HX.out] at e
    have E1 : Hid _ := e
    clear e
    have h' : ¬ a.tmod 256 < 0 := by omega
    go_enter Try.func7, Try.ntmps7
    go_wp2
    go_ret
    rw [E1.out]
    exact ⟨rfl, rfl⟩

end Go.Proofs.Ytnmggnlndndbgab

/-
  Contracts of lab.Flows and of the document's answer to it.
-/
import Derived.Test.YtnmggnlndndbgaaCalls
namespace Go.Proofs.Ytnmggnlndndbgaa
open Go.RowKit
namespace Plain

/-- Each branch of b is in a. -/
def flowsB (a b : Nat) : Bool := b &&& a == b

theorem flowsB_iff (a b : Nat) (hb : b < 256) : flowsB a b = true ↔ ∀ k, k < 8 → (b / 2 ^ k % 2 == 1) = true → (a / 2 ^ k % 2 == 1) = true := by
  unfold flowsB
  rw [beq_iff_eq]
  constructor
  · intro h k _ hk
    have e := bit_and b a k
    rw [h, hk] at e
    simpa using e.symm
  · intro h
    apply Nat.eq_of_testBit_eq
    intro k
    rw [Nat.testBit_and]
    by_cases hk : k < 8
    · have h1 := h k hk
      simp only [beq_iff_eq] at h1
      simp only [Nat.testBit_eq_decide_div_mod_eq]
      by_cases e : b / 2 ^ k % 2 = 1
      · simp [e, h1 e]
      · simp [e]
    · have : b.testBit k = false := Nat.testBit_lt_two_pow (Nat.lt_of_lt_of_le hb (Nat.pow_le_pow_right (by decide) (by omega) : 2 ^ 8 ≤ 2 ^ k))
      rw [this]; rfl

theorem flows_eq (a b : Nat) (ha : a < 256) (hb : b < 256) : (bits .andNot .i64 (b : Int) (a : Int) == 0) = flowsB a b := by
  unfold flowsB
  rw [Bool.eq_iff_iff, beq_iff_eq, beq_iff_eq, flows_iff b a hb ha]
end Plain

set_option maxHeartbeats 400000 in
theorem flows_yes (a b : Nat) (ha : a < 256) (hb : b < 256) (w : World) :
    Calls Try.prog 15 #[.int .i64 a, .int .i64 b] w fun e w' => e = .returned (.tuple #[.bool (Plain.flowsB a b), .int .i64 0]) ∧ w' = w := by
  have e1 := ma a ha
  have e2 := ma b hb
  have e3 := Plain.flows_eq a b ha hb
  go_enter Try.func15, Try.ntmps15
  go_wp2
  go_ret2
  exact ⟨rfl, rfl⟩

set_option maxHeartbeats 400000 in
theorem refFlows_yes (a b : Nat) (ha : a < 256) (hb : b < 256) (w : World) :
    Calls Try.prog 16 #[.int .i64 a, .int .i64 b] w fun e w' => e = .returned (.tuple #[.bool (Plain.flowsB a b), .int .i64 0]) ∧ Grown w w' := by
  go_enter Try.func16, Try.ntmps16
  go_wp2_with fail
  refine (refMay_yes a ha _).mono ?_
  rintro e w' ⟨rfl, rfl⟩
  go_wp2_with fail
  refine (refMay_yes b hb _).mono ?_
  rintro e w' ⟨rfl, rfl⟩
  go_wp2
  go_loop [6] (fun k => ∃ n : Nat, n ≤ 8 ∧ k = .int .i64 n ∧ Hid (∀ j, j < n → (b / 2 ^ j % 2 == 1) = true → (a / 2 ^ j % 2 == 1) = true)) (fun k => 8 - (intOf k).toNat)
  case atStart => exact ⟨0, by omega, rfl, hid (fun j hj => by omega)⟩
  case round =>
    obtain ⟨n, hn, rfl, HA⟩ := hrel
    by_cases hlt : n < 8
    · cases eb : (b / 2 ^ n % 2 == 1)
      · have EB : Hid _ := eb
        clear eb
        go_wp2_with fail
        refine (reads_any b n hb hlt _).mono ?_
        rintro e w' ⟨rfl, rfl⟩
        rw [EB.out]
        go_wp2
        go_round
        case rel =>
          refine ⟨n + 1, by omega, by go_num, hid (fun j hj hjb => ?_)⟩
          by_cases e : j = n
          · rw [e, EB.out] at hjb; cases hjb
          · exact HA.out j (by omega) hjb
        case measure => simp [intOf]; omega
      · have EB : Hid _ := eb
        clear eb
        cases ea : (a / 2 ^ n % 2 == 1)
        · have EA : Hid _ := ea
          clear ea
          go_wp2_with fail
          refine (reads_any b n hb hlt _).mono ?_
          rintro e w' ⟨rfl, rfl⟩
          rw [EB.out]
          go_wp2_with fail
          refine (reads_any a n ha hlt _).mono ?_
          rintro e w' ⟨rfl, rfl⟩
          rw [EA.out]
          go_wp2
          go_ret2
          have hf : Plain.flowsB a b = false := by
            cases h : Plain.flowsB a b
            · rfl
            · have := (Plain.flowsB_iff a b hb).1 h n hlt EB.out
              rw [EA.out] at this; cases this
          rw [hf]
          exact ⟨rfl, Grown.refl _⟩
        · have EA : Hid _ := ea
          clear ea
          go_wp2_with fail
          refine (reads_any b n hb hlt _).mono ?_
          rintro e w' ⟨rfl, rfl⟩
          rw [EB.out]
          go_wp2_with fail
          refine (reads_any a n ha hlt _).mono ?_
          rintro e w' ⟨rfl, rfl⟩
          rw [EA.out]
          go_wp2
          go_round
          case rel =>
            refine ⟨n + 1, by omega, by go_num, hid (fun j hj hjb => ?_)⟩
            by_cases e : j = n
            · rw [e]; exact EA.out
            · exact HA.out j (by omega) hjb
          case measure => simp [intOf]; omega
    · go_wp2
      go_ret2
      have h8 : n = 8 := by omega
      subst h8
      have hf : Plain.flowsB a b = true := (Plain.flowsB_iff a b hb).2 HA.out
      rw [hf]
      exact ⟨rfl, Grown.refl _⟩

set_option maxHeartbeats 400000 in
theorem refFlows_no (a b : Int) (h : ¬ ((0 ≤ a ∧ a ≤ 255) ∧ (0 ≤ b ∧ b ≤ 255))) (w : World) :
    Calls Try.prog 16 #[.int .i64 a, .int .i64 b] w fun e w' => e = .returned (.tuple #[.bool false, .int .i64 2]) ∧ Grown w w' := by
  by_cases la : 0 ≤ a ∧ a ≤ 255
  · have lb : ¬ (0 ≤ b ∧ b ≤ 255) := fun lb => h ⟨la, lb⟩
    clear h
    obtain ⟨n, rfl⟩ := Int.eq_ofNat_of_zero_le la.1
    have hn : n < 256 := by omega
    have LB : Hid _ := lb
    clear la lb
    go_enter Try.func16, Try.ntmps16
    go_wp2_with fail
    refine (refMay_yes n hn _).mono ?_
    rintro e w' ⟨rfl, rfl⟩
    go_wp2_with fail
    refine (refMay_no b LB.out _).mono ?_
    rintro e w' ⟨rfl, rfl⟩
    go_wp2
    go_ret2
    exact ⟨rfl, by repeat (first | exact Grown.refl _ | apply Grown.drew | apply Grown.alloc)⟩
  · have LA : Hid _ := la
    clear h la
    go_enter Try.func16, Try.ntmps16
    go_wp2_with fail
    refine (refMay_no a LA.out _).mono ?_
    rintro e w' ⟨rfl, rfl⟩
    go_wp2
    go_ret2
    exact ⟨rfl, by repeat (first | exact Grown.refl _ | apply Grown.drew | apply Grown.alloc)⟩


end Go.Proofs.Ytnmggnlndndbgaa

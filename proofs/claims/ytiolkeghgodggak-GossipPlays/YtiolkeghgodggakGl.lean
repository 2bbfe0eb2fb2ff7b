/-
  gossip.mayRead: are some in a label?
-/
import Derived.Test.YtiolkeghgodggakLa
import Derived.Test.YtiolkeghgodggakGp
import Derived.Test.YtiolkeghgodggakGa
namespace Go.Proofs.Ytiolkeghgodggak
open Go.RowKit
namespace LabP
/-- All of x are in s. -/
def inB (x s : Nat) : Bool := x &&& s == x
theorem inB_eq (x s : Nat) (hx : x < 256) (hs : s < 256) : (bits .andNot .i64 (x : Int) (s : Int) == 0) = inB x s := by
  unfold inB
  rw [Bool.eq_iff_iff, beq_iff_eq, beq_iff_eq, flows_iff x s hx hs]
theorem inB_iff (x s : Nat) : inB x s = true ↔ ∀ k, x.testBit k = true → s.testBit k = true := by
  unfold inB
  rw [beq_iff_eq]
  constructor
  · intro h k hk
    have e := Nat.testBit_and x s k
    rw [h, hk] at e
    simpa using e.symm
  · intro h
    apply Nat.eq_of_testBit_eq
    intro k
    rw [Nat.testBit_and]
    cases hx : x.testBit k with
    | false => rfl
    | true => rw [h k hx]; rfl
theorem reads_bit (s k : Nat) : Plain.reads (s : Int) k = s.testBit k := by
  unfold Plain.reads
  rw [Int.toNat_natCast, Nat.testBit_eq_decide_div_mod_eq, Bool.eq_iff_iff, beq_iff_eq, decide_eq_true_iff]
theorem inB_one (s k : Nat) : inB (2 ^ k) s = Plain.reads (s : Int) k := by
  rw [Bool.eq_iff_iff, inB_iff, reads_bit]
  constructor
  · intro h; exact h k (by simp [Nat.testBit_two_pow_self])
  · intro h j hj
    have : k = j := by
      rw [Nat.testBit_two_pow] at hj
      simpa using hj
    subst this
    exact h
theorem inB_two (s a b : Nat) : inB (2 ^ a ||| 2 ^ b) s = (Plain.reads (s : Int) a && Plain.reads (s : Int) b) := by
  rw [Bool.eq_iff_iff, inB_iff, Bool.and_eq_true, reads_bit, reads_bit]
  constructor
  · intro h
    exact ⟨h a (by rw [Nat.testBit_or, Nat.testBit_two_pow_self]; rfl), h b (by rw [Nat.testBit_or, Nat.testBit_two_pow_self]; simp)⟩
  · rintro ⟨h1, h2⟩ j hj
    rw [Nat.testBit_or, Nat.testBit_two_pow, Nat.testBit_two_pow] at hj
    have : a = j ∨ b = j := by simpa using hj
    rcases this with rfl | rfl
    · exact h1
    · exact h2
theorem inB_all (x n : Nat) : inB x (2 ^ n - 1) = decide (x < 2 ^ n) := by
  unfold inB
  rw [Nat.and_two_pow_sub_one_eq_mod, Bool.eq_iff_iff, beq_iff_eq, decide_eq_true_iff]
  constructor
  · intro h
    have := Nat.mod_lt x (Nat.two_pow_pos n)
    omega
  · exact Nat.mod_eq_of_lt
theorem pow_lt {k : Nat} (h : k < 8) : 2 ^ k < 256 := Nat.lt_of_lt_of_le (Nat.pow_lt_pow_right (by decide) h) (by decide)
theorem pow_le {k : Nat} (h : k ≤ 8) : 2 ^ k ≤ 256 := Nat.pow_le_pow_right (by decide) h
theorem or_lt {a b : Nat} (ha : a < 8) (hb : b < 8) : 2 ^ a ||| 2 ^ b < 256 := Nat.or_lt_two_pow (n := 8) (pow_lt ha) (pow_lt hb)
end LabP

theorem ma (a : Nat) (ha : a < 256) : (bits .andNot .i64 (a : Int) 255 == 0) = true := beq_iff_eq.2 ((LabP.may_iff a (by omega) (by omega)).2 (by omega))
theorem ma_no (a : Int) (h1 : -9223372036854775808 ≤ a) (h2 : a ≤ 9223372036854775807) (ha : ¬ (0 ≤ a ∧ a ≤ 255)) : (bits .andNot .i64 a 255 == 0) = false :=
  beq_eq_false_iff_ne.2 (fun e => ha ((LabP.may_iff a h1 (by omega)).1 e))

set_option maxHeartbeats 800000 in
theorem mayRead_yes (x s : Nat) (hx : x < 256) (hs : s < 256) (w : World) :
    Calls Try.prog 22 #[.int .i64 x, .int .i64 s] w fun e w' => e = .returned (.bool (LabP.inB x s)) ∧ w' = w := by
  have e1 := ma x hx
  have e2 := ma s hs
  have e3 := LabP.inB_eq x s hx hs
  go_enter Try.func22, Try.ntmps22
  go_wp2
  go_ret
  exact ⟨rfl, rfl⟩

set_option maxHeartbeats 800000 in
theorem mayRead_no (x : Int) (s : Nat) (h1 : -9223372036854775808 ≤ x) (h2 : x ≤ 9223372036854775807) (hx : ¬ (0 ≤ x ∧ x ≤ 255)) (hs : s < 256) (w : World) :
    Calls Try.prog 22 #[.int .i64 x, .int .i64 s] w fun e w' => e = .returned (.bool false) ∧ w' = w := by
  have e1 := ma_no x h1 h2 hx
  have e2 := ma s hs
  clear h1 h2 hx hs
  go_enter Try.func22, Try.ntmps22
  go_wp2
  go_ret
  exact ⟨rfl, rfl⟩

/-- Are all of a label among the first n? -/
theorem mayRead_all (x : Int) (n : Nat) (hn : n ≤ 8) (h1 : -9223372036854775808 ≤ x) (h2 : x ≤ 9223372036854775807) (w : World) :
    Calls Try.prog 22 #[.int .i64 x, .int .i64 ((2 ^ n - 1 : Nat) : Int)] w fun e w' => e = .returned (.bool (!decide (x < 0 ∨ (2 : Int) ^ n ≤ x))) ∧ w' = w := by
  have hp := LabP.pow_le hn
  have hp1 := Nat.two_pow_pos n
  have hz : ((2 ^ n : Nat) : Int) = (2 : Int) ^ n := by simp
  by_cases hx : 0 ≤ x ∧ x ≤ 255
  · obtain ⟨y, rfl⟩ : ∃ y : Nat, x = (y : Int) := ⟨x.toNat, by omega⟩
    refine (mayRead_yes y (2 ^ n - 1) (by omega) (by omega) w).mono ?_
    rintro e w' ⟨rfl, rfl⟩
    refine ⟨?_, rfl⟩
    rw [LabP.inB_all]
    have : decide (y < 2 ^ n) = !decide ((y : Int) < 0 ∨ (2 : Int) ^ n ≤ (y : Int)) := by
      rw [Bool.eq_iff_iff, decide_eq_true_iff, Bool.not_eq_true', decide_eq_false_iff_not, ← hz]
      omega
    rw [this]
  · refine (mayRead_no x (2 ^ n - 1) h1 h2 hx (by omega) w).mono ?_
    rintro e w' ⟨rfl, rfl⟩
    refine ⟨?_, rfl⟩
    have : decide (x < 0 ∨ (2 : Int) ^ n ≤ x) = true := by
      rw [decide_eq_true_iff, ← hz]
      omega
    rw [this]
    rfl
end Go.Proofs.Ytiolkeghgodggak

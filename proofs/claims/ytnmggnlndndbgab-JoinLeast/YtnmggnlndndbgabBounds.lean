/-
  Plain facts: joins and meets are bounds, and spread; the contracts of Join and Meet with a name for what comes out.
-/
import Derived.Test.YtnmggnlndndbgabOrder
namespace Go.Proofs.Ytnmggnlndndbgab
namespace Plain

theorem and_lt (a b : Nat) (h : a < 256) : a &&& b < 256 := Nat.lt_of_le_of_lt Nat.and_le_left h
theorem or_lt (a b : Nat) (h : a < 256) (k : b < 256) : a ||| b < 256 := Nat.or_lt_two_pow (n := 8) h k

theorem bit_sub (a b : Nat) : flowsB a b = true ↔ ∀ i, b.testBit i = true → a.testBit i = true := by
  rw [fB]
  constructor
  · intro h i hi
    have e : (b &&& a).testBit i = b.testBit i := by rw [h]
    rw [Nat.testBit_and, hi] at e
    simpa using e
  · intro h
    apply Nat.eq_of_testBit_eq
    intro i
    rw [Nat.testBit_and]
    cases e : b.testBit i
    · rfl
    · rw [h i e]; rfl

theorem flows_join_left (x y : Nat) : flowsB x (x &&& y) = true := by
  rw [bit_sub]; intro i; rw [Nat.testBit_and]; cases x.testBit i <;> simp
theorem flows_join_right (x y : Nat) : flowsB y (x &&& y) = true := by
  rw [bit_sub]; intro i; rw [Nat.testBit_and]; cases y.testBit i <;> simp
theorem flows_meet_left (x y : Nat) : flowsB (x ||| y) x = true := by
  rw [bit_sub]; intro i; rw [Nat.testBit_or]; cases x.testBit i <;> simp
theorem flows_meet_right (x y : Nat) : flowsB (x ||| y) y = true := by
  rw [bit_sub]; intro i; rw [Nat.testBit_or]; cases y.testBit i <;> simp
theorem flows_to (x y z : Nat) : flowsB (x &&& y) z = (flowsB x z && flowsB y z) := by
  rw [Bool.eq_iff_iff, Bool.and_eq_true, bit_sub, bit_sub, bit_sub]
  constructor
  · intro h
    constructor <;> intro i hi <;> have := h i hi <;> rw [Nat.testBit_and, Bool.and_eq_true] at this
    · exact this.1
    · exact this.2
  · rintro ⟨h, k⟩ i hi
    rw [Nat.testBit_and, h i hi, k i hi]; rfl
theorem flows_from (x y z : Nat) : flowsB z (x ||| y) = (flowsB z x && flowsB z y) := by
  rw [Bool.eq_iff_iff, Bool.and_eq_true, bit_sub, bit_sub, bit_sub]
  constructor
  · intro h
    constructor <;> intro i hi <;> apply h i <;> rw [Nat.testBit_or, hi] <;> simp
  · rintro ⟨h, k⟩ i hi
    rw [Nat.testBit_or, Bool.or_eq_true] at hi
    rcases hi with hi | hi
    · exact h i hi
    · exact k i hi
end Plain

theorem join_is (a b j : Nat) (ha : a < 256) (hb : b < 256) (h : a &&& b = j) (w : World) :
    Calls Try.prog 10 #[.int .i64 a, .int .i64 b] w fun e w' => e = .returned (.tuple #[.int .i64 j, .int .i64 0]) ∧ w' = w := by
  subst h; exact join_yes a b ha hb w
theorem meet_is (a b j : Nat) (ha : a < 256) (hb : b < 256) (h : a ||| b = j) (w : World) :
    Calls Try.prog 11 #[.int .i64 a, .int .i64 b] w fun e w' => e = .returned (.tuple #[.int .i64 j, .int .i64 0]) ∧ w' = w := by
  subst h; exact meet_yes a b ha hb w
end Go.Proofs.Ytnmggnlndndbgab

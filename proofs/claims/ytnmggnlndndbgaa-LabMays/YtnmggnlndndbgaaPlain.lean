/-
  Plain facts on bits of 64-bit numbers, and on labels as numbers from 0 to 255: nothing of the program stands here.
-/
import Derived.WalkKit
namespace Go.Proofs.Ytnmggnlndndbgaa
namespace Plain

theorem toNat_ofInt (a : Nat) (h : a < 9223372036854775808) : (BitVec.ofInt 64 (a : Int)).toNat = a := by
  rw [BitVec.ofInt_natCast, BitVec.toNat_ofNat]; exact Nat.mod_eq_of_lt (by omega)

theorem wrap_nat (a : Nat) (h : a < 9223372036854775808) : IntKind.i64.wrap (a : Int) = (a : Int) := by
  simp only [IntKind.wrap, IntKind.bits, IntKind.signed]
  simp
  omega

theorem wrap_zero (a : Nat) (h : a < 18446744073709551616) : IntKind.i64.wrap (a : Int) = 0 ↔ a = 0 := by
  simp only [IntKind.wrap, IntKind.bits, IntKind.signed]
  simp
  omega

theorem and_nat (a b : Nat) (ha : a < 9223372036854775808) (hb : b < 9223372036854775808) :
    bits .and .i64 (a : Int) (b : Int) = ((a &&& b : Nat) : Int) := by
  have hx : a &&& b < 2 ^ 63 := Nat.and_lt_two_pow _ (by omega)
  show IntKind.i64.wrap ((BitVec.ofInt 64 (a : Int) &&& BitVec.ofInt 64 (b : Int)).toNat : Int) = _
  rw [BitVec.toNat_and, toNat_ofInt a ha, toNat_ofInt b hb, wrap_nat _ (by omega)]

theorem or_nat (a b : Nat) (ha : a < 9223372036854775808) (hb : b < 9223372036854775808) :
    bits .or .i64 (a : Int) (b : Int) = ((a ||| b : Nat) : Int) := by
  have hx : a ||| b < 2 ^ 63 := Nat.or_lt_two_pow (by omega) (by omega)
  show IntKind.i64.wrap ((BitVec.ofInt 64 (a : Int) ||| BitVec.ofInt 64 (b : Int)).toNat : Int) = _
  rw [BitVec.toNat_or, toNat_ofInt a ha, toNat_ofInt b hb, wrap_nat _ (by omega)]

theorem andNot_bv (x y : BitVec 64) : (x &&& ~~~y).toNat = 0 ↔ x.toNat &&& y.toNat = x.toNat := by
  have hb : ∀ i, (x &&& ~~~y).toNat.testBit i = (x.toNat.testBit i && !y.toNat.testBit i) := by
    intro i
    show (x &&& ~~~y).getLsbD i = (x.getLsbD i && !y.getLsbD i)
    rw [BitVec.getLsbD_and, BitVec.getLsbD_not]
    by_cases hi : i < 64
    · simp [hi]
    · rw [BitVec.getLsbD_of_ge x i (by omega)]; simp
  constructor
  · intro h
    apply Nat.eq_of_testBit_eq
    intro i
    have := hb i
    rw [h, Nat.zero_testBit] at this
    rw [Nat.testBit_and]
    revert this
    cases x.toNat.testBit i <;> cases y.toNat.testBit i <;> simp
  · intro h
    apply Nat.eq_of_testBit_eq
    intro i
    have e : (x.toNat &&& y.toNat).testBit i = x.toNat.testBit i := by rw [h]
    rw [hb i, Nat.zero_testBit]
    rw [Nat.testBit_and] at e
    revert e
    cases x.toNat.testBit i <;> cases y.toNat.testBit i <;> simp

theorem andNot_zero (a b : Int) : bits .andNot .i64 a b = 0 ↔ (BitVec.ofInt 64 a).toNat &&& (BitVec.ofInt 64 b).toNat = (BitVec.ofInt 64 a).toNat := by
  rw [← andNot_bv]
  show IntKind.i64.wrap ((BitVec.ofInt 64 a &&& ~~~BitVec.ofInt 64 b).toNat : Int) = 0 ↔ _
  exact wrap_zero _ (BitVec.isLt _)

/-- A number that has no bit beside the eight lowest is one from 0 to 255. -/
theorem may_iff (a : Int) (h1 : -9223372036854775808 ≤ a) (h2 : a < 9223372036854775808) : bits .andNot .i64 a 255 = 0 ↔ (0 ≤ a ∧ a ≤ 255) := by
  rw [andNot_zero]
  have e : (BitVec.ofInt 64 255).toNat = 2 ^ 8 - 1 := by decide
  rw [e, Nat.and_two_pow_sub_one_eq_mod, BitVec.toNat_ofInt]
  omega

theorem flows_iff (a b : Nat) (ha : a < 256) (hb : b < 256) : bits .andNot .i64 (a : Int) (b : Int) = 0 ↔ a &&& b = a := by
  rw [andNot_zero, toNat_ofInt a (by omega), toNat_ofInt b (by omega)]

end Plain
end Go.Proofs.Ytnmggnlndndbgaa

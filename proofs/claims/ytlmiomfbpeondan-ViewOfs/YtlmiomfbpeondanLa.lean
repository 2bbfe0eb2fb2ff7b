/-
  Plain facts on bits of 64-bit numbers, and on labels as numbers from 0 to 255: nothing of the program stands here.
-/
import Derived.WalkKit
namespace Go.Proofs.Ytlmiomfbpeondan
namespace LabP

theorem toNat_ofInt (a : Nat) (h : a < 9223372036854775808) : (BitVec.ofInt 64 (a : Int)).toNat = a := by
  rw [BitVec.ofInt_natCast, BitVec.toNat_ofNat]; exact Nat.mod_eq_of_lt (by omega)

theorem wrap_nat (a : Nat) (h : a < 9223372036854775808) : IntKind.i64.wrap (a : Int) = (a : Int) := by
  simp only [IntKind.wrap, IntKind.bits, IntKind.signed]
  simp
  omega

theorem wrap_zero (a : Nat) (h : a < 18446744073709551616) : IntKind.i64.wrap (a : Int) = 0 ↔ a = 0 := by
  simp only [IntKind.wrap, IntKind.bits, IntKind.signed]
  simp
  omega

theorem and_nat (a b : Nat) (ha : a < 9223372036854775808) (hb : b < 9223372036854775808) :
    bits .and .i64 (a : Int) (b : Int) = ((a &&& b : Nat) : Int) := by
  have hx : a &&& b < 2 ^ 63 := Nat.and_lt_two_pow _ (by omega)
  show IntKind.i64.wrap ((BitVec.ofInt 64 (a : Int) &&& BitVec.ofInt 64 (b : Int)).toNat : Int) = _
  rw [BitVec.toNat_and, toNat_ofInt a ha, toNat_ofInt b hb, wrap_nat _ (by omega)]

theorem or_nat (a b : Nat) (ha : a < 9223372036854775808) (hb : b < 9223372036854775808) :
    bits .or .i64 (a : Int) (b : Int) = ((a ||| b : Nat) : Int) := by
  have hx : a ||| b < 2 ^ 63 := Nat.or_lt_two_pow (by omega) (by omega)
  show IntKind.i64.wrap ((BitVec.ofInt 64 (a : Int) ||| BitVec.ofInt 64 (b : Int)).toNat : Int) = _
  rw [BitVec.toNat_or, toNat_ofInt a ha, toNat_ofInt b hb, wrap_nat _ (by omega)]

theorem andNot_bv (x y : BitVec 64) : (x &&& ~~~y).toNat = 0 ↔ x.toNat &&& y.toNat = x.toNat := by
  have hb : ∀ i, (x &&& ~~~y).toNat.testBit i = (x.toNat.testBit i && !y.toNat.testBit i) := by
    intro i
    show (x &&& ~~~y).getLsbD i = (x.getLsbD i && !y.getLsbD i)
    rw [BitVec.getLsbD_and, BitVec.getLsbD_not]
    by_cases hi : i < 64
    · simp [hi]
    · rw [BitVec.getLsbD_of_ge x i (by omega)]; simp
  constructor
  · intro h
    apply Nat.eq_of_testBit_eq
    intro i
    have := hb i
    rw [h, Nat.zero_testBit] at this
    rw [Nat.testBit_and]
    revert this
    cases x.toNat.testBit i <;> cases y.toNat.testBit i <;> simp
  · intro h
    apply Nat.eq_of_testBit_eq
    intro i
    have e : (x.toNat &&& y.toNat).testBit i = x.toNat.testBit i := by rw [h]
    rw [hb i, Nat.zero_testBit]
    rw [Nat.testBit_and] at e
    revert e
    cases x.toNat.testBit i <;> cases y.toNat.testBit i <;> simp

theorem andNot_zero (a b : Int) : bits .andNot .i64 a b = 0 ↔ (BitVec.ofInt 64 a).toNat &&& (BitVec.ofInt 64 b).toNat = (BitVec.ofInt 64 a).toNat := by
  rw [← andNot_bv]
  show IntKind.i64.wrap ((BitVec.ofInt 64 a &&& ~~~BitVec.ofInt 64 b).toNat : Int) = 0 ↔ _
  exact wrap_zero _ (BitVec.isLt _)

/-- A number that has no bit beside the eight lowest is one from 0 to 255. -/
theorem may_iff (a : Int) (h1 : -9223372036854775808 ≤ a) (h2 : a < 9223372036854775808) : bits .andNot .i64 a 255 = 0 ↔ (0 ≤ a ∧ a ≤ 255) := by
  rw [andNot_zero]
  have e : (BitVec.ofInt 64 255).toNat = 2 ^ 8 - 1 := by decide
  rw [e, Nat.and_two_pow_sub_one_eq_mod, BitVec.toNat_ofInt]
  omega

theorem flows_iff (a b : Nat) (ha : a < 256) (hb : b < 256) : bits .andNot .i64 (a : Int) (b : Int) = 0 ↔ a &&& b = a := by
  rw [andNot_zero, toNat_ofInt a (by omega), toNat_ofInt b (by omega)]

/-- Bit k of a label, as the document's answer asks for it. -/
theorem reads_eq (s k : Nat) (hs : s < 256) : (bits .and .i64 ((s : Int) / 2 ^ k) 1 == 1) = (s / 2 ^ k % 2 == 1) := by
  have h : s / 2 ^ k ≤ s := Nat.div_le_self _ _
  have e : ((s : Int) / 2 ^ k) = ((s / 2 ^ k : Nat) : Int) := by simp
  have e1 : ((1 : Int)) = ((1 : Nat) : Int) := rfl
  rw [e]
  have e2 : bits .and .i64 ((s / 2 ^ k : Nat) : Int) 1 = ((s / 2 ^ k % 2 : Nat) : Int) := by
    rw [e1, and_nat _ _ (by omega) (by decide), Nat.and_one_is_mod]
  rw [e2, Bool.eq_iff_iff, beq_iff_eq, beq_iff_eq]
  omega

/-- The label of those of the first n branches that are so. -/
def label (g : Nat → Bool) : Nat → Nat
  | 0 => 0
  | n + 1 => label g n + if g n then 2 ^ n else 0

theorem label_lt (g : Nat → Bool) (n : Nat) : label g n < 2 ^ n := by
  induction n with
  | zero => simp [label]
  | succ n ih => simp only [label, Nat.pow_succ]; split <;> omega

theorem label_congr (f g : Nat → Bool) (n : Nat) (h : ∀ k, k < n → f k = g k) : label f n = label g n := by
  induction n with
  | zero => rfl
  | succ n ih => simp only [label, ih (fun k hk => h k (by omega)), h n (by omega)]

/-- A number below 2^n is the label of its bits. -/
theorem label_self (x n : Nat) : label (fun k => x / 2 ^ k % 2 == 1) n = x % 2 ^ n := by
  induction n with
  | zero => simp [label, Nat.mod_one]
  | succ n ih =>
    simp only [label, ih, beq_iff_eq]
    rw [Nat.mod_pow_succ]
    split
    · rename_i h; rw [h]; omega
    · have : x / 2 ^ n % 2 = 0 := by omega
      rw [this]; omega

theorem bit_and (a b k : Nat) : ((a &&& b) / 2 ^ k % 2 == 1) = ((a / 2 ^ k % 2 == 1) && (b / 2 ^ k % 2 == 1)) := by
  have h := Nat.testBit_and a b k
  simp only [Nat.testBit_eq_decide_div_mod_eq] at h
  rw [Bool.eq_iff_iff] at h ⊢
  simpa using h

theorem bit_or (a b k : Nat) : ((a ||| b) / 2 ^ k % 2 == 1) = ((a / 2 ^ k % 2 == 1) || (b / 2 ^ k % 2 == 1)) := by
  have h := Nat.testBit_or a b k
  simp only [Nat.testBit_eq_decide_div_mod_eq] at h
  rw [Bool.eq_iff_iff] at h ⊢
  simpa using h

theorem label_and (a b : Nat) (ha : a < 256) : label (fun k => (a / 2 ^ k % 2 == 1) && (b / 2 ^ k % 2 == 1)) 8 = a &&& b := by
  have h : a &&& b < 2 ^ 8 := Nat.lt_of_le_of_lt Nat.and_le_left ha
  rw [← label_congr (fun k => (a &&& b) / 2 ^ k % 2 == 1) _ 8 (fun k _ => bit_and a b k), label_self, Nat.mod_eq_of_lt h]

theorem label_or (a b : Nat) (ha : a < 256) (hb : b < 256) : label (fun k => (a / 2 ^ k % 2 == 1) || (b / 2 ^ k % 2 == 1)) 8 = a ||| b := by
  have h : a ||| b < 2 ^ 8 := Nat.or_lt_two_pow ha hb
  rw [← label_congr (fun k => (a ||| b) / 2 ^ k % 2 == 1) _ 8 (fun k _ => bit_or a b k), label_self, Nat.mod_eq_of_lt h]

end LabP
end Go.Proofs.Ytlmiomfbpeondan

/-
  Configs, plain: which may be; who is in a label.
-/
import Derived.Test.YtlmiomfbpeondanLa
namespace Go.Proofs.Ytlmiomfbpeondan
namespace Plain
/-- A config. -/
structure Cf where
  n : Int
  ls : List Int
  t : Int
  ms : List Int
  cap : Int
def inR (x a b : Int) : Bool := decide (a ≤ x) && decide (x ≤ b)
def cntB (x : Int) : Bool := inR x 0 1048576
def labB (n s : Int) : Bool := decide (0 ≤ s) && decide (s < 2 ^ n.toNat)
def labsB (c : Cf) : Bool := decide (c.ls.length ≤ 4) && c.ls.all (labB c.n)
def mayC (c : Cf) : Bool := inR c.n 1 8 && (labsB c && (inR c.t 1 8 && (inR c.ms.length 1 3 && (c.ms.all cntB && inR c.cap 0 1048576))))
/-- Is a branch in a label? -/
def rdB (s : Int) (k : Int) : Bool := decide (0 ≤ k) && (decide (k < 8) && s.toNat / 2 ^ k.toNat % 2 == 1)
theorem inR_iff (x a b : Int) : inR x a b = true ↔ a ≤ x ∧ x ≤ b := by simp [inR]
theorem inR_no (x a b : Int) : inR x a b = false ↔ ¬ (a ≤ x ∧ x ≤ b) := by rw [← inR_iff]; simp
/-- All that a config that may be tells. -/
theorem may_all {c : Cf} (h : mayC c = true) : (1 ≤ c.n ∧ c.n ≤ 8) ∧ c.ls.length ≤ 4 ∧ c.ls.all (labB c.n) = true ∧ (1 ≤ c.t ∧ c.t ≤ 8) ∧ (1 ≤ c.ms.length ∧ c.ms.length ≤ 3) ∧ c.ms.all cntB = true ∧ (0 ≤ c.cap ∧ c.cap ≤ 1048576) := by
  simp only [mayC, labsB, inR, Bool.and_eq_true, decide_eq_true_eq] at h
  obtain ⟨h1, ⟨h2, h3⟩, h4, h5, h6, h7⟩ := h
  exact ⟨h1, h2, h3, h4, by omega, h6, h7⟩
theorem lab_lt {c : Cf} (h : mayC c = true) : ∀ s ∈ c.ls, 0 ≤ s ∧ s < 256 := by
  intro s hs
  obtain ⟨⟨h1, h2⟩, _, h3, _⟩ := may_all h
  have := List.all_eq_true.1 h3 s hs
  simp only [labB, Bool.and_eq_true, decide_eq_true_eq] at this
  have hp : (2 : Int) ^ c.n.toNat ≤ 256 := by
    have : (2 ^ c.n.toNat : Nat) ≤ 2 ^ 8 := Nat.pow_le_pow_right (by decide) (by omega)
    have e : ((2 ^ c.n.toNat : Nat) : Int) = (2 : Int) ^ c.n.toNat := by simp
    rw [← e]; omega
  omega
end Plain
namespace LabP
/-- All of x are in s. -/
def inB (x s : Nat) : Bool := x &&& s == x
theorem inB_eq (x s : Nat) (hx : x < 256) (hs : s < 256) : (bits .andNot .i64 (x : Int) (s : Int) == 0) = inB x s := by
  unfold inB
  rw [Bool.eq_iff_iff, beq_iff_eq, beq_iff_eq, flows_iff x s hx hs]
theorem inB_iff (x s : Nat) : inB x s = true ↔ ∀ k, x.testBit k = true → s.testBit k = true := by
  unfold inB
  rw [beq_iff_eq]
  constructor
  · intro h k hk
    have e := Nat.testBit_and x s k
    rw [h, hk] at e
    simpa using e.symm
  · intro h
    apply Nat.eq_of_testBit_eq
    intro k
    rw [Nat.testBit_and]
    cases hx : x.testBit k with
    | false => rfl
    | true => rw [h k hx]; rfl
theorem inB_one (s k : Nat) : inB (2 ^ k) s = (s / 2 ^ k % 2 == 1) := by
  have hr : (s / 2 ^ k % 2 == 1) = s.testBit k := by rw [Nat.testBit_eq_decide_div_mod_eq, Bool.eq_iff_iff, beq_iff_eq, decide_eq_true_iff]
  rw [hr, Bool.eq_iff_iff, inB_iff]
  constructor
  · intro h; exact h k (by simp [Nat.testBit_two_pow_self])
  · intro h j hj
    have : k = j := by
      rw [Nat.testBit_two_pow] at hj
      simpa using hj
    subst this
    exact h
theorem inB_all (x n : Nat) : inB x (2 ^ n - 1) = decide (x < 2 ^ n) := by
  unfold inB
  rw [Nat.and_two_pow_sub_one_eq_mod, Bool.eq_iff_iff, beq_iff_eq, decide_eq_true_iff]
  constructor
  · intro h
    have := Nat.mod_lt x (Nat.two_pow_pos n)
    omega
  · exact Nat.mod_eq_of_lt
theorem pow_lt {k : Nat} (h : k < 8) : 2 ^ k < 256 := Nat.lt_of_lt_of_le (Nat.pow_lt_pow_right (by decide) h) (by decide)
theorem pow_le {k : Nat} (h : k ≤ 8) : 2 ^ k ≤ 256 := Nat.pow_le_pow_right (by decide) h
/-- Of all that there are, those below n. -/
theorem all_rd (n : Nat) (hn : n ≤ 8) (k : Int) : Plain.rdB ((2 ^ n - 1 : Nat) : Int) k = (decide (0 ≤ k) && decide (k < n)) := by
  unfold Plain.rdB
  by_cases h0 : 0 ≤ k
  · obtain ⟨m, rfl⟩ := Int.eq_ofNat_of_zero_le h0
    rw [Int.toNat_natCast, Int.toNat_natCast, ← inB_one, inB_all]
    have hd : decide ((0 : Int) ≤ (m : Int)) = true := by simp
    rw [hd, Bool.true_and, Bool.true_and, Bool.eq_iff_iff, Bool.and_eq_true, decide_eq_true_iff, decide_eq_true_iff, decide_eq_true_iff]
    constructor
    · rintro ⟨_, h⟩
      have := (Nat.pow_lt_pow_iff_right (a := 2) (by decide)).1 h
      omega
    · intro h
      exact ⟨by omega, Nat.pow_lt_pow_right (by decide) (by omega)⟩
  · have hd : decide (0 ≤ k) = false := by simpa using h0
    rw [hd]; rfl
end LabP
theorem ma (a : Nat) (ha : a < 256) : (bits .andNot .i64 (a : Int) 255 == 0) = true := beq_iff_eq.2 ((LabP.may_iff a (by omega) (by omega)).2 (by omega))
theorem ma_no (a : Int) (h1 : -9223372036854775808 ≤ a) (h2 : a ≤ 9223372036854775807) (ha : ¬ (0 ≤ a ∧ a ≤ 255)) : (bits .andNot .i64 a 255 == 0) = false :=
  beq_eq_false_iff_ne.2 (fun e => ha ((LabP.may_iff a h1 (by omega)).1 e))
end Go.Proofs.Ytlmiomfbpeondan

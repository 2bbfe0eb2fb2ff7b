/-
  Plain facts on lists of branches and the label that they make.
-/
import Derived.Test.YtnmggnlndndbgabMem
namespace Go.Proofs.Ytnmggnlndndbgab
namespace Plain

/-- Is x among them? -/
def hasB (l : List Int) (x : Int) : Bool := l.any (fun y => y == x)
/-- Is one of the first k told twice? -/
def tw (l : List Int) : Nat → Bool
  | 0 => false
  | k + 1 => tw l k || hasB (l.take k) (l.getD k 0)
/-- Are the first k branches? -/
def brs (l : List Int) (k : Nat) : Bool := (l.take k).all (fun x => decide (0 ≤ x ∧ x ≤ 7))
/-- The label of the first k. -/
def labOf (l : List Int) (k : Nat) : Nat := label (fun j => hasB (l.take k) (j : Int)) 8

theorem take_snoc (l : List Int) (k : Nat) (h : k < l.length) : l.take (k + 1) = l.take k ++ [l.getD k 0] := by
  rw [List.take_add_one, List.getElem?_eq_getElem h]; simp [List.getD, h]

theorem hasB_snoc (l : List Int) (x y : Int) : hasB (l ++ [x]) y = (hasB l y || (x == y)) := by
  simp [hasB]

theorem label_bit (g : Nat → Bool) (m n : Nat) (h : n < m) : (label g m / 2 ^ n % 2 == 1) = g n := by
  induction m with
  | zero => omega
  | succ m ih =>
    simp only [label]
    by_cases hn : n = m
    · subst hn
      have hl := label_lt g n
      have hp : 0 < 2 ^ n := Nat.two_pow_pos n
      cases hg : g n
      · simp [Nat.div_eq_of_lt hl]
      · simp [Nat.add_div_right _ hp, Nat.div_eq_of_lt hl]
    · have h' : n < m := by omega
      rw [← ih h']
      cases hg : g m
      · simp
      · have e : 2 ^ m = 2 ^ n * (2 * 2 ^ (m - n - 1)) := by
          rw [← Nat.mul_assoc, ← Nat.pow_succ, ← Nat.pow_add]
          congr 1
          omega
        have hp : 0 < 2 ^ n := Nat.two_pow_pos n
        have e2 : (label g m + 2 ^ m) / 2 ^ n = label g m / 2 ^ n + 2 * 2 ^ (m - n - 1) := by
          rw [e, Nat.add_mul_div_left _ _ hp]
        simp only [if_true]
        rw [e2, Nat.add_mul_mod_self_left]

theorem labOf_zero (l : List Int) : labOf l 0 = 0 := by
  simp [labOf, hasB, label]

theorem labOf_lt (l : List Int) (k : Nat) : labOf l k < 256 := label_lt _ 8

theorem labOf_bit (l : List Int) (k n : Nat) (hn : n < 8) : (labOf l k / 2 ^ n % 2 == 1) = hasB (l.take k) (n : Int) := label_bit _ 8 n hn

theorem pow_bit (n k : Nat) : (2 ^ n / 2 ^ k % 2 == 1) = (n == k) := by
  have h := @Nat.testBit_two_pow n k
  rw [Nat.testBit_eq_decide_div_mod_eq] at h
  rw [Bool.eq_iff_iff] at h ⊢
  simpa using h

theorem labOf_succ (l : List Int) (k n : Nat) (hk : k < l.length) (hn : n < 8) (e : l.getD k 0 = (n : Int)) : labOf l (k + 1) = labOf l k ||| 2 ^ n := by
  have h1 := labOf_lt l k
  have h2 := pow_lt n hn
  have h3 : labOf l k ||| 2 ^ n < 2 ^ 8 := Nat.or_lt_two_pow h1 (by omega)
  have h4 : labOf l k ||| 2 ^ n = label (fun j => hasB (l.take (k + 1)) (j : Int)) 8 := by
    rw [← Nat.mod_eq_of_lt h3, ← label_self]
    apply label_congr
    intro j hj
    rw [bit_or, labOf_bit l k j hj, pow_bit, take_snoc l k hk, hasB_snoc, e]
    congr 1
    rw [Bool.eq_iff_iff, beq_iff_eq, beq_iff_eq]
    omega
  rw [h4]; rfl

theorem brs_succ (l : List Int) (k : Nat) (hk : k < l.length) : brs l (k + 1) = (brs l k && decide (0 ≤ l.getD k 0 ∧ l.getD k 0 ≤ 7)) := by
  simp [brs, take_snoc l k hk, List.all_append]

theorem brs_mono (l : List Int) (k m : Nat) (h : k ≤ m) (hb : brs l m = true) : brs l k = true := by
  simp only [brs, List.all_eq_true] at hb ⊢
  intro x hx
  refine hb x ?_
  have : l.take k = (l.take m).take k := by rw [List.take_take, Nat.min_eq_left h]
  rw [this] at hx
  exact List.mem_of_mem_take hx

theorem tw_mono (l : List Int) (k m : Nat) (h : k ≤ m) (hb : tw l k = true) : tw l m = true := by
  induction m with
  | zero => have : k = 0 := by omega
            subst this; exact hb
  | succ m ih =>
    by_cases e : k = m + 1
    · subst e; exact hb
    · simp [tw, ih (by omega)]

end Plain
end Go.Proofs.Ytnmggnlndndbgab

/-
  Plain facts: flowing orders the labels; joins and meets are its bounds.
-/
import Derived.Test.YtnmggnlndndbgabLab
namespace Go.Proofs.Ytnmggnlndndbgab
namespace Plain

theorem fB (a b : Nat) : flowsB a b = true ↔ b &&& a = b := by unfold flowsB; exact beq_iff_eq
theorem flowsB_self (a : Nat) : flowsB a a = true := (fB a a).2 (Nat.and_self a)
theorem flowsB_all (a : Nat) (h : a < 256) : flowsB 255 a = true := by
  rw [fB]
  have := Nat.and_two_pow_sub_one_eq_mod a 8
  rw [Nat.mod_eq_of_lt h] at this
  exact this
theorem flowsB_none (a : Nat) : flowsB a 0 = true := (fB a 0).2 (Nat.zero_and a)
theorem flowsB_trans (a b c : Nat) (h : flowsB a b = true) (k : flowsB b c = true) : flowsB a c = true := by
  rw [fB] at *
  rw [← k, Nat.and_assoc, h]
theorem flowsB_anti (a b : Nat) (h : flowsB a b = true) (k : flowsB b a = true) : a = b := by
  rw [fB] at *
  rw [← h, Nat.and_comm, k]

end Plain
end Go.Proofs.Ytnmggnlndndbgab

/-
  Plain facts on the members of a label told in another order: each of the 256 labels is looked at.
-/
import Derived.Test.YtnmggnlndndbgabOfp
namespace Go.Proofs.Ytnmggnlndndbgab
namespace Plain

/-- The members of a label, as numbers. -/
def ms (x : Nat) : List Int := (mem x 8).map (fun j : Nat => (j : Int))
/-- The first i of them from place p on, round and round, the last one first. -/
def oth (l : List Int) (p : Nat) : Nat → List Int
  | 0 => []
  | i + 1 => l.getD ((i + p) % l.length) 0 :: oth l p i

theorem oth_length (l : List Int) (p i : Nat) : (oth l p i).length = i := by
  induction i with
  | zero => rfl
  | succ i ih => simp [oth, ih]

def ascB (l : List Int) : Nat → Bool
  | 0 => true
  | i + 1 => ascB l i && (decide (0 ≤ l.getD i 0) && decide (l.getD i 0 ≤ 7) && (decide (i = 0) || decide (l.getD (i - 1) 0 < l.getD i 0)))

def backB (x p : Nat) : Bool :=
  brs (oth (ms x) p (ms x).length) (ms x).length && !tw (oth (ms x) p (ms x).length) (ms x).length && labOf (oth (ms x) p (ms x).length) (ms x).length == x &&
  brs (oth (ms x) p (ms x).length ++ [(ms x).getD 0 0]) ((ms x).length + 1) && tw (oth (ms x) p (ms x).length ++ [(ms x).getD 0 0]) ((ms x).length + 1)

theorem all_asc : ∀ x, x < 256 → ascB (ms x) (ms x).length = true := by decide +kernel
theorem all_back : ∀ x, x < 256 → ∀ p, p < (ms x).length → backB x p = true := by decide +kernel
theorem zero_ms : ∀ x, x < 256 → (ms x).length = 0 → x = 0 := by decide +kernel
theorem ms_le (x : Nat) : (ms x).length ≤ 8 := by
  have := mem_le x 8
  simpa [ms] using this

theorem asc_at (l : List Int) (n i : Nat) (h : ascB l n = true) (hi : i < n) : 0 ≤ l.getD i 0 ∧ l.getD i 0 ≤ 7 ∧ (i = 0 ∨ l.getD (i - 1) 0 < l.getD i 0) := by
  induction n with
  | zero => omega
  | succ n ih =>
    simp only [ascB, Bool.and_eq_true, Bool.or_eq_true, decide_eq_true_eq] at h
    by_cases e : i = n
    · subst e; exact ⟨h.2.1.1, h.2.1.2, h.2.2⟩
    · exact ih h.1 (by omega)

theorem back_all (x p : Nat) (hx : x < 256) (hp : p < (ms x).length) :
    brs (oth (ms x) p (ms x).length) (ms x).length = true ∧ tw (oth (ms x) p (ms x).length) (ms x).length = false ∧ labOf (oth (ms x) p (ms x).length) (ms x).length = x ∧
    brs (oth (ms x) p (ms x).length ++ [(ms x).getD 0 0]) ((ms x).length + 1) = true ∧ tw (oth (ms x) p (ms x).length ++ [(ms x).getD 0 0]) ((ms x).length + 1) = true := by
  have h := all_back x hx p hp
  simp only [backB, Bool.and_eq_true, Bool.not_eq_true', beq_iff_eq] at h
  exact ⟨h.1.1.1.1, h.1.1.1.2, h.1.1.2, h.1.2, h.2⟩

end Plain
end Go.Proofs.Ytnmggnlndndbgab

/-
  The document's line, plain: the same as the program's.
-/
import Derived.Test.YtaimgddhbkcikapDoorD6
namespace Go.Proofs.YtaimgddhbkcikapDoor
open Go Go.RowKit Go.Sort Go.Shelf
open Plain

def flN (l : List Int) : List UInt8 := l.flatMap fun n => 32 :: Lib.itoa n
theorem flN_succ (l : List Int) (i : Nat) (hi : i < l.length) : flN (l.take (i + 1)) = flN (l.take i) ++ 32 :: Lib.itoa l[i] := by
  unfold flN
  rw [List.take_succ_eq_append_getElem hi, List.flatMap_append]
  simp
theorem sp_eta (x : Sp) (a b c d e f g h : Int) : x = ⟨a, b, c, d, e, f, g, h⟩ ↔ x.kd = a ∧ x.wh = b ∧ x.it = c ∧ x.ct = d ∧ x.lf = e ∧ x.id = f ∧ x.lb = g ∧ x.ky = h := by
  cases x
  simp
theorem sh_doc (s : Sp) (hb : badK s = false) : left s = !((restK s (kindN s)).all fun n => decide (n = 0)) ∧ (ends s).1 = wordL (kindN s) ++ flN (numsK s (kindN s)) := by
  have hk : 1 ≤ s.kd ∧ s.kd ≤ 11 := by simp [badK] at hb; omega
  unfold kindN
  rw [hb]
  obtain ⟨sk, s1, s2, s3, s4, s5, s6, s7⟩ := s
  simp only at hk
  have : sk = 1 ∨ sk = 2 ∨ sk = 3 ∨ sk = 4 ∨ sk = 5 ∨ sk = 6 ∨ sk = 7 ∨ sk = 8 ∨ sk = 9 ∨ sk = 10 ∨ sk = 11 := by omega
  clear hk hb
  rcases this with rfl | rfl | rfl | rfl | rfl | rfl | rfl | rfl | rfl | rfl | rfl <;>
    refine ⟨?_, ?_⟩ <;> simp [left, ends, runL, lettL, wordL, fieldN, Sp.out, Sp.at, restK, numsK, flN, Bool.not_and]
theorem shE_doc (s : Sp) : shE s = if kindN s = 0 then 3 else if (restK s (kindN s)).all (fun n => decide (n = 0)) then 0 else 4 := by
  unfold shE
  by_cases hb : badK s = true
  · rw [if_pos hb, if_pos (by unfold kindN; rw [if_pos hb])]
  · have hb' : badK s = false := by simpa using hb
    have hk : 1 ≤ s.kd ∧ s.kd ≤ 11 := by simp [badK] at hb'; omega
    have hk0 : ¬ kindN s = 0 := by unfold kindN; rw [if_neg hb]; omega
    rw [if_neg hb, (sh_doc s hb').1, if_neg hk0]
    cases (restK s (kindN s)).all fun n => decide (n = 0) <;> rfl
theorem shL_doc (s : Sp) : shL s = if kindN s = 0 then [] else if (restK s (kindN s)).all (fun n => decide (n = 0)) then wordL (kindN s) ++ flN (numsK s (kindN s)) else [] := by
  unfold shL
  by_cases hb : badK s = true
  · rw [if_pos hb, if_pos (by unfold kindN; rw [if_pos hb])]
  · have hb' : badK s = false := by simpa using hb
    have hk : 1 ≤ s.kd ∧ s.kd ≤ 11 := by simp [badK] at hb'; omega
    have hk0 : ¬ kindN s = 0 := by unfold kindN; rw [if_neg hb]; omega
    rw [if_neg hb, (sh_doc s hb').1, (sh_doc s hb').2, if_neg hk0]
    cases (restK s (kindN s)).all fun n => decide (n = 0) <;> rfl
theorem kindN_lt (s : Sp) : kindN s < 12 := by
  unfold kindN
  by_cases hb : badK s = true
  · rw [if_pos hb]; omega
  · have hb' : badK s = false := by simpa using hb
    have hk : 1 ≤ s.kd ∧ s.kd ≤ 11 := by simp [badK] at hb'; omega
    rw [if_neg hb]; omega
theorem nums_in {s : Sp} (hs : InSp s) (k : Nat) : ∀ n ∈ numsK s k, In64 n := by
  have h1 := hs 1; have h2 := hs 2; have h3 := hs 3; have h4 := hs 4; have h5 := hs 5; have h6 := hs 6; have h7 := hs 7
  simp only [Sp.at] at h1 h2 h3 h4 h5 h6 h7
  intro n hn
  unfold numsK at hn
  split at hn <;> simp at hn <;> (first | (rcases hn with rfl | rfl | rfl | rfl) | (rcases hn with rfl | rfl | rfl) | subst hn) <;> assumption
theorem nums_len (s : Sp) (k : Nat) : (numsK s k).length ≤ 4 ∧ (restK s k).length ≤ 7 := by
  constructor
  · unfold numsK; split <;> simp
  · unfold restK; split <;> simp
theorem wordL_some : ∀ k, k < 12 → k ≠ 0 → wordL k ≠ [] := by decide
theorem flN_len {l : List Int} (h : ∀ n ∈ l, In64 n) : (flN l).length ≤ 22 * l.length := by
  induction l with
  | nil => simp [flN]
  | cons a r ih =>
    have := ih fun n hn => h n (List.mem_cons_of_mem _ hn)
    have ha := h a List.mem_cons_self
    have := Lib.itoa_length_le a ha.1 ha.2
    simp only [flN, List.flatMap_cons, List.length_append, List.length_cons] at *
    omega
end Go.Proofs.YtaimgddhbkcikapDoor

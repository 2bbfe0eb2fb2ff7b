/-
  What is shown is read back, plain.
-/
import Derived.Test.YtaimgddhbkcikapDoorDF
import Derived.Lib.ItoaLen
namespace Go.Proofs.YtaimgddhbkcikapDoor
open Go
open Plain
set_option maxRecDepth 100000

/-- A digit's byte. -/
theorem dig_nat {d : Nat} (h : d < 10) : (UInt8.ofNat (48 + d)).toNat = 48 + d := by
  simp [UInt8.toNat_ofNat']
  omega
theorem dec_digits : ∀ (u : Nat), ∀ c ∈ Lib.decDigits u, 48 ≤ c.toNat ∧ c.toNat ≤ 57 := by
  intro u
  induction u using Nat.strongRecOn with
  | _ u ih =>
    rw [Lib.decDigits]
    split
    · intro c hc
      simp only [List.mem_singleton] at hc
      subst hc
      rw [dig_nat (by omega)]
      omega
    · intro c hc
      rcases List.mem_append.1 hc with h | h
      · exact ih (u / 10) (by omega) c h
      · simp only [List.mem_singleton] at h
        subst h
        rw [dig_nat (by omega)]
        omega
theorem dec_ne (u : Nat) : Lib.decDigits u ≠ [] := by
  intro h
  have := Lib.decDigits_length u
  rw [h] at this
  have := Lib.nDigits_pos u
  simp at *
  omega
theorem itoa_signs (n : Int) : ∀ c ∈ Lib.itoa n, c ≠ 32 := by
  unfold Lib.itoa
  intro c hc
  have hd : ∀ u, c ∈ Lib.decDigits u → c ≠ 32 := fun u h e => by
    have := dec_digits u c h
    subst e
    simp at this
  split at hc
  · rcases List.mem_cons.1 hc with rfl | h
    · decide
    · exact hd _ h
  · exact hd _ hc
theorem itoa_ne (n : Int) : Lib.itoa n ≠ [] := by
  unfold Lib.itoa
  split
  · simp
  · exact dec_ne _
/-- Parsed on. -/
theorem parse_dec : ∀ (u acc : Nat) (r : List UInt8), u < 18446744073709551616 → acc = 0 → Lib.parseUint10 acc (Lib.decDigits u ++ r) = Lib.parseUint10 u r := by
  intro u
  induction u using Nat.strongRecOn with
  | _ u ih =>
    intro acc r hu ha
    subst ha
    rw [Lib.decDigits]
    split
    · rename_i h
      simp only [List.cons_append, List.nil_append, Lib.parseUint10]
      rw [dig_nat (by omega), if_pos (by omega), if_neg (by omega), if_neg (by omega)]
      congr 1
      omega
    · rename_i h
      rw [List.append_assoc, ih (u / 10) (by omega) 0 _ (by omega) rfl]
      simp only [List.cons_append, List.nil_append, Lib.parseUint10]
      rw [dig_nat (by omega), if_pos (by omega), if_neg (by omega), if_neg (by omega)]
      congr 1
      omega
theorem parse_all (u : Nat) (hu : u < 18446744073709551616) : Lib.parseMag (Lib.decDigits u) = .ok u := by
  unfold Lib.parseMag
  rw [if_neg (dec_ne u)]
  have := parse_dec u 0 [] hu rfl
  rw [List.append_nil] at this
  rw [this]
  rfl
theorem atoV_itoa (n : Int) (h : In64 n) : atoV (Lib.itoa n) = n := by
  have key : Lib.atoiAll (Lib.itoa n) = .ok n := by
    unfold Lib.itoa
    unfold In64 at h
    split
    · rename_i hn
      have hp := parse_all n.natAbs (by omega)
      simp only [Lib.atoiAll]
      rw [if_pos (by decide), hp]
      simp only
      rw [if_neg (by simp), if_neg (by rw [not_and]; intro _; omega)]
      rw [if_pos (by decide)]
      congr 1
      omega
    · rename_i hn
      have hp := parse_all n.toNat (by omega)
      have hd := dec_digits n.toNat
      obtain ⟨c, r, hc⟩ : ∃ c r, Lib.decDigits n.toNat = c :: r := by
        cases h2 : Lib.decDigits n.toNat with
        | nil => exact absurd h2 (dec_ne _)
        | cons c r => exact ⟨c, r, rfl⟩
      have hc1 := hd c (by rw [hc]; exact List.mem_cons_self)
      rw [hc] at hp ⊢
      simp only [Lib.atoiAll]
      rw [if_neg (by omega), hp]
      simp only
      rw [if_neg (by rw [not_and]; intro _; omega), if_neg (by rw [not_and]; intro h3; omega), if_neg (by omega)]
      congr 1
      omega
  unfold atoV
  rw [key]
/-- The first blank. -/
theorem cut_at : ∀ (a r : List UInt8), (∀ c ∈ a, c ≠ 32) → cutA (a ++ 32 :: r) = a ∧ cutB (a ++ 32 :: r) = r
  | [], r, _ => by simp [cutA, cutB]
  | c :: a, r, h => by
    have hc : ¬ (c == 32) = true := by simpa using h c List.mem_cons_self
    have := cut_at a r fun x hx => h x (List.mem_cons_of_mem _ hx)
    simp only [List.cons_append, cutA, cutB, if_neg hc, this.1, this.2, and_self]
theorem cut_end : ∀ (a : List UInt8), (∀ c ∈ a, c ≠ 32) → cutA a = a ∧ cutB a = []
  | [], _ => ⟨rfl, rfl⟩
  | c :: a, h => by
    have hc : ¬ (c == 32) = true := by simpa using h c List.mem_cons_self
    have := cut_end a fun x hx => h x (List.mem_cons_of_mem _ hx)
    simp only [cutA, cutB, if_neg hc, this.1, this.2, and_self]
/-- What is left to be read of some numbers: without the blank that stands ahead. -/
theorem cut_nums (n : Int) (l : List Int) : cutA (Lib.itoa n ++ flN l) = Lib.itoa n ∧ cutB (Lib.itoa n ++ flN l) = (flN l).drop 1 := by
  cases l with
  | nil =>
    simp only [flN, List.flatMap_nil, List.append_nil, List.drop_nil]
    exact cut_end _ (itoa_signs n)
  | cons m l =>
    simp only [flN, List.flatMap_cons, List.cons_append, List.drop_succ_cons, List.drop_zero]
    exact cut_at _ _ (itoa_signs n)
theorem word_signs : ∀ k, k < 12 → ∀ c ∈ wordL k, c ≠ 32 := by decide
theorem cut_word (k : Nat) (hk : k < 12) (l : List Int) : cutA (wordL k ++ flN l) = wordL k ∧ cutB (wordL k ++ flN l) = (flN l).drop 1 := by
  cases l with
  | nil =>
    simp only [flN, List.flatMap_nil, List.append_nil, List.drop_nil]
    exact cut_end _ (word_signs k hk)
  | cons m l =>
    simp only [flN, List.flatMap_cons, List.cons_append, List.drop_succ_cons, List.drop_zero]
    exact cut_at _ _ (word_signs k hk)
theorem kind_word : ∀ k, k < 12 → kindL (wordL k) = k := by decide
theorem flN_cons (n : Int) (l : List Int) : (flN (n :: l)).drop 1 = Lib.itoa n ++ flN l := by
  simp [flN]
/-- The numbers of a line, read one by one. -/
def gsN : List UInt8 → List Int → Sp → Sp
  | [], _, s => s
  | _ :: _, [], s => s
  | c :: r, n :: l, s => gsN r l (s.put n (fieldN c))
theorem gsL_nums : ∀ (cs : List UInt8) (l : List Int) (s : Sp), cs.length = l.length → (∀ n ∈ l, In64 n) → gsL cs ((flN l).drop 1) s = gsN cs l s
  | [], [], _, _, _ => rfl
  | c :: cs, n :: l, s, h, hi => by
    rw [gsL, flN_cons, (cut_nums n l).1, (cut_nums n l).2, atoV_itoa n (hi n List.mem_cons_self), gsN]
    exact gsL_nums cs l _ (by simpa using h) fun m hm => hi m (List.mem_cons_of_mem _ hm)
theorem guess_nums (k : Nat) (hk : k < 12) (l : List Int) (hlen : (lettL k).length = l.length) (hi : ∀ n ∈ l, In64 n) : guessP (wordL k ++ flN l) = gsN (lettL k) l ⟨k, 0, 0, 0, 0, 0, 0, 0⟩ := by
  unfold guessP
  rw [(cut_word k hk l).1, (cut_word k hk l).2, kind_word k hk]
  exact gsL_nums _ _ _ hlen hi
end Go.Proofs.YtaimgddhbkcikapDoor

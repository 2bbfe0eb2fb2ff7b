/-
  The words of a line, plain.
-/
import Derived.Test.YtaimgddhbkcikapDoorDH
import Derived.Test.YtaimgddhbkcikapDoorDI
namespace Go.Proofs.YtaimgddhbkcikapDoor
open Go
open Plain
set_option maxRecDepth 100000

/-- A line, word by word; acc: what has been read of the word at hand. -/
def spl : List UInt8 → List UInt8 → List (List UInt8)
  | [], acc => [acc]
  | c :: r, acc => if c.toNat = 32 then acc :: spl r [] else spl r (acc ++ [c])
theorem spl_word : ∀ (a r acc : List UInt8), (∀ c ∈ a, c ≠ 32) → spl (a ++ r) acc = spl r (acc ++ a)
  | [], _, _, _ => by simp
  | c :: a, r, acc, h => by
    have hc : ¬ c.toNat = 32 := fun e => h c List.mem_cons_self (UInt8.toNat_inj.1 e)
    rw [List.cons_append, spl, if_neg hc, spl_word a r _ fun x hx => h x (List.mem_cons_of_mem _ hx)]
    simp
theorem spl_nums : ∀ (l : List Int) (acc : List UInt8), spl (flN l) acc = acc :: l.map Lib.itoa
  | [], _ => rfl
  | n :: l, acc => by
    have e : flN (n :: l) = 32 :: (Lib.itoa n ++ flN l) := by simp [flN]
    rw [e, spl, if_pos (by decide), spl_word _ _ _ (itoa_signs n), List.nil_append, spl_nums l]
    rfl
theorem spl_line (k : Nat) (hk : k < 12) (l : List Int) : spl (wordL k ++ flN l) [] = wordL k :: l.map Lib.itoa := by
  rw [spl_word _ _ _ (word_signs k hk), List.nil_append, spl_nums]
theorem spl_ne : ∀ (l acc : List UInt8), spl l acc ≠ []
  | [], _ => by simp [spl]
  | c :: r, acc => by
    rw [spl]
    split
    · simp
    · exact spl_ne r _
theorem nums_let (s : Sp) (k : Nat) (hk : k < 12) : (numsK s k).length = (lettL k).length := by
  have : k = 0 ∨ k = 1 ∨ k = 2 ∨ k = 3 ∨ k = 4 ∨ k = 5 ∨ k = 6 ∨ k = 7 ∨ k = 8 ∨ k = 9 ∨ k = 10 ∨ k = 11 := by omega
  rcases this with rfl | rfl | rfl | rfl | rfl | rfl | rfl | rfl | rfl | rfl | rfl | rfl <;> rfl
theorem nums_line (a b c d : Int) (k : Nat) (h1 : 1 ≤ k) (h2 : k < 12) : numsK (lineS a b c d k) k = [a, b, c, d].take (lettL k).length := by
  have : k = 1 ∨ k = 2 ∨ k = 3 ∨ k = 4 ∨ k = 5 ∨ k = 6 ∨ k = 7 ∨ k = 8 ∨ k = 9 ∨ k = 10 ∨ k = 11 := by omega
  rcases this with rfl | rfl | rfl | rfl | rfl | rfl | rfl | rfl | rfl | rfl | rfl <;> rfl
/-- A line that is read: its words. -/
theorem reads_words {l : List UInt8} (h : reads l = true) : ∃ (k : Nat) (ns : List Int), 1 ≤ k ∧ k < 12 ∧ ns.length = (lettL k).length ∧ (∀ n ∈ ns, In64 n) ∧ spl l [] = wordL k :: ns.map Lib.itoa ∧ l = wordL k ++ flN ns := by
  obtain ⟨r1, r2, _⟩ := reads_show h
  have hin := rdS_in l
  have hk := kindN_lt (rdS l)
  rw [shE_doc] at r1
  have k0 : ¬ kindN (rdS l) = 0 := fun e => by rw [if_pos e] at r1; omega
  rw [if_neg k0] at r1
  have hall : (restK (rdS l) (kindN (rdS l))).all (fun n => decide (n = 0)) = true := by
    cases hc : (restK (rdS l) (kindN (rdS l))).all (fun n => decide (n = 0)) with
    | true => rfl
    | false => rw [hc] at r1; simp at r1
  rw [shL_doc, if_neg k0, if_pos hall] at r2
  refine ⟨kindN (rdS l), numsK (rdS l) (kindN (rdS l)), by omega, hk, nums_let _ _ hk, nums_in hin _, ?_, r2.symm⟩
  rw [← r2]
  have := spl_line _ hk (numsK (rdS l) (kindN (rdS l)))
  rw [r2] at this ⊢
  exact this
/-- A word that is no number: the line is of no step. -/
theorem word_bad {l : List UInt8} {j : Nat} (hj : j < (spl l []).length) (h1 : 1 ≤ j) (h : canon ((spl l [])[j]) = false) : rdS l = ⟨0, 0, 0, 0, 0, 0, 0, 0⟩ ∧ rdE l = 4 := by
  refine not_reads ?_
  cases hr : reads l with
  | false => rfl
  | true =>
    exfalso
    obtain ⟨k, ns, _, _, _, hin, hw, _⟩ := reads_words hr
    obtain ⟨t, rfl⟩ : ∃ t, j = t + 1 := ⟨j - 1, by omega⟩
    have hg : (spl l [])[t + 1]? = (ns.map Lib.itoa)[t]? := by rw [hw]; rfl
    have hlen : (spl l []).length = ns.length + 1 := by rw [hw]; simp
    have ht : t < ns.length := by omega
    rw [List.getElem?_eq_getElem hj, List.getElem?_map, List.getElem?_eq_getElem ht, Option.map_some, Option.some.injEq] at hg
    rw [hg, canon_itoa (hin _ (List.getElem_mem _))] at h
    cases h
/-- The number that stands at a place. -/
def numAt (l : List UInt8) (j : Nat) : Int := match (spl l [])[j]? with | some w => atoV w | none => 0
theorem numAt_in (l : List UInt8) (j : Nat) : In64 (numAt l j) := by
  unfold numAt
  split
  · exact atoV_in _
  · unfold In64; omega
abbrev lnS (l : List UInt8) (k : Nat) : Sp := lineS (numAt l 1) (numAt l 2) (numAt l 3) (numAt l 4) k
abbrev lnL (l : List UInt8) (k : Nat) : List UInt8 := lineL (numAt l 1) (numAt l 2) (numAt l 3) (numAt l 4) k
theorem found {l : List UInt8} {k : Nat} (h1 : 1 ≤ k) (h2 : k < 12) (h : lnL l k = l) : rdS l = lnS l k ∧ rdE l = 0 := by
  have := line_reads (numAt l 1) (numAt l 2) (numAt l 3) (numAt l 4) (numAt_in _ _) (numAt_in _ _) (numAt_in _ _) (numAt_in _ _) k h1 h2
  rw [show lineL (numAt l 1) (numAt l 2) (numAt l 3) (numAt l 4) k = l from h] at this
  exact this
theorem take4 : ∀ (ns : List Int) (f : Nat → Int), ns.length ≤ 4 → (∀ j (hj : j < ns.length), f (j + 1) = ns[j]) → [f 1, f 2, f 3, f 4].take ns.length = ns
  | [], _, _, _ => rfl
  | [a], f, _, h => by have := h 0 (by simp); simp at this; simp [this]
  | [a, b], f, _, h => by have h0 := h 0 (by simp); have h1 := h 1 (by simp); simp at h0 h1; simp [h0, h1]
  | [a, b, c], f, _, h => by have h0 := h 0 (by simp); have h1 := h 1 (by simp); have h2 := h 2 (by simp); simp at h0 h1 h2; simp [h0, h1, h2]
  | [a, b, c, d], f, _, h => by have h0 := h 0 (by simp); have h1 := h 1 (by simp); have h2 := h 2 (by simp); have h3 := h 3 (by simp); simp at h0 h1 h2 h3; simp [h0, h1, h2, h3]
  | _ :: _ :: _ :: _ :: _ :: _, _, h, _ => by simp at h
theorem none_found {l : List UInt8} (h : ∀ k, 1 ≤ k → k < 12 → lnL l k ≠ l) : rdS l = ⟨0, 0, 0, 0, 0, 0, 0, 0⟩ ∧ rdE l = 4 := by
  refine not_reads ?_
  cases hr : reads l with
  | false => rfl
  | true =>
    exfalso
    obtain ⟨k, ns, h1, h2, hlen, hin, hw, hl⟩ := reads_words hr
    refine h k h1 h2 ?_
    have h4 := (word_len k h2).2
    have hn : ∀ j (hj : j < ns.length), numAt l (j + 1) = ns[j] := fun j hj => by
      unfold numAt
      have hg : (spl l [])[j + 1]? = some (Lib.itoa ns[j]) := by rw [hw, List.getElem?_cons_succ, List.getElem?_map, List.getElem?_eq_getElem hj]; rfl
      rw [hg]
      exact atoV_itoa _ (hin _ (List.getElem_mem _))
    have ht := take4 ns (numAt l) (by omega) hn
    show wordL k ++ flN (numsK (lineS (numAt l 1) (numAt l 2) (numAt l 3) (numAt l 4) k) k) = l
    rw [nums_line _ _ _ _ k h1 h2, ← hlen, ht]
    exact hl.symm
end Go.Proofs.YtaimgddhbkcikapDoor

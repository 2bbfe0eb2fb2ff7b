/-
  Plain: what Size, Pack and Unpack come to, as functions of lists of numbers.
-/
import Derived.Test.YtlmiomfbpeondanWp
namespace Go.Proofs.Ytlmiomfbpeondan
namespace Plain

def okW (w : Int) : Bool := decide (1 ≤ w) && decide (w ≤ 60)
/-- All bits of a record with these widths. -/
def bitsN (ws : List Int) : Nat := (ws.map Int.toNat).sum
def szE (ws : List Int) : Nat := if 40 < ws.length then 1 else if ws.all okW = true then 0 else 2
def szN (ws : List Int) : Nat := if szE ws = 0 then (bitsN ws + 7) / 8 else 0

def fitB (f : Int × Int) : Bool := decide (0 ≤ f.2) && decide (f.2 < 2 ^ f.1.toNat)
def nat2 (f : Int × Int) : Nat × Nat := (f.1.toNat, f.2.toNat)
def packE (l : List (Int × Int)) : Nat :=
  if szE (l.map Prod.fst) = 0 then (if l.all fitB = true then 0 else 12) else szE (l.map Prod.fst)
def packB (l : List (Int × Int)) : List Nat :=
  if packE l = 0 then bytesOf (rbits (l.map nat2)) (szN (l.map Prod.fst)) else []

/-- The numbers that the bits g make, of these widths, from the bit a on. -/
def vals (g : Nat → Nat) : Nat → List Nat → List Nat
  | _, [] => []
  | a, w :: ws => num g a w :: vals g (a + w) ws
def unpackE (ws : List Int) (b : List Nat) : Nat :=
  if szE ws = 0 then (if b.length = szN ws then (if num (bitOf b) (bitsN ws) (8 * szN ws - bitsN ws) = 0 then 0 else 4) else 4) else szE ws
def unpackV (ws : List Int) (b : List Nat) : List Nat :=
  if unpackE ws b = 0 then vals (bitOf b) 0 (ws.map Int.toNat) else []

theorem okW_iff (w : Int) : okW w = true ↔ 1 ≤ w ∧ w ≤ 60 := by simp [okW]
theorem okW_no (w : Int) : okW w = false ↔ ¬ (1 ≤ w ∧ w ≤ 60) := by rw [← okW_iff]; simp

theorem bitsN_take (ws : List Int) (k : Nat) (h : k < ws.length) : bitsN (ws.take (k + 1)) = bitsN (ws.take k) + (ws.getD k 0).toNat := by
  unfold bitsN
  rw [List.take_succ_eq_append_getElem h, List.map_append, List.sum_append]
  simp only [List.map_cons, List.map_nil, List.sum_cons, List.sum_nil, List.getD_eq_getElem?_getD, List.getElem?_eq_getElem h, Option.getD_some, Nat.add_zero]

theorem all_take {α : Type} (p : α → Bool) (l : List α) (d : α) (k : Nat) (h : k < l.length) (h1 : (l.take k).all p = true) (h2 : p (l.getD k d) = true) : (l.take (k + 1)).all p = true := by
  rw [List.take_succ_eq_append_getElem h, List.all_append, h1]
  simp [List.getD_eq_getElem?_getD, List.getElem?_eq_getElem h] at h2 ⊢
  exact h2

theorem all_no {α : Type} (p : α → Bool) (l : List α) (d : α) (k : Nat) (h : k < l.length) (h2 : p (l.getD k d) = false) : l.all p = false := by
  simp [List.getD_eq_getElem?_getD, List.getElem?_eq_getElem h] at h2
  rw [List.all_eq_false]
  exact ⟨l[k], List.getElem_mem h, by simp [h2]⟩

theorem all_get {α : Type} (p : α → Bool) (l : List α) (d : α) (k : Nat) (h : k < l.length) (h1 : l.all p = true) : p (l.getD k d) = true := by
  simp [List.getD_eq_getElem?_getD, List.getElem?_eq_getElem h]
  exact List.all_eq_true.1 h1 _ (List.getElem_mem h)

theorem bitsN_le (ws : List Int) (h : ws.all okW = true) : bitsN ws ≤ 60 * ws.length := by
  induction ws with
  | nil => simp [bitsN]
  | cons w ws ih =>
    simp only [List.all_cons, Bool.and_eq_true] at h
    have := ih h.2
    have h1 := (okW_iff w).1 h.1
    simp only [bitsN, List.map_cons, List.sum_cons, List.length_cons] at this ⊢
    omega

theorem bitsN_mono (ws : List Int) (k : Nat) : bitsN (ws.take k) ≤ bitsN ws := by
  have e : bitsN ws = bitsN (ws.take k) + bitsN (ws.drop k) := by
    conv => lhs; rw [← List.take_append_drop k ws]
    unfold bitsN
    rw [List.map_append, List.sum_append]
  omega

theorem sz_yes (ws : List Int) (h : ws.length ≤ 40) (ha : ws.all okW = true) : szE ws = 0 ∧ szN ws = (bitsN ws + 7) / 8 := by
  have : szE ws = 0 := by unfold szE; rw [if_neg (by omega), if_pos ha]
  exact ⟨this, by unfold szN; rw [if_pos this]⟩
theorem sz_no (ws : List Int) (h : ws.length ≤ 40) (ha : ws.all okW = false) : szE ws = 2 ∧ szN ws = 0 := by
  have : szE ws = 2 := by unfold szE; rw [if_neg (by omega), if_neg (by simp [ha])]
  exact ⟨this, by unfold szN; rw [if_neg (by omega)]⟩
theorem sz_long (ws : List Int) (h : 40 < ws.length) : szE ws = 1 ∧ szN ws = 0 := by
  have : szE ws = 1 := by unfold szE; rw [if_pos h]
  exact ⟨this, by unfold szN; rw [if_neg (by omega)]⟩
theorem szE_zero (ws : List Int) (h : szE ws = 0) : ws.length ≤ 40 ∧ ws.all okW = true ∧ szN ws = (bitsN ws + 7) / 8 ∧ bitsN ws ≤ 2400 := by
  have h1 : ws.length ≤ 40 := by
    by_cases c : 40 < ws.length
    · rw [(sz_long ws c).1] at h; omega
    · omega
  have h2 : ws.all okW = true := by
    cases c : ws.all okW
    · rw [(sz_no ws h1 c).1] at h; omega
    · rfl
  exact ⟨h1, h2, (sz_yes ws h1 h2).2, by have := bitsN_le ws h2; omega⟩

theorem szE_le (ws : List Int) : szE ws ≤ 2 := by unfold szE; split <;> (try split) <;> omega
theorem szN_le (ws : List Int) : szN ws ≤ 300 := by
  by_cases h : szE ws = 0
  · have := szE_zero ws h; omega
  · unfold szN; rw [if_neg h]; omega

theorem pow60 (w : Nat) (h : w ≤ 60) : 2 ^ w ≤ 1152921504606846976 := by
  have : 2 ^ w ≤ 2 ^ 60 := Nat.pow_le_pow_right (by decide) h
  simpa using this

theorem rbits_take (l : List (Nat × Nat)) (k : Nat) (h : k < l.length) : rbits (l.take (k + 1)) = rbits (l.take k) ++ fbits (l.getD k (0, 0)).1 (l.getD k (0, 0)).2 := by
  rw [List.take_succ_eq_append_getElem h, rbits_append]
  simp [rbits, List.getD_eq_getElem?_getD, List.getElem?_eq_getElem h]

theorem vals_len (g : Nat → Nat) (a : Nat) (ws : List Nat) : (vals g a ws).length = ws.length := by
  induction ws generalizing a with
  | nil => rfl
  | cons w ws ih => simp [vals, ih]

theorem vals_append (g : Nat → Nat) (a : Nat) (l m : List Nat) : vals g a (l ++ m) = vals g a l ++ vals g (a + l.sum) m := by
  induction l generalizing a with
  | nil => simp [vals]
  | cons w ws ih => simp only [List.cons_append, vals, ih, List.sum_cons, Nat.add_assoc]

theorem vals_take (g : Nat → Nat) (ws : List Int) (k : Nat) (h : k < ws.length) :
    vals g 0 ((ws.take (k + 1)).map Int.toNat) = vals g 0 ((ws.take k).map Int.toNat) ++ [num g (bitsN (ws.take k)) (ws.getD k 0).toNat] := by
  rw [List.take_succ_eq_append_getElem h, List.map_append, vals_append]
  simp [vals, bitsN, h]

/-- The bits of the numbers that bits make are these bits. -/
theorem rbits_vals (g : Nat → Nat) (hg : ∀ p, g p < 2) (a : Nat) (ws : List Nat) : rbits (ws.zip (vals g a ws)) = (List.range ws.sum).map (fun i => g (a + i)) := by
  induction ws generalizing a with
  | nil => rfl
  | cons w ws ih =>
    simp only [vals, List.zip_cons_cons, rbits, List.sum_cons]
    rw [fbits_num g hg, ih, List.range_add, List.map_append, List.map_map]
    congr 1
    apply List.map_congr_left
    intro i _
    simp [Nat.add_assoc]

/-- What is packed comes back. -/
theorem vals_rbits (l : List (Nat × Nat)) (h : ∀ f ∈ l, f.2 < 2 ^ f.1) (pre post : List Nat) : vals (at0 (pre ++ rbits l ++ post)) pre.length (l.map Prod.fst) = l.map Prod.snd := by
  induction l generalizing pre with
  | nil => rfl
  | cons f l ih =>
    simp only [List.map_cons, vals, rbits]
    have e1 := num_fbits f.1 f.2 (h f (by simp)) pre (rbits l ++ post)
    have e2 := ih (fun x hx => h x (by simp [hx])) (pre ++ fbits f.1 f.2)
    simp only [List.length_append, fbits_len, List.append_assoc] at e1 e2 ⊢
    rw [e1, e2]

theorem vals_congr (g h : Nat → Nat) (a : Nat) (ws : List Nat) (e : ∀ p, p < a + ws.sum → g p = h p) : vals g a ws = vals h a ws := by
  induction ws generalizing a with
  | nil => rfl
  | cons w ws ih =>
    simp only [vals, List.sum_cons] at e ⊢
    rw [num_congr g h a w (fun i hi => e _ (by omega)), ih (a + w) (fun p hp => e p (by omega))]
end Plain
end Go.Proofs.Ytlmiomfbpeondan

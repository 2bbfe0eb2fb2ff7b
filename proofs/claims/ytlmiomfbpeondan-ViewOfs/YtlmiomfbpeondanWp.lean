/-
  Plain facts on bits, bytes and records (no program in them).
-/
import Derived.WalkKit
namespace Go.Proofs.Ytlmiomfbpeondan
namespace Plain

/-- The byte number j of a row of bits, of each the highest bit first. -/
def byteOf (g : Nat → Nat) (j : Nat) : Nat :=
  128 * g (8 * j) + 64 * g (8 * j + 1) + 32 * g (8 * j + 2) + 16 * g (8 * j + 3) + 8 * g (8 * j + 4) + 4 * g (8 * j + 5) + 2 * g (8 * j + 6) + g (8 * j + 7)

/-- The bit number p of a row of bytes. -/
def bitOf (b : List Nat) (p : Nat) : Nat := b.getD (p / 8) 0 / 2 ^ (7 - p % 8) % 2

/-- The number that w bits from the bit a on make, the highest first. -/
def num (g : Nat → Nat) (a : Nat) : Nat → Nat
  | 0 => 0
  | w + 1 => 2 * num g a w + g (a + w)

/-- The w bits of v, the highest first. -/
def fbits (w v : Nat) : List Nat := (List.range w).map (fun i => v / 2 ^ (w - 1 - i) % 2)

/-- The bits of a record. -/
def rbits : List (Nat × Nat) → List Nat
  | [] => []
  | f :: l => fbits f.1 f.2 ++ rbits l

def at0 (bs : List Nat) : Nat → Nat := fun p => bs.getD p 0

def bytesOf (bs : List Nat) (n : Nat) : List Nat := (List.range n).map (byteOf (at0 bs))

def total (l : List Nat) : Nat := l.sum

theorem byteOf_lt (g : Nat → Nat) (hg : ∀ p, g p < 2) (j : Nat) : byteOf g j < 256 := by
  unfold byteOf
  have := hg (8 * j); have := hg (8 * j + 1); have := hg (8 * j + 2); have := hg (8 * j + 3)
  have := hg (8 * j + 4); have := hg (8 * j + 5); have := hg (8 * j + 6); have := hg (8 * j + 7)
  omega

theorem byteOf_congr (g h : Nat → Nat) (j : Nat) (e : ∀ t, t < 8 → g (8 * j + t) = h (8 * j + t)) : byteOf g j = byteOf h j := by
  unfold byteOf
  have e0 := e 0 (by omega); have e1 := e 1 (by omega); have e2 := e 2 (by omega); have e3 := e 3 (by omega)
  have e4 := e 4 (by omega); have e5 := e 5 (by omega); have e6 := e 6 (by omega); have e7 := e 7 (by omega)
  rw [Nat.add_zero] at e0
  rw [e0, e1, e2, e3, e4, e5, e6, e7]

theorem byteOf_num (g : Nat → Nat) (j : Nat) : byteOf g j = num g (8 * j) 8 := by
  simp only [num, byteOf, Nat.add_zero]
  omega

theorem bit8 (g : Nat → Nat) (hg : ∀ p, g p < 2) (j t : Nat) (ht : t < 8) : byteOf g j / 2 ^ (7 - t) % 2 = g (8 * j + t) := by
  unfold byteOf
  have h0 := hg (8 * j); have h1 := hg (8 * j + 1); have h2 := hg (8 * j + 2); have h3 := hg (8 * j + 3)
  have h4 := hg (8 * j + 4); have h5 := hg (8 * j + 5); have h6 := hg (8 * j + 6); have h7 := hg (8 * j + 7)
  have : t = 0 ∨ t = 1 ∨ t = 2 ∨ t = 3 ∨ t = 4 ∨ t = 5 ∨ t = 6 ∨ t = 7 := by omega
  rcases this with rfl | rfl | rfl | rfl | rfl | rfl | rfl | rfl <;> simp <;> omega

theorem bitOf_lt (b : List Nat) (p : Nat) : bitOf b p < 2 := by unfold bitOf; omega

theorem byteOf_bitOf (b : List Nat) (j : Nat) (h : b.getD j 0 < 256) : byteOf (bitOf b) j = b.getD j 0 := by
  have e : ∀ t, t < 8 → bitOf b (8 * j + t) = b.getD j 0 / 2 ^ (7 - t) % 2 := by
    intro t ht
    unfold bitOf
    rw [show (8 * j + t) / 8 = j by omega, show (8 * j + t) % 8 = t by omega]
  unfold byteOf
  have e0 := e 0 (by omega); have e1 := e 1 (by omega); have e2 := e 2 (by omega); have e3 := e 3 (by omega)
  have e4 := e 4 (by omega); have e5 := e 5 (by omega); have e6 := e 6 (by omega); have e7 := e 7 (by omega)
  rw [Nat.add_zero] at e0
  rw [e0, e1, e2, e3, e4, e5, e6, e7]
  generalize b.getD j 0 = x at h
  simp
  omega

theorem getD_bytesOf (bs : List Nat) (n j : Nat) (h : j < n) : (bytesOf bs n).getD j 0 = byteOf (at0 bs) j := by
  simp [bytesOf, h]

theorem bytesOf_len (bs : List Nat) (n : Nat) : (bytesOf bs n).length = n := by simp [bytesOf]

theorem bitOf_bytesOf (bs : List Nat) (hg : ∀ p, at0 bs p < 2) (n p : Nat) (h : p < 8 * n) : bitOf (bytesOf bs n) p = at0 bs p := by
  unfold bitOf
  rw [getD_bytesOf bs n _ (by omega), bit8 _ hg _ _ (by omega), show 8 * (p / 8) + p % 8 = p by omega]

theorem num_congr (g h : Nat → Nat) (a w : Nat) (e : ∀ i, i < w → g (a + i) = h (a + i)) : num g a w = num h a w := by
  induction w with
  | zero => rfl
  | succ w ih => simp only [num]; rw [ih (fun i hi => e i (by omega)), e w (by omega)]

theorem num_lt (g : Nat → Nat) (hg : ∀ p, g p < 2) (a w : Nat) : num g a w < 2 ^ w := by
  induction w with
  | zero => simp [num]
  | succ w ih => simp only [num]; have := hg (a + w); rw [Nat.pow_succ]; omega

theorem num_zero (g : Nat → Nat) (a w : Nat) : num g a w = 0 ↔ ∀ i, i < w → g (a + i) = 0 := by
  induction w with
  | zero => simp [num]
  | succ w ih =>
    simp only [num]
    constructor
    · intro h i hi
      by_cases e : i = w
      · subst e; omega
      · exact ih.1 (by omega) i (by omega)
    · intro h
      have := ih.2 (fun i hi => h i (by omega))
      have := h w (by omega)
      omega

theorem fbits_len (w v : Nat) : (fbits w v).length = w := by simp [fbits]
theorem fbits_get (w v i : Nat) (h : i < w) : (fbits w v).getD i 0 = v / 2 ^ (w - 1 - i) % 2 := by simp [fbits, h]
theorem fbits_succ (w v i : Nat) (h : i < w) : (fbits w v).take (i + 1) = (fbits w v).take i ++ [v / 2 ^ (w - 1 - i) % 2] := by
  rw [List.take_succ_eq_append_getElem (by rw [fbits_len]; exact h)]
  simp [fbits]

theorem fbits_lt (w v : Nat) : ∀ x ∈ fbits w v, x < 2 := by
  intro x hx
  simp [fbits] at hx
  obtain ⟨i, _, rfl⟩ := hx
  omega

theorem rbits_lt (l : List (Nat × Nat)) : ∀ x ∈ rbits l, x < 2 := by
  induction l with
  | nil => intro x hx; simp [rbits] at hx
  | cons f l ih =>
    intro x hx
    simp only [rbits, List.mem_append] at hx
    rcases hx with h | h
    · exact fbits_lt _ _ x h
    · exact ih x h

theorem at0_lt (bs : List Nat) (h : ∀ x ∈ bs, x < 2) (p : Nat) : at0 bs p < 2 := by
  unfold at0
  by_cases hp : p < bs.length
  · rw [List.getD_eq_getElem?_getD, List.getElem?_eq_getElem hp]
    exact h _ (List.getElem_mem hp)
  · rw [List.getD_eq_getElem?_getD, List.getElem?_eq_none (by omega)]
    simp

theorem rbits_len (l : List (Nat × Nat)) : (rbits l).length = (l.map Prod.fst).sum := by
  induction l with
  | nil => rfl
  | cons f l ih => simp [rbits, fbits_len, ih]

theorem rbits_append (l m : List (Nat × Nat)) : rbits (l ++ m) = rbits l ++ rbits m := by
  induction l with
  | nil => rfl
  | cons f l ih => simp [rbits, ih]

theorem num_fbits (w v : Nat) (h : v < 2 ^ w) (pre post : List Nat) : num (at0 (pre ++ fbits w v ++ post)) pre.length w = v := by
  have key : ∀ i, i ≤ w → num (at0 (pre ++ fbits w v ++ post)) pre.length i = v / 2 ^ (w - i) := by
    intro i
    induction i with
    | zero => intro _; simp only [num]; rw [Nat.sub_zero]; exact (Nat.div_eq_of_lt h).symm
    | succ i ih =>
      intro hi
      simp only [num]
      rw [ih (by omega)]
      have e : at0 (pre ++ fbits w v ++ post) (pre.length + i) = v / 2 ^ (w - 1 - i) % 2 := by
        unfold at0
        rw [← fbits_get w v i (by omega)]
        have : i < (fbits w v).length := by rw [fbits_len]; omega
        rw [List.append_assoc, List.getD_eq_getElem?_getD, List.getD_eq_getElem?_getD, List.getElem?_append_right (by omega), Nat.add_sub_cancel_left, List.getElem?_append_left this]
      rw [e, show w - i = (w - 1 - i) + 1 by omega, show w - (i + 1) = w - 1 - i by omega, Nat.pow_succ, ← Nat.div_div_eq_div_mul]
      omega
  have := key w (Nat.le_refl _)
  rw [this, Nat.sub_self]; simp

/-- The bits of the number that w bits make are these bits. -/
theorem fbits_num (g : Nat → Nat) (hg : ∀ p, g p < 2) (a w : Nat) : fbits w (num g a w) = (List.range w).map (fun i => g (a + i)) := by
  have key : ∀ w i, i < w → num g a w / 2 ^ (w - 1 - i) % 2 = g (a + i) := by
    intro w
    induction w with
    | zero => intro i hi; omega
    | succ w ih =>
      intro i hi
      simp only [num]
      have := hg (a + w)
      by_cases e : i = w
      · subst e
        rw [show i + 1 - 1 - i = 0 by omega]
        simp; omega
      · rw [show w + 1 - 1 - i = (w - 1 - i) + 1 by omega, Nat.pow_succ, Nat.mul_comm (2 ^ _) 2, ← Nat.div_div_eq_div_mul, show (2 * num g a w + g (a + w)) / 2 = num g a w by omega]
        exact ih i (by omega)
  unfold fbits
  apply List.map_congr_left
  intro i hi
  exact key w i (List.mem_range.1 hi)

/-- A bit more that is 0 changes no byte. -/
theorem at0_snoc0 (bs : List Nat) : at0 (bs ++ [0]) = at0 bs := by
  funext p
  unfold at0
  by_cases h : p < bs.length
  · rw [List.getD_eq_getElem?_getD, List.getD_eq_getElem?_getD, List.getElem?_append_left h]
  · by_cases e : p = bs.length
    · subst e; simp
    · rw [List.getD_eq_getElem?_getD, List.getD_eq_getElem?_getD, List.getElem?_eq_none (by simp; omega), List.getElem?_eq_none (by omega)]

theorem at0_zeros (bs : List Nat) (k : Nat) : at0 (bs ++ List.replicate k 0) = at0 bs := by
  induction k with
  | zero => simp
  | succ k ih => rw [List.replicate_succ', ← List.append_assoc, at0_snoc0, ih]

theorem at0_snoc1 (bs : List Nat) (p : Nat) : at0 (bs ++ [1]) p = if p = bs.length then 1 else at0 bs p := by
  unfold at0
  by_cases h : p < bs.length
  · rw [List.getD_eq_getElem?_getD, List.getD_eq_getElem?_getD, List.getElem?_append_left h, if_neg (by omega)]
  · by_cases e : p = bs.length
    · subst e; simp
    · rw [List.getD_eq_getElem?_getD, List.getD_eq_getElem?_getD, List.getElem?_eq_none (by simp; omega), List.getElem?_eq_none (by omega), if_neg e]

theorem at0_out (bs : List Nat) (p : Nat) (h : bs.length ≤ p) : at0 bs p = 0 := by
  unfold at0
  rw [List.getD_eq_getElem?_getD, List.getElem?_eq_none (by omega)]
  rfl

/-- A bit more that is 1: its byte has it more, which had not; no other byte turns. -/
theorem byteOf_snoc1 (bs : List Nat) (j : Nat) :
    byteOf (at0 (bs ++ [1])) j = if j = bs.length / 8 then byteOf (at0 bs) j + 2 ^ (7 - bs.length % 8) else byteOf (at0 bs) j := by
  by_cases e : j = bs.length / 8
  · rw [if_pos e]
    unfold byteOf
    simp only [at0_snoc1]
    have : bs.length % 8 = 0 ∨ bs.length % 8 = 1 ∨ bs.length % 8 = 2 ∨ bs.length % 8 = 3 ∨ bs.length % 8 = 4 ∨ bs.length % 8 = 5 ∨ bs.length % 8 = 6 ∨ bs.length % 8 = 7 := by omega
    rcases this with h | h | h | h | h | h | h | h <;>
      (have o0 := at0_out bs bs.length (Nat.le_refl _)
       rw [h]
       have hl : bs.length = 8 * j + bs.length % 8 := by omega
       rw [h] at hl
       rw [hl] at o0 ⊢
       simp
       try rw [Nat.add_zero] at o0
       omega)
  · rw [if_neg e]
    refine byteOf_congr _ _ _ fun t ht => ?_
    rw [at0_snoc1, if_neg (by omega)]

theorem byteOf_low (bs : List Nat) : byteOf (at0 bs) (bs.length / 8) % 2 ^ (8 - bs.length % 8) = 0 := by
  unfold byteOf
  have o : ∀ t, bs.length % 8 ≤ t → t < 8 → at0 bs (8 * (bs.length / 8) + t) = 0 := fun t h1 h2 => at0_out bs _ (by omega)
  generalize at0 bs = g at o
  generalize 8 * (bs.length / 8) = q at o
  have : bs.length % 8 = 0 ∨ bs.length % 8 = 1 ∨ bs.length % 8 = 2 ∨ bs.length % 8 = 3 ∨ bs.length % 8 = 4 ∨ bs.length % 8 = 5 ∨ bs.length % 8 = 6 ∨ bs.length % 8 = 7 := by omega
  have o7 := o 7 (by omega) (by omega)
  rcases this with h | h | h | h | h | h | h | h <;>
    (rw [h] at o
     have o0 := o 0; have o1 := o 1; have o2 := o 2; have o3 := o 3; have o4 := o 4; have o5 := o 5; have o6 := o 6
     simp at o0 o1 o2 o3 o4 o5 o6
     rw [h]
     simp
     omega)
end Plain
end Go.Proofs.Ytlmiomfbpeondan

/-
  Tallies, plain: what may be, what is left, what a deed makes of one, what two come to.
-/
import Derived.Test.YtcdlgpickjiikagRows
import Derived.WalkKit
namespace Go.Proofs.Ytcdlgpickjiikag
namespace Plain

structure Ta where
  moves : List (List Int)
  used : List Int
  deriving DecidableEq, Inhabited
structure De where
  kind : Int
  who : Int
  to : Int
  count : Int
  deriving DecidableEq, Inhabited

def badN (x : Int) : Bool := decide (x < 0 ∨ 1048576 < x)
def badR (n : Nat) (r : List Int) : Bool := (r.length != n) || r.any badN
/-- A tally may be. -/
def mayT (t : Ta) : Bool := decide (1 ≤ t.used.length ∧ t.used.length ≤ 8 ∧ t.moves.length = t.used.length) && !badR t.used.length t.used && !t.moves.any (badR t.used.length)
def rw (t : Ta) (i : Nat) : List Int := t.moves.getD i []
def mv (t : Ta) (i j : Nat) : Int := (rw t i).getD j 0
def us (t : Ta) (i : Nat) : Int := t.used.getD i 0
def sumTo (f : Nat → Int) : Nat → Int
  | 0 => 0
  | k + 1 => sumTo f k + f k
/-- What is left to branch o. -/
def leftT (t : Ta) (o : Nat) : Int := mv t o o - us t o + sumTo (fun j => mv t j o - mv t o j) t.used.length

/-- A tally of n branches that may be. -/
structure Sq (n : Nat) (t : Ta) : Prop where
  n1 : 1 ≤ n
  n8 : n ≤ 8
  u : t.used.length = n
  m : t.moves.length = n
  r : ∀ i, i < n → (rw t i).length = n
  bm : ∀ i j, i < n → j < n → 0 ≤ mv t i j ∧ mv t i j ≤ 1048576
  bu : ∀ i, i < n → 0 ≤ us t i ∧ us t i ≤ 1048576

theorem badN_no {x : Int} : badN x = false ↔ 0 ≤ x ∧ x ≤ 1048576 := by
  unfold badN
  rw [decide_eq_false_iff_not]
  omega
theorem getD_lt {α : Type} (l : List α) (j : Nat) (d : α) (h : j < l.length) : l.getD j d = l[j] := by
  simp [List.getD_eq_getElem?_getD, h]
theorem badR_no {n : Nat} {r : List Int} : badR n r = false ↔ r.length = n ∧ ∀ j, j < n → 0 ≤ r.getD j 0 ∧ r.getD j 0 ≤ 1048576 := by
  unfold badR
  rw [Bool.or_eq_false_iff, bne_eq_false_iff_eq, List.any_eq_false]
  constructor
  · rintro ⟨h1, h2⟩
    refine ⟨h1, fun j hj => ?_⟩
    rw [getD_lt r j 0 (by omega)]
    exact badN_no.1 (by simpa using h2 _ (List.getElem_mem (by omega)))
  · rintro ⟨h1, h2⟩
    refine ⟨h1, fun x hx => ?_⟩
    obtain ⟨j, hj, rfl⟩ := List.getElem_of_mem hx
    have := h2 j (by omega)
    rw [getD_lt r j 0 hj] at this
    rw [badN_no.2 this]
    simp
theorem mayT_iff {t : Ta} : mayT t = true ↔ Sq t.used.length t := by
  unfold mayT
  simp only [Bool.and_eq_true, decide_eq_true_eq, Bool.not_eq_true']
  constructor
  · rintro ⟨⟨⟨h1, h2, h3⟩, h4⟩, h5⟩
    rw [badR_no] at h4
    rw [List.any_eq_false] at h5
    have h6 : ∀ i, i < t.used.length → (rw t i).length = t.used.length ∧ ∀ j, j < t.used.length → 0 ≤ (rw t i).getD j 0 ∧ (rw t i).getD j 0 ≤ 1048576 := fun i hi => by
      unfold rw
      rw [getD_lt t.moves i [] (by omega)]
      exact badR_no.1 (by simpa using h5 _ (List.getElem_mem (by omega)))
    exact ⟨h1, h2, rfl, h3, fun i hi => (h6 i hi).1, fun i j hi hj => (h6 i hi).2 j hj, h4.2⟩
  · intro h
    refine ⟨⟨⟨h.n1, h.n8, h.m⟩, badR_no.2 ⟨rfl, h.bu⟩⟩, List.any_eq_false.2 fun r hr => ?_⟩
    obtain ⟨i, hi, rfl⟩ := List.getElem_of_mem hr
    rw [h.m] at hi
    have e : t.moves[i]'(by rw [h.m]; exact hi) = rw t i := (getD_lt t.moves i [] (by rw [h.m]; exact hi)).symm
    rw [e, badR_no.2 ⟨h.r i hi, fun j hj => h.bm i j hi hj⟩]
    simp

theorem sumTo_bd (f : Nat → Int) (c : Int) (n k : Nat) (h : ∀ j, j < n → -c ≤ f j ∧ f j ≤ c) (hk : k ≤ n) : -(c * k) ≤ sumTo f k ∧ sumTo f k ≤ c * k := by
  induction k with
  | zero => simp [sumTo]
  | succ k ih =>
    have h1 := ih (by omega)
    have h2 := h k (by omega)
    rw [sumTo, Int.natCast_succ, Int.mul_add, Int.mul_one]
    omega
theorem sumTo_sub (f g : Nat → Int) (k : Nat) : sumTo (fun j => f j - g j) k = sumTo f k - sumTo g k := by
  induction k with
  | zero => rfl
  | succ k ih => simp only [sumTo, ih]; omega
theorem sumTo_congr {f g : Nat → Int} {k : Nat} (h : ∀ j, j < k → f j = g j) : sumTo f k = sumTo g k := by
  induction k with
  | zero => rfl
  | succ k ih => rw [sumTo, sumTo, ih fun j hj => h j (by omega), h k (by omega)]
theorem leftT_two (t : Ta) (o : Nat) : leftT t o = sumTo (fun j => mv t j o) t.used.length - (sumTo (fun j => mv t o j) t.used.length - mv t o o) - us t o := by
  unfold leftT
  rw [sumTo_sub]
  generalize hA : sumTo (fun j => mv t o j) t.used.length = A
  generalize sumTo (fun j => mv t j o) t.used.length = C
  have hA2 : sumTo (mv t o) t.used.length = A := hA
  omega

/-- What Left comes to. -/
def leftE (t : Ta) (o : Int) : Nat := if mayT t = true then (if 0 ≤ o ∧ o < t.used.length then 0 else 2) else 4
def leftV (t : Ta) (o : Int) : Int := if leftE t o = 0 then leftT t o.toNat else 0
theorem leftE_ok {t : Ta} {o : Int} (h : leftE t o = 0) : Sq t.used.length t ∧ 0 ≤ o ∧ o < t.used.length := by
  unfold leftE at h
  split at h
  · rename_i h1
    split at h
    · rename_i h2; exact ⟨mayT_iff.1 h1, h2⟩
    · omega
  · omega

/-- Where a deed changes its row. -/
def plD (d : De) : Int := if d.kind = 2 then d.to else d.who
/-- The number that a deed changes. -/
def cellD (t : Ta) (d : De) : Int := if d.kind = 3 then us t d.who.toNat else mv t d.who.toNat (plD d).toNat
def doT (t : Ta) (d : De) : Ta :=
  if d.kind = 3 then ⟨t.moves, t.used.set d.who.toNat (us t d.who.toNat + d.count)⟩
  else ⟨t.moves.set d.who.toNat ((rw t d.who.toNat).set (plD d).toNat (mv t d.who.toNat (plD d).toNat + d.count)), t.used⟩
/-- What is refused ahead of the change. -/
def refE (t : Ta) (d : De) : Nat :=
  if mayT t = true then
    (if d.kind = 1 ∨ d.kind = 2 ∨ d.kind = 3 then
      (if (0 ≤ d.who ∧ d.who < t.used.length) ∧ (d.kind = 2 → (0 ≤ d.to ∧ d.to < t.used.length) ∧ d.to ≠ d.who) ∧ 1 ≤ d.count ∧ d.count ≤ 1048576 then
        (if d.kind ≠ 1 ∧ leftT t d.who.toNat < d.count then 9 else 0)
      else 2)
    else 3)
  else 4
def doE (t : Ta) (d : De) : Nat := if refE t d = 0 then (if 1048576 < cellD t d + d.count then 12 else 0) else refE t d
def doV (t : Ta) (d : De) : Ta := if doE t d = 0 then doT t d else ⟨[], []⟩

/-- What holds where nothing is refused. -/
structure OkD (t : Ta) (d : De) : Prop where
  sq : Sq t.used.length t
  k : d.kind = 1 ∨ d.kind = 2 ∨ d.kind = 3
  w0 : 0 ≤ d.who
  w1 : d.who < t.used.length
  p0 : 0 ≤ plD d
  p1 : plD d < t.used.length
  c0 : 1 ≤ d.count
  c1 : d.count ≤ 1048576
theorem refE_ok {t : Ta} {d : De} (h : refE t d = 0) : OkD t d := by
  unfold refE at h
  split at h
  · rename_i h1
    split at h
    · rename_i h2
      split at h
      · rename_i h3
        obtain ⟨h4, h5, h6, h7⟩ := h3
        have hp : 0 ≤ plD d ∧ plD d < t.used.length := by
          unfold plD
          split
          · rename_i h8; exact (h5 h8).1
          · exact h4
        exact ⟨mayT_iff.1 h1, h2, h4.1, h4.2, hp.1, hp.2, h6, h7⟩
      · omega
    · omega
  · omega

def joinR (a b : List Int) : List Int := (List.range a.length).map fun j => max (a.getD j 0) (b.getD j 0)
def mergeT (a b : Ta) : Ta := ⟨(List.range a.moves.length).map fun i => joinR (rw a i) (rw b i), joinR a.used b.used⟩
def mergeE (a b : Ta) : Nat := if mayT a = true ∧ mayT b = true then (if a.used.length = b.used.length then 0 else 1) else 4
def mergeV (a b : Ta) : Ta := if mergeE a b = 0 then mergeT a b else ⟨[], []⟩
theorem mergeE_ok {a b : Ta} (h : mergeE a b = 0) : Sq a.used.length a ∧ Sq a.used.length b := by
  unfold mergeE at h
  split at h
  · rename_i h1
    split at h
    · rename_i h2; exact ⟨mayT_iff.1 h1.1, h2 ▸ mayT_iff.1 h1.2⟩
    · omega
  · omega
theorem joinR_len (a b : List Int) : (joinR a b).length = a.length := by simp [joinR]
theorem joinR_at (a b : List Int) (j : Nat) (h : j < a.length) : (joinR a b).getD j 0 = max (a.getD j 0) (b.getD j 0) := by
  rw [getD_lt _ _ _ (by rw [joinR_len]; exact h)]
  simp [joinR]
/-- A row that is raised up to its k-th number. -/
def upTo (a b : List Int) (k : Nat) : List Int := (List.range a.length).map fun j => if j < k then max (a.getD j 0) (b.getD j 0) else a.getD j 0
theorem upTo_len (a b : List Int) (k : Nat) : (upTo a b k).length = a.length := by simp [upTo]
theorem upTo_at (a b : List Int) (k j : Nat) (h : j < a.length) : (upTo a b k).getD j 0 = if j < k then max (a.getD j 0) (b.getD j 0) else a.getD j 0 := by
  rw [getD_lt _ _ _ (by rw [upTo_len]; exact h)]
  simp [upTo]
theorem ext_getD {a b : List Int} (h : a.length = b.length) (h2 : ∀ j, j < a.length → a.getD j 0 = b.getD j 0) : a = b := by
  apply List.ext_getElem h
  intro j h3 h4
  have := h2 j h3
  rwa [getD_lt a j 0 h3, getD_lt b j 0 h4] at this
theorem upTo_zero (a b : List Int) : upTo a b 0 = a := ext_getD (upTo_len _ _ _) fun j hj => by
  rw [upTo_len] at hj
  rw [upTo_at _ _ _ _ hj, if_neg (by omega)]
theorem upTo_all (a b : List Int) : upTo a b a.length = joinR a b := ext_getD (by rw [upTo_len, joinR_len]) fun j hj => by
  rw [upTo_len] at hj
  rw [upTo_at _ _ _ _ hj, if_pos hj, joinR_at _ _ _ hj]
theorem getD_set (l : List Int) (i j : Nat) (x : Int) (hi : i < l.length) : (l.set i x).getD j 0 = if i = j then x else l.getD j 0 := by
  rw [List.getD_eq_getElem?_getD, List.getElem?_set]
  by_cases h : i = j
  · rw [if_pos h, if_pos hi, if_pos h]; rfl
  · rw [if_neg h, if_neg h, List.getD_eq_getElem?_getD]
theorem upTo_set (a b : List Int) (k : Nat) (hk : k < a.length) : (upTo a b k).set k (max (a.getD k 0) (b.getD k 0)) = upTo a b (k + 1) := by
  refine ext_getD (by rw [List.length_set, upTo_len, upTo_len]) fun j hj => ?_
  rw [List.length_set, upTo_len] at hj
  rw [getD_set _ _ _ _ (by rw [upTo_len]; exact hk), upTo_at _ _ _ _ hj, upTo_at _ _ _ _ hj]
  by_cases h : k = j
  · subst h; rw [if_pos rfl, if_pos (by omega)]
  · rw [if_neg h]
    by_cases h2 : j < k
    · rw [if_pos h2, if_pos (by omega)]
    · rw [if_neg h2, if_neg (by omega)]
end Plain
end Go.Proofs.Ytcdlgpickjiikag

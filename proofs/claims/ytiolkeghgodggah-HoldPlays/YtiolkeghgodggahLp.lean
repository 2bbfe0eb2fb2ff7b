/-
  Holds as a list of those that are open, plain.
-/
import Derived.Test.YtiolkeghgodggahJq
namespace Go.Proofs.Ytiolkeghgodggah.Hd
namespace Plain

/-- An open hold. -/
structure Pt where
  id : Int
  count : Int
  ticks : Int
  deriving DecidableEq, Inhabited

/-- Those that are open, of holds that are numbered from b + 1 on. -/
def openF (b : Nat) : List Int → List Int → List Pt
  | c :: cs, x :: ls => if 0 < x then ⟨(b : Int) + 1, c, x⟩ :: openF (b + 1) cs ls else openF (b + 1) cs ls
  | _, _ => []
def sumP : List Pt → Int
  | [] => 0
  | p :: l => p.count + sumP l
def decP (p : Pt) : Pt := { p with ticks := p.ticks - 1 }
def live (p : Pt) : Bool := p.ticks != 0

theorem sumP_open (b : Nat) (cs ls : List Int) : sumP (openF b cs ls) = heldL cs ls := by
  induction cs generalizing b ls with
  | nil => cases ls <;> rfl
  | cons c cs ih =>
    cases ls with
    | nil => rfl
    | cons x ls =>
      simp only [openF, heldL]
      by_cases h : 0 < x
      · rw [if_pos h, if_pos h]; simp only [sumP, ih]
      · rw [if_neg h, if_neg h, ih]; omega
theorem len_open (b : Nat) (cs ls : List Int) (h : cs.length = ls.length) : ((openF b cs ls).length : Int) = opensL ls := by
  induction cs generalizing b ls with
  | nil =>
    have : ls = [] := List.length_eq_zero_iff.1 h.symm
    subst this; rfl
  | cons c cs ih =>
    cases ls with
    | nil => simp at h
    | cons x ls =>
      have := ih (b + 1) ls (by simpa using h)
      simp only [openF, opensL]
      by_cases hx : 0 < x
      · rw [if_pos hx, if_pos hx]; simp only [List.length_cons]; omega
      · rw [if_neg hx, if_neg hx]; omega
theorem open_snoc (b : Nat) (cs ls : List Int) (c x : Int) (h : cs.length = ls.length) (hx : 0 < x) : openF b (cs ++ [c]) (ls ++ [x]) = openF b cs ls ++ [⟨(b : Int) + cs.length + 1, c, x⟩] := by
  induction cs generalizing b ls with
  | nil =>
    have : ls = [] := List.length_eq_zero_iff.1 h.symm
    subst this
    simp [openF, hx]
  | cons d cs ih =>
    cases ls with
    | nil => simp at h
    | cons y ls =>
      have := ih (b + 1) ls (by simpa using h)
      have e : ((b + 1 : Nat) : Int) + (cs.length : Int) + 1 = (b : Int) + ((d :: cs).length : Int) + 1 := by simp only [List.length_cons]; omega
      rw [e] at this
      simp only [List.cons_append, openF, this]
      by_cases hy : 0 < y
      · rw [if_pos hy, if_pos hy]; rfl
      · rw [if_neg hy, if_neg hy]
theorem open_tick (b : Nat) (cs ls : List Int) : openF b cs (tickL ls) = ((openF b cs ls).map decP).filter live := by
  induction cs generalizing b ls with
  | nil => cases ls <;> rfl
  | cons c cs ih =>
    cases ls with
    | nil => rfl
    | cons x ls =>
      have := ih (b + 1) ls
      simp only [tickL, List.map_cons] at this ⊢
      simp only [openF, this]
      by_cases hx : 0 < x
      · rw [if_pos hx, if_pos hx]
        by_cases h1 : x = 1
        · subst h1
          rw [if_neg (by omega)]
          simp [decP, live]
        · rw [if_pos (by omega)]
          have h2 : live ⟨(b : Int) + 1, c, x - 1⟩ = true := by simp [live]; omega
          simp only [List.map_cons, decP]
          rw [List.filter_cons_of_pos h2]
      · rw [if_neg hx, if_neg hx, if_neg hx]
theorem open_over (b : Nat) (cs ls : List Int) : sumP ((openF b cs ls).map decP) - sumP (((openF b cs ls).map decP).filter live) = overL cs ls := by
  rw [← open_tick, sumP_open]
  have e : ∀ l : List Pt, sumP (l.map decP) = sumP l := by
    intro l
    induction l with
    | nil => rfl
    | cons p l ih => simp only [List.map_cons, sumP, ih]; rfl
  rw [e, sumP_open]
  have := heldL_tick cs ls
  omega
theorem open_ids (b : Nat) (cs ls : List Int) : ∀ p, p ∈ openF b cs ls → (b : Int) < p.id ∧ p.id ≤ b + cs.length := by
  induction cs generalizing b ls with
  | nil => intro p hp; cases ls <;> simp [openF] at hp
  | cons c cs ih =>
    cases ls with
    | nil => intro p hp; simp [openF] at hp
    | cons x ls =>
      intro p hp
      simp only [openF] at hp
      have key : p ∈ openF (b + 1) cs ls → (b : Int) < p.id ∧ p.id ≤ b + ((c :: cs).length : Nat) := fun h => by
        have := ih (b + 1) ls p h
        simp only [List.length_cons]
        omega
      by_cases hx : 0 < x
      · rw [if_pos hx] at hp
        rcases List.mem_cons.1 hp with rfl | h
        · simp only [List.length_cons]; omega
        · exact key h
      · rw [if_neg hx] at hp
        exact key hp
theorem open_counts (b : Nat) (cs ls : List Int) (h : ∀ c, c ∈ cs → 1 ≤ c ∧ c ≤ 1048576) (hl : ∀ x, x ∈ ls → 0 ≤ x ∧ x ≤ 20) : ∀ p, p ∈ openF b cs ls → (1 ≤ p.count ∧ p.count ≤ 1048576) ∧ 1 ≤ p.ticks ∧ p.ticks ≤ 20 := by
  induction cs generalizing b ls with
  | nil => intro p hp; cases ls <;> simp [openF] at hp
  | cons c cs ih =>
    cases ls with
    | nil => intro p hp; simp [openF] at hp
    | cons x ls =>
      intro p hp
      simp only [openF] at hp
      have key := ih (b + 1) ls (fun d hd => h d (List.mem_cons_of_mem _ hd)) (fun d hd => hl d (List.mem_cons_of_mem _ hd)) p
      by_cases hx : 0 < x
      · rw [if_pos hx] at hp
        rcases List.mem_cons.1 hp with rfl | h'
        · exact ⟨h c (List.mem_cons_self ..), by have := hl x (List.mem_cons_self ..); show 1 ≤ x ∧ x ≤ 20; omega⟩
        · exact key h'
      · rw [if_neg hx] at hp
        exact key hp
/-- One that is not open is not found. -/
theorem open_none (b : Nat) (cs ls : List Int) (i : Nat) (hx : ls.getD i 0 ≤ 0) : ∀ p, p ∈ openF b cs ls → p.id ≠ (b : Int) + i + 1 := by
  induction cs generalizing b ls i with
  | nil => intro p hp; cases ls <;> simp [openF] at hp
  | cons c cs ih =>
    cases ls with
    | nil => intro p hp; simp [openF] at hp
    | cons x ls =>
      intro p hp
      simp only [openF] at hp
      cases i with
      | zero =>
        have hx' : ¬ 0 < x := by simp at hx; omega
        rw [if_neg hx'] at hp
        have := open_ids (b + 1) cs ls p hp
        omega
      | succ i =>
        have key := ih (b + 1) ls i (by simpa using hx) p
        by_cases hy : 0 < x
        · rw [if_pos hy] at hp
          rcases List.mem_cons.1 hp with rfl | h
          · dsimp only; omega
          · have := key h; omega
        · rw [if_neg hy] at hp
          have := key hp; omega
/-- One that is open is found, and goes. -/
theorem open_some (b : Nat) (cs ls : List Int) (i : Nat) (h : cs.length = ls.length) (hx : 0 < ls.getD i 0) :
    ∃ k, k < (openF b cs ls).length ∧ (openF b cs ls).getD k default = ⟨(b : Int) + i + 1, cs.getD i 0, ls.getD i 0⟩ ∧ (∀ j, j < k → ((openF b cs ls).getD j default).id ≠ (b : Int) + i + 1) ∧ openF b cs (ls.set i 0) = (openF b cs ls).eraseIdx k := by
  induction cs generalizing b ls i with
  | nil =>
    have : ls = [] := List.length_eq_zero_iff.1 h.symm
    subst this
    simp at hx
  | cons c cs ih =>
    cases ls with
    | nil => simp at h
    | cons x ls =>
      cases i with
      | zero =>
        have hx' : 0 < x := by simpa using hx
        refine ⟨0, ?_⟩
        simp [openF, hx']
      | succ i =>
        obtain ⟨k, h1, h2, h3, h4⟩ := ih (b + 1) ls i (by simpa using h) (by simpa using hx)
        have e : ((b + 1 : Nat) : Int) + (i : Int) + 1 = (b : Int) + ((i + 1 : Nat) : Int) + 1 := by omega
        rw [e] at h2 h3
        by_cases hy : 0 < x
        · refine ⟨k + 1, ?_⟩
          simp only [openF, if_pos hy, List.set_cons_succ, List.length_cons, List.getD_cons_succ, List.eraseIdx_cons_succ, h4]
          refine ⟨by omega, h2, fun j hj => ?_, trivial⟩
          cases j with
          | zero => simp only [List.getD_cons_zero]; omega
          | succ j => simpa using h3 j (by omega)
        · refine ⟨k, ?_⟩
          simp only [openF, if_neg hy, List.set_cons_succ, List.getD_cons_succ]
          exact ⟨h1, h2, h3, h4⟩
theorem sumP_nonneg {l : List Pt} (h : ∀ p, p ∈ l → 0 ≤ p.count) : 0 ≤ sumP l := by
  induction l with
  | nil => exact Int.le_refl _
  | cons p l ih =>
    have := h p (List.mem_cons_self ..)
    have := ih fun q hq => h q (List.mem_cons_of_mem _ hq)
    simp only [sumP]; omega
theorem sumP_app (a b : List Pt) : sumP (a ++ b) = sumP a + sumP b := by
  induction a with
  | nil => simp [sumP]
  | cons p a ih => simp only [List.cons_append, sumP, ih]; omega
theorem sumP_next (l : List Pt) (k : Nat) (h : k < l.length) : sumP (l.take (k + 1)) = sumP (l.take k) + (l.getD k default).count := by
  rw [List.take_succ_eq_append_getElem h, sumP_app, List.getD_eq_getElem?_getD, List.getElem?_eq_getElem h]
  simp [sumP]
theorem sumP_part {l : List Pt} (k : Nat) (h : ∀ p, p ∈ l → 0 ≤ p.count) : 0 ≤ sumP (l.take k) ∧ sumP (l.take k) ≤ sumP l := by
  have h1 := sumP_nonneg fun p hp => h p (List.mem_of_mem_take (i := k) hp)
  have h2 := sumP_nonneg fun p hp => h p (List.mem_of_mem_drop (i := k) hp)
  have h3 := sumP_app (l.take k) (l.drop k)
  rw [List.take_append_drop] at h3
  omega
end Plain
end Go.Proofs.Ytiolkeghgodggah.Hd

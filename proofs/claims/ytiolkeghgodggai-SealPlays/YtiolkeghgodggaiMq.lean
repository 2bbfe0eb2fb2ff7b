/-
  Letters, plain: how far each way came; what holds of all that was posted.
-/
import Derived.Test.YtiolkeghgodggaiMp
namespace Go.Proofs.Ytiolkeghgodggai.Se
namespace Plain

/-- The first number of a way that is not old. -/
def nextL (q : Nat → Bool) : List Nat → Nat
  | [] => 0
  | k :: l => if q k then max (k + 1) (nextL q l) else nextL q l
def wayB (o : Off) (f t : Int) (k : Nat) : Bool := decide ((o.at k).frm = f ∧ (o.at k).to = t)
def nextF (o : Off) (f t : Int) : Nat := nextL (wayB o f t) o.opened
theorem nextL_lt (q : Nat → Bool) (l : List Nat) (i : Nat) : i < nextL q l ↔ ∃ k, k ∈ l ∧ q k = true ∧ i ≤ k := by
  induction l with
  | nil => simp [nextL]
  | cons k l ih =>
    unfold nextL
    by_cases h : q k = true
    · rw [if_pos h]
      constructor
      · intro hlt
        by_cases h1 : i ≤ k
        · exact ⟨k, List.mem_cons_self, h, h1⟩
        · obtain ⟨k', a, b, c⟩ := ih.1 (by omega)
          exact ⟨k', List.mem_cons_of_mem _ a, b, c⟩
      · rintro ⟨k', a, b, c⟩
        rcases List.mem_cons.1 a with e | e
        · subst e; omega
        · have := ih.2 ⟨k', e, b, c⟩
          omega
    · rw [if_neg h, ih]
      constructor
      · rintro ⟨k', a, b, c⟩
        exact ⟨k', List.mem_cons_of_mem _ a, b, c⟩
      · rintro ⟨k', a, b, c⟩
        rcases List.mem_cons.1 a with e | e
        · subst e; exact absurd b h
        · exact ⟨k', e, b, c⟩
theorem nextL_snoc (q : Nat → Bool) (l : List Nat) (i : Nat) : nextL q (l ++ [i]) = if q i then max (i + 1) (nextL q l) else nextL q l := by
  induction l with
  | nil => simp [nextL]
  | cons k l ih =>
    rw [List.cons_append]
    simp only [nextL, ih]
    by_cases h1 : q k = true <;> by_cases h2 : q i = true <;> simp only [h1, h2, if_true, if_false, Bool.false_eq_true] <;> omega
theorem nextL_congr {q r : Nat → Bool} {l : List Nat} (h : ∀ k, k ∈ l → q k = r k) : nextL q l = nextL r l := by
  induction l with
  | nil => rfl
  | cons k l ih =>
    unfold nextL
    rw [h k List.mem_cons_self, ih fun k' hk => h k' (List.mem_cons_of_mem _ hk)]
/-- Whether a letter is old. -/
theorem old_next (o : Off) (i : Nat) : oldO o i = decide (i < nextF o (o.at i).frm (o.at i).to) := by
  rw [Bool.eq_iff_iff, decide_eq_true_iff]
  unfold nextF
  rw [nextL_lt]
  unfold oldO
  rw [List.any_eq_true]
  constructor
  · rintro ⟨k, a, b⟩
    rw [decide_eq_true_iff] at b
    exact ⟨k, a, by unfold wayB; rw [decide_eq_true_iff]; exact b.2, b.1⟩
  · rintro ⟨k, a, b, c⟩
    unfold wayB at b
    rw [decide_eq_true_iff] at b
    exact ⟨k, a, by rw [decide_eq_true_iff]; exact ⟨c, b⟩⟩
/-- What holds of all that was posted. -/
structure Good (o : Off) : Prop where
  op : ∀ k, k ∈ o.opened → k < o.posted.length
  fr : ∀ y, y ∈ o.posted → 0 ≤ y.frm ∧ y.frm ≤ 8
  to : ∀ y, y ∈ o.posted → 0 ≤ y.to ∧ y.to ≤ 8
  sz : ∀ y, y ∈ o.posted → y.data.length ≤ 256
theorem Good.nil : Good Off.nil := ⟨fun _ h => (nomatch h), fun _ h => (nomatch h), fun _ h => (nomatch h), fun _ h => (nomatch h)⟩
theorem leE_post {o : Off} {x : Le} (h : leE o x = 0) (hk : x.kind = 1) : (0 ≤ x.frm ∧ x.frm ≤ 8) ∧ (0 ≤ x.to ∧ x.to ≤ 8) ∧ x.data.length ≤ 256 := by
  unfold leE at h
  by_cases h1 : x.kind ≠ 1 ∧ x.kind ≠ 2
  · rw [if_pos h1] at h; omega
  rw [if_neg h1] at h
  by_cases h2 : (x.to < 0 ∨ 8 < x.to) ∨ (x.kind = 1 ∧ (x.frm < 0 ∨ 8 < x.frm))
  · rw [if_pos h2] at h; omega
  rw [if_neg h2, if_pos hk] at h
  by_cases h3 : 256 < x.data.length
  · rw [if_pos h3] at h; omega
  omega
theorem Good.step {o : Off} (h : Good o) (x : Le) : Good (leS o x) := by
  refine ⟨(Fine.step ⟨h.op⟩ x).op, ?_, ?_, ?_⟩ <;> unfold leS <;> intro y hy <;> by_cases he : leE o x ≠ 0
  all_goals first
    | (rw [if_pos he] at hy; first | exact h.fr y hy | exact h.to y hy | exact h.sz y hy)
    | (rw [if_neg he] at hy
       by_cases hk : x.kind = 1
       · rw [if_pos hk] at hy
         obtain ⟨a, b, c⟩ := leE_post (Classical.not_not.1 he) hk
         rcases List.mem_append.1 hy with m | m
         · first | exact h.fr y m | exact h.to y m | exact h.sz y m
         · have e : y = ⟨x.frm, x.to, x.data⟩ := by simpa using m
           subst e
           first | exact a | exact b | exact c
       · rw [if_neg hk] at hy
         first | exact h.fr y hy | exact h.to y hy | exact h.sz y hy)
theorem Good.run {o : Off} (h : Good o) (l : List Le) : Good (officeF o l) := by
  induction l generalizing o with
  | nil => exact h
  | cons x l ih => exact ih (h.step x)
theorem Good.at {o : Off} (h : Good o) {k : Nat} (hk : k < o.posted.length) : (0 ≤ (o.at k).frm ∧ (o.at k).frm ≤ 8) ∧ (0 ≤ (o.at k).to ∧ (o.at k).to ≤ 8) ∧ (o.at k).data.length ≤ 256 := by
  have m : o.at k ∈ o.posted := by
    unfold Off.at
    rw [List.getD_eq_getElem?_getD, List.getElem?_eq_getElem hk]
    exact List.getElem_mem _
  exact ⟨h.fr _ m, h.to _ m, h.sz _ m⟩
/-- A post leaves ways as far as they came. -/
theorem next_post {o : Off} (h : Good o) (y : Po) (f t : Int) : nextF { o with posted := o.posted ++ [y] } f t = nextF o f t := by
  refine nextL_congr fun k hk => ?_
  have := at_app o y k (h.op k hk)
  unfold wayB
  show decide ((Off.at { o with posted := o.posted ++ [y] } k).frm = f ∧ (Off.at { o with posted := o.posted ++ [y] } k).to = t) = _
  unfold Off.at at this ⊢
  rw [this]
/-- What is opened brings its way behind it. -/
theorem next_open {o : Off} {i : Nat} (hold : oldO o i = false) (f t : Int) : nextF { o with opened := o.opened ++ [i] } f t = if (o.at i).frm = f ∧ (o.at i).to = t then i + 1 else nextF o f t := by
  show nextL (wayB o f t) (o.opened ++ [i]) = _
  rw [nextL_snoc]
  rw [old_next, decide_eq_false_iff_not] at hold
  unfold wayB
  by_cases h : (o.at i).frm = f ∧ (o.at i).to = t
  · rw [if_pos h, if_pos (decide_eq_true h)]
    obtain ⟨rfl, rfl⟩ := h
    unfold nextF wayB at hold
    omega
  · rw [if_neg h, if_neg (by rw [decide_eq_true_iff]; exact h)]
    rfl
theorem posted_le (o : Off) (l : List Le) : (officeF o l).posted.length ≤ o.posted.length + l.length := by
  induction l generalizing o with
  | nil => exact Nat.le_refl _
  | cons x l ih =>
    have h1 := ih (leS o x)
    have h2 : (leS o x).posted.length ≤ o.posted.length + 1 := by
      unfold leS
      split
      · omega
      · split
        · simp
        · show o.posted.length ≤ _; omega
    simp only [officeF, List.length_cons]
    omega
theorem opened_le (o : Off) (l : List Le) : (officeF o l).opened.length ≤ o.opened.length + l.length := by
  induction l generalizing o with
  | nil => exact Nat.le_refl _
  | cons x l ih =>
    have h1 := ih (leS o x)
    have h2 : (leS o x).opened.length ≤ o.opened.length + 1 := by
      unfold leS
      split
      · omega
      · split
        · show o.opened.length ≤ _; omega
        · simp
    simp only [officeF, List.length_cons]
    omega
end Plain
end Go.Proofs.Ytiolkeghgodggai.Se

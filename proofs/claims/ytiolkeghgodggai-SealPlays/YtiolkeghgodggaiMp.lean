/-
  Letters, plain: what moves come to, one by one.
-/
import Derived.Test.YtiolkeghgodggaiRows
import Derived.WalkKit
namespace Go.Proofs.Ytiolkeghgodggai.Se
namespace Plain

/-- A move. -/
structure Le where
  kind : Int
  frm : Int
  to : Int
  id : Int
  data : List Int
  deriving DecidableEq, Inhabited
/-- What a move came to. -/
structure Od where
  code : Nat
  id : Int
  size : Int
  data : List Int
  deriving DecidableEq, Inhabited
/-- A letter that was posted. -/
structure Po where
  frm : Int
  to : Int
  data : List Int
  deriving DecidableEq, Inhabited
/-- All that was posted, and the numbers of those that were opened. -/
structure Off where
  posted : List Po
  opened : List Nat
  deriving DecidableEq, Inhabited
def Off.nil : Off := ⟨[], []⟩
def Off.at (o : Off) (k : Nat) : Po := o.posted.getD k default
/-- One was opened that its sender posted for the same one, it or one behind it. -/
def oldO (o : Off) (i : Nat) : Bool := o.opened.any fun k => decide (i ≤ k ∧ (o.at k).frm = (o.at i).frm ∧ (o.at k).to = (o.at i).to)
/-- Which error a move comes to; 0: none. -/
def leE (o : Off) (x : Le) : Nat :=
  if x.kind ≠ 1 ∧ x.kind ≠ 2 then 3
  else if (x.to < 0 ∨ 8 < x.to) ∨ (x.kind = 1 ∧ (x.frm < 0 ∨ 8 < x.frm)) then 2
  else if x.kind = 1 then (if 256 < x.data.length then 1 else 0)
  else if x.id < 0 ∨ (o.posted.length : Int) ≤ x.id then 6
  else if (o.at x.id.toNat).to ≠ x.to then 11
  else if oldO o x.id.toNat = true then 10 else 0
def leS (o : Off) (x : Le) : Off :=
  if leE o x ≠ 0 then o
  else if x.kind = 1 then { o with posted := o.posted ++ [⟨x.frm, x.to, x.data⟩] }
  else { o with opened := o.opened ++ [x.id.toNat] }
def leT (o : Off) (x : Le) : Od :=
  if leE o x ≠ 0 then ⟨leE o x, 0, 0, []⟩
  else if x.kind = 1 then ⟨0, o.posted.length, x.data.length, []⟩
  else ⟨0, x.id, (o.at x.id.toNat).data.length, (o.at x.id.toNat).data⟩
def mailF (o : Off) : List Le → List Od
  | [] => []
  | x :: l => leT o x :: mailF (leS o x) l
def officeF (o : Off) : List Le → Off
  | [] => o
  | x :: l => officeF (leS o x) l
def sealE (l : List Le) : Nat := if 300 < l.length then 1 else 0
def sealV (l : List Le) : List Od := if 300 < l.length then [] else mailF Off.nil l

theorem mailF_len (o : Off) (l : List Le) : (mailF o l).length = l.length := by
  induction l generalizing o with
  | nil => rfl
  | cons x l ih => simp [mailF, ih]
theorem officeF_app (o : Off) (a b : List Le) : officeF o (a ++ b) = officeF (officeF o a) b := by
  induction a generalizing o with
  | nil => rfl
  | cons x a ih => simp only [List.cons_append, officeF, ih]
theorem mailF_app (o : Off) (a b : List Le) : mailF o (a ++ b) = mailF o a ++ mailF (officeF o a) b := by
  induction a generalizing o with
  | nil => rfl
  | cons x a ih => simp only [List.cons_append, mailF, officeF, ih]
theorem officeF_take (o : Off) (l : List Le) (k : Nat) (hk : k < l.length) : officeF o (l.take (k + 1)) = leS (officeF o (l.take k)) (l.getD k default) := by
  rw [List.take_succ_eq_append_getElem hk, officeF_app, List.getD_eq_getElem?_getD, List.getElem?_eq_getElem hk]
  rfl
theorem mailF_at (o : Off) (l : List Le) (k : Nat) (hk : k < l.length) : (mailF o l).getD k default = leT (officeF o (l.take k)) (l.getD k default) := by
  induction l generalizing o k with
  | nil => simp at hk
  | cons x l ih =>
    cases k with
    | zero => rfl
    | succ k => simpa [mailF, officeF] using ih (leS o x) k (by simpa using hk)
theorem mailF_take (o : Off) (l : List Le) (k : Nat) (hk : k < l.length) : mailF o (l.take (k + 1)) = mailF o (l.take k) ++ [leT (officeF o (l.take k)) (l.getD k default)] := by
  rw [List.take_succ_eq_append_getElem hk, mailF_app, List.getD_eq_getElem?_getD, List.getElem?_eq_getElem hk]
  rfl

/-- What was opened was posted. -/
structure Fine (o : Off) : Prop where
  op : ∀ k, k ∈ o.opened → k < o.posted.length
theorem Fine.nil : Fine Off.nil := ⟨fun _ h => nomatch h⟩
theorem at_app (o : Off) (x : Po) (k : Nat) (h : k < o.posted.length) : (o.posted ++ [x]).getD k default = o.at k := by
  unfold Off.at
  rw [List.getD_eq_getElem?_getD, List.getD_eq_getElem?_getD, List.getElem?_append_left h]
theorem leE_open {o : Off} {x : Le} (h : leE o x = 0) (hk : x.kind ≠ 1) : 0 ≤ x.id ∧ x.id < o.posted.length ∧ (o.at x.id.toNat).to = x.to ∧ oldO o x.id.toNat = false := by
  unfold leE at h
  by_cases h1 : x.kind ≠ 1 ∧ x.kind ≠ 2
  · rw [if_pos h1] at h; omega
  rw [if_neg h1] at h
  by_cases h2 : (x.to < 0 ∨ 8 < x.to) ∨ (x.kind = 1 ∧ (x.frm < 0 ∨ 8 < x.frm))
  · rw [if_pos h2] at h; omega
  rw [if_neg h2, if_neg hk] at h
  by_cases h3 : x.id < 0 ∨ (o.posted.length : Int) ≤ x.id
  · rw [if_pos h3] at h; omega
  rw [if_neg h3] at h
  by_cases h4 : (o.at x.id.toNat).to ≠ x.to
  · rw [if_pos h4] at h; omega
  rw [if_neg h4] at h
  by_cases h5 : oldO o x.id.toNat = true
  · rw [if_pos h5] at h; omega
  exact ⟨by omega, by omega, Classical.not_not.1 h4, by simpa using h5⟩
theorem Fine.step {o : Off} (h : Fine o) (x : Le) : Fine (leS o x) := by
  unfold leS
  by_cases he : leE o x ≠ 0
  · rw [if_pos he]; exact h
  rw [if_neg he]
  by_cases hk : x.kind = 1
  · rw [if_pos hk]
    exact ⟨fun k hk => by have := h.op k hk; simp; omega⟩
  · rw [if_neg hk]
    obtain ⟨h1, h2, _, _⟩ := leE_open (Classical.not_not.1 he) hk
    refine ⟨fun k hk => ?_⟩
    rcases List.mem_append.1 hk with hk | hk
    · exact h.op k hk
    · have : k = x.id.toNat := by simpa using hk
      show k < o.posted.length
      omega
theorem Fine.run {o : Off} (h : Fine o) (l : List Le) : Fine (officeF o l) := by
  induction l generalizing o with
  | nil => exact h
  | cons x l ih => exact ih (h.step x)

/-! ### What others' letters hold does not matter -/
/-- Two offices that differ at most in what stands in letters for others than w, of the same lengths. -/
structure Alike (w : Int) (o p : Off) : Prop where
  op : o.opened = p.opened
  ln : o.posted.length = p.posted.length
  fr : ∀ k, (o.at k).frm = (p.at k).frm
  to : ∀ k, (o.at k).to = (p.at k).to
  sz : ∀ k, (o.at k).data.length = (p.at k).data.length
  da : ∀ k, (o.at k).to = w → (o.at k).data = (p.at k).data
/-- Two moves of which that holds. -/
structure AlikeL (w : Int) (x y : Le) : Prop where
  kd : x.kind = y.kind
  fr : x.frm = y.frm
  to : x.to = y.to
  id : x.id = y.id
  sz : x.data.length = y.data.length
  da : x.to = w → x.data = y.data
theorem Alike.refl (w : Int) (o : Off) : Alike w o o := ⟨rfl, rfl, fun _ => rfl, fun _ => rfl, fun _ => rfl, fun _ _ => rfl⟩
theorem Alike.old {w : Int} {o p : Off} (h : Alike w o p) (i : Nat) : oldO o i = oldO p i := by
  unfold oldO
  rw [h.op]
  congr 1
  funext k
  rw [h.fr k, h.fr i, h.to k, h.to i]
theorem Alike.err {w : Int} {o p : Off} {x y : Le} (h : Alike w o p) (g : AlikeL w x y) : leE o x = leE p y := by
  unfold leE
  rw [g.kd, g.fr, g.to, g.id, g.sz, h.ln, h.to, h.old]
theorem Alike.step {w : Int} {o p : Off} {x y : Le} (h : Alike w o p) (g : AlikeL w x y) : Alike w (leS o x) (leS p y) := by
  unfold leS
  rw [h.err g, g.kd]
  by_cases he : leE p y ≠ 0
  · rw [if_pos he, if_pos he]; exact h
  rw [if_neg he, if_neg he]
  by_cases hk : y.kind = 1
  · rw [if_pos hk, if_pos hk]
    have key : ∀ k, (k < o.posted.length ∧ (Off.at { o with posted := o.posted ++ [⟨x.frm, x.to, x.data⟩] } k) = o.at k ∧ (Off.at { p with posted := p.posted ++ [⟨y.frm, y.to, y.data⟩] } k) = p.at k) ∨
        (k = o.posted.length ∧ (Off.at { o with posted := o.posted ++ [⟨x.frm, x.to, x.data⟩] } k) = ⟨x.frm, x.to, x.data⟩ ∧ (Off.at { p with posted := p.posted ++ [⟨y.frm, y.to, y.data⟩] } k) = ⟨y.frm, y.to, y.data⟩) ∨
        ((Off.at { o with posted := o.posted ++ [⟨x.frm, x.to, x.data⟩] } k) = default ∧ (Off.at { p with posted := p.posted ++ [⟨y.frm, y.to, y.data⟩] } k) = default) := by
      intro k
      rcases Nat.lt_trichotomy k o.posted.length with hlt | heq | hgt
      · exact .inl ⟨hlt, at_app o _ k hlt, at_app p _ k (by rw [← h.ln]; exact hlt)⟩
      · refine .inr (.inl ⟨heq, ?_, ?_⟩)
        · unfold Off.at
          rw [List.getD_eq_getElem?_getD, List.getElem?_append_right (by omega), heq, Nat.sub_self]; rfl
        · unfold Off.at
          rw [List.getD_eq_getElem?_getD, List.getElem?_append_right (by rw [← h.ln]; omega), ← h.ln, heq, Nat.sub_self]; rfl
      · refine .inr (.inr ⟨?_, ?_⟩)
        · unfold Off.at
          rw [List.getD_eq_getElem?_getD, List.getElem?_eq_none (by simp; omega)]; rfl
        · unfold Off.at
          rw [List.getD_eq_getElem?_getD, List.getElem?_eq_none (by simp [← h.ln]; omega)]; rfl
    refine ⟨h.op, by simp [h.ln], fun k => ?_, fun k => ?_, fun k => ?_, fun k => ?_⟩
    · rcases key k with ⟨_, e1, e2⟩ | ⟨_, e1, e2⟩ | ⟨e1, e2⟩ <;> rw [e1, e2]
      · exact h.fr k
      · exact g.fr
    · rcases key k with ⟨_, e1, e2⟩ | ⟨_, e1, e2⟩ | ⟨e1, e2⟩ <;> rw [e1, e2]
      · exact h.to k
      · exact g.to
    · rcases key k with ⟨_, e1, e2⟩ | ⟨_, e1, e2⟩ | ⟨e1, e2⟩ <;> rw [e1, e2]
      · exact h.sz k
      · exact g.sz
    · rcases key k with ⟨_, e1, e2⟩ | ⟨_, e1, e2⟩ | ⟨e1, e2⟩ <;> rw [e1, e2]
      · exact h.da k
      · exact g.da
      · exact fun _ => rfl
  · rw [if_neg hk, if_neg hk]
    exact ⟨by show o.opened ++ [x.id.toNat] = p.opened ++ [y.id.toNat]; rw [h.op, g.id], h.ln, h.fr, h.to, h.sz, h.da⟩
/-- What is told of the two: the same, but for what another one opens. -/
theorem Alike.told {w : Int} {o p : Off} {x y : Le} (h : Alike w o p) (g : AlikeL w x y) : (leT o x).code = (leT p y).code ∧ (leT o x).id = (leT p y).id ∧ (leT o x).size = (leT p y).size ∧ (¬ (x.kind = 2 ∧ x.to ≠ w) → (leT o x).data = (leT p y).data) := by
  unfold leT
  rw [← h.err g, ← g.kd]
  by_cases he : leE o x ≠ 0
  · rw [if_pos he, if_pos he]; exact ⟨rfl, rfl, rfl, fun _ => rfl⟩
  rw [if_neg he, if_neg he]
  by_cases hk : x.kind = 1
  · rw [if_pos hk, if_pos hk]; exact ⟨rfl, by show ((o.posted.length : Nat) : Int) = _; rw [h.ln], by show ((x.data.length : Nat) : Int) = _; rw [g.sz], fun _ => rfl⟩
  · rw [if_neg hk, if_neg hk]
    obtain ⟨_, _, h3, _⟩ := leE_open (Classical.not_not.1 he) hk
    have hk2 : x.kind = 2 := by
      have e := Classical.not_not.1 he
      unfold leE at e
      by_cases h1 : x.kind ≠ 1 ∧ x.kind ≠ 2
      · rw [if_pos h1] at e; omega
      · omega
    refine ⟨rfl, g.id, by show (((o.at x.id.toNat).data.length : Nat) : Int) = _; rw [h.sz, g.id], fun hn => ?_⟩
    have hw : x.to = w := Classical.byContradiction fun hne => hn ⟨hk2, hne⟩
    show (o.at x.id.toNat).data = (p.at y.id.toNat).data
    rw [h.da _ (h3.trans hw), g.id]

/-! ### What others open does not matter -/
/-- The second has no openings but those of w. -/
structure Away (w : Int) (o p : Off) : Prop where
  po : o.posted = p.posted
  op : p.opened = o.opened.filter fun k => decide ((o.at k).to = w)
theorem Away.at {w : Int} {o p : Off} (h : Away w o p) (k : Nat) : o.at k = p.at k := by unfold Off.at; rw [h.po]
theorem Away.old {w : Int} {o p : Off} (h : Away w o p) (i : Nat) (hi : (o.at i).to = w) : oldO o i = oldO p i := by
  unfold oldO
  rw [h.op, List.any_filter]
  congr 1
  funext k
  rw [← h.at k, ← h.at i, hi]
  by_cases hk : (o.at k).to = w <;> simp [hk]
theorem Away.err {w : Int} {o p : Off} {x : Le} (h : Away w o p) (hx : x.kind = 1 ∨ x.to = w) : leE o x = leE p x := by
  unfold leE
  rw [h.po, h.at]
  by_cases hk : x.kind = 1
  · rw [if_pos hk, if_pos hk]
  rw [if_neg hk, if_neg hk]
  by_cases h4 : (p.at x.id.toNat).to ≠ x.to
  · rw [if_pos h4, if_pos h4]
  · rw [if_neg h4, if_neg h4, h.old _ (by rw [h.at, Classical.not_not.1 h4]; exact hx.resolve_left hk)]
/-- A move that is left out. -/
theorem Away.skip {w : Int} {o p : Off} {x : Le} (h : Away w o p) (hk : x.kind ≠ 1) (hw : x.to ≠ w) : Away w (leS o x) p := by
  unfold leS
  by_cases he : leE o x ≠ 0
  · rw [if_pos he]; exact h
  rw [if_neg he, if_neg hk]
  obtain ⟨_, _, h3, _⟩ := leE_open (Classical.not_not.1 he) hk
  refine ⟨h.po, ?_⟩
  show p.opened = (o.opened ++ [x.id.toNat]).filter fun k => decide ((o.at k).to = w)
  rw [List.filter_append, ← h.op]
  simp [h3, hw]
theorem Away.step {w : Int} {o p : Off} {x : Le} (f : Fine o) (h : Away w o p) (hx : x.kind = 1 ∨ x.to = w) : Away w (leS o x) (leS p x) := by
  unfold leS
  rw [← h.err hx]
  by_cases he : leE o x ≠ 0
  · rw [if_pos he, if_pos he]; exact h
  rw [if_neg he, if_neg he]
  by_cases hk : x.kind = 1
  · rw [if_pos hk, if_pos hk]
    refine ⟨by show o.posted ++ _ = p.posted ++ _; rw [h.po], ?_⟩
    show p.opened = o.opened.filter _
    rw [h.op]
    refine List.filter_congr fun k hk => ?_
    have := at_app o ⟨x.frm, x.to, x.data⟩ k (f.op k hk)
    show decide ((o.at k).to = w) = decide ((Off.at { o with posted := o.posted ++ [⟨x.frm, x.to, x.data⟩] } k).to = w)
    unfold Off.at at this ⊢
    rw [this]
  · rw [if_neg hk, if_neg hk]
    obtain ⟨_, _, h3, _⟩ := leE_open (Classical.not_not.1 he) hk
    have hw : x.to = w := hx.resolve_left hk
    refine ⟨h.po, ?_⟩
    show p.opened ++ [x.id.toNat] = (o.opened ++ [x.id.toNat]).filter fun k => decide ((o.at k).to = w)
    rw [List.filter_append, ← h.op]
    simp [h3, hw]
theorem Away.told {w : Int} {o p : Off} {x : Le} (h : Away w o p) (hx : x.kind = 1 ∨ x.to = w) : leT o x = leT p x := by
  unfold leT
  rw [← h.err hx, h.po, h.at]

/-! ### A letter is opened once -/
/-- Moves of four parties, as the laws make them. -/
def MayL (x : Le) : Prop := (x.kind = 1 ∨ x.kind = 2) ∧ (0 ≤ x.frm ∧ x.frm < 4) ∧ (0 ≤ x.to ∧ x.to < 4) ∧ 0 ≤ x.id ∧ x.data.length ≤ 20
theorem MayL.post {x : Le} (h : MayL x) (hk : x.kind = 1) (o : Off) : leE o x = 0 := by
  unfold leE
  obtain ⟨_, h2, h3, _, h5⟩ := h
  rw [if_neg (by omega), if_neg (by omega), if_pos hk, if_neg (by omega)]
def poOf (x : Le) : Po := ⟨x.frm, x.to, x.data⟩
/-- Where the posts stand among the first i. -/
def postsI (l : List Le) (i : Nat) : List Nat := (List.range i).filter fun j => decide ((l.getD j default).kind = 1)
theorem postsI_next (l : List Le) (i : Nat) : postsI l (i + 1) = if (l.getD i default).kind = 1 then postsI l i ++ [i] else postsI l i := by
  unfold postsI
  rw [List.range_succ, List.filter_append]
  by_cases h : (l.getD i default).kind = 1
  · rw [if_pos h, List.filter_cons_of_pos (by simpa using h)]; rfl
  · rw [if_neg h, List.filter_cons_of_neg (by simpa using h)]; simp
theorem postsI_len (l : List Le) (i : Nat) : (postsI l i).length ≤ i := by
  unfold postsI
  have := List.length_filter_le (fun j => decide ((l.getD j default).kind = 1)) (List.range i)
  rw [List.length_range] at this
  exact this
theorem postsI_lt (l : List Le) (i j : Nat) (h : j ∈ postsI l i) : j < i ∧ (l.getD j default).kind = 1 := by
  unfold postsI at h
  have := List.mem_filter.1 h
  exact ⟨List.mem_range.1 this.1, by simpa using this.2⟩
theorem posted_of (l : List Le) (hl : ∀ x, x ∈ l → MayL x) (i : Nat) (hi : i ≤ l.length) : (officeF Off.nil (l.take i)).posted = (postsI l i).map fun j => poOf (l.getD j default) := by
  induction i with
  | zero => rfl
  | succ i ih =>
    have hx : MayL (l.getD i default) := hl _ (by rw [List.getD_eq_getElem?_getD, List.getElem?_eq_getElem (by omega)]; exact List.getElem_mem _)
    rw [officeF_take _ _ _ (by omega), postsI_next]
    have ih := ih (by omega)
    generalize officeF Off.nil (l.take i) = o at ih
    unfold leS
    by_cases hk : (l.getD i default).kind = 1
    · rw [if_neg (by rw [hx.post hk o]; simp), if_pos hk, if_pos hk, List.map_append, ← ih]; rfl
    · rw [if_neg hk, if_neg hk]
      split <;> exact ih
/-- What was opened is among what is old. -/
theorem opened_of (l : List Le) (i k : Nat) (hi : i ≤ l.length) (hk : k < i) (h2 : (l.getD k default).kind ≠ 1) (hc : ((mailF Off.nil l).getD k default).code = 0) : (l.getD k default).id.toNat ∈ (officeF Off.nil (l.take i)).opened := by
  induction i with
  | zero => omega
  | succ i ih =>
    rw [officeF_take _ _ _ (by omega)]
    rcases Nat.lt_or_ge k i with h | h
    · have ih := ih (by omega) h
      generalize officeF Off.nil (l.take i) = o at ih
      unfold leS
      split
      · exact ih
      · split
        · exact ih
        · exact List.mem_append_left _ ih
    · have e : k = i := by omega
      subst e
      rw [mailF_at _ _ _ (by omega)] at hc
      generalize officeF Off.nil (l.take k) = o at hc
      have he : ¬ leE o (l.getD k default) ≠ 0 := fun hne => by
        unfold leT at hc
        rw [if_pos hne] at hc
        exact hne hc
      unfold leS
      rw [if_neg he, if_neg h2]
      exact List.mem_append_right _ (List.mem_singleton.2 rfl)
/-- All that the law asks of an opening that went well. -/
theorem once_open (l : List Le) (hl : ∀ x, x ∈ l → MayL x) (i : Nat) (hi : i < l.length) (hk : (l.getD i default).kind ≠ 1) (hc : ((mailF Off.nil l).getD i default).code = 0) :
    (l.getD i default).id < (postsI l i).length ∧ (l.getD ((postsI l i).getD (l.getD i default).id.toNat 0) default).to = (l.getD i default).to ∧
    ((mailF Off.nil l).getD i default).data = (l.getD ((postsI l i).getD (l.getD i default).id.toNat 0) default).data ∧
    ∀ k, k < i → (l.getD k default).kind ≠ 1 → ((mailF Off.nil l).getD k default).code = 0 → (l.getD i default).id ≤ (l.getD k default).id → (l.getD k default).id < (postsI l i).length →
      ¬ ((l.getD ((postsI l i).getD (l.getD k default).id.toNat 0) default).frm = (l.getD ((postsI l i).getD (l.getD i default).id.toNat 0) default).frm ∧ (l.getD ((postsI l i).getD (l.getD k default).id.toNat 0) default).to = (l.getD ((postsI l i).getD (l.getD i default).id.toNat 0) default).to) := by
  have hp := posted_of l hl i (by omega)
  have ho := fun k h1 => opened_of l i k (by omega) h1
  rw [mailF_at _ _ _ hi] at hc ⊢
  have hI := hl (l.getD i default) (by rw [List.getD_eq_getElem?_getD, List.getElem?_eq_getElem hi]; exact List.getElem_mem _)
  generalize officeF Off.nil (l.take i) = o at hp ho hc
  generalize l.getD i default = x at *
  have he : leE o x = 0 := Classical.byContradiction fun hne => by
    unfold leT at hc
    rw [if_pos hne] at hc
    exact hne hc
  obtain ⟨h1, h2, h3, h4⟩ := leE_open he hk
  have hlen : o.posted.length = (postsI l i).length := by rw [hp, List.length_map]
  have hat : ∀ k, k < (postsI l i).length → o.at k = poOf (l.getD ((postsI l i).getD k 0) default) := fun k hk => by
    unfold Off.at
    rw [hp, List.getD_eq_getElem?_getD, List.getElem?_map, List.getD_eq_getElem?_getD (l := postsI l i), List.getElem?_eq_getElem hk]
    rfl
  have ex := hat x.id.toNat (by omega)
  refine ⟨by omega, by rw [ex] at h3; exact h3, ?_, fun k hk1 hk2 hk3 hk4 hk5 hw => ?_⟩
  · unfold leT
    rw [if_neg (by rw [he]; simp), if_neg hk]
    show (o.at x.id.toNat).data = _
    rw [ex]; rfl
  · have hm := ho k hk1 hk2 hk3
    have ek := hat (l.getD k default).id.toNat (by omega)
    have hold : oldO o x.id.toNat = true := by
      unfold oldO
      rw [List.any_eq_true]
      refine ⟨_, hm, ?_⟩
      rw [decide_eq_true_iff, ek, ex]
      exact ⟨by omega, hw.1, hw.2⟩
    rw [h4] at hold
    cases hold
theorem once_post (l : List Le) (hl : ∀ x, x ∈ l → MayL x) (i : Nat) (hi : i < l.length) (hk : (l.getD i default).kind = 1) :
    (mailF Off.nil l).getD i default = ⟨0, ((postsI l i).length : Nat), ((l.getD i default).data.length : Nat), []⟩ := by
  have hp := posted_of l hl i (by omega)
  have hI := hl (l.getD i default) (by rw [List.getD_eq_getElem?_getD, List.getElem?_eq_getElem hi]; exact List.getElem_mem _)
  rw [mailF_at _ _ _ hi]
  generalize officeF Off.nil (l.take i) = o at hp
  unfold leT
  rw [if_neg (by rw [hI.post hk o]; simp), if_pos hk, hp, List.length_map]
theorem leT_no {o : Off} {x : Le} (h : (leT o x).code ≠ 0) : (leT o x).data = [] := by
  unfold leT at h ⊢
  by_cases he : leE o x ≠ 0
  · rw [if_pos he]
  · rw [if_neg he] at h
    split at h <;> exact absurd rfl h
end Plain
end Go.Proofs.Ytiolkeghgodggai.Se

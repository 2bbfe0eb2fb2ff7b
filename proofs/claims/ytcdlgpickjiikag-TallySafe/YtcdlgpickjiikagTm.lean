/-
  Tallies in memory.
-/
import Derived.Test.YtcdlgpickjiikagTp
import Derived.Test.YtcdlgpickjiikagRw
namespace Go.Proofs.Ytcdlgpickjiikag
open Go.RowKit

/-- The slice v holds the numbers l, in memory that there is. -/
structure RowS (w : World) (v : Value) (l : List Int) : Prop where
  s : Seg w v l
  y : Lies w.heap.size v
  b : l.length ≤ 9223372036854775807
theorem RowS.grow {w w' : World} {v : Value} {l : List Int} (h : RowS w v l) (b : Below w.heap.size w w') : RowS w' v l := ⟨h.s.below b h.y, h.y.mono b.size, h.b⟩
theorem RowS.form {w : World} {v : Value} {l : List Int} (h : RowS w v l) : ∃ p cap, v = .slice p l.length cap ∧ (0 < l.length → ∃ b off, p = some ⟨b, off, none⟩ ∧ b < w.heap.size ∧ ∀ j, j < l.length → w.cell? ⟨b, off + j, none⟩ = some (.int .i64 (l.getD j 0))) := by
  rcases h.s with ⟨rfl, p1, c1, rfl⟩ | ⟨b1, o1, c1, rfl, g1⟩
  · exact ⟨p1, c1, rfl, fun h => by simp at h⟩
  · exact ⟨_, c1, rfl, fun h0 => ⟨b1, o1, rfl, h.y _ _ _ rfl h0, g1⟩⟩
theorem RowS.at {w : World} {v : Value} {l : List Int} (h : RowS w v l) (hl : 0 < l.length) : ∃ b off cap, v = .slice (some ⟨b, off, none⟩) l.length cap ∧ b < w.heap.size ∧ ∀ j, j < l.length → w.cell? ⟨b, off + j, none⟩ = some (.int .i64 (l.getD j 0)) := by
  obtain ⟨p, cap, rfl, hp⟩ := h.form
  obtain ⟨b, off, rfl, h1, h2⟩ := hp hl
  exact ⟨b, off, cap, rfl, h1, h2⟩
theorem RowS.nil (w : World) : RowS w (.slice none 0 0) [] := ⟨Seg.nil w, lies_nil _ _ _, by decide⟩
/-- The slice v holds the rows M. -/
def TabS (w : World) (v : Value) (M : List (List Int)) : Prop :=
  M.length ≤ 9223372036854775807 ∧ ∃ p cap, v = .slice p M.length cap ∧ (0 < M.length → ∃ b off, p = some ⟨b, off, none⟩ ∧ b < w.heap.size ∧ ∀ j, j < M.length → ∃ r, w.cell? ⟨b, off + j, none⟩ = some r ∧ RowS w r (M.getD j []))
theorem TabS.grow {w w' : World} {v : Value} {M : List (List Int)} (h : TabS w v M) (g : Below w.heap.size w w') : TabS w' v M := by
  obtain ⟨hm, p, cap, rfl, hp⟩ := h
  refine ⟨hm, p, cap, rfl, fun h0 => ?_⟩
  obtain ⟨b, off, rfl, hb, hc⟩ := hp h0
  refine ⟨b, off, rfl, Nat.lt_of_lt_of_le hb g.size, fun j hj => ?_⟩
  obtain ⟨r, h1, h2⟩ := hc j hj
  exact ⟨r, (g.cell (p := ⟨b, off + j, none⟩) hb).trans h1, h2.grow g⟩
theorem TabS.nil (w : World) : TabS w (.slice none 0 0) [] := ⟨by decide, none, 0, rfl, fun h => by simp at h⟩
/-- The two slices hold the tally t. -/
structure HasT (w : World) (vm vu : Value) (t : Plain.Ta) : Prop where
  m : TabS w vm t.moves
  u : RowS w vu t.used
theorem HasT.grow {w w' : World} {vm vu : Value} {t : Plain.Ta} (h : HasT w vm vu t) (g : Below w.heap.size w w') : HasT w' vm vu t := ⟨h.m.grow g, h.u.grow g⟩
theorem HasT.nil (w : World) : HasT w (.slice none 0 0) (.slice none 0 0) ⟨[], []⟩ := ⟨TabS.nil w, RowS.nil w⟩
abbrev aggT (vm vu : Value) : Value := .agg #[vm, vu]
/-- A tally of n branches that may be, opened: where its rows and numbers lie. -/
structure CellsT (w : World) (n b off bu ou : Nat) (G O : Nat → Nat) (C : Nat → Nat) (t : Plain.Ta) : Prop where
  lb : b < w.heap.size
  lu : bu < w.heap.size
  lg : ∀ i, i < n → G i < w.heap.size
  c : ∀ i, i < n → w.cell? ⟨b, off + i, none⟩ = some (.slice (some ⟨G i, O i, none⟩) n (C i))
  m : ∀ i j, i < n → j < n → w.cell? ⟨G i, O i + j, none⟩ = some (.int .i64 (Plain.mv t i j))
  u : ∀ j, j < n → w.cell? ⟨bu, ou + j, none⟩ = some (.int .i64 (Plain.us t j))
theorem CellsT.grow {w w' : World} {n b off bu ou : Nat} {G O C : Nat → Nat} {t : Plain.Ta} (h : CellsT w n b off bu ou G O C t) (g : Below w.heap.size w w') : CellsT w' n b off bu ou G O C t where
  lb := Nat.lt_of_lt_of_le h.lb g.size
  lu := Nat.lt_of_lt_of_le h.lu g.size
  lg := fun i hi => Nat.lt_of_lt_of_le (h.lg i hi) g.size
  c := fun i hi => (g.cell (p := ⟨b, off + i, none⟩) h.lb).trans (h.c i hi)
  m := fun i j hi hj => (g.cell (p := ⟨G i, O i + j, none⟩) (h.lg i hi)).trans (h.m i j hi hj)
  u := fun j hj => (g.cell (p := ⟨bu, ou + j, none⟩) h.lu).trans (h.u j hj)
theorem HasT.open {w : World} {vm vu : Value} {t : Plain.Ta} {n : Nat} (h : HasT w vm vu t) (s : Plain.Sq n t) :
    ∃ b off cap bu ou cu G O C, vm = .slice (some ⟨b, off, none⟩) n cap ∧ vu = .slice (some ⟨bu, ou, none⟩) n cu ∧ CellsT w n b off bu ou G O C t := by
  obtain ⟨⟨_, p, cap, rfl, hp⟩, hu⟩ := h
  have n1 := s.n1
  obtain ⟨b, off, rfl, hb, hc⟩ := hp (by rw [s.m]; exact n1)
  obtain ⟨bu, ou, cu, rfl, hbu, hcu⟩ := hu.at (by rw [s.u]; exact n1)
  rw [s.u] at hcu
  rw [s.m] at hc
  have key : ∀ i, i < n → ∃ x : Nat × Nat × Nat, x.1 < w.heap.size ∧ w.cell? ⟨b, off + i, none⟩ = some (.slice (some ⟨x.1, x.2.1, none⟩) n x.2.2) ∧ ∀ j, j < n → w.cell? ⟨x.1, x.2.1 + j, none⟩ = some (.int .i64 (Plain.mv t i j)) := by
    intro i hi
    obtain ⟨r, h1, h2⟩ := hc i hi
    have hl : (t.moves.getD i []).length = n := s.r i hi
    obtain ⟨g, o, c, rfl, h3, h4⟩ := h2.at (by rw [hl]; exact n1)
    rw [hl] at h1 h4
    exact ⟨(g, o, c), h3, h1, h4⟩
  obtain ⟨F, hF⟩ : ∃ F : Nat → Nat × Nat × Nat, ∀ i, i < n → (F i).1 < w.heap.size ∧ w.cell? ⟨b, off + i, none⟩ = some (.slice (some ⟨(F i).1, (F i).2.1, none⟩) n (F i).2.2) ∧ ∀ j, j < n → w.cell? ⟨(F i).1, (F i).2.1 + j, none⟩ = some (.int .i64 (Plain.mv t i j)) :=
    ⟨fun i => if h : i < n then (key i h).choose else default, fun i hi => by simp only [dif_pos hi]; exact (key i hi).choose_spec⟩
  exact ⟨b, off, cap, bu, ou, cu, fun i => (F i).1, fun i => (F i).2.1, fun i => (F i).2.2, by rw [s.m], by rw [s.u], hb, hbu, fun i hi => (hF i hi).1, fun i hi => (hF i hi).2.1, fun i j hi hj => (hF i hi).2.2 j hj, hcu⟩

/-- A tally in rows of the call's own: which one may be written. -/
structure OwnT (w : World) (B n b bu : Nat) (G C : Nat → Nat) (t : Plain.Ta) : Prop where
  B0 : B ≤ b
  Bu : B ≤ bu
  Bg : ∀ i, i < n → B ≤ G i
  lb : b < w.heap.size
  c : ∀ i, i < n → w.cell? ⟨b, i, none⟩ = some (.slice (some ⟨G i, 0, none⟩) n (C i))
  m : ∀ i, i < n → RowI w (G i) (Plain.rw t i)
  u : RowI w bu t.used
  nb : ∀ i, i < n → G i ≠ b
  nu : ∀ i, i < n → G i ≠ bu
  ub : bu ≠ b
  ne : ∀ i j, i < n → j < n → i ≠ j → G i ≠ G j
  lm : t.moves.length = n
  lr : ∀ i, i < n → (Plain.rw t i).length = n
  lt : t.used.length = n
  n8 : n ≤ 8
theorem OwnT.has {w : World} {B n b bu : Nat} {G C : Nat → Nat} {t : Plain.Ta} (h : OwnT w B n b bu G C t) (cb cu : Nat) : HasT w (.slice (some ⟨b, 0, none⟩) n cb) (.slice (some ⟨bu, 0, none⟩) n cu) t := by
  have n8 := h.n8
  have lt := h.lt
  have lm := h.lm
  refine ⟨⟨by omega, some ⟨b, 0, none⟩, cb, by rw [lm], fun _ => ⟨b, 0, rfl, h.lb, fun j hj => ?_⟩⟩, ?_⟩
  · rw [lm] at hj
    have l := h.lr j hj
    have s := (h.m j hj).seg (C j)
    rw [l] at s
    refine ⟨_, by rw [Nat.zero_add]; exact h.c j hj, s, (h.m j hj).lies _ _, ?_⟩
    show (Plain.rw t j).length ≤ _
    omega
  · have s := h.u.seg cu
    rw [lt] at s
    exact ⟨s, h.u.lies _ _, by omega⟩
theorem OwnT.base {w : World} {B D n b bu : Nat} {G C : Nat → Nat} {t : Plain.Ta} (h : OwnT w B n b bu G C t) (hd : D ≤ B) : OwnT w D n b bu G C t :=
  { h with B0 := Nat.le_trans hd h.B0, Bu := Nat.le_trans hd h.Bu, Bg := fun i hi => Nat.le_trans hd (h.Bg i hi) }
theorem OwnT.grow {w w' : World} {B n b bu : Nat} {G C : Nat → Nat} {t : Plain.Ta} (h : OwnT w B n b bu G C t) (g : Below w.heap.size w w') : OwnT w' B n b bu G C t :=
  { h with lb := Nat.lt_of_lt_of_le h.lb g.size, c := fun i hi => (g.cell (p := ⟨b, i, none⟩) h.lb).trans (h.c i hi), m := fun i hi => (h.m i hi).below g (h.m i hi).lt, u := h.u.below g h.u.lt }
theorem cell_other {w : World} {b i : Nat} {a : Addr} {v : Value} (h : b ≠ a.block) : (w.setCell a v).cell? ⟨b, i, none⟩ = w.cell? ⟨b, i, none⟩ := by
  simp only [World.cell?, Below.heap_setCell _ _ _ _ h]
/-- A number of a row is written. -/
theorem OwnT.setM {w : World} {B n b bu : Nat} {G C : Nat → Nat} {t : Plain.Ta} (h : OwnT w B n b bu G C t) (i j : Nat) (hi : i < n) (hj : j < n) (x : Int) :
    OwnT (w.setCell ⟨G i, j, none⟩ (.int .i64 x)) B n b bu G C ⟨t.moves.set i ((Plain.rw t i).set j x), t.used⟩ := by
  have hrow : ∀ k, Plain.rw ⟨t.moves.set i ((Plain.rw t i).set j x), t.used⟩ k = if i = k then (Plain.rw t i).set j x else Plain.rw t k := fun k => by
    show (t.moves.set i _).getD k [] = _
    rw [List.getD_eq_getElem?_getD, List.getElem?_set]
    by_cases e : i = k
    · rw [if_pos e, if_pos (by rw [h.lm]; exact hi), if_pos e]; rfl
    · rw [if_neg e, if_neg e, ← List.getD_eq_getElem?_getD]; rfl
  refine ⟨h.B0, h.Bu, h.Bg, by simpa [World.setCell] using h.lb, fun k hk => by rw [cell_other (h.nb i hi).symm]; exact h.c k hk, fun k hk => ?_, h.u.other (a := ⟨G i, j, none⟩) (h.nu i hi).symm _, h.nb, h.nu, h.ub, h.ne, by simpa using h.lm, fun k hk => ?_, h.lt, h.n8⟩
  · rw [hrow]
    by_cases e : i = k
    · subst e
      rw [if_pos rfl]
      exact (h.m i hi).set j (by rw [h.lr i hi]; exact hj) x
    · rw [if_neg e]
      exact (h.m k hk).other (a := ⟨G i, j, none⟩) (h.ne k i hk hi (fun h => e h.symm)) _
  · rw [hrow]
    by_cases e : i = k
    · subst e
      rw [if_pos rfl, List.length_set]; exact h.lr i hi
    · rw [if_neg e]; exact h.lr k hk
theorem OwnT.setU {w : World} {B n b bu : Nat} {G C : Nat → Nat} {t : Plain.Ta} (h : OwnT w B n b bu G C t) (j : Nat) (hj : j < n) (x : Int) :
    OwnT (w.setCell ⟨bu, j, none⟩ (.int .i64 x)) B n b bu G C ⟨t.moves, t.used.set j x⟩ :=
  ⟨h.B0, h.Bu, h.Bg, by simpa [World.setCell] using h.lb, fun k hk => by rw [cell_other h.ub.symm]; exact h.c k hk, fun k hk => (h.m k hk).other (a := ⟨bu, j, none⟩) (h.nu k hk) _, h.u.set j (by rw [h.lt]; exact hj) x, h.nb, h.nu, h.ub, h.ne, h.lm, h.lr, by simpa using h.lt, h.n8⟩
theorem below_setM {w0 w : World} {B D g j : Nat} {v : Value} (h : Below D w0 w) (hb : B ≤ g) (hd : D ≤ B) : Below D w0 (w.setCell ⟨g, j, none⟩ v) := h.setCell (p := ⟨g, j, none⟩) (Nat.le_trans hd hb) _

/-- The block of a slice that is not empty. -/
def Off (P : Nat → Prop) (v : Value) : Prop := ∀ p n c, v = .slice (some p) n c → 0 < n → P p.block
/-- The two slices hold the tally t, in blocks of which P holds. -/
structure HasP (P : Nat → Prop) (w : World) (vm vu : Value) (t : Plain.Ta) : Prop where
  has : HasT w vm vu t
  u : Off P vu
  m : Off P vm
  r : ∀ p n c, vm = .slice (some p) n c → ∀ j, j < n → ∀ r, w.cell? ⟨p.block, p.off + j, none⟩ = some r → Off P r
theorem Off.mono {P Q : Nat → Prop} {v : Value} (h : Off P v) (hq : ∀ b, P b → Q b) : Off Q v := fun p n c e hn => hq _ (h p n c e hn)
theorem HasP.mono {P Q : Nat → Prop} {w : World} {vm vu : Value} {t : Plain.Ta} (h : HasP P w vm vu t) (hq : ∀ b, P b → Q b) : HasP Q w vm vu t :=
  ⟨h.has, h.u.mono hq, h.m.mono hq, fun p n c e j hj r hr => (h.r p n c e j hj r hr).mono hq⟩
theorem HasP.nil (P : Nat → Prop) (w : World) : HasP P w (.slice none 0 0) (.slice none 0 0) ⟨[], []⟩ :=
  ⟨HasT.nil w, fun p n c e => (by cases e), fun p n c e => (by cases e), fun p n c e => (by cases e)⟩
theorem HasP.grow {P : Nat → Prop} {w w' : World} {vm vu : Value} {t : Plain.Ta} (h : HasP P w vm vu t) (g : Below w.heap.size w w') : HasP P w' vm vu t := by
  refine ⟨h.has.grow g, h.u, h.m, fun p n c e j hj r hr => ?_⟩
  obtain ⟨_, q, cap, e2, hq⟩ := h.has.m
  rw [e] at e2
  injection e2 with e3 e4 e5
  subst e4
  obtain ⟨b, off, e6, hb, _⟩ := hq (Nat.zero_lt_of_lt hj)
  rw [e6] at e3
  injection e3 with e3
  subst e3
  exact h.r _ _ _ e j hj r ((g.cell (p := ⟨b, off + j, none⟩) hb).symm.trans hr)
/-- Whatever holds a tally lies below the end of memory. -/
theorem HasT.below {w : World} {vm vu : Value} {t : Plain.Ta} (h : HasT w vm vu t) : HasP (· < w.heap.size) w vm vu t := by
  obtain ⟨hm, q, cap, rfl, hq⟩ := h.m
  refine ⟨h, h.u.y, fun p n c e hn => ?_, fun p n c e j hj r hr => ?_⟩
  · injection e with e1 e2 e3
    subst e1
    subst e2
    obtain ⟨b, off, e6, hb, _⟩ := hq hn
    injection e6 with e6
    rw [e6]
    exact hb
  · injection e with e1 e2 e3
    subst e1
    subst e2
    obtain ⟨b, off, e6, hb, hc⟩ := hq (Nat.zero_lt_of_lt hj)
    injection e6 with e6
    subst e6
    obtain ⟨r', h1, h2⟩ := hc j hj
    rw [h1] at hr
    injection hr with hr
    subst hr
    exact h2.y
theorem OwnT.hasP {w : World} {B n b bu : Nat} {G C : Nat → Nat} {t : Plain.Ta} (h : OwnT w B n b bu G C t) (cb cu : Nat) : HasP (B ≤ ·) w (.slice (some ⟨b, 0, none⟩) n cb) (.slice (some ⟨bu, 0, none⟩) n cu) t := by
  refine ⟨h.has cb cu, fun p n c e _ => ?_, fun p n c e _ => ?_, fun p n c e j hj r hr => ?_⟩
  · injection e with e1 _ _; injection e1 with e1; subst e1; exact h.Bu
  · injection e with e1 _ _; injection e1 with e1; subst e1; exact h.B0
  · injection e with e1 e2 _
    injection e1 with e1
    subst e1
    subst e2
    rw [Nat.zero_add, h.c j hj] at hr
    injection hr with hr
    subst hr
    intro p n c e _
    injection e with e1 _ _; injection e1 with e1; subst e1; exact h.Bg j hj
theorem Seg.other {w : World} {v : Value} {l : List Int} {g i : Nat} {x : Value} (h : Seg w v l) (ho : Off (· ≠ g) v) : Seg (w.setCell ⟨g, i, none⟩ x) v l := by
  rcases h with ⟨rfl, p1, c1, rfl⟩ | ⟨b1, o1, c1, rfl, g1⟩
  · exact .inl ⟨rfl, p1, c1, rfl⟩
  · exact .inr ⟨b1, o1, c1, rfl, fun j hj => (cell_other (a := ⟨g, i, none⟩) (ho _ _ _ rfl (Nat.zero_lt_of_lt hj))).trans (g1 j hj)⟩
theorem RowS.other {w : World} {v : Value} {l : List Int} {g i : Nat} {x : Value} (h : RowS w v l) (ho : Off (· ≠ g) v) : RowS (w.setCell ⟨g, i, none⟩ x) v l :=
  ⟨h.s.other ho, by have := h.y; simpa [World.setCell] using this, h.b⟩
/-- A store into another block leaves the tally as it is. -/
theorem HasP.other {w : World} {vm vu : Value} {t : Plain.Ta} {g i : Nat} {x : Value} (h : HasP (· ≠ g) w vm vu t) : HasP (· ≠ g) (w.setCell ⟨g, i, none⟩ x) vm vu t := by
  obtain ⟨hm, q, cap, rfl, hq⟩ := h.has.m
  have hcell : ∀ b o, q = some ⟨b, o, none⟩ → 0 < t.moves.length → ∀ j, (w.setCell ⟨g, i, none⟩ x).cell? ⟨b, o + j, none⟩ = w.cell? ⟨b, o + j, none⟩ := fun b o e h0 j =>
    cell_other (a := ⟨g, i, none⟩) (h.m ⟨b, o, none⟩ _ _ (by rw [e]) h0)
  refine ⟨⟨⟨hm, q, cap, rfl, fun h0 => ?_⟩, h.has.u.other h.u⟩, h.u, h.m, fun p n c e j hj r hr => ?_⟩
  · obtain ⟨b, off, e6, hb, hc⟩ := hq h0
    refine ⟨b, off, e6, by simpa [World.setCell] using hb, fun j hj => ?_⟩
    obtain ⟨r, h1, h2⟩ := hc j hj
    refine ⟨r, (hcell b off e6 h0 j).trans h1, h2.other ?_⟩
    subst e6
    exact h.r _ _ _ rfl j hj r h1
  · injection e with e1 e2 e3
    subst e1
    subst e2
    obtain ⟨b, off, e6, hb, hc⟩ := hq (Nat.zero_lt_of_lt hj)
    have e7 := hcell b off e6 (Nat.zero_lt_of_lt hj) j
    injection e6 with e6
    subst e6
    exact h.r _ _ _ rfl j hj r (e7.symm.trans hr)
theorem HasP.apart {P : Nat → Prop} {w : World} {vm vu : Value} {t : Plain.Ta} {g i : Nat} {x : Value} (h : HasP P w vm vu t) (hP : ∀ b, P b → b ≠ g) : HasP P (w.setCell ⟨g, i, none⟩ x) vm vu t :=
  ⟨((h.mono hP).other (i := i) (x := x)).has, h.u, h.m, fun p n c e j hj r hr => h.r p n c e j hj r ((cell_other (a := ⟨g, i, none⟩) (hP _ (h.m p n c e (Nat.zero_lt_of_lt hj)))).symm.trans hr)⟩
end Go.Proofs.Ytcdlgpickjiikag

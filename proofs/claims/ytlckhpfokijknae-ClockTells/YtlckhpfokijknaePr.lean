/-
  One event of a play: what a round does to memory.
-/
import Derived.Test.YtlckhpfokijknaePi
namespace Go.Proofs.Ytlckhpfokijknae
open Go.RowKit

/-- The play's memory, and beside it a copy of the event at be. -/
structure RF (n N i : Nat) (now cs : List (List Int)) (w0 w : World) (bn bc : Nat) (gN cN gC cC : Nat → Nat) (be : Nat) (kk ww oo : Int) : Prop where
  pi : PI n N i now cs w0 w bn bc gN cN gC cC
  c0 : w.cell? ⟨be, 0, none⟩ = some (.int .i64 kk)
  c1 : w.cell? ⟨be, 1, none⟩ = some (.int .i64 ww)
  c2 : w.cell? ⟨be, 2, none⟩ = some (.int .i64 oo)
  lt : be < w.heap.size
  ne : ∀ s, s < n → gN s ≠ be
  nebn : bn ≠ be
  nebc : bc ≠ be

variable {n N i : Nat} {now cs : List (List Int)} {w0 w w' : World} {bn bc : Nat} {gN cN gC cC : Nat → Nat} {be : Nat} {kk ww oo : Int}

theorem cell_other {w : World} {a p : Addr} {v : Value} (h : p.block ≠ a.block) : (w.setCell a v).cell? p = w.cell? p := World.cell?_of_block (w := w) (Below.heap_setCell _ _ _ _ h)

theorem ref_after (h : PI n N i now cs w0 w bn bc gN cN gC cC) {o : Obj} {u : World} (hu : u = ((w.alloc (.cells #[.int .i64 kk, .int .i64 ww, .int .i64 oo] 32)).drew).alloc o) :
    RF n N i now cs w0 u bn bc gN cN gC cC w.heap.size kk ww oo := by
  have b1 : Below w.heap.size w u := by rw [hu]; exact (((Below.refl _ _).alloc (Nat.le_refl _) _).drew).alloc (by simp) _
  have b2 : u.heap[w.heap.size]? = some (.cells #[.int .i64 kk, .int .i64 ww, .int .i64 oo] 32 (0, 0)) := by
    rw [hu, Below.heap_alloc _ _ _ (by simp)]
    exact Deep.blk_alloc_new _ _
  have hlt : w.heap.size < u.heap.size := by
    obtain ⟨h, _⟩ := Array.getElem?_eq_some_iff.1 b2
    exact h
  refine ⟨h.grow b1, ?_, ?_, ?_, hlt, fun s hs => Nat.ne_of_lt (h.nI s hs).lt, Nat.ne_of_lt h.nrow.lt, Nat.ne_of_lt h.crow.lt⟩ <;> simp [World.cell?, b2]

theorem RF.grow (h : RF n N i now cs w0 w bn bc gN cN gC cC be kk ww oo) (g : Below w.heap.size w w') : RF n N i now cs w0 w' bn bc gN cN gC cC be kk ww oo :=
  ⟨h.pi.grow g, (g.cell (p := ⟨be, 0, none⟩) h.lt).trans h.c0, (g.cell (p := ⟨be, 1, none⟩) h.lt).trans h.c1, (g.cell (p := ⟨be, 2, none⟩) h.lt).trans h.c2, Nat.lt_of_lt_of_le h.lt g.size, h.ne, h.nebn, h.nebc⟩

theorem RF.join (h : RF n N i now cs w0 w bn bc gN cN gC cC be kk ww oo) (hl : now.length = n) (bel : Below w.heap.size w w') {s0 g cp : Nat} {c : List Int} (hs : s0 < n) (hr : RowI w' g c) (hg : w.heap.size ≤ g) :
    RF n N i (now.set s0 c) cs w0 (w'.setCell ⟨bn, s0, none⟩ (.slice (some ⟨g, 0, none⟩) n cp)) bn bc (fun s => if s = s0 then g else gN s) (fun s => if s = s0 then cp else cN s) gC cC be kk ww oo := by
  have h' := h.grow bel
  refine ⟨h'.pi.join hl hs hr (fun s hs' => ?_) (fun k hk => ?_) (Nat.le_trans h.pi.bel.size hg), ?_, ?_, ?_, by simp; exact h'.lt, fun s hs' => ?_, h.nebn, h.nebc⟩
  · have := (h.pi.nI s hs').lt; omega
  · have := (h.pi.cI k hk).lt; omega
  · rw [cell_other (p := ⟨be, 0, none⟩) (fun e => h.nebn e.symm)]; exact h'.c0
  · rw [cell_other (p := ⟨be, 1, none⟩) (fun e => h.nebn e.symm)]; exact h'.c1
  · rw [cell_other (p := ⟨be, 2, none⟩) (fun e => h.nebn e.symm)]; exact h'.c2
  · by_cases e : s = s0
    · simp only [e, if_true]; have := h.lt; omega
    · simp only [e, if_false]; exact h.ne s hs'

theorem RF.bump (h : RF n N i now cs w0 w bn bc gN cN gC cC be kk ww oo) (hl : now.length = n) {s0 t0 : Nat} (hs : s0 < n) (ht : t0 < (now.getD s0 []).length) (x : Int) :
    RF n N i (now.set s0 ((now.getD s0 []).set t0 x)) cs w0 (w.setCell ⟨gN s0, t0, none⟩ (.int .i64 x)) bn bc gN cN gC cC be kk ww oo := by
  refine ⟨h.pi.bump hl hs ht x, ?_, ?_, ?_, by simp; exact h.lt, h.ne, h.nebn, h.nebc⟩
  · rw [cell_other (p := ⟨be, 0, none⟩) (fun e => h.ne s0 hs e.symm)]; exact h.c0
  · rw [cell_other (p := ⟨be, 1, none⟩) (fun e => h.ne s0 hs e.symm)]; exact h.c1
  · rw [cell_other (p := ⟨be, 2, none⟩) (fun e => h.ne s0 hs e.symm)]; exact h.c2

theorem RF.drew (h : RF n N i now cs w0 w bn bc gN cN gC cC be kk ww oo) : RF n N i now cs w0 w.drew bn bc gN cN gC cC be kk ww oo := h.grow (Below.refl _ _).drew

namespace Plain
theorem set_two {α : Type} (l : List α) (i : Nat) (x y : α) : (l.set i x).set i y = l.set i y := by simp
theorem st_hear {n : Nat} {l : List Ev} {m wn on : Nat} {c : List Int} (hw : wh l m = wn) (hk : kd l m = 3) (ho : ofp l m = on) (hc : c = joinL ((st n l m).1.getD wn []) ((st n l m).2.getD on [])) :
    st n l (m + 1) = ((st n l m).1.set wn (bump c wn), (st n l m).2 ++ [bump c wn]) := by
  subst hc
  show (_, _) = _
  unfold base
  rw [if_pos hk, hw, ho]
theorem st_act {n : Nat} {l : List Ev} {m wn : Nat} {c : List Int} (hw : wh l m = wn) (hk : kd l m ≠ 3) (hc : c = (st n l m).1.getD wn []) :
    st n l (m + 1) = ((st n l m).1.set wn (bump c wn), (st n l m).2 ++ [bump c wn]) := by
  subst hc
  show (_, _) = _
  unfold base
  rw [if_neg hk, hw]
end Plain

/-- Behind the bump: the clone of the row, laid among the events' clocks. -/
theorem RF.done (h : RF n N i now cs w0 w bn bc gN cN gC cC be kk ww oo) (hl : cs.length = i) (bel : Below w.heap.size w w') {g cp : Nat} {c : List Int} (hr : RowI w' g c) (hg : w.heap.size ≤ g) :
    PI n N (i + 1) now (cs ++ [c]) w0 (w'.setCell ⟨bc, i, none⟩ (.slice (some ⟨g, 0, none⟩) n cp)) bn bc gN cN (fun k => if k = i then g else gC k) (fun k => if k = i then cp else cC k) :=
  (h.pi.grow bel).clone hl hr (fun s hs => by have := (h.pi.nI s hs).lt; omega)

namespace Plain
theorem firstE_zero {f : Nat → Nat} {n : Nat} (h : firstE f n = 0) : ∀ j, j < n → f j = 0 := by
  induction n with
  | zero => intro j hj; omega
  | succ n ih =>
    unfold firstE at h
    by_cases c : firstE f n = 0
    · rw [if_pos c] at h
      intro j hj
      by_cases e : j = n
      · subst e; exact h
      · exact ih c j (by omega)
    · rw [if_neg c] at h; exact absurd h c
theorem val_next {f : Nat → Nat} {m : Nat} (h : ∀ j, j < m → f j = 0) (he : f m = 0) : ∀ j, j < m + 1 → f j = 0 := by
  intro j hj
  by_cases c : j < m
  · exact h j c
  · have : j = m := by omega
    subst this; exact he
theorem okC_of {n : Nat} {c : List Int} (hl : c.length = n) (h1 : 1 ≤ n) (h8 : n ≤ 8) (h : ∀ t, t < n → 0 ≤ c.getD t 0 ∧ c.getD t 0 ≤ 200) : okC c = true := by
  rw [okC_iff]
  refine ⟨by omega, fun x hx => ?_⟩
  obtain ⟨t, ht, rfl⟩ := List.mem_iff_getElem.1 hx
  have := h t (by omega)
  rw [List.getD_eq_getElem?_getD, List.getElem?_eq_getElem ht] at this
  simp only [Option.getD_some] at this
  rw [okN_iff]; omega
theorem good_join {n : Nat} {l : List Ev} {L m wn on : Nat} (g : Good n l L m) (h1 : 1 ≤ n) (h8 : n ≤ 8) (hm : m ≤ 200) (hw : wn < n) (ho : on < m) :
    cE ((st n l m).1.getD wn []) ((st n l m).2.getD on []) = 0 ∧ 0 ≤ (joinL ((st n l m).1.getD wn []) ((st n l m).2.getD on [])).getD wn 0 ∧ (joinL ((st n l m).1.getD wn []) ((st n l m).2.getD on [])).getD wn 0 ≤ 200 := by
  have a1 : ∀ t, 0 ≤ ((st n l m).1.getD wn []).getD t 0 ∧ ((st n l m).1.getD wn []).getD t 0 ≤ 200 := fun t => by
    have h1 := g.nBd wn t hw
    have h2 := cnt_le l t m
    unfold Plain.N at h1
    omega
  have a2 : ∀ t, 0 ≤ ((st n l m).2.getD on []).getD t 0 ∧ ((st n l m).2.getD on []).getD t 0 ≤ 200 := fun t => by
    have h1 := g.vBd on t ho
    have h2 := cnt_le l t (on + 1)
    unfold Plain.V at h1
    omega
  refine ⟨?_, ?_⟩
  · unfold cE
    rw [okC_of (g.rowLen wn hw) h1 h8 (fun t _ => a1 t), okC_of (g.csRow on ho) h1 h8 (fun t _ => a2 t), g.rowLen wn hw, g.csRow on ho]
    simp
  · rw [joinL_at _ _ _ (by rw [g.rowLen wn hw]; exact hw)]
    have := a1 wn
    have := a2 wn
    omega
end Plain

theorem RF.joinCall (h : RF n N i now cs w0 w bn bc gN cN gC cC be kk ww oo) {wn on : Nat} (hw : wn < n) (ho : on < i) (l1 : (now.getD wn []).length = n) (l2 : (cs.getD on []).length = n) (he : Plain.cE (now.getD wn []) (cs.getD on []) = 0) :
    Calls Try.prog 12 #[.slice (some ⟨gN wn, 0, none⟩) n (cN wn), .slice (some ⟨gC on, 0, none⟩) n (cC on)] w.drew fun e w' =>
      e = .returned (.tuple #[.slice (some ⟨w.heap.size, 0, none⟩) n n, .int .i64 0]) ∧ RowI w' w.heap.size (Plain.joinL (now.getD wn []) (cs.getD on [])) ∧ Below w.heap.size w w' := by
  have r1 := (h.drew.pi.nI wn hw)
  have r2 := (h.drew.pi.cI on ho)
  have s1 := r1.seg (cN wn)
  have s2 := r2.seg (cC on)
  rw [l1] at s1
  rw [l2] at s2
  refine (join_ok _ _ _ _ he w.drew s1 (r1.lies _ _) s2 (r2.lies _ _)).mono ?_
  rintro e w' ⟨rfl, hr, hb⟩
  exact ⟨by rw [l1]; rfl, hr, (Below.refl w.heap.size w).drew.trans hb⟩
end Go.Proofs.Ytlckhpfokijknae

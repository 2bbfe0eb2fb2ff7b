/-
  gossip.Play: what it tells, in memory.
-/
import Derived.Test.YtdcgkeanghhopakGy
import Derived.Deep.LoopGhost
namespace Go.Proofs.Ytdcgkeanghhopak
open Go.RowKit Go.Shelf Go.Sort
namespace Plain
def cz (l : List Nat) : List Int := l.map (fun k : Nat => (k : Int))
theorem cz_len (l : List Nat) : (cz l).length = l.length := by simp [cz]
theorem cz_at (l : List Nat) {k : Nat} (h : k < l.length) : (cz l).getD k 0 = ((l.getD k 0 : Nat) : Int) := by
  simp [cz, List.getD_eq_getElem?_getD, h]
theorem cz_app (a b : List Nat) : cz (a ++ b) = cz a ++ cz b := by simp [cz]
def codesV (bn : Int) (L : List Int) (l : List Tu) : List Nat := if goE bn L l ≠ 0 then [] else goF bn.toNat L Stt.nil l
def cntV (bn : Int) (L : List Int) (l : List Tu) : Nat := if goE bn L l ≠ 0 then 0 else bn.toNat
end Plain
/-- What each branch has of each label, as a slice of slices of slices. -/
def Stores (w : World) (q : Option Addr) (n m : Nat) (s : Plain.Stt) : Prop :=
  0 < n → ∃ b off, q = some ⟨b, off, none⟩ ∧ b < w.heap.size ∧ ∀ i, i < n → ∃ p c, w.cell? ⟨b, off + i, none⟩ = some (.slice p m c) ∧
    (0 < m → ∃ b' off', p = some ⟨b', off', none⟩ ∧ b' < w.heap.size ∧ ∀ j, j < m → ∃ v, w.cell? ⟨b', off' + j, none⟩ = some v ∧ SegN w v (s i j) ∧ Lies w.heap.size v)
theorem Stores.grow {w w' : World} {q : Option Addr} {n m : Nat} {s : Plain.Stt} (h : Stores w q n m s) (g : Below w.heap.size w w') : Stores w' q n m s := fun h0 => by
  obtain ⟨b, off, e, hb, hr⟩ := h h0
  refine ⟨b, off, e, Nat.lt_of_lt_of_le hb g.size, fun i hi => ?_⟩
  obtain ⟨p, c, hc, hm⟩ := hr i hi
  refine ⟨p, c, (g.cell (p := ⟨b, off + i, none⟩) hb).trans hc, fun m0 => ?_⟩
  obtain ⟨b', off', e', hb', hs⟩ := hm m0
  refine ⟨b', off', e', Nat.lt_of_lt_of_le hb' g.size, fun j hj => ?_⟩
  obtain ⟨v, hv, sg, ly⟩ := hs j hj
  exact ⟨v, (g.cell (p := ⟨b', off' + j, none⟩) hb').trans hv, sg.below g ly, ly.mono g.size⟩
theorem Stores.nil (w : World) (q : Option Addr) (m : Nat) (s : Plain.Stt) : Stores w q 0 m s := fun h => absurd h (Nat.lt_irrefl 0)
theorem Nums.nil (w : World) (p : Option Addr) : Nums w p [] := fun h => by simp at h
/-- What a play answers. -/
def PlayP (bn : Int) (L : List Int) (l : List Plain.Tu) (w : World) (e : Ending) (w' : World) : Prop :=
  ∃ p c q d, e = .returned (.tuple #[.slice p (Plain.codesV bn L l).length c, .slice q (Plain.cntV bn L l) d, .int .i64 (Plain.goE bn L l : Nat)]) ∧
    Nums w' p (Plain.cz (Plain.codesV bn L l)) ∧ Stores w' q (Plain.cntV bn L l) L.length (Plain.stF bn.toNat L Plain.Stt.nil l) ∧ Below w.heap.size w w'
theorem playP_no {bn : Int} {L : List Int} {l : List Plain.Tu} {E : Nat} (h : Plain.goE bn L l = E) (h0 : E ≠ 0) {w w' : World} (b : Below w.heap.size w w') : PlayP bn L l w (.returned (.tuple #[.slice none 0 0, .slice none 0 0, .int .i64 (E : Nat)])) w' := by
  have e1 : Plain.codesV bn L l = [] := by unfold Plain.codesV; rw [if_pos (by rw [h]; exact h0)]
  have e2 : Plain.cntV bn L l = 0 := by unfold Plain.cntV; rw [if_pos (by rw [h]; exact h0)]
  refine ⟨none, 0, none, 0, ?_, ?_, ?_, b⟩
  · rw [e1, e2, h]; rfl
  · rw [e1]; exact Nums.nil _ _
  · rw [e2]; exact Stores.nil _ _ _ _

/-- The codes, as far as they were told. -/
def codeF (s : List Nat) (j : Nat) : Value := .int .i64 ((s.getD j 0 : Nat) : Int)
/-- The circle, and what was told, in memory. -/
structure PlG (B C H T : Nat) (R : Nat → Nat) (w0 w : World) (lp : Option Addr) (lc n m N : Nat) (s : Plain.Stt) (D : List Nat) : Prop where
  ci : CcI B C H R w0 w lp lc n m s
  tl : w.rowIs T 26 N (codeF D)
  ge : B ≤ T
namespace PlG
variable {B C H T : Nat} {R : Nat → Nat} {w0 w w' : World} {lp : Option Addr} {lc n m N : Nat} {s s' : Plain.Stt} {D : List Nat}
theorem ne (h : PlG B C H T R w0 w lp lc n m N s D) : ¬ isR R n T := fun ⟨i, hi, e⟩ => by
  obtain ⟨f, hf⟩ := h.ci.rs i hi
  obtain ⟨c, h1, _⟩ := h.tl
  obtain ⟨c', h2, _⟩ := hf.row
  rw [← e, h1] at h2
  simp at h2
theorem grow (h : PlG B C H T R w0 w lp lc n m N s D) (hB : B ≤ w.heap.size) (b : Below w.heap.size w w') : PlG B C H T R w0 w' lp lc n m N s D :=
  ⟨h.ci.grow hB b, h.tl.of_block (b.block _ h.tl.lt), h.ge⟩
theorem call (h : PlG B C H T R w0 w lp lc n m N s D) (ci : CcI B C H R w0 w' lp lc n m s') (un : Un (isR R n) w w') : PlG B C H T R w0 w' lp lc n m N s' D :=
  ⟨ci, h.tl.of_block (un.block _ h.tl.lt h.ne), h.ge⟩
theorem told (h : PlG B C H T R w0 w lp lc n m N s D) (x : Nat) : PlG B C H T R w0 (w.setCell ⟨T, D.length, none⟩ (.int .i64 (x : Nat))) lp lc n m N s (D ++ [x]) := by
  have nb : ∀ {b Ty k f}, w.rowIs b Ty k f → Ty ≠ 26 → b ≠ T := fun {b Ty k f} hb hT e => by
    subst e
    obtain ⟨c, h1, _⟩ := hb
    obtain ⟨c', h2, _⟩ := h.tl
    rw [h1] at h2
    simp at h2
    exact hT h2.2
  have ss : ∀ v l, SegN w v l → SegN (w.setCell ⟨T, D.length, none⟩ (.int .i64 (x : Nat))) v l := fun v l hs => by
    rcases hs with ⟨rfl, p1, c1, rfl⟩ | ⟨b1, o1, c1, rfl, hc1, g1⟩
    · exact .inl ⟨rfl, p1, c1, rfl⟩
    · refine .inr ⟨b1, o1, c1, rfl, hc1, fun j hj => ?_⟩
      have hne : b1 ≠ T := by
        rintro rfl
        have c4 := (g1 j hj).c4
        obtain ⟨c, hb, hs, hc⟩ := h.tl
        simp only [World.cell?, hb] at c4
        by_cases hlt : o1 + j * 5 + 4 < N
        · rw [hc _ hlt] at c4
          simp [codeF] at c4
        · rw [Array.getElem?_eq_none (by omega)] at c4
          simp at c4
      have e : (w.setCell ⟨T, D.length, none⟩ (.int .i64 (x : Nat))).heap[b1]? = w.heap[b1]? := Below.heap_setCell w ⟨T, D.length, none⟩ _ b1 hne
      obtain ⟨d0, d1, d2, d3, d4⟩ := g1 j hj
      exact ⟨by rw [← d0]; simp only [World.cell?, e], by rw [← d1]; simp only [World.cell?, e], by rw [← d2]; simp only [World.cell?, e], by rw [← d3]; simp only [World.cell?, e], by rw [← d4]; simp only [World.cell?, e]⟩
  have hsz : (w.setCell ⟨T, D.length, none⟩ (.int .i64 (x : Nat))).heap.size = w.heap.size := by simp
  refine ⟨⟨h.ci.bx.of_block (Below.heap_setCell w ⟨T, D.length, none⟩ _ C (nb h.ci.bx (by decide))), h.ci.hs.of_block (Below.heap_setCell w ⟨T, D.length, none⟩ _ H (nb h.ci.hs (by decide))), fun i hi => ?_, h.ci.ds, h.ci.ge, h.ci.be.setCell h.ge _⟩, ?_, h.ge⟩
  · obtain ⟨f, hf⟩ := h.ci.rs i hi
    exact ⟨f, hf.row.of_block (Below.heap_setCell w ⟨T, D.length, none⟩ _ (R i) (nb hf.row (by decide))), fun j hj => ⟨ss _ _ (hf.sg j hj).1, by rw [hsz]; exact (hf.sg j hj).2⟩⟩
  · refine (h.tl.set D.length (.int .i64 (x : Nat))).congr fun j hj => ?_
    unfold codeF
    rw [List.getD_eq_getElem?_getD, List.getD_eq_getElem?_getD]
    by_cases e : j = D.length
    · subst e
      rw [if_pos rfl, List.getElem?_append_right (by omega)]
      simp
    · rw [if_neg e]
      by_cases hl : j < D.length
      · rw [List.getElem?_append_left hl]
      · rw [List.getElem?_eq_none (l := D) (by omega), List.getElem?_eq_none (l := D ++ [x]) (by rw [List.length_append, List.length_singleton]; omega)]
theorem stores (h : PlG B C H T R w0 w lp lc n m N s D) : Stores w (some ⟨H, 0, none⟩) n m s := fun h0 => by
  refine ⟨H, 0, rfl, h.ci.hs.lt, fun i hi => ⟨some ⟨R i, 0, none⟩, m, by rw [Nat.zero_add]; exact h.ci.cellH hi, fun m0 => ?_⟩⟩
  obtain ⟨f, hf⟩ := h.ci.rs i hi
  exact ⟨R i, 0, rfl, hf.row.lt, fun j hj => ⟨f j, by rw [Nat.zero_add]; exact hf.row.cell hj, (hf.sg j hj).1, (hf.sg j hj).2⟩⟩
theorem nums (h : PlG B C H T R w0 w lp lc n m N s D) (hD : D.length = N) : Nums w (some ⟨T, 0, none⟩) (Plain.cz D) := fun h0 => by
  refine ⟨T, 0, rfl, h.tl.lt, fun j hj => ?_⟩
  rw [Plain.cz_len] at hj
  rw [Nat.zero_add, h.tl.cell (i := j) (by omega), Plain.cz_at D hj]
  rfl
end PlG
/-- The circle, as far as its rows are made. -/
structure MkI (w0 w : World) (B C H k n m : Nat) (lp : Option Addr) (lc : Nat) : Prop where
  bx : w.rowIs C 55 2 (fun j => if j = 0 then .slice lp m lc else .slice (some ⟨H, 0, none⟩) n n)
  hs : w.rowIs H 40 n (fun i => if i < k then .slice (some ⟨B + 3 + i, 0, none⟩) m m else .slice none 0 0)
  rs : ∀ i, i < k → w.rowIs (B + 3 + i) 39 m (fun _ => .slice none 0 0)
  sz : w.heap.size = B + 3 + k
  be : Below B w0 w
theorem made_rowE (w : World) (T m : Nat) : (w.alloc (.cells (madeCells #[.slice none 0 0] m) T)).rowIs w.heap.size T m (fun _ => .slice none 0 0) :=
  ⟨_, Deep.blk_alloc_new _ _, size_madeCells _ _, fun i hi => by simp [madeCells, hi, Nat.mod_one]⟩
theorem MkI.step {w0 w : World} {B C H k n m : Nat} {lp : Option Addr} {lc : Nat} (h : MkI w0 w B C H k n m lp lc) (hk : k < n) (hH : B ≤ H) :
    MkI w0 ((w.alloc (.cells (madeCells #[.slice none 0 0] m) 39)).setCell ⟨H, k, none⟩ (.slice (some ⟨w.heap.size, 0, none⟩) m m)) B C H (k + 1) n m lp lc := by
  have ba : Below w.heap.size w (w.alloc (.cells (madeCells #[.slice none 0 0] m) 39)) := (Below.refl _ _).alloc (Nat.le_refl _) _
  obtain ⟨W, hW⟩ : ∃ W, W = w.alloc (.cells (madeCells #[.slice none 0 0] m) 39) := ⟨_, rfl⟩
  rw [← hW] at ba ⊢
  have hr : W.rowIs w.heap.size 39 m (fun _ => .slice none 0 0) := by rw [hW]; exact made_rowE _ _ _
  have bx : W.rowIs C 55 2 (fun j => if j = 0 then .slice lp m lc else .slice (some ⟨H, 0, none⟩) n n) := h.bx.of_block (ba.block _ h.bx.lt)
  have hs : W.rowIs H 40 n (fun i => if i < k then .slice (some ⟨B + 3 + i, 0, none⟩) m m else .slice none 0 0) := h.hs.of_block (ba.block _ h.hs.lt)
  have hsz : W.heap.size = B + 3 + (k + 1) := by rw [hW]; simp [h.sz]; omega
  have nb : ∀ {b Ty q f}, W.rowIs b Ty q f → Ty ≠ 40 → b ≠ H := fun {b Ty q f} hb hT e => by
    subst e
    obtain ⟨c, h1, _⟩ := hb
    obtain ⟨c', h2, _⟩ := hs
    rw [h1] at h2
    simp at h2
    exact hT h2.2
  refine ⟨bx.of_block (Below.heap_setCell W ⟨H, k, none⟩ _ C (nb bx (by decide))), ?_, fun i hi => ?_, by simp [hsz], (h.be.trans (ba.mono (by rw [h.sz]; omega))).setCell (p := ⟨H, k, none⟩) hH _⟩
  · refine (hs.set k (.slice (some ⟨w.heap.size, 0, none⟩) m m)).congr fun j hj => ?_
    by_cases e : j = k
    · subst e
      rw [if_pos rfl, if_pos (by omega), h.sz]
    · rw [if_neg e]
      by_cases hl : j < k
      · rw [if_pos hl, if_pos (by omega)]
      · rw [if_neg hl, if_neg (by omega)]
  · by_cases e : i = k
    · subst e
      rw [← h.sz]
      exact hr.of_block (Below.heap_setCell W ⟨H, i, none⟩ _ _ (nb hr (by decide)))
    · have r0 := h.rs i (by omega)
      have r1 := r0.of_block (w' := W) (ba.block _ r0.lt)
      exact r1.of_block (Below.heap_setCell W ⟨H, k, none⟩ _ _ (nb r1 (by decide)))
theorem MkI.circle {w0 w : World} {B C H n m : Nat} {lp : Option Addr} {lc : Nat} (h : MkI w0 w B C H n n m lp lc) : CcI B C H (fun i => B + 3 + i) w0 w lp lc n m Plain.Stt.nil :=
  ⟨h.bx, h.hs.congr fun i hi => by rw [if_pos hi], fun i hi => ⟨fun _ => .slice none 0 0, h.rs i hi, fun j _ => ⟨SegN.nil w, lies_nil _ _ _⟩⟩, fun i j _ _ e => by omega, fun i _ => by omega, h.be⟩
end Go.Proofs.Ytdcgkeanghhopak

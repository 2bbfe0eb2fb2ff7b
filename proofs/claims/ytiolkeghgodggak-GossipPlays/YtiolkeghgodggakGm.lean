/-
  Turns, and what each branch has of each label, in memory: the program's.
-/
import Derived.Test.YtiolkeghgodggakGl
import Derived.Test.YtiolkeghgodggakWn
import Derived.Deep.RegionHeld3
import Derived.Deep.DeepCutAuto
import Derived.Deep.CutBlock
import Derived.Deep.QuietTactic
import Derived.BigQuiet
namespace Go.Proofs.Ytiolkeghgodggak
open Go.RowKit Go.Shelf Go.Sort

/-! ### Turns -/
abbrev aggT (t : Plain.Tu) : Value := .agg #[.int .i64 t.kind, .int .i64 t.who, .int .i64 t.to, .int .i64 t.label, .int .i64 t.key, .int .i64 t.value]
abbrev boxT (t : Plain.Tu) : Obj := .cells #[.int .i64 t.kind, .int .i64 t.who, .int .i64 t.to, .int .i64 t.label, .int .i64 t.key, .int .i64 t.value] 44
def encT : Enc Plain.Tu := ⟨6, fun t => [.int .i64 t.kind, .int .i64 t.who, .int .i64 t.to, .int .i64 t.label, .int .i64 t.key, .int .i64 t.value], fun _ => rfl, fun a u hu => by
  simp only [List.mem_cons, List.not_mem_nil, or_false] at hu
  rcases hu with rfl | rfl | rfl | rfl | rfl | rfl <;> rfl, by decide⟩
structure CellT (w : World) (b o : Nat) (t : Plain.Tu) : Prop where
  c0 : w.cell? ⟨b, o, none⟩ = some (.int .i64 t.kind)
  c1 : w.cell? ⟨b, o + 1, none⟩ = some (.int .i64 t.who)
  c2 : w.cell? ⟨b, o + 2, none⟩ = some (.int .i64 t.to)
  c3 : w.cell? ⟨b, o + 3, none⟩ = some (.int .i64 t.label)
  c4 : w.cell? ⟨b, o + 4, none⟩ = some (.int .i64 t.key)
  c5 : w.cell? ⟨b, o + 5, none⟩ = some (.int .i64 t.value)
theorem CellT.below {w w' : World} {b o B : Nat} {d : Plain.Tu} (h : CellT w b o d) (g : Below B w w') (hlt : b < B) : CellT w' b o d :=
  ⟨(g.cell (p := ⟨b, o, none⟩) hlt).trans h.c0, (g.cell (p := ⟨b, o + 1, none⟩) hlt).trans h.c1, (g.cell (p := ⟨b, o + 2, none⟩) hlt).trans h.c2, (g.cell (p := ⟨b, o + 3, none⟩) hlt).trans h.c3, (g.cell (p := ⟨b, o + 4, none⟩) hlt).trans h.c4, (g.cell (p := ⟨b, o + 5, none⟩) hlt).trans h.c5⟩
theorem CellT.lt {w : World} {b o : Nat} {e : Plain.Tu} (h : CellT w b o e) : b < w.heap.size := World.block_lt_of_cell? (w := w) (h := h.c0)
theorem CellT.drewN {w : World} {b o : Nat} {d : Plain.Tu} (h : CellT w b o d) (q : Nat) : CellT (w.drewN q) b o d :=
  ⟨by simpa using h.c0, by simpa using h.c1, by simpa using h.c2, by simpa using h.c3, by simpa using h.c4, by simpa using h.c5⟩
theorem holdsT {w : World} {p : Option Addr} {l : List Plain.Tu} (h : encT.Holds w p l) (h0 : 0 < l.length) : ∃ b off, p = some ⟨b, off, none⟩ ∧ b < w.heap.size ∧ ∀ j, j < l.length → CellT w b (off + j * 6) (l.getD j default) := by
  obtain ⟨b, off, rfl, hb, hc⟩ := h.at default h0
  refine ⟨b, off, rfl, hb, fun j hj => ⟨?_, ?_, ?_, ?_, ?_, ?_⟩⟩
  · exact hc j 0 _ hj (by decide) rfl
  · exact hc j 1 _ hj (by decide) rfl
  · exact hc j 2 _ hj (by decide) rfl
  · exact hc j 3 _ hj (by decide) rfl
  · exact hc j 4 _ hj (by decide) rfl
  · exact hc j 5 _ hj (by decide) rfl
theorem boxT_at (w : World) (t : Plain.Tu) : CellT (w.alloc (boxT t)) w.heap.size 0 t := ⟨by simp, by simp, by simp, by simp, by simp, by simp⟩

/-! ### Numbers that came in -/
/-- A slice '.slice p l.length c' holds the numbers l. -/
def Nums (w : World) (p : Option Addr) (l : List Int) : Prop :=
  0 < l.length → ∃ b off, p = some ⟨b, off, none⟩ ∧ b < w.heap.size ∧ ∀ j, j < l.length → w.cell? ⟨b, off + j, none⟩ = some (.int .i64 (l.getD j 0))
theorem Nums.grow {w w' : World} {p : Option Addr} {l : List Int} (h : Nums w p l) (g : Below w.heap.size w w') : Nums w' p l := fun h0 => by
  obtain ⟨b, off, rfl, hb, hc⟩ := h h0
  exact ⟨b, off, rfl, Nat.lt_of_lt_of_le hb g.size, fun j hj => (g.cell (p := ⟨b, off + j, none⟩) hb).trans (hc j hj)⟩

/-! ### Entries, where a block of slices turns -/
/-- A row of slices turns in a cell: entries elsewhere stay. -/
theorem seg_set {w : World} {v : Value} {l : List Plain.En} (h : SegN w v l) {g T m : Nat} {f : Nat → Value} (r : w.rowIs g T m f) (hf : ∀ j, j < m → ∃ p n c, f j = .slice p n c) (i : Nat) (x : Value) : SegN (w.setCell ⟨g, i, none⟩ x) v l := by
  rcases h with ⟨rfl, p1, c1, rfl⟩ | ⟨b1, o1, c1, rfl, hc1, g1⟩
  · exact .inl ⟨rfl, p1, c1, rfl⟩
  · refine .inr ⟨b1, o1, c1, rfl, hc1, fun j hj => ?_⟩
    have hne : b1 ≠ g := by
      rintro rfl
      have c0 := (g1 j hj).c0
      obtain ⟨c, hb, hs, hc⟩ := r
      simp only [World.cell?, hb] at c0
      by_cases hlt : o1 + j * 5 < m
      · obtain ⟨p, n, c', e⟩ := hf _ hlt
        rw [hc _ hlt, e] at c0
        simp at c0
      · rw [Array.getElem?_eq_none (by omega)] at c0
        simp at c0
    have e : (w.setCell ⟨g, i, none⟩ x).heap[b1]? = w.heap[b1]? := Below.heap_setCell w ⟨g, i, none⟩ x b1 hne
    obtain ⟨d0, d1, d2, d3, d4⟩ := g1 j hj
    exact ⟨by rw [← d0]; simp only [World.cell?, e], by rw [← d1]; simp only [World.cell?, e], by rw [← d2]; simp only [World.cell?, e], by rw [← d3]; simp only [World.cell?, e], by rw [← d4]; simp only [World.cell?, e]⟩

/-! ### A store -/
/-- A row of slices of entries: what a branch has of each label. -/
structure RowL (w : World) (g m : Nat) (s : Nat → List Plain.En) (f : Nat → Value) : Prop where
  row : w.rowIs g 39 m f
  sg : ∀ j, j < m → SegN w (f j) (s j) ∧ Lies w.heap.size (f j)
theorem RowL.slices {w : World} {g m : Nat} {s : Nat → List Plain.En} {f : Nat → Value} (h : RowL w g m s f) : ∀ j, j < m → ∃ p n c, f j = .slice p n c := fun j hj => by
  obtain ⟨p, c, e, _⟩ := (h.sg j hj).1.form
  exact ⟨p, _, c, e⟩
theorem RowL.grow {w w' : World} {g m : Nat} {s : Nat → List Plain.En} {f : Nat → Value} (h : RowL w g m s f) (b : Below w.heap.size w w') : RowL w' g m s f :=
  ⟨h.row.of_block (b.block _ h.row.lt), fun j hj => ⟨(h.sg j hj).1.below b (h.sg j hj).2, (h.sg j hj).2.mono b.size⟩⟩
/-- Another row turns. -/
theorem RowL.other {w : World} {g m : Nat} {s : Nat → List Plain.En} {f : Nat → Value} (h : RowL w g m s f) {g' m' : Nat} {s' : Nat → List Plain.En} {f' : Nat → Value} (h' : RowL w g' m' s' f') (hne : g ≠ g') (i : Nat) (x : Value) : RowL (w.setCell ⟨g', i, none⟩ x) g m s f :=
  ⟨h.row.of_block (Below.heap_setCell w ⟨g', i, none⟩ x g hne), fun j hj => ⟨seg_set (h.sg j hj).1 h'.row h'.slices i x, by
    have e : (w.setCell ⟨g', i, none⟩ x).heap.size = w.heap.size := by simp
    rw [e]; exact (h.sg j hj).2⟩⟩
theorem RowL.set {w : World} {g m : Nat} {s : Nat → List Plain.En} {f : Nat → Value} (h : RowL w g m s f) (i : Nat) {x : Value} {l : List Plain.En} (hx : SegN w x l) (hl : Lies w.heap.size x) : RowL (w.setCell ⟨g, i, none⟩ x) g m (fun j => if j = i then l else s j) (fun j => if j = i then x else f j) := by
  have e : (w.setCell ⟨g, i, none⟩ x).heap.size = w.heap.size := by simp
  refine ⟨h.row.set i x, fun j hj => ?_⟩
  rw [e]
  by_cases hji : j = i
  · rw [if_pos hji, if_pos hji]
    exact ⟨seg_set hx h.row h.slices i x, hl⟩
  · rw [if_neg hji, if_neg hji]
    exact ⟨seg_set (h.sg j hj).1 h.row h.slices i x, (h.sg j hj).2⟩
theorem RowL.congr {w : World} {g m : Nat} {s s' : Nat → List Plain.En} {f : Nat → Value} (h : RowL w g m s f) (e : ∀ j, j < m → s j = s' j) : RowL w g m s' f :=
  ⟨h.row, fun j hj => by rw [← e j hj]; exact h.sg j hj⟩
/-- Numbers elsewhere stay, where a row of slices turns. -/
theorem nums_set {w : World} {p : Option Addr} {l : List Int} (h : Nums w p l) {g T m : Nat} {f : Nat → Value} (r : w.rowIs g T m f) (hf : ∀ j, j < m → ∃ p n c, f j = .slice p n c) (i : Nat) (x : Value) : Nums (w.setCell ⟨g, i, none⟩ x) p l := fun h0 => by
  obtain ⟨b, off, e, hb, hc⟩ := h h0
  refine ⟨b, off, e, by simpa using hb, fun j hj => ?_⟩
  have hne : b ≠ g := by
    rintro rfl
    have c0 := hc j hj
    obtain ⟨c, hb, hs, hcc⟩ := r
    simp only [World.cell?, hb] at c0
    by_cases hlt : off + j < m
    · obtain ⟨p, n, c', e⟩ := hf _ hlt
      rw [hcc _ hlt, e] at c0
      simp at c0
    · rw [Array.getElem?_eq_none (by omega)] at c0
      simp at c0
  have e : (w.setCell ⟨g, i, none⟩ x).heap[b]? = w.heap[b]? := Below.heap_setCell w ⟨g, i, none⟩ x b hne
  rw [← hc j hj]
  simp only [World.cell?, e]
def stoF (who : Nat) (lp : Option Addr) (lc m H : Nat) (j : Nat) : Value := if j = 0 then .int .i64 (who : Nat) else if j = 1 then .slice lp m lc else .slice (some ⟨H, 0, none⟩) m m
/-- A store: in a window of three cells; its lists in a row of its own. -/
structure StI (R oo : Nat) (XX : Win) (H : Nat) (w : World) (who : Nat) (lp : Option Addr) (lc : Nat) (L : List Int) (s : Nat → List Plain.En) : Prop where
  row : w.rowIs R XX.t XX.n (XX.f oo 3 (stoF who lp lc L.length H))
  hs : ∃ f, RowL w H L.length s f
  lab : Nums w lp L
  le : oo + 3 ≤ XX.n
  ne : XX.t ≠ 39
namespace StI
variable {R oo H lc : Nat} {XX : Win} {w w' : World} {who : Nat} {lp : Option Addr} {L : List Int} {s s' : Nat → List Plain.En}
theorem grow (h : StI R oo XX H w who lp lc L s) (b : Below w.heap.size w w') : StI R oo XX H w' who lp lc L s :=
  ⟨h.row.of_block (b.block _ h.row.lt), by obtain ⟨f, hf⟩ := h.hs; exact ⟨f, hf.grow b⟩, h.lab.grow b, h.le, h.ne⟩
theorem drewN (h : StI R oo XX H w who lp lc L s) (q : Nat) : StI R oo XX H (w.drewN q) who lp lc L s := h.grow (below_drewN (Below.refl _ _) q)
theorem lt (h : StI R oo XX H w who lp lc L s) : R < w.heap.size := h.row.lt
theorem ltH (h : StI R oo XX H w who lp lc L s) : H < w.heap.size := by obtain ⟨f, hf⟩ := h.hs; exact hf.row.lt
theorem RH (h : StI R oo XX H w who lp lc L s) : R ≠ H := by
  rintro rfl
  obtain ⟨f, hf⟩ := h.hs
  obtain ⟨c, h1, _⟩ := h.row
  obtain ⟨c', h2, _⟩ := hf.row
  rw [h1] at h2
  simp at h2
  exact h.ne h2.2
theorem c0 (h : StI R oo XX H w who lp lc L s) : w.cell? ⟨R, oo, none⟩ = some (.int .i64 (who : Nat)) := Win.cell h.row h.le (i := 0) (by omega)
theorem c1 (h : StI R oo XX H w who lp lc L s) : w.cell? ⟨R, oo + 1, none⟩ = some (.slice lp L.length lc) := Win.cell h.row h.le (i := 1) (by omega)
theorem c2 (h : StI R oo XX H w who lp lc L s) : w.cell? ⟨R, oo + 2, none⟩ = some (.slice (some ⟨H, 0, none⟩) L.length L.length) := Win.cell h.row h.le (i := 2) (by omega)
theorem has (h : StI R oo XX H w who lp lc L s) {j : Nat} (hj : j < L.length) : ∃ p c, w.cell? ⟨H, j, none⟩ = some (.slice p (s j).length c) ∧ SegN w (.slice p (s j).length c) (s j) ∧ Lies w.heap.size (.slice p (s j).length c) ∧ w.frozen? ⟨H, j, none⟩ = false := by
  obtain ⟨f, hf⟩ := h.hs
  obtain ⟨p, c, e, _⟩ := (hf.sg j hj).1.form
  have h1 := hf.row.cell hj
  have h2 := hf.sg j hj
  rw [e] at h1 h2
  exact ⟨p, c, h1, h2.1, h2.2, hf.row.frozen j⟩
/-- What it has of one label turns. -/
theorem set (h : StI R oo XX H w who lp lc L s) {j : Nat} {x : Value} {l : List Plain.En} (hx : SegN w x l) (hl : Lies w.heap.size x) :
    StI R oo XX H (w.setCell ⟨H, j, none⟩ x) who lp lc L (fun b => if b = j then l else s b) := by
  obtain ⟨f, hf⟩ := h.hs
  exact ⟨h.row.of_block (Below.heap_setCell w ⟨H, j, none⟩ x R h.RH), ⟨_, hf.set j hx hl⟩, nums_set h.lab hf.row hf.slices j x, h.le, h.ne⟩
theorem congr (h : StI R oo XX H w who lp lc L s) (e : ∀ j, j < L.length → s j = s' j) : StI R oo XX H w who lp lc L s' :=
  ⟨h.row, by obtain ⟨f, hf⟩ := h.hs; exact ⟨f, hf.congr e⟩, h.lab, h.le, h.ne⟩
end StI
end Go.Proofs.Ytiolkeghgodggak

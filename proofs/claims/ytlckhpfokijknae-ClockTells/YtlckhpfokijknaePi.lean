/-
  The sites' clocks and the events' clocks in memory, as a play goes on.
-/
import Derived.Test.YtlckhpfokijknaeCe
import Derived.Test.YtlckhpfokijknaeCl
namespace Go.Proofs.Ytlckhpfokijknae
open Go.RowKit

theorem Try.infoRow : (Try.prog.info? 34).map (fun i => (i.zero, i.size, i.bytes)) = some (some (.slice none 0 0), 1, 24) := by kernel_rfl

theorem rows_apart {w : World} {b c n : Nat} {l : List Int} {f : Nat → Value} (h : RowI w b l) (h2 : w.rowIs c 34 n f) : b ≠ c := by
  rintro rfl
  obtain ⟨c1, e1, _⟩ := h
  obtain ⟨c2, e2, _⟩ := h2
  rw [e1] at e2
  simp at e2

/-- What lies in memory: the sites' rows (now), the events' rows (cs, the first i of N). -/
structure PI (n N i : Nat) (now cs : List (List Int)) (w0 w : World) (bn bc : Nat) (gN cN gC cC : Nat → Nat) : Prop where
  nrow : w.rowIs bn 34 n (fun s => .slice (some ⟨gN s, 0, none⟩) n (cN s))
  crow : w.rowIs bc 34 N (fun k => if k < i then .slice (some ⟨gC k, 0, none⟩) n (cC k) else .slice none 0 0)
  nI : ∀ s, s < n → RowI w (gN s) (now.getD s [])
  cI : ∀ k, k < i → RowI w (gC k) (cs.getD k [])
  nn : ∀ s t, s < n → t < n → s ≠ t → gN s ≠ gN t
  nc : ∀ s k, s < n → k < i → gN s ≠ gC k
  nb : bn ≠ bc
  lon : w0.heap.size ≤ bn
  loc : w0.heap.size ≤ bc
  loN : ∀ s, s < n → w0.heap.size ≤ gN s
  bel : Below w0.heap.size w0 w

variable {n N i : Nat} {now cs : List (List Int)} {w0 w w' : World} {bn bc : Nat} {gN cN gC cC : Nat → Nat}

theorem PI.grow (h : PI n N i now cs w0 w bn bc gN cN gC cC) (g : Below w.heap.size w w') : PI n N i now cs w0 w' bn bc gN cN gC cC :=
  ⟨h.nrow.of_block (g.block _ h.nrow.lt), h.crow.of_block (g.block _ h.crow.lt), fun s hs => (h.nI s hs).below g (h.nI s hs).lt, fun k hk => (h.cI k hk).below g (h.cI k hk).lt, h.nn, h.nc, h.nb, h.lon, h.loc, h.loN,
    h.bel.trans (g.mono h.bel.size)⟩

theorem PI.join (h : PI n N i now cs w0 w bn bc gN cN gC cC) (hl : now.length = n) {s0 g cp : Nat} {c : List Int} (hs : s0 < n) (hr : RowI w g c) (hgN : ∀ s, s < n → gN s ≠ g) (hgC : ∀ k, k < i → g ≠ gC k) (hlo : w0.heap.size ≤ g) :
    PI n N i (now.set s0 c) cs w0 (w.setCell ⟨bn, s0, none⟩ (.slice (some ⟨g, 0, none⟩) n cp)) bn bc (fun s => if s = s0 then g else gN s) (fun s => if s = s0 then cp else cN s) gC cC := by
  refine ⟨(h.nrow.set s0 _).congr fun j _ => ?_, h.crow.setOther (fun e => h.nb e.symm) _, fun s hs' => ?_, fun k hk => (h.cI k hk).other (rows_apart (h.cI k hk) h.nrow) _, fun s t hs' ht hne => ?_, fun s k hs' hk => ?_, h.nb, h.lon, h.loc, fun s hs' => ?_, h.bel.setCell (p := ⟨bn, s0, none⟩) h.lon _⟩
  · by_cases e : j = s0
    · rw [if_pos e, if_pos e, if_pos e]
    · rw [if_neg e, if_neg e, if_neg e]
  · rw [Plain.getD_set]
    by_cases e : s = s0
    · simp only [e, hl, hs, and_self, if_true]
      exact hr.other (rows_apart hr h.nrow) _
    · simp only [e, false_and, if_false]
      exact (h.nI s hs').other (rows_apart (h.nI s hs') h.nrow) _
  · by_cases e1 : s = s0
    · have e2 : ¬ t = s0 := fun e => hne (e1.trans e.symm)
      simp only [e1, e2, if_true, if_false]
      exact fun e => hgN t ht e.symm
    · by_cases e2 : t = s0
      · simp only [e1, e2, if_true, if_false]
        exact hgN s hs'
      · simp only [e1, e2, if_false]
        exact h.nn s t hs' ht hne
  · by_cases e1 : s = s0
    · simp only [e1, if_true]; exact hgC k hk
    · simp only [e1, if_false]; exact h.nc s k hs' hk
  · by_cases e1 : s = s0
    · simp only [e1, if_true]; exact hlo
    · simp only [e1, if_false]; exact h.loN s hs'

theorem PI.bump (h : PI n N i now cs w0 w bn bc gN cN gC cC) (hl : now.length = n) {s0 t0 : Nat} (hs : s0 < n) (ht : t0 < (now.getD s0 []).length) (x : Int) :
    PI n N i (now.set s0 ((now.getD s0 []).set t0 x)) cs w0 (w.setCell ⟨gN s0, t0, none⟩ (.int .i64 x)) bn bc gN cN gC cC := by
  refine ⟨h.nrow.setOther (fun e => rows_apart (h.nI s0 hs) h.nrow e.symm) _, h.crow.setOther (fun e => rows_apart (h.nI s0 hs) h.crow e.symm) _, fun s hs' => ?_, fun k hk => (h.cI k hk).other (fun e => h.nc s0 k hs hk e.symm) _, h.nn, h.nc, h.nb, h.lon, h.loc, h.loN, h.bel.setCell (p := ⟨gN s0, t0, none⟩) (h.loN s0 hs) _⟩
  rw [Plain.getD_set]
  by_cases e : s = s0
  · subst e
    rw [if_pos ⟨rfl, by rw [hl]; exact hs⟩]
    exact (h.nI s hs).set t0 ht x
  · rw [if_neg (fun h => e h.1)]
    exact (h.nI s hs').other (h.nn s s0 hs' hs e) _

theorem PI.clone (h : PI n N i now cs w0 w bn bc gN cN gC cC) (hl : cs.length = i) {g cp : Nat} {c : List Int} (hr : RowI w g c) (hgN : ∀ s, s < n → gN s ≠ g) :
    PI n N (i + 1) now (cs ++ [c]) w0 (w.setCell ⟨bc, i, none⟩ (.slice (some ⟨g, 0, none⟩) n cp)) bn bc gN cN (fun k => if k = i then g else gC k) (fun k => if k = i then cp else cC k) := by
  refine ⟨h.nrow.setOther h.nb _, (h.crow.set i _).congr fun j _ => ?_, fun s hs' => (h.nI s hs').other (rows_apart (h.nI s hs') h.crow) _, fun k hk => ?_, h.nn, fun s k hs' hk => ?_, h.nb, h.lon, h.loc, h.loN, h.bel.setCell (p := ⟨bc, i, none⟩) h.loc _⟩
  · by_cases e : j = i
    · simp only [e, if_true, Nat.lt_succ_self]
    · simp only [e, if_false]
      by_cases d : j < i
      · rw [if_pos d, if_pos (by omega)]
      · rw [if_neg d, if_neg (by omega)]
  · rw [Plain.getD_snoc, hl]
    by_cases e : k = i
    · subst e
      simp only [Nat.lt_irrefl, if_false, if_true]
      exact hr.other (rows_apart hr h.crow) _
    · have : k < i := by omega
      simp only [this, e, if_true, if_false]
      exact (h.cI k this).other (rows_apart (h.cI k this) h.crow) _
  · by_cases e : k = i
    · simp only [e, if_true]; exact hgN s hs'
    · simp only [e, if_false]; exact h.nc s k hs' (by omega)

theorem now_step {w wr : World} {k n : Nat} (hrow : wr.rowIs w.heap.size 34 n (fun s => if s < k then .slice (some ⟨w.heap.size + 1 + s, 0, none⟩) n n else .slice none 0 0))
    (hrows : ∀ s, s < k → RowI wr (w.heap.size + 1 + s) (List.replicate n 0)) (hsize : wr.heap.size = w.heap.size + 1 + k) (hbel : Below w.heap.size w wr) :
    ∀ u, u = (wr.setCell ⟨w.heap.size, k, none⟩ (.slice (some ⟨wr.heap.size, 0, none⟩) n n)).alloc (.cells (madeCells #[.int .i64 0] n) 3) →
      u.rowIs w.heap.size 34 n (fun s => if s < k + 1 then .slice (some ⟨w.heap.size + 1 + s, 0, none⟩) n n else .slice none 0 0) ∧ (∀ s, s < k + 1 → RowI u (w.heap.size + 1 + s) (List.replicate n 0)) ∧ u.heap.size = w.heap.size + 1 + (k + 1) ∧ Below w.heap.size w u := by
  rintro u rfl
  have hb1 := hbel.setCell (p := ⟨w.heap.size, k, none⟩) (Nat.le_refl _) (.slice (some ⟨wr.heap.size, 0, none⟩) n n)
  have hz : (wr.setCell ⟨w.heap.size, k, none⟩ (.slice (some ⟨wr.heap.size, 0, none⟩) n n)).heap.size = wr.heap.size := by simp
  refine ⟨((hrow.set k _).alloc _).congr fun j _ => ?_, fun s hs => ?_, by simp; omega, hb1.alloc hb1.size _⟩
  · by_cases c : j = k
    · subst c; rw [if_pos rfl, if_pos (by omega), hsize]
    · rw [if_neg c]
      by_cases d : j < k
      · rw [if_pos d, if_pos (by omega)]
      · rw [if_neg d, if_neg (by omega)]
  · by_cases c : s = k
    · subst c
      have hm := World.rowIs_made (wr.setCell ⟨w.heap.size, s, none⟩ (.slice (some ⟨wr.heap.size, 0, none⟩) n n)) (.int .i64 0) n 3
      rw [hz, hsize] at hm
      refine RowI.of_rowIs (n := n) ?_ (by simp) (fun i hi => ?_) (f := fun _ => .int .i64 0)
      · rw [hsize]; exact hm
      · simp at hi; simp [hi]
    · have hr := (hrows s (by omega)).other (a := ⟨w.heap.size, k, none⟩) (by show _ ≠ w.heap.size; omega) (.slice (some ⟨wr.heap.size, 0, none⟩) n n)
      exact hr.of_block (Below.heap_alloc _ _ _ hr.lt)

theorem play_start {w wr : World} {n N : Nat} (l : List Plain.Ev) (hrow : wr.rowIs w.heap.size 34 n (fun s => if s < n then .slice (some ⟨w.heap.size + 1 + s, 0, none⟩) n n else .slice none 0 0))
    (hrows : ∀ s, s < n → RowI wr (w.heap.size + 1 + s) (List.replicate n 0)) (hsize : wr.heap.size = w.heap.size + 1 + n) (hbel : Below w.heap.size w wr) :
    PI n N 0 (Plain.st n l 0).1 (Plain.st n l 0).2 w (wr.alloc (.cells (madeCells #[.slice none 0 0] N) 34)) w.heap.size wr.heap.size (fun s => w.heap.size + 1 + s) (fun _ => n) (fun _ => 0) (fun _ => 0) := by
  refine ⟨(hrow.alloc _).congr fun j hj => by rw [if_pos hj], (World.rowIs_made wr (.slice none 0 0) N 34).congr fun j _ => by rw [if_neg (by omega)], fun s hs => ?_, fun k hk => by omega, fun s t _ _ h => by omega, fun s k _ hk => by omega, by omega, Nat.le_refl _, by omega, fun s _ => by omega, hbel.alloc hbel.size _⟩
  have e : (Plain.st n l 0).1.getD s [] = List.replicate n 0 := by simp [Plain.st, List.getD_eq_getElem?_getD, hs]
  rw [e]
  exact (hrows s hs).of_block (Below.heap_alloc _ _ _ (hrows s hs).lt)
end Go.Proofs.Ytlckhpfokijknae

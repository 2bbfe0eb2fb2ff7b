/-
  gossip.Play: what it tells, in memory.
-/
import Derived.Test.YtiolkeghgodggakGk
import Derived.Deep.LoopGhost
namespace Go.Proofs.Ytiolkeghgodggak
open Go.RowKit Go.Shelf Go.Sort
namespace Plain
def cz (l : List Nat) : List Int := l.map (fun k : Nat => (k : Int))
theorem cz_len (l : List Nat) : (cz l).length = l.length := by simp [cz]
theorem cz_at (l : List Nat) {k : Nat} (h : k < l.length) : (cz l).getD k 0 = ((l.getD k 0 : Nat) : Int) := by
  simp [cz, List.getD_eq_getElem?_getD, h]
theorem cz_app (a b : List Nat) : cz (a ++ b) = cz a ++ cz b := by simp [cz]
def codesV (bn : Int) (L : List Int) (l : List Tu) : List Nat := if goE bn L l ≠ 0 then [] else goF bn.toNat L Stt.nil l
def cntV (bn : Int) (L : List Int) (l : List Tu) : Nat := if goE bn L l ≠ 0 then 0 else bn.toNat
end Plain
/-- What each branch has of each label, as a slice of slices of slices. -/
def Stores (w : World) (q : Option Addr) (n m : Nat) (s : Plain.Stt) : Prop :=
  0 < n → ∃ b off, q = some ⟨b, off, none⟩ ∧ b < w.heap.size ∧ ∀ i, i < n → ∃ p c, w.cell? ⟨b, off + i, none⟩ = some (.slice p m c) ∧
    (0 < m → ∃ b' off', p = some ⟨b', off', none⟩ ∧ b' < w.heap.size ∧ ∀ j, j < m → ∃ v, w.cell? ⟨b', off' + j, none⟩ = some v ∧ SegN w v (s i j) ∧ Lies w.heap.size v)
theorem Stores.grow {w w' : World} {q : Option Addr} {n m : Nat} {s : Plain.Stt} (h : Stores w q n m s) (g : Below w.heap.size w w') : Stores w' q n m s := fun h0 => by
  obtain ⟨b, off, e, hb, hr⟩ := h h0
  refine ⟨b, off, e, Nat.lt_of_lt_of_le hb g.size, fun i hi => ?_⟩
  obtain ⟨p, c, hc, hm⟩ := hr i hi
  refine ⟨p, c, (g.cell (p := ⟨b, off + i, none⟩) hb).trans hc, fun m0 => ?_⟩
  obtain ⟨b', off', e', hb', hs⟩ := hm m0
  refine ⟨b', off', e', Nat.lt_of_lt_of_le hb' g.size, fun j hj => ?_⟩
  obtain ⟨v, hv, sg, ly⟩ := hs j hj
  exact ⟨v, (g.cell (p := ⟨b', off' + j, none⟩) hb').trans hv, sg.below g ly, ly.mono g.size⟩
theorem Stores.nil (w : World) (q : Option Addr) (m : Nat) (s : Plain.Stt) : Stores w q 0 m s := fun h => absurd h (Nat.lt_irrefl 0)
theorem Nums.nil (w : World) (p : Option Addr) : Nums w p [] := fun h => by simp at h
/-- What a play answers. -/
def PlayP (bn : Int) (L : List Int) (l : List Plain.Tu) (w : World) (e : Ending) (w' : World) : Prop :=
  ∃ p c q d, e = .returned (.tuple #[.slice p (Plain.codesV bn L l).length c, .slice q (Plain.cntV bn L l) d, .int .i64 (Plain.goE bn L l : Nat)]) ∧
    Nums w' p (Plain.cz (Plain.codesV bn L l)) ∧ Stores w' q (Plain.cntV bn L l) L.length (Plain.stF bn.toNat L Plain.Stt.nil l) ∧ Below w.heap.size w w'
theorem playP_no {bn : Int} {L : List Int} {l : List Plain.Tu} {E : Nat} (h : Plain.goE bn L l = E) (h0 : E ≠ 0) {w w' : World} (b : Below w.heap.size w w') : PlayP bn L l w (.returned (.tuple #[.slice none 0 0, .slice none 0 0, .int .i64 (E : Nat)])) w' := by
  have e1 : Plain.codesV bn L l = [] := by unfold Plain.codesV; rw [if_pos (by rw [h]; exact h0)]
  have e2 : Plain.cntV bn L l = 0 := by unfold Plain.cntV; rw [if_pos (by rw [h]; exact h0)]
  refine ⟨none, 0, none, 0, ?_, ?_, ?_, b⟩
  · rw [e1, e2, h]; rfl
  · rw [e1]; exact Nums.nil _ _
  · rw [e2]; exact Stores.nil _ _ _ _

/-- The codes, as far as they were told. -/
def codeF (s : List Nat) (j : Nat) : Value := .int .i64 ((s.getD j 0 : Nat) : Int)
/-- The circle, and what was told, in memory. -/
structure PlG (B C T : Nat) (H : Nat → Nat) (w0 w : World) (lp : Option Addr) (lc n N : Nat) (L : List Int) (s : Plain.Stt) (D : List Nat) : Prop where
  ci : CcI B C H w0 w lp lc n L s
  tl : w.rowIs T 26 N (codeF D)
  ge : B ≤ T
  nl : Nums w0 lp L
  hB : w0.heap.size = B
namespace PlG
variable {B C T : Nat} {H : Nat → Nat} {w0 w w' : World} {lp : Option Addr} {lc n N : Nat} {L : List Int} {s s' : Plain.Stt} {D : List Nat}
theorem ne (h : PlG B C T H w0 w lp lc n N L s D) : ¬ isR H n T := fun ⟨i, hi, e⟩ => by
  obtain ⟨f, hf⟩ := h.ci.rs i hi
  obtain ⟨c, h1, _⟩ := h.tl
  obtain ⟨c', h2, _⟩ := hf.row
  rw [← e, h1] at h2
  simp at h2
theorem grow (h : PlG B C T H w0 w lp lc n N L s D) (hB : B ≤ w.heap.size) (b : Below w.heap.size w w') : PlG B C T H w0 w' lp lc n N L s D :=
  ⟨h.ci.grow hB b, h.tl.of_block (b.block _ h.tl.lt), h.ge, h.nl, h.hB⟩
theorem call (h : PlG B C T H w0 w lp lc n N L s D) (ci : CcI B C H w0 w' lp lc n L s') (un : Un (isR H n) w w') : PlG B C T H w0 w' lp lc n N L s' D :=
  ⟨ci, h.tl.of_block (un.block _ h.tl.lt h.ne), h.ge, h.nl, h.hB⟩
theorem told (h : PlG B C T H w0 w lp lc n N L s D) (x : Nat) : PlG B C T H w0 (w.setCell ⟨T, D.length, none⟩ (.int .i64 (x : Nat))) lp lc n N L s (D ++ [x]) := by
  have nb : ∀ {b Ty k f}, w.rowIs b Ty k f → Ty ≠ 26 → b ≠ T := fun {b Ty k f} hb hT e => by
    subst e
    obtain ⟨c, h1, _⟩ := hb
    obtain ⟨c', h2, _⟩ := h.tl
    rw [h1] at h2
    simp at h2
    exact hT h2.2
  have ss : ∀ v l, SegN w v l → SegN (w.setCell ⟨T, D.length, none⟩ (.int .i64 (x : Nat))) v l := fun v l hs => by
    rcases hs with ⟨rfl, p1, c1, rfl⟩ | ⟨b1, o1, c1, rfl, hc1, g1⟩
    · exact .inl ⟨rfl, p1, c1, rfl⟩
    · refine .inr ⟨b1, o1, c1, rfl, hc1, fun j hj => ?_⟩
      have hne : b1 ≠ T := by
        rintro rfl
        have c4 := (g1 j hj).c4
        obtain ⟨c, hb, hs, hc⟩ := h.tl
        simp only [World.cell?, hb] at c4
        by_cases hlt : o1 + j * 5 + 4 < N
        · rw [hc _ hlt] at c4
          simp [codeF] at c4
        · rw [Array.getElem?_eq_none (by omega)] at c4
          simp at c4
      have e : (w.setCell ⟨T, D.length, none⟩ (.int .i64 (x : Nat))).heap[b1]? = w.heap[b1]? := Below.heap_setCell w ⟨T, D.length, none⟩ _ b1 hne
      obtain ⟨d0, d1, d2, d3, d4⟩ := g1 j hj
      exact ⟨by rw [← d0]; simp only [World.cell?, e], by rw [← d1]; simp only [World.cell?, e], by rw [← d2]; simp only [World.cell?, e], by rw [← d3]; simp only [World.cell?, e], by rw [← d4]; simp only [World.cell?, e]⟩
  have hsz : (w.setCell ⟨T, D.length, none⟩ (.int .i64 (x : Nat))).heap.size = w.heap.size := by simp
  have hbe : Below B w0 (w.setCell ⟨T, D.length, none⟩ (.int .i64 (x : Nat))) := h.ci.be.setCell h.ge _
  refine ⟨⟨h.ci.row.of_block (Below.heap_setCell w ⟨T, D.length, none⟩ _ C (nb h.ci.row (by decide))), fun i hi => ?_, h.ci.ds, h.ci.ge, h.nl.grow (by rw [h.hB]; exact hbe), hbe⟩, ?_, h.ge, h.nl, h.hB⟩
  · obtain ⟨f, hf⟩ := h.ci.rs i hi
    exact ⟨f, hf.row.of_block (Below.heap_setCell w ⟨T, D.length, none⟩ _ (H i) (nb hf.row (by decide))), fun j hj => ⟨ss _ _ (hf.sg j hj).1, by rw [hsz]; exact (hf.sg j hj).2⟩⟩
  · refine (h.tl.set D.length (.int .i64 (x : Nat))).congr fun j hj => ?_
    unfold codeF
    rw [List.getD_eq_getElem?_getD, List.getD_eq_getElem?_getD]
    by_cases e : j = D.length
    · subst e
      rw [if_pos rfl, List.getElem?_append_right (by omega)]
      simp
    · rw [if_neg e]
      by_cases hl : j < D.length
      · rw [List.getElem?_append_left hl]
      · rw [List.getElem?_eq_none (l := D) (by omega), List.getElem?_eq_none (l := D ++ [x]) (by rw [List.length_append, List.length_singleton]; omega)]
theorem nums (h : PlG B C T H w0 w lp lc n N L s D) (hD : D.length = N) : Nums w (some ⟨T, 0, none⟩) (Plain.cz D) := fun h0 => by
  refine ⟨T, 0, rfl, h.tl.lt, fun j hj => ?_⟩
  rw [Plain.cz_len] at hj
  rw [Nat.zero_add, h.tl.cell (i := j) (by omega), Plain.cz_at D hj]
  rfl
end PlG
def zerF (j : Nat) : Value := if j % 3 = 0 then .int .i64 0 else .slice none 0 0
/-- The circle, as far as its stores are made. -/
structure MkI (w0 w : World) (B C k n m : Nat) (H : Nat → Nat) (lp : Option Addr) (lc : Nat) : Prop where
  row : w.rowIs C 57 (n * 3) (fun j => if j / 3 < k then cirF lp lc m H j else zerF j)
  rs : ∀ i, i < k → w.rowIs (H i) 39 m (fun _ => .slice none 0 0)
  ds : ∀ i j, i < k → j < k → H i = H j → i = j
  ge : ∀ i, i < k → B ≤ H i
  be : Below B w0 w
  hC : B ≤ C
theorem MkI.grow {w0 w w' : World} {B C k n m : Nat} {H : Nat → Nat} {lp : Option Addr} {lc : Nat} (h : MkI w0 w B C k n m H lp lc) (hB : B ≤ w.heap.size) (b : Below w.heap.size w w') : MkI w0 w' B C k n m H lp lc :=
  ⟨h.row.of_block (b.block _ h.row.lt), fun i hi => (h.rs i hi).of_block (b.block _ (h.rs i hi).lt), h.ds, h.ge, h.be.trans (b.mono hB), h.hC⟩
theorem MkI.step {w0 w w' : World} {B C k n m : Nat} {H : Nat → Nat} {lp : Option Addr} {lc : Nat} (h : MkI w0 w B C k n m H lp lc) (hB : B ≤ w.heap.size) {H' : Nat} (hr : w'.rowIs H' 39 m (fun _ => .slice none 0 0)) (hH : w.heap.size ≤ H') (b : Below w.heap.size w w') :
    MkI w0 (((w'.setCell ⟨C, k * 3, none⟩ (.int .i64 (k : Nat))).setCell ⟨C, k * 3 + 1, none⟩ (.slice lp m lc)).setCell ⟨C, k * 3 + 2, none⟩ (.slice (some ⟨H', 0, none⟩) m m)) B C (k + 1) n m (fun i => if i = k then H' else H i) lp lc := by
  have g := h.grow hB b
  have hne : ∀ {b' f}, w'.rowIs b' 39 m f → b' ≠ C := fun {b' f} hb e => by
    subst e
    obtain ⟨c, h1, _⟩ := hb
    obtain ⟨c', h2, _⟩ := g.row
    rw [h1] at h2
    simp at h2
  have blk : ∀ b', b' ≠ C → (((w'.setCell ⟨C, k * 3, none⟩ (.int .i64 (k : Nat))).setCell ⟨C, k * 3 + 1, none⟩ (.slice lp m lc)).setCell ⟨C, k * 3 + 2, none⟩ (.slice (some ⟨H', 0, none⟩) m m)).heap[b']? = w'.heap[b']? := fun b' hb => by
    rw [Below.heap_setCell _ ⟨C, k * 3 + 2, none⟩ _ b' hb, Below.heap_setCell _ ⟨C, k * 3 + 1, none⟩ _ b' hb, Below.heap_setCell _ ⟨C, k * 3, none⟩ _ b' hb]
  refine ⟨?_, fun i hi => ?_, fun i j hi hj e => ?_, fun i hi => ?_, ((g.be.setCell (p := ⟨C, k * 3, none⟩) h.hC _).setCell (p := ⟨C, k * 3 + 1, none⟩) h.hC _).setCell (p := ⟨C, k * 3 + 2, none⟩) h.hC _, h.hC⟩
  · refine (((g.row.set (k * 3) (.int .i64 (k : Nat))).set (k * 3 + 1) (.slice lp m lc)).set (k * 3 + 2) (.slice (some ⟨H', 0, none⟩) m m)).congr fun j hj => ?_
    by_cases e : j / 3 = k
    · unfold cirF stoF
      dsimp only
      rw [e, if_pos (show k < k + 1 by omega), if_pos (show k = k from rfl)]
      have h3 : j = k * 3 ∨ j = k * 3 + 1 ∨ j = k * 3 + 2 := by omega
      rcases h3 with h3 | h3 | h3
      · rw [if_neg (show ¬ j = k * 3 + 2 by omega), if_neg (show ¬ j = k * 3 + 1 by omega), if_pos h3, if_pos (show j % 3 = 0 by omega)]
      · rw [if_neg (show ¬ j = k * 3 + 2 by omega), if_pos h3, if_neg (show ¬ j % 3 = 0 by omega), if_pos (show j % 3 = 1 by omega)]
      · rw [if_pos h3, if_neg (show ¬ j % 3 = 0 by omega), if_neg (show ¬ j % 3 = 1 by omega)]
    · rw [if_neg (by omega), if_neg (by omega), if_neg (by omega)]
      by_cases l : j / 3 < k
      · rw [if_pos l, if_pos (by omega)]
        unfold cirF
        dsimp only
        rw [if_neg e]
      · rw [if_neg l, if_neg (by omega)]
  · by_cases e : i = k
    · rw [if_pos e]
      exact hr.of_block (blk _ (hne hr))
    · rw [if_neg e]
      have r0 := g.rs i (by omega)
      exact r0.of_block (blk _ (hne r0))
  · by_cases ei : i = k
    · by_cases ej : j = k
      · omega
      · rw [if_pos ei, if_neg ej] at e
        have := (h.rs j (by omega)).lt
        omega
    · by_cases ej : j = k
      · rw [if_neg ei, if_pos ej] at e
        have := (h.rs i (by omega)).lt
        omega
      · rw [if_neg ei, if_neg ej] at e
        exact h.ds i j (by omega) (by omega) e
  · by_cases e : i = k
    · rw [if_pos e]; omega
    · rw [if_neg e]; exact h.ge i (by omega)
theorem MkI.circle {w0 w : World} {B C n : Nat} {H : Nat → Nat} {lp : Option Addr} {lc : Nat} {L : List Int} (h : MkI w0 w B C n n L.length H lp lc) (nl : Nums w0 lp L) (hB : w0.heap.size = B) : CcI B C H w0 w lp lc n L Plain.Stt.nil :=
  ⟨h.row.congr fun j hj => by rw [if_pos (by omega)], fun i hi => ⟨fun _ => .slice none 0 0, h.rs i hi, fun j _ => ⟨SegN.nil w, lies_nil _ _ _⟩⟩, h.ds, h.ge, nl.grow (by rw [hB]; exact h.be), h.be⟩

theorem RowL.setO {w : World} {g m : Nat} {s : Nat → List Plain.En} {f : Nat → Value} (h : RowL w g m s f) {G T n : Nat} {f' : Nat → Value} (r : w.rowIs G T n f') (hf' : ∀ j, j < n → ∃ p n c, f' j = .slice p n c) (hne : g ≠ G) (i : Nat) (x : Value) : RowL (w.setCell ⟨G, i, none⟩ x) g m s f :=
  ⟨h.row.of_block (Below.heap_setCell w ⟨G, i, none⟩ x g hne), fun j hj => ⟨seg_set (h.sg j hj).1 r hf' i x, by
    have e : (w.setCell ⟨G, i, none⟩ x).heap.size = w.heap.size := by simp
    rw [e]; exact (h.sg j hj).2⟩⟩
def ensF (g : Nat → Nat) (m k : Nat) (i : Nat) : Value := if i < k then .slice (some ⟨g i, 0, none⟩) m m else .slice none 0 0
/-- What all have, as far as it is copied. -/
structure EnI (w wx : World) (k n m : Nat) (g : Nat → Nat) (s : Plain.Stt) : Prop where
  row : wx.rowIs w.heap.size 40 n (ensF g m k)
  rs : ∀ i, i < k → ∃ f, RowL wx (g i) m (s i) f
  be : Below w.heap.size w wx
theorem ensF_slice (g : Nat → Nat) (m k i : Nat) : ∃ p n c, ensF g m k i = .slice p n c := by
  unfold ensF
  by_cases h : i < k
  · exact ⟨_, _, _, if_pos h⟩
  · exact ⟨_, _, _, if_neg h⟩
theorem EnI.step {w wx wy : World} {k n m : Nat} {g : Nat → Nat} {s : Plain.Stt} (h : EnI w wx k n m g s) (b : Below wx.heap.size wx wy) {G : Nat} (hr : ∃ f, RowL wy G m (s k) f) :
    EnI w (wy.setCell ⟨w.heap.size, k, none⟩ (.slice (some ⟨G, 0, none⟩) m m)) (k + 1) n m (fun i => if i = k then G else g i) s := by
  have row := h.row.of_block (b.block _ h.row.lt)
  have hne : ∀ {b' f}, wy.rowIs b' 39 m f → b' ≠ w.heap.size := fun {b' f} hb e => by
    subst e
    obtain ⟨c, h1, _⟩ := hb
    obtain ⟨c', h2, _⟩ := row
    rw [h1] at h2
    simp at h2
  refine ⟨(row.set k (.slice (some ⟨G, 0, none⟩) m m)).congr fun j hj => ?_, fun i hi => ?_, (h.be.trans (b.mono h.be.size)).setCell (p := ⟨w.heap.size, k, none⟩) (Nat.le_refl _) _⟩
  · unfold ensF
    dsimp only
    by_cases e : j = k
    · rw [if_pos e, if_pos (by omega), if_pos e]
    · rw [if_neg e]
      by_cases l : j < k
      · rw [if_pos l, if_pos (by omega), if_neg e]
      · rw [if_neg l, if_neg (by omega)]
  · by_cases e : i = k
    · rw [if_pos e, e]
      obtain ⟨f, hf⟩ := hr
      exact ⟨f, hf.setO row (fun j _ => ensF_slice g m k j) (hne hf.row) _ _⟩
    · rw [if_neg e]
      obtain ⟨f, hf⟩ := h.rs i (by omega)
      exact ⟨f, (hf.grow b).setO row (fun j _ => ensF_slice g m k j) (hne (hf.grow b).row) _ _⟩
theorem EnI.stores {w wx : World} {n m : Nat} {g : Nat → Nat} {s : Plain.Stt} (h : EnI w wx n n m g s) : Stores wx (some ⟨w.heap.size, 0, none⟩) n m s := fun _ => by
  refine ⟨w.heap.size, 0, rfl, h.row.lt, fun i hi => ⟨some ⟨g i, 0, none⟩, m, ?_, fun m0 => ?_⟩⟩
  · rw [Nat.zero_add, h.row.cell hi]
    unfold ensF
    rw [if_pos hi]
  · obtain ⟨f, hf⟩ := h.rs i hi
    exact ⟨g i, 0, rfl, hf.row.lt, fun j hj => ⟨f j, by rw [Nat.zero_add]; exact hf.row.cell hj, (hf.sg j hj).1, (hf.sg j hj).2⟩⟩
theorem Try.infoSE : (Try.prog.info? 40).map (fun i => (i.zero, i.size, i.bytes)) = some (some (.slice none 0 0), 1, 24) := by kernel_rfl
theorem Try.infoErr : (Try.prog.info? 26).map (fun i => (i.zero, i.size, i.bytes)) = some (some (.int .i64 0), 1, 8) := by kernel_rfl
theorem Try.infoSto : (Try.prog.info? 57).map (fun i => (i.zero, i.size, i.bytes)) = some (some (.agg #[.int .i64 0, .slice none 0 0, .slice none 0 0]), 3, 56) := by kernel_rfl

set_option maxHeartbeats 4000000 in
set_option maxRecDepth 100000 in
/-- The circle's entries. -/
theorem circleEntries_c (B C : Nat) (H : Nat → Nat) (w0 : World) (lp : Option Addr) (lc n : Nat) (L : List Int) (s : Plain.Stt) (T : Int) (hn : n ≤ 8) (hL4 : L.length ≤ 4) (hG : ∀ i, Plain.Sok T (s i)) (w : World) (hBw : B ≤ w.heap.size) (I : CcI B C H w0 w lp lc n L s) :
    Calls Try.prog 25 #[.slice (some ⟨C, 0, none⟩) n n] w fun e w' => ∃ q, e = .returned (.slice (some ⟨q, 0, none⟩) n n) ∧ Stores w' (some ⟨q, 0, none⟩) n L.length s ∧ Below w.heap.size w w' := by
  have hmk := run_make_row' (P := Try.prog) 25 40 (.slice none 0 0) 24 Try.underlying25 Try.infoSE rfl .i64 .i64 n (by omega) (by omega)
  obtain ⟨WA, hWA⟩ : ∃ WA, WA = w.alloc (.cells (madeCells #[.slice none 0 0] n) 40) := ⟨_, rfl⟩
  have E0 := hid (show EnI w WA 0 n L.length (fun _ => 0) s from ⟨by rw [hWA]; exact (made_rowE w _ n).congr fun i _ => by unfold ensF; rw [if_neg (by omega)], fun i hi => absurd hi (by omega), by rw [hWA]; exact (Below.refl _ _).alloc (Nat.le_refl _) _⟩)
  have HI := hid I
  have HG := hid hG
  clear I hG
  go_enter Try.func25, Try.ntmps25
  go_wp2
  rw [← hWA]
  clear hWA hmk
  go_loopg [4, 10] n (fun gg _ s10 wx => ∃ k : Nat, k ≤ n ∧ n - k ≤ gg ∧ s10 = .int .i64 k ∧ Aside (∃ g, EnI w wx k n L.length g s))
  case atStart => exact ⟨0, Nat.zero_le _, by omega, rfl, (show Aside _ from ⟨_, E0.out⟩)⟩
  case round =>
    obtain ⟨k, hk, hg, rfl, AR⟩ := hrel
    clear E0
    by_cases hlt : k < n
    · have hltz : (k : Int) < (n : Int) := by omega
      obtain ⟨g, hE⟩ := AR.out
      have KE := entries_c C (k * 3) _ (H k) k lp lc L (s k) T hL4 (HG.out k) wr ((HI.out.grow hBw hE.be).sto hlt)
      have HE := hid hE
      clear hE AR
      generalize hm : L.length = m at *
      go_wp2_with fail
      refine KE.mono ?_
      rintro e w2 ⟨G, rfl, hrow, hGe, b2⟩
      have NX := hid (HE.out.step b2 hrow)
      have row2 := HE.out.row.of_block (b2.block _ HE.out.row.lt)
      have yk := row2.cell (i := k) hlt
      have zk := row2.frozen k
      clear KE hrow b2 row2 HE
      go_wp2
      go_roundg (n - (k + 1))
      case measure => omega
      case rel => exact ⟨k + 1, by omega, by omega, by go_num, (show Aside _ from ⟨_, NX.out⟩)⟩
    · have hltz : ¬ (k : Int) < (n : Int) := by omega
      have ek : k = n := by omega
      subst ek
      have FI := hid (show Stores wr (some ⟨w.heap.size, 0, none⟩) k L.length s ∧ Below w.heap.size w wr by
        obtain ⟨g, hE⟩ := AR.out
        exact ⟨hE.stores, hE.be⟩)
      go_wp2
      go_ret
      exact ⟨_, rfl, FI.out.1, FI.out.2⟩
end Go.Proofs.Ytiolkeghgodggak

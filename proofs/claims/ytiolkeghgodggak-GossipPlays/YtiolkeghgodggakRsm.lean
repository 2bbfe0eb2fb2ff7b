/-
  The document's shelves, in memory.
-/
import Derived.Test.YtiolkeghgodggakRsp
import Derived.Test.YtiolkeghgodggakGz
import Derived.Test.YtiolkeghgodggakRng
namespace Go.Proofs.Ytiolkeghgodggak
open Go.RowKit Go.Shelf Go.Sort

/-- The shelves: their box S, the outer rows HO and IO, the rows of each branch. -/
structure ShI (B S HO IO : Nat) (hb ib : Nat → Nat) (w0 w : World) (lp : Option Addr) (lc n m hc ic : Nat) (f : Plain.Shv) : Prop where
  bx : w.rowIs S 78 3 (fun j => if j = 0 then .slice lp m lc else if j = 1 then .slice (some ⟨HO, 0, none⟩) n hc else .slice (some ⟨IO, 0, none⟩) n ic)
  ho : ∃ M g, w.rowIs HO 79 M g ∧ n ≤ M ∧ ∀ i, i < n → g i = .slice (some ⟨hb i, 0, none⟩) m m
  io : ∃ M g, w.rowIs IO 80 M g ∧ n ≤ M ∧ ∀ i, i < n → g i = .slice (some ⟨ib i, 0, none⟩) m m
  hr : ∀ i, i < n → ∃ F, w.rowIs (hb i) 84 (m * 40) F ∧ ∀ j k e q, j < m → k < 8 → q < 5 → f i j k = some e → F (j * 40 + k * 5 + q) = enF e q
  ir : ∀ i, i < n → ∃ G, w.rowIs (ib i) 83 (m * 8) G ∧ ∀ j k, j < m → k < 8 → G (j * 8 + k) = .bool (f i j k).isSome
  hd : ∀ i j, i < n → j < n → hb i = hb j → i = j
  di : ∀ i j, i < n → j < n → ib i = ib j → i = j
  hg : ∀ i, i < n → B ≤ hb i
  ig : ∀ i, i < n → B ≤ ib i
  be : Below B w0 w
theorem rows_ne {w : World} {a b T U k l : Nat} {f g : Nat → Value} (h : w.rowIs a T k f) (h' : w.rowIs b U l g) (hT : T ≠ U) : a ≠ b := by
  rintro rfl
  obtain ⟨c, h1, _⟩ := h
  obtain ⟨c', h2, _⟩ := h'
  rw [h1] at h2
  simp at h2
  exact hT h2.2
namespace ShI
variable {B S HO IO : Nat} {hb ib : Nat → Nat} {w0 w w' : World} {lp : Option Addr} {lc n m hc ic : Nat} {f : Plain.Shv}
theorem grow (h : ShI B S HO IO hb ib w0 w lp lc n m hc ic f) (hB : B ≤ w.heap.size) (b : Below w.heap.size w w') : ShI B S HO IO hb ib w0 w' lp lc n m hc ic f :=
  ⟨h.bx.of_block (b.block _ h.bx.lt), by obtain ⟨M, g, r, x⟩ := h.ho; exact ⟨M, g, r.of_block (b.block _ r.lt), x⟩, by obtain ⟨M, g, r, x⟩ := h.io; exact ⟨M, g, r.of_block (b.block _ r.lt), x⟩,
    fun i hi => by obtain ⟨F, r, x⟩ := h.hr i hi; exact ⟨F, r.of_block (b.block _ r.lt), x⟩, fun i hi => by obtain ⟨F, r, x⟩ := h.ir i hi; exact ⟨F, r.of_block (b.block _ r.lt), x⟩, h.hd, h.di, h.hg, h.ig, h.be.trans (b.mono hB)⟩
theorem cell0 (h : ShI B S HO IO hb ib w0 w lp lc n m hc ic f) : w.cell? ⟨S, 0, none⟩ = some (.slice lp m lc) := h.bx.cell (i := 0) (by omega)
theorem cell1 (h : ShI B S HO IO hb ib w0 w lp lc n m hc ic f) : w.cell? ⟨S, 1, none⟩ = some (.slice (some ⟨HO, 0, none⟩) n hc) := h.bx.cell (i := 1) (by omega)
theorem cell2 (h : ShI B S HO IO hb ib w0 w lp lc n m hc ic f) : w.cell? ⟨S, 2, none⟩ = some (.slice (some ⟨IO, 0, none⟩) n ic) := h.bx.cell (i := 2) (by omega)
theorem cellH (h : ShI B S HO IO hb ib w0 w lp lc n m hc ic f) {i : Nat} (hi : i < n) : w.cell? ⟨HO, i, none⟩ = some (.slice (some ⟨hb i, 0, none⟩) m m) := by
  obtain ⟨M, g, r, hM, x⟩ := h.ho
  rw [r.cell (i := i) (by omega), x i hi]
theorem cellI (h : ShI B S HO IO hb ib w0 w lp lc n m hc ic f) {i : Nat} (hi : i < n) : w.cell? ⟨IO, i, none⟩ = some (.slice (some ⟨ib i, 0, none⟩) m m) := by
  obtain ⟨M, g, r, hM, x⟩ := h.io
  rw [r.cell (i := i) (by omega), x i hi]
theorem isAt (h : ShI B S HO IO hb ib w0 w lp lc n m hc ic f) {i j k : Nat} (hi : i < n) (hj : j < m) (hk : k < 8) : w.cell? ⟨ib i, j * 8 + k, none⟩ = some (.bool (f i j k).isSome) ∧ w.frozen? ⟨ib i, j * 8 + k, none⟩ = false := by
  obtain ⟨G, r, x⟩ := h.ir i hi
  exact ⟨by rw [r.cell (i := j * 8 + k) (by omega), x j k hj hk], r.frozen _⟩
theorem enAt (h : ShI B S HO IO hb ib w0 w lp lc n m hc ic f) {i j k : Nat} (hi : i < n) (hj : j < m) (hk : k < 8) {e : Plain.En} (he : f i j k = some e) : CellN w (hb i) (j * 40 + k * 5) e := by
  obtain ⟨F, r, x⟩ := h.hr i hi
  have c : ∀ q, q < 5 → w.cell? ⟨hb i, j * 40 + k * 5 + q, none⟩ = some (enF e q) := fun q hq => by rw [r.cell (i := j * 40 + k * 5 + q) (by omega), x j k e q hj hk hq he]
  exact ⟨c 0 (by omega), c 1 (by omega), c 2 (by omega), c 3 (by omega), c 4 (by omega)⟩
/-- Some cell is there, whatever it holds. -/
theorem some (h : ShI B S HO IO hb ib w0 w lp lc n m hc ic f) {i x : Nat} (hi : i < n) (hx : x < m * 40) : ∃ v, w.cell? ⟨hb i, x, none⟩ = Option.some v ∧ w.frozen? ⟨hb i, x, none⟩ = false := by
  obtain ⟨F, r, _⟩ := h.hr i hi
  exact ⟨_, r.cell hx, r.frozen _⟩
/-- An entry is laid into its place. -/
theorem put (h : ShI B S HO IO hb ib w0 w lp lc n m hc ic f) {i j k : Nat} (hi : i < n) (hj : j < m) (hk : k < 8) (e : Plain.En) :
    ShI B S HO IO hb ib w0 ((setE w (hb i) (j * 40 + k * 5) e).setCell ⟨ib i, j * 8 + k, none⟩ (.bool true)) lp lc n m hc ic (f.upd i j k e) := by
  obtain ⟨Fi, ri, xi⟩ := h.hr i hi
  obtain ⟨Gi, qi, yi⟩ := h.ir i hi
  have keep : ∀ {b T M g}, w.rowIs b T M g → b ≠ hb i → b ≠ ib i → ((setE w (hb i) (j * 40 + k * 5) e).setCell ⟨ib i, j * 8 + k, none⟩ (.bool true)).rowIs b T M g := fun {b T M g} r n1 n2 => by
    refine r.of_block ?_
    rw [Below.heap_setCell _ ⟨ib i, j * 8 + k, none⟩ _ b n2]
    unfold setE
    rw [Below.heap_setCell _ ⟨hb i, j * 40 + k * 5 + 4, none⟩ _ b n1, Below.heap_setCell _ ⟨hb i, j * 40 + k * 5 + 3, none⟩ _ b n1, Below.heap_setCell _ ⟨hb i, j * 40 + k * 5 + 2, none⟩ _ b n1, Below.heap_setCell _ ⟨hb i, j * 40 + k * 5 + 1, none⟩ _ b n1, Below.heap_setCell _ ⟨hb i, j * 40 + k * 5, none⟩ _ b n1]
  have hni : hb i ≠ ib i := rows_ne ri qi (by decide)
  refine ⟨keep h.bx (rows_ne h.bx ri (by decide)) (rows_ne h.bx qi (by decide)), ?_, ?_, fun a ha => ?_, fun a ha => ?_, h.hd, h.di, h.hg, h.ig, (below_setE h.be (h.hg i hi) e).setCell (p := ⟨ib i, j * 8 + k, none⟩) (h.ig i hi) _⟩
  · obtain ⟨M, g, r, x⟩ := h.ho
    exact ⟨M, g, keep r (rows_ne r ri (by decide)) (rows_ne r qi (by decide)), x⟩
  · obtain ⟨M, g, r, x⟩ := h.io
    exact ⟨M, g, keep r (rows_ne r ri (by decide)) (rows_ne r qi (by decide)), x⟩
  · by_cases hai : a = i
    · subst hai
      have r5 := ((((ri.set (j * 40 + k * 5) (.int .i64 e.key)).set (j * 40 + k * 5 + 1) (.int .i64 e.value)).set (j * 40 + k * 5 + 2) (.int .i64 e.time)).set (j * 40 + k * 5 + 3) (.int .i64 e.who)).set (j * 40 + k * 5 + 4) (.bool e.gone)
      refine ⟨_, r5.of_block (Below.heap_setCell _ ⟨ib a, j * 8 + k, none⟩ _ (hb a) hni), fun b c x q hb' hc' hq hx => ?_⟩
      unfold Plain.Shv.upd at hx
      by_cases hh : b = j ∧ c = k
      · obtain ⟨rfl, rfl⟩ := hh
        rw [if_pos ⟨rfl, rfl, rfl⟩] at hx
        injection hx with hx
        subst hx
        have : q = 0 ∨ q = 1 ∨ q = 2 ∨ q = 3 ∨ q = 4 := by omega
        rcases this with rfl | rfl | rfl | rfl | rfl
        · rw [if_neg (by omega), if_neg (by omega), if_neg (by omega), if_neg (by omega), if_pos (by omega)]; rfl
        · rw [if_neg (by omega), if_neg (by omega), if_neg (by omega), if_pos (by omega)]; rfl
        · rw [if_neg (by omega), if_neg (by omega), if_pos (by omega)]; rfl
        · rw [if_neg (by omega), if_pos (by omega)]; rfl
        · rw [if_pos (by omega)]; rfl
      · rw [if_neg (fun y => hh ⟨y.2.1, y.2.2⟩)] at hx
        have hne : b ≠ j ∨ c ≠ k := by
          by_cases e1 : b = j
          · exact .inr (fun e2 => hh ⟨e1, e2⟩)
          · exact .inl e1
        rw [if_neg (by omega), if_neg (by omega), if_neg (by omega), if_neg (by omega), if_neg (by omega)]
        exact xi b c x q hb' hc' hq hx
    · obtain ⟨F, r, x⟩ := h.hr a ha
      refine ⟨F, keep r (fun e1 => hai (h.hd a i ha hi e1)) (rows_ne r qi (by decide)), fun b c y q hb' hc' hq hy => ?_⟩
      unfold Plain.Shv.upd at hy
      rw [if_neg (fun z => hai z.1)] at hy
      exact x b c y q hb' hc' hq hy
  · by_cases hai : a = i
    · subst hai
      have q0 : (setE w (hb a) (j * 40 + k * 5) e).rowIs (ib a) 83 (m * 8) Gi := by
        refine qi.of_block ?_
        unfold setE
        rw [Below.heap_setCell _ ⟨hb a, j * 40 + k * 5 + 4, none⟩ _ _ hni.symm, Below.heap_setCell _ ⟨hb a, j * 40 + k * 5 + 3, none⟩ _ _ hni.symm, Below.heap_setCell _ ⟨hb a, j * 40 + k * 5 + 2, none⟩ _ _ hni.symm, Below.heap_setCell _ ⟨hb a, j * 40 + k * 5 + 1, none⟩ _ _ hni.symm, Below.heap_setCell _ ⟨hb a, j * 40 + k * 5, none⟩ _ _ hni.symm]
      refine ⟨_, q0.set (j * 8 + k) (.bool true), fun b c hb' hc' => ?_⟩
      unfold Plain.Shv.upd
      by_cases hh : b = j ∧ c = k
      · rw [if_pos (by rw [hh.1, hh.2]), if_pos ⟨rfl, hh.1, hh.2⟩]; rfl
      · have hne : b ≠ j ∨ c ≠ k := by
          by_cases e1 : b = j
          · exact .inr (fun e2 => hh ⟨e1, e2⟩)
          · exact .inl e1
        rw [if_neg (by omega), if_neg (fun y => hh ⟨y.2.1, y.2.2⟩)]
        exact yi b c hb' hc'
    · obtain ⟨G, r, x⟩ := h.ir a ha
      refine ⟨G, keep r (fun e1 => rows_ne ri r (by decide) e1.symm) (fun e1 => hai (h.di a i ha hi e1)), fun b c hb' hc' => ?_⟩
      unfold Plain.Shv.upd
      rw [if_neg (fun z => hai z.1)]
      exact x b c hb' hc'
end ShI
/-- The rows that turn. -/
def isS (hb ib : Nat → Nat) (n k : Nat) : Prop := ∃ i, i < n ∧ (k = hb i ∨ k = ib i)
theorem put_un {hb ib : Nat → Nat} {n i : Nat} (hi : i < n) (w : World) (x y : Nat) (e : Plain.En) (v : Value) : Un (isS hb ib n) w ((setE w (hb i) x e).setCell ⟨ib i, y, none⟩ v) := by
  have hH : isS hb ib n (hb i) := ⟨i, hi, .inl rfl⟩
  have hI : isS hb ib n (ib i) := ⟨i, hi, .inr rfl⟩
  unfold setE
  exact (((((Un.set hH _ _).trans (Un.set hH _ _)).trans (Un.set hH _ _)).trans (Un.set hH _ _)).trans (Un.set hH _ _)).trans (Un.set hI _ _)
end Go.Proofs.Ytiolkeghgodggak

/-
  The document's NewShelves.
-/
import Derived.Test.YtiolkeghgodggakRsm
import Derived.Laws.MakeOwn
namespace Go.Proofs.Ytiolkeghgodggak
open Go.RowKit Go.Shelf Go.Sort

theorem Try.infoRH : (Try.prog.info? 79).map (fun i => (i.zero, i.size, i.bytes)) = some (some (.slice none 0 0), 1, 24) := by kernel_rfl
theorem Try.infoRI : (Try.prog.info? 80).map (fun i => (i.zero, i.size, i.bytes)) = some (some (.slice none 0 0), 1, 24) := by kernel_rfl
theorem Try.infoAE : (Try.prog.info? 84).map (fun i => (i.zero.isSome, i.size, i.bytes)) = some (true, 40, 320) := by kernel_rfl
theorem Try.infoAB : (Try.prog.info? 83).map (fun i => (i.zero, i.size, i.bytes)) = some (some (.agg #[.bool false, .bool false, .bool false, .bool false, .bool false, .bool false, .bool false, .bool false]), 8, 8) := by kernel_rfl

/-- append of one value onto a row of its own. -/
theorem app_val {V : World} {t e B n g by' : Nat} {v x z : Value} {xs : List Value} (ht : Try.prog.underlying t = some (.slice e)) (hinfo : (Try.prog.info? e).map (fun i => (i.zero, i.size, i.bytes)) = some (some z, 1, by')) (hz : z.cells.size = 1) (hx : x.oneCell' = true) (hy : by' ≤ 1000)
    (hown : V.ownsRow B e 1 v n xs) (hb : n ≤ 1000) (hB : B ≤ V.heap.size) (hc : V.cell? ⟨g, 0, none⟩ = some x) :
    ∃ p c U, (Builtin.append_ #[t, t] t #[v, .slice (some ⟨g, 0, none⟩) 1 1]).run Try.prog V = .ok (.slice p (n + 1) c) U ∧ U.ownsRow B e 1 (.slice p (n + 1) c) (n + 1) (xs ++ [x]) ∧ V.grownBy U v.ownBlock ∧
      ((Value.slice p (n + 1) c).ownBlock = v.ownBlock ∨ (Value.slice p (n + 1) c).ownBlock = some V.heap.size) := by
  obtain ⟨j0, ji, jz0, jz1, jz2⟩ := info_parts hinfo
  have hbb : (n + 1) * by' ≤ 140737488355328 := Nat.le_trans (Nat.mul_le_mul (show n + 1 ≤ 1001 by omega) hy) (by decide)
  obtain ⟨v', U, h1, h2, h3, _, h5⟩ := run_append_own_at (P := Try.prog) V B t t e j0 z 1 by' ht ji jz0 jz1 jz2 hz (by decide) v n xs hown ⟨g, 0, none⟩ 1 1 [x]
    rfl (fun j u hu => by
      match j, hu with
      | 0, hu =>
        simp at hu; subst hu
        rw [show (⟨g, 0, none⟩ : Addr).add 0 = ⟨g, 0, none⟩ by simp [Addr.add]]; exact hc) (fun u hu => by simp at hu; subst hu; exact hx) (by unfold maxLen; omega) hbb hB
  rcases h2.2 with ⟨_, h0⟩ | ⟨g', cap, cur, rfl, _⟩
  · omega
  · exact ⟨_, _, U, h1, h2, h3, h5⟩

/-- The rows, as slices. -/
def rowsV (m : Nat) (h : Nat → Nat) (k : Nat) : List Value := (List.range k).map fun i => .slice (some ⟨h i, 0, none⟩) m m
theorem rowsV_len (m : Nat) (h : Nat → Nat) (k : Nat) : (rowsV m h k).length = k := by simp [rowsV]
theorem rowsV_snoc (m : Nat) (h : Nat → Nat) (k g : Nat) : rowsV m h k ++ [.slice (some ⟨g, 0, none⟩) m m] = rowsV m (fun i => if i = k then g else h i) (k + 1) := by
  unfold rowsV
  rw [List.range_succ, List.map_append]
  congr 1
  · refine List.map_congr_left fun i hi => ?_
    have := List.mem_range.1 hi
    dsimp only
    rw [if_neg (by omega)]
  · simp
/-- The shelves, as far as they are made: a rows of entries, b of bools. -/
structure NsI (B S : Nat) (vh vi : Value) (hb ib : Nat → Nat) (w0 w : World) (lp : Option Addr) (lc m a b : Nat) : Prop where
  bx : w.rowIs S 78 3 (fun j => if j = 0 then .slice lp m lc else if j = 1 then vh else vi)
  ho : w.ownsRow B 79 1 vh a (rowsV m hb a)
  io : w.ownsRow B 80 1 vi b (rowsV m ib b)
  hr : ∀ i, i < a → ∃ F, w.rowIs (hb i) 84 (m * 40) F
  ir : ∀ i, i < b → w.rowIs (ib i) 83 (m * 8) (fun _ => .bool false)
  hd : ∀ i j, i < a → j < a → hb i = hb j → i = j
  di : ∀ i j, i < b → j < b → ib i = ib j → i = j
  hg : ∀ i, i < a → B ≤ hb i
  ig : ∀ i, i < b → B ≤ ib i
  sg : B ≤ S
  be : Below B w0 w
namespace NsI
variable {B S : Nat} {vh vi : Value} {hb ib : Nat → Nat} {w0 w w' : World} {lp : Option Addr} {lc m a b : Nat}
theorem grow (h : NsI B S vh vi hb ib w0 w lp lc m a b) (hB : B ≤ w.heap.size) (g : Below w.heap.size w w') : NsI B S vh vi hb ib w0 w' lp lc m a b :=
  ⟨h.bx.of_block (g.block _ h.bx.lt), owns_grow h.ho g, owns_grow h.io g, fun i hi => by obtain ⟨F, r⟩ := h.hr i hi; exact ⟨F, r.of_block (g.block _ r.lt)⟩, fun i hi => (h.ir i hi).of_block (g.block _ (h.ir i hi).lt), h.hd, h.di, h.hg, h.ig, h.sg, h.be.trans (g.mono hB)⟩
/-- The box stands at another value of its first slice. -/
theorem stepH (h : NsI B S vh vi hb ib w0 w lp lc m a b) (hB : B ≤ w.heap.size) (ha : a ≤ 1000) (cur : Array Value) (hs : cur.size = m * 40) :
    ∃ p c U, (Builtin.append_ #[75, 75] 75 #[vh, .slice (some ⟨w.heap.size + 1, 0, none⟩) 1 1]).run Try.prog ((w.alloc (.cells cur 84)).alloc (.cells #[.slice (some ⟨w.heap.size, 0, none⟩) m m] 79)).drew = .ok (.slice p (a + 1) c) U ∧
      U.rowIs S 78 3 (fun j => if j = 0 then .slice lp m lc else if j = 1 then vh else vi) ∧
      NsI B S (.slice p (a + 1) c) vi (fun i => if i = a then w.heap.size else hb i) ib w0 (U.setCell ⟨S, 1, none⟩ (.slice p (a + 1) c)) lp lc m (a + 1) b := by
  obtain ⟨W1, hW1⟩ : ∃ W1, W1 = w.alloc (.cells cur 84) := ⟨_, rfl⟩
  have g1 : Below w.heap.size w W1 := by rw [hW1]; exact (Below.refl _ _).alloc (Nat.le_refl _) _
  have s1 : W1.heap.size = w.heap.size + 1 := by rw [hW1]; simp
  have r1 : ∃ F, W1.rowIs w.heap.size 84 (m * 40) F := ⟨fun j => cur.getD j (.bool false), cur, by rw [hW1]; exact Deep.blk_alloc_new _ _, hs, fun i hi => by simp [hs, hi]⟩
  obtain ⟨V, hV⟩ : ∃ V, V = (W1.alloc (.cells #[.slice (some ⟨w.heap.size, 0, none⟩) m m] 79)).drew := ⟨_, rfl⟩
  have g2 : Below W1.heap.size W1 V := by rw [hV]; exact ((Below.refl _ _).alloc (Nat.le_refl _) _).drew
  have c2 : V.cell? ⟨w.heap.size + 1, 0, none⟩ = some (.slice (some ⟨w.heap.size, 0, none⟩) m m) := by
    rw [hV, ← s1]
    show (W1.alloc _).cell? _ = _
    rw [World.cell?_alloc_at _ _ _ _ rfl]; rfl
  rw [← hW1, ← hV]
  have gV : Below w.heap.size w V := g1.trans (g2.mono g1.size)
  have hBV : B ≤ V.heap.size := Nat.le_trans hB gV.size
  have hV := h.grow hB gV
  obtain ⟨p, c, U, h1, h2, h3, h4⟩ := app_val Try.underlying75 Try.infoRH rfl rfl (by decide) hV.ho ha hBV c2
  rw [rowsV_snoc] at h2
  -- what is not the row of slices stays
  have keep : ∀ {q T k F}, V.rowIs q T k F → T ≠ 79 → U.rowIs q T k F := fun {q T k F} r hT => grow_bx r hV.ho hT h3
  have keepO : ∀ {v' n' xs'}, V.ownsRow B 80 1 v' n' xs' → U.ownsRow B 80 1 v' n' xs' := fun {v' n' xs'} o => owns_block o fun q e => h3.block q (o.lt q e).2 (fun e2 => owns_apart o hV.ho (by decide) e e2.symm)
  have hSU := keep hV.bx (by decide)
  have set' : ∀ {q T k F}, U.rowIs q T k F → T ≠ 78 → (U.setCell ⟨S, 1, none⟩ (.slice p (a + 1) c)).rowIs q T k F := fun {q T k F} r hT => r.of_block (Below.heap_setCell U ⟨S, 1, none⟩ _ q (rows_ne r hSU hT))
  have setO : ∀ {e s v' n' xs'}, U.ownsRow B e s v' n' xs' → e ≠ 78 → (U.setCell ⟨S, 1, none⟩ (.slice p (a + 1) c)).ownsRow B e s v' n' xs' := fun {e s v' n' xs'} o hT => owns_block o fun q eq => Below.heap_setCell U ⟨S, 1, none⟩ _ q (fun e2 => row_owns_ne hSU o (fun e3 => hT e3.symm) (by rw [← show q = S from e2]; exact eq))
  refine ⟨p, c, U, h1, hSU, (hSU.set 1 (.slice p (a + 1) c)).congr fun j hj => ?_, setO h2 (by decide), setO (keepO hV.io) (by decide), fun i hi => ?_, fun i hi => set' (keep (hV.ir i hi) (by decide)) (by decide), fun i j hi hj e => ?_, hV.di, fun i hi => ?_, hV.ig, hV.sg, ?_⟩
  · have : j = 0 ∨ j = 1 ∨ j = 2 := by omega
    rcases this with rfl | rfl | rfl <;> rfl
  · by_cases e : i = a
    · rw [if_pos e]
      obtain ⟨F, r⟩ := r1
      exact ⟨F, set' (keep (r.of_block (g2.block _ r.lt)) (by decide)) (by decide)⟩
    · rw [if_neg e]
      obtain ⟨F, r⟩ := hV.hr i (by omega)
      exact ⟨F, set' (keep r (by decide)) (by decide)⟩
  · have lt' : ∀ i, i < a → hb i < w.heap.size := fun i hi => by obtain ⟨F, r⟩ := h.hr i hi; exact r.lt
    by_cases ei : i = a
    · by_cases ej : j = a
      · omega
      · rw [if_pos ei, if_neg ej] at e
        have := lt' j (by omega)
        omega
    · by_cases ej : j = a
      · rw [if_neg ei, if_pos ej] at e
        have := lt' i (by omega)
        omega
      · rw [if_neg ei, if_neg ej] at e
        exact h.hd i j (by omega) (by omega) e
  · by_cases e : i = a
    · rw [if_pos e]; exact hB
    · rw [if_neg e]; exact h.hg i (by omega)
  · exact ((hV.be.grown h3 hBV (fun j hj => (hV.ho.lt j hj).1))).setCell (p := ⟨S, 1, none⟩) h.sg _
theorem stepI (h : NsI B S vh vi hb ib w0 w lp lc m a b) (hB : B ≤ w.heap.size) (ha : b ≤ 1000) (cur : Array Value) (hs : cur.size = m * 8) (hf : ∀ i, i < m * 8 → cur[i]? = some (.bool false)) :
    ∃ p c U, (Builtin.append_ #[76, 76] 76 #[vi, .slice (some ⟨w.heap.size + 1, 0, none⟩) 1 1]).run Try.prog ((w.alloc (.cells cur 83)).alloc (.cells #[.slice (some ⟨w.heap.size, 0, none⟩) m m] 80)).drew = .ok (.slice p (b + 1) c) U ∧
      U.rowIs S 78 3 (fun j => if j = 0 then .slice lp m lc else if j = 1 then vh else vi) ∧
      NsI B S vh (.slice p (b + 1) c) hb (fun i => if i = b then w.heap.size else ib i) w0 (U.setCell ⟨S, 2, none⟩ (.slice p (b + 1) c)) lp lc m a (b + 1) := by
  obtain ⟨W1, hW1⟩ : ∃ W1, W1 = w.alloc (.cells cur 83) := ⟨_, rfl⟩
  have g1 : Below w.heap.size w W1 := by rw [hW1]; exact (Below.refl _ _).alloc (Nat.le_refl _) _
  have s1 : W1.heap.size = w.heap.size + 1 := by rw [hW1]; simp
  have r1 : W1.rowIs w.heap.size 83 (m * 8) (fun _ => .bool false) := ⟨cur, by rw [hW1]; exact Deep.blk_alloc_new _ _, hs, hf⟩
  obtain ⟨V, hV⟩ : ∃ V, V = (W1.alloc (.cells #[.slice (some ⟨w.heap.size, 0, none⟩) m m] 80)).drew := ⟨_, rfl⟩
  have g2 : Below W1.heap.size W1 V := by rw [hV]; exact ((Below.refl _ _).alloc (Nat.le_refl _) _).drew
  have c2 : V.cell? ⟨w.heap.size + 1, 0, none⟩ = some (.slice (some ⟨w.heap.size, 0, none⟩) m m) := by
    rw [hV, ← s1]
    show (W1.alloc _).cell? _ = _
    rw [World.cell?_alloc_at _ _ _ _ rfl]; rfl
  rw [← hW1, ← hV]
  have gV : Below w.heap.size w V := g1.trans (g2.mono g1.size)
  have hBV : B ≤ V.heap.size := Nat.le_trans hB gV.size
  have hV := h.grow hB gV
  obtain ⟨p, c, U, h1, h2, h3, h4⟩ := app_val Try.underlying76 Try.infoRI rfl rfl (by decide) hV.io ha hBV c2
  rw [rowsV_snoc] at h2
  have keep : ∀ {q T k F}, V.rowIs q T k F → T ≠ 80 → U.rowIs q T k F := fun {q T k F} r hT => grow_bx r hV.io hT h3
  have keepO : ∀ {v' n' xs'}, V.ownsRow B 79 1 v' n' xs' → U.ownsRow B 79 1 v' n' xs' := fun {v' n' xs'} o => owns_block o fun q e => h3.block q (o.lt q e).2 (fun e2 => owns_apart o hV.io (by decide) e e2.symm)
  have hSU := keep hV.bx (by decide)
  have set' : ∀ {q T k F}, U.rowIs q T k F → T ≠ 78 → (U.setCell ⟨S, 2, none⟩ (.slice p (b + 1) c)).rowIs q T k F := fun {q T k F} r hT => r.of_block (Below.heap_setCell U ⟨S, 2, none⟩ _ q (rows_ne r hSU hT))
  have setO : ∀ {e s v' n' xs'}, U.ownsRow B e s v' n' xs' → e ≠ 78 → (U.setCell ⟨S, 2, none⟩ (.slice p (b + 1) c)).ownsRow B e s v' n' xs' := fun {e s v' n' xs'} o hT => owns_block o fun q eq => Below.heap_setCell U ⟨S, 2, none⟩ _ q (fun e2 => row_owns_ne hSU o (fun e3 => hT e3.symm) (by rw [← show q = S from e2]; exact eq))
  refine ⟨p, c, U, h1, hSU, (hSU.set 2 (.slice p (b + 1) c)).congr fun j hj => ?_, setO (keepO hV.ho) (by decide), setO h2 (by decide), fun i hi => ?_, fun i hi => ?_, hV.hd, fun i j hi hj e => ?_, hV.hg, fun i hi => ?_, hV.sg, ?_⟩
  · have : j = 0 ∨ j = 1 ∨ j = 2 := by omega
    rcases this with rfl | rfl | rfl <;> rfl
  · obtain ⟨F, r⟩ := hV.hr i hi
    exact ⟨F, set' (keep r (by decide)) (by decide)⟩
  · by_cases e : i = b
    · rw [if_pos e]
      exact set' (keep (r1.of_block (g2.block _ r1.lt)) (by decide)) (by decide)
    · rw [if_neg e]
      exact set' (keep (hV.ir i (by omega)) (by decide)) (by decide)
  · have lt' : ∀ i, i < b → ib i < w.heap.size := fun i hi => (h.ir i hi).lt
    by_cases ei : i = b
    · by_cases ej : j = b
      · omega
      · rw [if_pos ei, if_neg ej] at e
        have := lt' j (by omega)
        omega
    · by_cases ej : j = b
      · rw [if_neg ei, if_pos ej] at e
        have := lt' i (by omega)
        omega
      · rw [if_neg ei, if_neg ej] at e
        exact h.di i j (by omega) (by omega) e
  · by_cases e : i = b
    · rw [if_pos e]; exact hB
    · rw [if_neg e]; exact h.ig i (by omega)
  · exact ((hV.be.grown h3 hBV (fun j hj => (hV.io.lt j hj).1))).setCell (p := ⟨S, 2, none⟩) h.sg _
/-- A row of its own, as a row. -/
theorem own_row {e n : Nat} {v : Value} {h : Nat → Nat} (o : w.ownsRow B e 1 v n (rowsV m h n)) (hn : 1 ≤ n) : ∃ g cap, v = .slice (some ⟨g, 0, none⟩) n cap ∧ ∃ M f, w.rowIs g e M f ∧ n ≤ M ∧ ∀ i, i < n → f i = .slice (some ⟨h i, 0, none⟩) m m := by
  rcases o.2 with ⟨_, h0⟩ | ⟨g, cap, cur, rfl, _, hg, hc, _, hs, ht⟩
  · omega
  · refine ⟨g, cap, rfl, cap, fun i => cur.getD i (.bool false), ⟨cur, hg, by omega, fun i hi => by rw [Array.getElem?_eq_getElem (by omega)]; simp [show i < cur.size by omega]⟩, hc, fun i hi => ?_⟩
    have e1 : (cur.toList.take (n * 1))[i]? = some (.slice (some ⟨h i, 0, none⟩) m m) := by rw [ht]; simp [rowsV, hi]
    rw [List.getElem?_take, if_pos (by omega), Array.getElem?_toList] at e1
    show cur.getD i _ = _
    rw [Array.getD_eq_getD_getElem?, e1]; rfl
theorem shelves {n : Nat} (h : NsI B S vh vi hb ib w0 w lp lc m n n) (hn : 1 ≤ n) : ∃ HO IO hc ic, ShI B S HO IO hb ib w0 w lp lc n m hc ic Plain.Shv.nil := by
  obtain ⟨HO, hc, rfl, h1⟩ := own_row h.ho hn
  obtain ⟨IO, ic, rfl, h2⟩ := own_row h.io hn
  exact ⟨HO, IO, hc, ic, h.bx, h1, h2, fun i hi => by obtain ⟨F, r⟩ := h.hr i hi; exact ⟨F, r, fun _ _ e _ _ _ _ hx => by cases hx⟩, fun i hi => ⟨_, h.ir i hi, fun _ _ _ _ => rfl⟩, h.hd, h.di, h.hg, h.ig, h.be⟩
end NsI
theorem make_H (m : Nat) (hm : m ≤ 4) : ∃ cur : Array Value, cur.size = m * 40 ∧ ∀ w : World, (Instr.makeSlice 79 (.int .i64 (m : Int)) (.int .i64 (m : Int))).run Try.prog w = .ok (.slice (some ⟨w.heap.size, 0, none⟩) m m) (w.alloc (.cells cur 84)) := by
  obtain ⟨i, hi, hzz⟩ := Option.map_eq_some_iff.1 Try.infoAE
  simp only [Prod.mk.injEq] at hzz
  obtain ⟨hz, hs, hb⟩ := hzz
  obtain ⟨z, hz⟩ := Option.isSome_iff_exists.1 hz
  refine ⟨madeCells z.cells (m * 40), size_madeCells _ _, fun w => ?_⟩
  have hr := run_make (P := Try.prog) w 79 84 i z Try.underlying79 hi hz .i64 .i64 m m (by omega) (Int.le_refl _) (by rw [hb]; omega) (by omega)
  simp only [Int.toNat_natCast, hs] at hr
  exact hr
theorem make_I (m : Nat) (hm : m ≤ 4) : ∃ cur : Array Value, cur.size = m * 8 ∧ (∀ i, i < m * 8 → cur[i]? = some (.bool false)) ∧ ∀ w : World, (Instr.makeSlice 80 (.int .i64 (m : Int)) (.int .i64 (m : Int))).run Try.prog w = .ok (.slice (some ⟨w.heap.size, 0, none⟩) m m) (w.alloc (.cells cur 83)) := by
  obtain ⟨i, hi, hzz⟩ := Option.map_eq_some_iff.1 Try.infoAB
  simp only [Prod.mk.injEq] at hzz
  obtain ⟨hz, hs, hb⟩ := hzz
  refine ⟨madeCells #[.bool false, .bool false, .bool false, .bool false, .bool false, .bool false, .bool false, .bool false] (m * 8), size_madeCells _ _, fun i hi => ?_, fun w => ?_⟩
  · have h8 : i % 8 = 0 ∨ i % 8 = 1 ∨ i % 8 = 2 ∨ i % 8 = 3 ∨ i % 8 = 4 ∨ i % 8 = 5 ∨ i % 8 = 6 ∨ i % 8 = 7 := by omega
    unfold madeCells
    rw [Array.getElem?_map, Array.getElem?_eq_getElem (by simpa using hi)]
    simp only [Array.getElem_range, Option.map_some, List.size_toArray, List.length_cons, List.length_nil]
    rcases h8 with h | h | h | h | h | h | h | h <;> rw [h] <;> rfl
  · have hr := run_make (P := Try.prog) w 80 83 i _ Try.underlying80 hi hz .i64 .i64 m m (by omega) (Int.le_refl _) (by rw [hb]; omega) (by omega)
    simp only [Int.toNat_natCast, hs] at hr
    exact hr
/-- New shelves, in memory. -/
def NewP (w : World) (lp : Option Addr) (lc n m : Nat) (e : Ending) (w' : World) : Prop :=
  ∃ S HO IO hb ib hc ic, e = .returned (.pointer (some ⟨S, 0, none⟩)) ∧ ShI w.heap.size S HO IO hb ib w w' lp lc n m hc ic Plain.Shv.nil

set_option maxHeartbeats 2000000 in
set_option maxRecDepth 100000 in
theorem newShelves_c (n : Nat) (hn1 : 1 ≤ n) (hn8 : n ≤ 8) (lp : Option Addr) (m lc : Nat) (hm : m ≤ 4) (w : World) :
    Calls Try.prog 26 #[.int .i64 (n : Int), .slice lp m lc] w fun e w' => NewP w lp lc n m e w' := by
  obtain ⟨cH, sH, mkH⟩ := make_H m hm
  obtain ⟨cI, sI, fI, mkI⟩ := make_I m hm
  have N0 := hid (show NsI w.heap.size w.heap.size (.slice none 0 0) (.slice none 0 0) (fun _ => 0) (fun _ => 0) w (w.alloc (.cells #[.slice lp m lc, .slice none 0 0, .slice none 0 0] 78)) lp lc m 0 0 by
    refine ⟨?_, World.ownsRow_nil _ _ _ _, World.ownsRow_nil _ _ _ _, fun i hi => absurd hi (by omega), fun i hi => absurd hi (by omega), fun i j hi => absurd hi (by omega), fun i j hi => absurd hi (by omega), fun i hi => absurd hi (by omega), fun i hi => absurd hi (by omega), Nat.le_refl _, (Below.refl _ _).alloc (Nat.le_refl _) _⟩
    refine World.rowIs_alloc _ _ 78 _ fun i hi => ?_
    have hi3 : i < 3 := hi
    have : i = 0 ∨ i = 1 ∨ i = 2 := by omega
    rcases this with rfl | rfl | rfl <;> rfl)
  have HSI := hid (And.intro sI fI)
  have HSH := hid sH
  clear sI fI sH
  obtain ⟨B, hB⟩ : ∃ B, B = w.heap.size := ⟨_, rfl⟩
  rw [← hB] at N0
  have HB0 := hid (show B ≤ (w.alloc (.cells #[.slice lp m lc, .slice none 0 0, .slice none 0 0] 78)).heap.size by rw [hB]; simp)
  go_enter Try.func26, Try.ntmps26
  go_wp2
  rw [← hB]
  have HBB := hid hB
  clear hB
  go_loopg [6] n (fun gg s6 wx => ∃ k : Nat, k ≤ n ∧ n - k ≤ gg ∧ s6 = .int .i64 k ∧ Aside (∃ vh vi hb ib, NsI B B vh vi hb ib w wx lp lc m k k) ∧ Aside (B ≤ wx.heap.size))
  case atStart => exact ⟨0, Nat.zero_le _, by omega, rfl, (show Aside _ from ⟨_, _, _, _, N0.out⟩), (show Aside _ from HB0.out)⟩
  case round =>
    obtain ⟨k, hk, hg, rfl, A, AB⟩ := hrel
    clear N0
    obtain ⟨vh, vi, hb, ib, hI⟩ := A.out
    have HI := hid hI
    have hBr := AB.out
    clear A AB hI
    by_cases hlt : k < n
    · have hltz : (k : Int) < (n : Int) := by omega
      obtain ⟨p1, c1, U1, run1, bx1, N1⟩ := HI.out.stepH hBr (by omega) cH HSH.out
      have x1 : wr.cell? ⟨B, 1, none⟩ = some vh := HI.out.bx.cell (i := 1) (by omega)
      have lB : B < wr.heap.size := HI.out.bx.lt
      have y1 : U1.cell? ⟨B, 1, none⟩ = some vh := bx1.cell (i := 1) (by omega)
      have f1 := bx1.frozen 1
      have l1 := bx1.lt
      have HN1 := hid N1
      clear N1 bx1 HI
      go_wp2
      go_region_law (refine step_appG _ _ 75 rfl 75 rfl vh (.slice (some ⟨wr.heap.size + 1, 0, none⟩) 1 1) (by simp [Act.eval]) (by simp [Act.eval]) run1 (by rfl) ?_)
      all_goals
        obtain ⟨W1, hW1⟩ : ∃ W1, W1 = U1.setCell ⟨B, 1, none⟩ (.slice p1 (k + 1) c1) := ⟨_, rfl⟩
        rw [← hW1] at HN1 ⊢
        have hB1 : B ≤ W1.heap.size := Nat.le_of_lt HN1.out.bx.lt
        obtain ⟨p2, c2, U2, run2, bx2, N2⟩ := HN1.out.stepI hB1 (by omega) cI HSI.out.1 HSI.out.2
        have x2 : W1.cell? ⟨B, 2, none⟩ = some vi := HN1.out.bx.cell (i := 2) (by omega)
        have lB2 : B < W1.heap.size := HN1.out.bx.lt
        have y2 : U2.cell? ⟨B, 2, none⟩ = some vi := bx2.cell (i := 2) (by omega)
        have f2 := bx2.frozen 2
        have l2 := bx2.lt
        have HN2 := hid N2
        clear N2 bx2 HN1 hW1 run1 x1 y1 f1 l1 lB
        go_wp2
        go_region_law (refine step_appG _ _ 76 rfl 76 rfl vi (.slice (some ⟨W1.heap.size + 1, 0, none⟩) 1 1) (by simp [Act.eval]) (by simp [Act.eval]) run2 (by rfl) ?_)
        all_goals
          clear run2
          go_wp2
          go_roundg (n - (k + 1))
          case measure => omega
          case rel => exact ⟨k + 1, by omega, by omega, by go_num, (show Aside _ from ⟨_, _, _, _, HN2.out⟩), (show Aside _ from Nat.le_of_lt HN2.out.bx.lt)⟩
    · have hltz : ¬ (k : Int) < (n : Int) := by omega
      obtain rfl : k = n := by omega
      have F := hid (show NewP w lp lc k m (.returned (.pointer (some ⟨B, 0, none⟩))) wr by
        obtain ⟨HO, IO, hc, ic, h⟩ := HI.out.shelves hn1
        exact ⟨B, HO, IO, hb, ib, hc, ic, rfl, by rw [← HBB.out]; exact h⟩)
      go_wp2
      go_ret
      exact F.out
end Go.Proofs.Ytiolkeghgodggak

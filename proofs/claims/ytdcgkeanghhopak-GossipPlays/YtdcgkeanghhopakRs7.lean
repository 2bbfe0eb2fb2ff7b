/-
  The document's gossipTurn: Erase.
-/
import Derived.Test.YtdcgkeanghhopakRs6
namespace Go.Proofs.Ytdcgkeanghhopak
open Go.RowKit Go.Shelf Go.Sort

set_option maxHeartbeats 4000000 in
set_option maxRecDepth 100000 in
theorem gt_16 (B S HO IO : Nat) (hb ib : Nat → Nat) (w0 : World) (lp : Option Addr) (lc n m hc ic : Nat) (f : Plain.Shv) (i j k : Nat) (tz va : Int) (hn : n ≤ 8) (hi : i < n) (hj : j < m) (hk : k < 8) (hf : f i j k = none) (z : Nat) (hz : z < 256) (hrd : Plain.reads (z : Int) i = true) (lb lo : Nat) (hlp : lp = some ⟨lb, lo, none⟩) (w W : World) (hW : W = w.alloc (boxT ⟨2, (i : Int), tz, (j : Int), (k : Int), va⟩)) (hBW : B ≤ W.heap.size) (hlc : W.cell? ⟨lb, lo + j, none⟩ = some (.int .i64 (z : Int))) (I : ShI B S HO IO hb ib w0 W lp lc n m hc ic f) :
    Calls Try.prog 25 #[.pointer (some ⟨S, 0, none⟩), .int .i64 (n : Int), aggT ⟨2, (i : Int), tz, (j : Int), (k : Int), va⟩] w fun e w' => e = .returned (.int .i64 (6 : Nat)) ∧ Below w.heap.size w w' := by
  obtain ⟨t0, t1, t2, t3, t4, t5⟩ := (show CellT W w.heap.size 0 ⟨2, (i : Int), tz, (j : Int), (k : Int), va⟩ by rw [hW]; exact boxT_at w _)
  simp only [Nat.zero_add] at t1 t2 t3 t4 t5
  dsimp only at t0 t1 t2 t3 t4 t5
  have BW := hid (show Below w.heap.size w W by rw [hW]; exact (Below.refl _ _).alloc (Nat.le_refl _) _)
  have x0 := I.cell0
  have HI := hid I
  subst hlp
  have hiz : (i : Int) < (n : Int) := by omega
  have hjz : (j : Int) < (m : Int) := by omega
  clear I
  have hw0 : ¬ (i : Int) < 0 := by omega
  have hw1 : ¬ (n : Int) ≤ (i : Int) := by omega
  have d1 := (decide_eq_false (show ¬ (j : Int) < 0 by omega))
  have d2 := (decide_eq_false (show ¬ (m : Int) ≤ (j : Int) by omega))
  have d3 := (decide_eq_false (show ¬ (k : Int) < 0 by omega))
  have d4 := (decide_eq_false (show ¬ 7 < (k : Int) by omega))
  go_enter Try.func25, Try.ntmps25
  go_wp2
  rw [← hW]
  clear hW
  go_quiet (fail)
  obtain ⟨V, hV⟩ : ∃ V, V = W.drewN nq := ⟨_, rfl⟩
  rw [← hV]
  have s0 : V.cell? ⟨w.heap.size, 0, none⟩ = some (.int .i64 2) := by rw [hV]; simpa using t0
  have s1 : V.cell? ⟨w.heap.size, 1, none⟩ = some (.int .i64 (i : Int)) := by rw [hV]; simpa using t1
  have s3 : V.cell? ⟨w.heap.size, 3, none⟩ = some (.int .i64 (j : Int)) := by rw [hV]; simpa using t3
  have s4 : V.cell? ⟨w.heap.size, 4, none⟩ = some (.int .i64 (k : Int)) := by rw [hV]; simpa using t4
  have s5 : V.cell? ⟨w.heap.size, 5, none⟩ = some (.int .i64 va) := by rw [hV]; simpa using t5
  have y0 : V.cell? ⟨S, 0, none⟩ = some (.slice (some ⟨lb, lo, none⟩) m lc) := by rw [hV]; simpa using x0
  have BV := hid (show Below w.heap.size w V by rw [hV]; exact below_drewN BW.out _)
  have BWV := hid (show Below W.heap.size W V by rw [hV]; exact below_drewN (Below.refl _ _) _)
  clear hV t0 t1 t2 t3 t4 t5 x0 d1 d2 d3 d4
  have yl : V.cell? ⟨lb, lo + j, none⟩ = some (.int .i64 (z : Int)) := (BWV.out.cell (p := ⟨lb, lo + j, none⟩) (World.block_lt_of_cell? (w := W) (h := hlc))).trans hlc
  have KR := fun X => rreads_c z i hz (by omega) X
  clear hlc
  rw [hrd] at KR
  go_wp2
  go_quiet ((go_at_call 36; exact Calls.quiet_of_same (KR _)))
  obtain ⟨V2, hV2⟩ : ∃ V2, V2 = V.drewN nq := ⟨_, rfl⟩
  rw [← hV2]
  have bV2 : Below V.heap.size V V2 := by rw [hV2]; exact below_drewN (Below.refl _ _) _
  have hbx : w.heap.size < V.heap.size := World.block_lt_of_cell? (w := V) (h := s0)
  have u0 := (bV2.cell (p := ⟨w.heap.size, 0, none⟩) hbx).trans s0
  have u1 := (bV2.cell (p := ⟨w.heap.size, 1, none⟩) hbx).trans s1
  have u3 := (bV2.cell (p := ⟨w.heap.size, 3, none⟩) hbx).trans s3
  have u4 := (bV2.cell (p := ⟨w.heap.size, 4, none⟩) hbx).trans s4
  have u5 := (bV2.cell (p := ⟨w.heap.size, 5, none⟩) hbx).trans s5
  have IV := hid (HI.out.grow hBW (BWV.out.trans (bV2.mono BWV.out.size)))
  have BV2 := hid (BV.out.trans (bV2.mono BV.out.size))
  have HB2 := hid (bV2.mono BWV.out.size)
  have x1 := IV.out.cell1
  have x2 := IV.out.cell2
  have xh := IV.out.cellH hi
  have xi := IV.out.cellI hi
  have ci := (IV.out.isAt hi hj hk).1
  rw [hf] at ci
  have ci' : V2.cell? ⟨ib i, j * 8 + k, none⟩ = some (.bool false) := ci
  clear ci s0 s1 s3 s4 s5 y0 yl hV2 bV2 KR
  go_wp2
  go_quiet (fail)
  go_wp2
  go_ret
  exact ⟨rfl, below_drewN BV2.out _⟩

set_option maxHeartbeats 4000000 in
set_option maxRecDepth 100000 in
theorem gt_17 (B S HO IO : Nat) (hb ib : Nat → Nat) (w0 : World) (lp : Option Addr) (lc n m hc ic : Nat) (f : Plain.Shv) (i j k : Nat) (tz va : Int) (hn : n ≤ 8) (hi : i < n) (hj : j < m) (hk : k < 8) (x : Plain.En) (hf : f i j k = some x) (hgx : x.gone = true) (z : Nat) (hz : z < 256) (hrd : Plain.reads (z : Int) i = true) (lb lo : Nat) (hlp : lp = some ⟨lb, lo, none⟩) (w W : World) (hW : W = w.alloc (boxT ⟨2, (i : Int), tz, (j : Int), (k : Int), va⟩)) (hBW : B ≤ W.heap.size) (hlc : W.cell? ⟨lb, lo + j, none⟩ = some (.int .i64 (z : Int))) (I : ShI B S HO IO hb ib w0 W lp lc n m hc ic f) :
    Calls Try.prog 25 #[.pointer (some ⟨S, 0, none⟩), .int .i64 (n : Int), aggT ⟨2, (i : Int), tz, (j : Int), (k : Int), va⟩] w fun e w' => e = .returned (.int .i64 (6 : Nat)) ∧ Below w.heap.size w w' := by
  obtain ⟨t0, t1, t2, t3, t4, t5⟩ := (show CellT W w.heap.size 0 ⟨2, (i : Int), tz, (j : Int), (k : Int), va⟩ by rw [hW]; exact boxT_at w _)
  simp only [Nat.zero_add] at t1 t2 t3 t4 t5
  dsimp only at t0 t1 t2 t3 t4 t5
  have BW := hid (show Below w.heap.size w W by rw [hW]; exact (Below.refl _ _).alloc (Nat.le_refl _) _)
  have x0 := I.cell0
  have HI := hid I
  subst hlp
  have hiz : (i : Int) < (n : Int) := by omega
  have hjz : (j : Int) < (m : Int) := by omega
  clear I
  have hw0 : ¬ (i : Int) < 0 := by omega
  have hw1 : ¬ (n : Int) ≤ (i : Int) := by omega
  have d1 := (decide_eq_false (show ¬ (j : Int) < 0 by omega))
  have d2 := (decide_eq_false (show ¬ (m : Int) ≤ (j : Int) by omega))
  have d3 := (decide_eq_false (show ¬ (k : Int) < 0 by omega))
  have d4 := (decide_eq_false (show ¬ 7 < (k : Int) by omega))
  go_enter Try.func25, Try.ntmps25
  go_wp2
  rw [← hW]
  clear hW
  go_quiet (fail)
  obtain ⟨V, hV⟩ : ∃ V, V = W.drewN nq := ⟨_, rfl⟩
  rw [← hV]
  have s0 : V.cell? ⟨w.heap.size, 0, none⟩ = some (.int .i64 2) := by rw [hV]; simpa using t0
  have s1 : V.cell? ⟨w.heap.size, 1, none⟩ = some (.int .i64 (i : Int)) := by rw [hV]; simpa using t1
  have s3 : V.cell? ⟨w.heap.size, 3, none⟩ = some (.int .i64 (j : Int)) := by rw [hV]; simpa using t3
  have s4 : V.cell? ⟨w.heap.size, 4, none⟩ = some (.int .i64 (k : Int)) := by rw [hV]; simpa using t4
  have s5 : V.cell? ⟨w.heap.size, 5, none⟩ = some (.int .i64 va) := by rw [hV]; simpa using t5
  have y0 : V.cell? ⟨S, 0, none⟩ = some (.slice (some ⟨lb, lo, none⟩) m lc) := by rw [hV]; simpa using x0
  have BV := hid (show Below w.heap.size w V by rw [hV]; exact below_drewN BW.out _)
  have BWV := hid (show Below W.heap.size W V by rw [hV]; exact below_drewN (Below.refl _ _) _)
  clear hV t0 t1 t2 t3 t4 t5 x0 d1 d2 d3 d4
  have yl : V.cell? ⟨lb, lo + j, none⟩ = some (.int .i64 (z : Int)) := (BWV.out.cell (p := ⟨lb, lo + j, none⟩) (World.block_lt_of_cell? (w := W) (h := hlc))).trans hlc
  have KR := fun X => rreads_c z i hz (by omega) X
  clear hlc
  rw [hrd] at KR
  go_wp2
  go_quiet ((go_at_call 36; exact Calls.quiet_of_same (KR _)))
  obtain ⟨V2, hV2⟩ : ∃ V2, V2 = V.drewN nq := ⟨_, rfl⟩
  rw [← hV2]
  have bV2 : Below V.heap.size V V2 := by rw [hV2]; exact below_drewN (Below.refl _ _) _
  have hbx : w.heap.size < V.heap.size := World.block_lt_of_cell? (w := V) (h := s0)
  have u0 := (bV2.cell (p := ⟨w.heap.size, 0, none⟩) hbx).trans s0
  have u1 := (bV2.cell (p := ⟨w.heap.size, 1, none⟩) hbx).trans s1
  have u3 := (bV2.cell (p := ⟨w.heap.size, 3, none⟩) hbx).trans s3
  have u4 := (bV2.cell (p := ⟨w.heap.size, 4, none⟩) hbx).trans s4
  have u5 := (bV2.cell (p := ⟨w.heap.size, 5, none⟩) hbx).trans s5
  have IV := hid (HI.out.grow hBW (BWV.out.trans (bV2.mono BWV.out.size)))
  have BV2 := hid (BV.out.trans (bV2.mono BV.out.size))
  have HB2 := hid (bV2.mono BWV.out.size)
  have x1 := IV.out.cell1
  have x2 := IV.out.cell2
  have xh := IV.out.cellH hi
  have xi := IV.out.cellI hi
  have ci := (IV.out.isAt hi hj hk).1
  rw [hf] at ci
  have ci' : V2.cell? ⟨ib i, j * 8 + k, none⟩ = some (.bool true) := ci
  have c4 := (IV.out.enAt hi hj hk hf).c4
  rw [hgx] at c4
  clear ci s0 s1 s3 s4 s5 y0 yl hV2 bV2 KR
  go_wp2
  go_quiet (fail)
  go_wp2
  go_ret
  exact ⟨rfl, below_drewN BV2.out _⟩

set_option maxHeartbeats 4000000 in
set_option maxRecDepth 100000 in
theorem gt_18 (B S HO IO : Nat) (hb ib : Nat → Nat) (w0 : World) (lp : Option Addr) (lc n m hc ic : Nat) (f : Plain.Shv) (i j k : Nat) (tz va : Int) (hn : n ≤ 8) (hi : i < n) (hj : j < m) (hk : k < 8) (x : Plain.En) (hf : f i j k = some x) (hgx : x.gone = false) (L : List Int) (ok : f.Ok) (hwr : Plain.Wr n L f.st ⟨2, (i : Int), tz, (j : Int), (k : Int), va⟩) (T : Int) (hT : Plain.maxA (f i j) 8 ≤ T ∧ T < 1000000) (z : Nat) (hz : z < 256) (hrd : Plain.reads (z : Int) i = true) (lb lo : Nat) (hlp : lp = some ⟨lb, lo, none⟩) (w W : World) (hW : W = w.alloc (boxT ⟨2, (i : Int), tz, (j : Int), (k : Int), va⟩)) (hBW : B ≤ W.heap.size) (hlc : W.cell? ⟨lb, lo + j, none⟩ = some (.int .i64 (z : Int))) (I : ShI B S HO IO hb ib w0 W lp lc n m hc ic f) :
    Calls Try.prog 25 #[.pointer (some ⟨S, 0, none⟩), .int .i64 (n : Int), aggT ⟨2, (i : Int), tz, (j : Int), (k : Int), va⟩] w fun e w' => TuP B S HO IO hb ib w0 lp lc n m hc ic L f ⟨2, (i : Int), tz, (j : Int), (k : Int), va⟩ w e w' := by
  obtain ⟨t0, t1, t2, t3, t4, t5⟩ := (show CellT W w.heap.size 0 ⟨2, (i : Int), tz, (j : Int), (k : Int), va⟩ by rw [hW]; exact boxT_at w _)
  simp only [Nat.zero_add] at t1 t2 t3 t4 t5
  dsimp only at t0 t1 t2 t3 t4 t5
  have BW := hid (show Below w.heap.size w W by rw [hW]; exact (Below.refl _ _).alloc (Nat.le_refl _) _)
  have x0 := I.cell0
  have HI := hid I
  subst hlp
  have hiz : (i : Int) < (n : Int) := by omega
  have hjz : (j : Int) < (m : Int) := by omega
  clear I
  have hw0 : ¬ (i : Int) < 0 := by omega
  have hw1 : ¬ (n : Int) ≤ (i : Int) := by omega
  have d1 := (decide_eq_false (show ¬ (j : Int) < 0 by omega))
  have d2 := (decide_eq_false (show ¬ (m : Int) ≤ (j : Int) by omega))
  have d3 := (decide_eq_false (show ¬ (k : Int) < 0 by omega))
  have d4 := (decide_eq_false (show ¬ 7 < (k : Int) by omega))
  go_enter Try.func25, Try.ntmps25
  go_wp2
  rw [← hW]
  clear hW
  go_quiet (fail)
  obtain ⟨V, hV⟩ : ∃ V, V = W.drewN nq := ⟨_, rfl⟩
  rw [← hV]
  have s0 : V.cell? ⟨w.heap.size, 0, none⟩ = some (.int .i64 2) := by rw [hV]; simpa using t0
  have s1 : V.cell? ⟨w.heap.size, 1, none⟩ = some (.int .i64 (i : Int)) := by rw [hV]; simpa using t1
  have s3 : V.cell? ⟨w.heap.size, 3, none⟩ = some (.int .i64 (j : Int)) := by rw [hV]; simpa using t3
  have s4 : V.cell? ⟨w.heap.size, 4, none⟩ = some (.int .i64 (k : Int)) := by rw [hV]; simpa using t4
  have s5 : V.cell? ⟨w.heap.size, 5, none⟩ = some (.int .i64 va) := by rw [hV]; simpa using t5
  have y0 : V.cell? ⟨S, 0, none⟩ = some (.slice (some ⟨lb, lo, none⟩) m lc) := by rw [hV]; simpa using x0
  have BV := hid (show Below w.heap.size w V by rw [hV]; exact below_drewN BW.out _)
  have BWV := hid (show Below W.heap.size W V by rw [hV]; exact below_drewN (Below.refl _ _) _)
  clear hV t0 t1 t2 t3 t4 t5 x0 d1 d2 d3 d4
  have yl : V.cell? ⟨lb, lo + j, none⟩ = some (.int .i64 (z : Int)) := (BWV.out.cell (p := ⟨lb, lo + j, none⟩) (World.block_lt_of_cell? (w := W) (h := hlc))).trans hlc
  have KR := fun X => rreads_c z i hz (by omega) X
  clear hlc
  rw [hrd] at KR
  go_wp2
  go_quiet ((go_at_call 36; exact Calls.quiet_of_same (KR _)))
  obtain ⟨V2, hV2⟩ : ∃ V2, V2 = V.drewN nq := ⟨_, rfl⟩
  rw [← hV2]
  have bV2 : Below V.heap.size V V2 := by rw [hV2]; exact below_drewN (Below.refl _ _) _
  have hbx : w.heap.size < V.heap.size := World.block_lt_of_cell? (w := V) (h := s0)
  have u0 := (bV2.cell (p := ⟨w.heap.size, 0, none⟩) hbx).trans s0
  have u1 := (bV2.cell (p := ⟨w.heap.size, 1, none⟩) hbx).trans s1
  have u3 := (bV2.cell (p := ⟨w.heap.size, 3, none⟩) hbx).trans s3
  have u4 := (bV2.cell (p := ⟨w.heap.size, 4, none⟩) hbx).trans s4
  have u5 := (bV2.cell (p := ⟨w.heap.size, 5, none⟩) hbx).trans s5
  have IV := hid (HI.out.grow hBW (BWV.out.trans (bV2.mono BWV.out.size)))
  have BV2 := hid (BV.out.trans (bV2.mono BV.out.size))
  have HB2 := hid (bV2.mono BWV.out.size)
  have x1 := IV.out.cell1
  have x2 := IV.out.cell2
  have xh := IV.out.cellH hi
  have xi := IV.out.cellI hi
  have ci := (IV.out.isAt hi hj hk).1
  rw [hf] at ci
  have ci' : V2.cell? ⟨ib i, j * 8 + k, none⟩ = some (.bool true) := ci
  have c4 := (IV.out.enAt hi hj hk hf).c4
  rw [hgx] at c4
  clear ci s0 s1 s3 s4 s5 y0 yl hV2 bV2 KR
  go_wp2
  go_quiet (fail)
  obtain ⟨V3, hV3⟩ : ∃ V3, V3 = V2.drewN nq := ⟨_, rfl⟩
  rw [← hV3]
  have bV3 : Below V2.heap.size V2 V3 := by rw [hV3]; exact below_drewN (Below.refl _ _) _
  have hbx2 : w.heap.size < V2.heap.size := World.block_lt_of_cell? (w := V2) (h := u0)
  have a1 := (bV3.cell (p := ⟨w.heap.size, 1, none⟩) hbx2).trans u1
  have a3 := (bV3.cell (p := ⟨w.heap.size, 3, none⟩) hbx2).trans u3
  have a4 := (bV3.cell (p := ⟨w.heap.size, 4, none⟩) hbx2).trans u4
  have BV3 := hid (BV2.out.trans (bV3.mono BV2.out.size))
  have KS := set_c B S HO IO hb ib w0 (some ⟨lb, lo, none⟩) lc n m hc ic f i j k 0 true hi hj hk T hT V3 (IV.out.grow (Nat.le_trans hBW (BWV.out.trans (show Below W.heap.size V V2 from HB2.out)).size) bV3)
  have HWR := hid hwr
  have HOK := hid ok
  clear hwr ok hV3 bV3 u0 u1 u3 u4 u5 x1 x2 xh xi ci' c4
  go_wp2_with fail
  refine KS.mono ?_
  rintro e W3 ⟨rfl, h3, u3'⟩
  have FX := hid (tuP_set (kd := 2) (tz := tz) (va := va) HOK.out HWR.out BV3.out (by simpa using h3) u3')
  clear h3 u3' KS
  go_wp2
  go_ret
  exact FX.out
end Go.Proofs.Ytdcgkeanghhopak

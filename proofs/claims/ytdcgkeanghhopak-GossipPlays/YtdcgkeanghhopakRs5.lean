/-
  The document's gossipTurn, but for Tell.
-/
import Derived.Test.YtdcgkeanghhopakRs4
namespace Go.Proofs.Ytdcgkeanghhopak
open Go.RowKit Go.Shelf Go.Sort

set_option maxHeartbeats 4000000 in
set_option maxRecDepth 100000 in
theorem gt_1 (B S HO IO : Nat) (hb ib : Nat → Nat) (w0 : World) (lp : Option Addr) (lc n m hc ic : Nat) (f : Plain.Shv) (kd wh tz la ke va : Int) (hk : kd < 1) (w W : World) (hW : W = w.alloc (boxT ⟨kd, wh, tz, la, ke, va⟩)) (I : ShI B S HO IO hb ib w0 W lp lc n m hc ic f) :
    Calls Try.prog 25 #[.pointer (some ⟨S, 0, none⟩), .int .i64 (n : Int), aggT ⟨kd, wh, tz, la, ke, va⟩] w fun e w' => e = .returned (.int .i64 (3 : Nat)) ∧ Below w.heap.size w w' := by
  obtain ⟨t0, t1, t2, t3, t4, t5⟩ := (show CellT W w.heap.size 0 ⟨kd, wh, tz, la, ke, va⟩ by rw [hW]; exact boxT_at w _)
  simp only [Nat.zero_add] at t1 t2 t3 t4 t5
  dsimp only at t0 t1 t2 t3 t4 t5
  have BW := hid (show Below w.heap.size w W by rw [hW]; exact (Below.refl _ _).alloc (Nat.le_refl _) _)
  have x0 := I.cell0
  have HI := hid I
  clear I
  go_enter Try.func25, Try.ntmps25
  go_wp2
  go_ret
  exact ⟨rfl, by rw [← hW]; exact BW.out⟩

set_option maxHeartbeats 4000000 in
set_option maxRecDepth 100000 in
theorem gt_2 (B S HO IO : Nat) (hb ib : Nat → Nat) (w0 : World) (lp : Option Addr) (lc n m hc ic : Nat) (f : Plain.Shv) (kd wh tz la ke va : Int) (hk : 3 < kd) (w W : World) (hW : W = w.alloc (boxT ⟨kd, wh, tz, la, ke, va⟩)) (I : ShI B S HO IO hb ib w0 W lp lc n m hc ic f) :
    Calls Try.prog 25 #[.pointer (some ⟨S, 0, none⟩), .int .i64 (n : Int), aggT ⟨kd, wh, tz, la, ke, va⟩] w fun e w' => e = .returned (.int .i64 (3 : Nat)) ∧ Below w.heap.size w w' := by
  obtain ⟨t0, t1, t2, t3, t4, t5⟩ := (show CellT W w.heap.size 0 ⟨kd, wh, tz, la, ke, va⟩ by rw [hW]; exact boxT_at w _)
  simp only [Nat.zero_add] at t1 t2 t3 t4 t5
  dsimp only at t0 t1 t2 t3 t4 t5
  have BW := hid (show Below w.heap.size w W by rw [hW]; exact (Below.refl _ _).alloc (Nat.le_refl _) _)
  have x0 := I.cell0
  have HI := hid I
  clear I
  have hk1 : ¬ kd < 1 := by omega
  go_enter Try.func25, Try.ntmps25
  go_wp2
  go_ret
  exact ⟨rfl, by rw [← hW]; exact BW.out⟩

set_option maxHeartbeats 4000000 in
set_option maxRecDepth 100000 in
theorem gt_3 (B S HO IO : Nat) (hb ib : Nat → Nat) (w0 : World) (lp : Option Addr) (lc n m hc ic : Nat) (f : Plain.Shv) (kd wh tz la ke va : Int) (hk : 1 ≤ kd ∧ kd ≤ 3) (hw : wh < 0) (w W : World) (hW : W = w.alloc (boxT ⟨kd, wh, tz, la, ke, va⟩)) (I : ShI B S HO IO hb ib w0 W lp lc n m hc ic f) :
    Calls Try.prog 25 #[.pointer (some ⟨S, 0, none⟩), .int .i64 (n : Int), aggT ⟨kd, wh, tz, la, ke, va⟩] w fun e w' => e = .returned (.int .i64 (2 : Nat)) ∧ Below w.heap.size w w' := by
  obtain ⟨t0, t1, t2, t3, t4, t5⟩ := (show CellT W w.heap.size 0 ⟨kd, wh, tz, la, ke, va⟩ by rw [hW]; exact boxT_at w _)
  simp only [Nat.zero_add] at t1 t2 t3 t4 t5
  dsimp only at t0 t1 t2 t3 t4 t5
  have BW := hid (show Below w.heap.size w W by rw [hW]; exact (Below.refl _ _).alloc (Nat.le_refl _) _)
  have x0 := I.cell0
  have HI := hid I
  clear I
  have hk1 : ¬ kd < 1 := by omega
  have hk2 : ¬ 3 < kd := by omega
  go_enter Try.func25, Try.ntmps25
  go_wp2
  go_ret
  exact ⟨rfl, by rw [← hW]; exact BW.out⟩

set_option maxHeartbeats 4000000 in
set_option maxRecDepth 100000 in
theorem gt_4 (B S HO IO : Nat) (hb ib : Nat → Nat) (w0 : World) (lp : Option Addr) (lc n m hc ic : Nat) (f : Plain.Shv) (kd wh tz la ke va : Int) (hk : 1 ≤ kd ∧ kd ≤ 3) (hw : (n : Int) ≤ wh) (w W : World) (hW : W = w.alloc (boxT ⟨kd, wh, tz, la, ke, va⟩)) (I : ShI B S HO IO hb ib w0 W lp lc n m hc ic f) :
    Calls Try.prog 25 #[.pointer (some ⟨S, 0, none⟩), .int .i64 (n : Int), aggT ⟨kd, wh, tz, la, ke, va⟩] w fun e w' => e = .returned (.int .i64 (2 : Nat)) ∧ Below w.heap.size w w' := by
  obtain ⟨t0, t1, t2, t3, t4, t5⟩ := (show CellT W w.heap.size 0 ⟨kd, wh, tz, la, ke, va⟩ by rw [hW]; exact boxT_at w _)
  simp only [Nat.zero_add] at t1 t2 t3 t4 t5
  dsimp only at t0 t1 t2 t3 t4 t5
  have BW := hid (show Below w.heap.size w W by rw [hW]; exact (Below.refl _ _).alloc (Nat.le_refl _) _)
  have x0 := I.cell0
  have HI := hid I
  clear I
  have hk1 : ¬ kd < 1 := by omega
  have hk2 : ¬ 3 < kd := by omega
  have hw0 : ¬ wh < 0 := by omega
  go_enter Try.func25, Try.ntmps25
  go_wp2
  go_ret
  exact ⟨rfl, by rw [← hW]; exact BW.out⟩

set_option maxHeartbeats 4000000 in
set_option maxRecDepth 100000 in
theorem gt_5 (B S HO IO : Nat) (hb ib : Nat → Nat) (w0 : World) (lp : Option Addr) (lc n m hc ic : Nat) (f : Plain.Shv) (kd wh tz la ke va : Int) (hk : kd = 3) (hw : 0 ≤ wh ∧ wh < n) (ht : tz < 0) (w W : World) (hW : W = w.alloc (boxT ⟨kd, wh, tz, la, ke, va⟩)) (I : ShI B S HO IO hb ib w0 W lp lc n m hc ic f) :
    Calls Try.prog 25 #[.pointer (some ⟨S, 0, none⟩), .int .i64 (n : Int), aggT ⟨kd, wh, tz, la, ke, va⟩] w fun e w' => e = .returned (.int .i64 (2 : Nat)) ∧ Below w.heap.size w w' := by
  obtain ⟨t0, t1, t2, t3, t4, t5⟩ := (show CellT W w.heap.size 0 ⟨kd, wh, tz, la, ke, va⟩ by rw [hW]; exact boxT_at w _)
  simp only [Nat.zero_add] at t1 t2 t3 t4 t5
  dsimp only at t0 t1 t2 t3 t4 t5
  have BW := hid (show Below w.heap.size w W by rw [hW]; exact (Below.refl _ _).alloc (Nat.le_refl _) _)
  have x0 := I.cell0
  have HI := hid I
  clear I
  subst hk
  have hw0 : ¬ wh < 0 := by omega
  have hw1 : ¬ (n : Int) ≤ wh := by omega
  go_enter Try.func25, Try.ntmps25
  go_wp2
  go_ret
  exact ⟨rfl, by rw [← hW]; exact BW.out⟩

set_option maxHeartbeats 4000000 in
set_option maxRecDepth 100000 in
theorem gt_6 (B S HO IO : Nat) (hb ib : Nat → Nat) (w0 : World) (lp : Option Addr) (lc n m hc ic : Nat) (f : Plain.Shv) (kd wh tz la ke va : Int) (hk : kd = 3) (hw : 0 ≤ wh ∧ wh < n) (ht : (n : Int) ≤ tz) (w W : World) (hW : W = w.alloc (boxT ⟨kd, wh, tz, la, ke, va⟩)) (I : ShI B S HO IO hb ib w0 W lp lc n m hc ic f) :
    Calls Try.prog 25 #[.pointer (some ⟨S, 0, none⟩), .int .i64 (n : Int), aggT ⟨kd, wh, tz, la, ke, va⟩] w fun e w' => e = .returned (.int .i64 (2 : Nat)) ∧ Below w.heap.size w w' := by
  obtain ⟨t0, t1, t2, t3, t4, t5⟩ := (show CellT W w.heap.size 0 ⟨kd, wh, tz, la, ke, va⟩ by rw [hW]; exact boxT_at w _)
  simp only [Nat.zero_add] at t1 t2 t3 t4 t5
  dsimp only at t0 t1 t2 t3 t4 t5
  have BW := hid (show Below w.heap.size w W by rw [hW]; exact (Below.refl _ _).alloc (Nat.le_refl _) _)
  have x0 := I.cell0
  have HI := hid I
  clear I
  subst hk
  have hw0 : ¬ wh < 0 := by omega
  have hw1 : ¬ (n : Int) ≤ wh := by omega
  have ht0 : ¬ tz < 0 := by omega
  go_enter Try.func25, Try.ntmps25
  go_wp2
  go_ret
  exact ⟨rfl, by rw [← hW]; exact BW.out⟩

set_option maxHeartbeats 4000000 in
set_option maxRecDepth 100000 in
theorem gt_7 (B S HO IO : Nat) (hb ib : Nat → Nat) (w0 : World) (lp : Option Addr) (lc n m hc ic : Nat) (f : Plain.Shv) (kd wh tz la ke va : Int) (hk : kd = 1 ∨ kd = 2) (hw : 0 ≤ wh ∧ wh < n) (hl : la < 0) (w W : World) (hW : W = w.alloc (boxT ⟨kd, wh, tz, la, ke, va⟩)) (I : ShI B S HO IO hb ib w0 W lp lc n m hc ic f) :
    Calls Try.prog 25 #[.pointer (some ⟨S, 0, none⟩), .int .i64 (n : Int), aggT ⟨kd, wh, tz, la, ke, va⟩] w fun e w' => e = .returned (.int .i64 (2 : Nat)) ∧ Below w.heap.size w w' := by
  obtain ⟨t0, t1, t2, t3, t4, t5⟩ := (show CellT W w.heap.size 0 ⟨kd, wh, tz, la, ke, va⟩ by rw [hW]; exact boxT_at w _)
  simp only [Nat.zero_add] at t1 t2 t3 t4 t5
  dsimp only at t0 t1 t2 t3 t4 t5
  have BW := hid (show Below w.heap.size w W by rw [hW]; exact (Below.refl _ _).alloc (Nat.le_refl _) _)
  have x0 := I.cell0
  have HI := hid I
  clear I
  have hk1 : ¬ kd < 1 := by omega
  have hk2 : ¬ 3 < kd := by omega
  have hk3 : (kd == 3) = false := by rw [beq_eq_false_iff_ne]; omega
  have hw0 : ¬ wh < 0 := by omega
  have hw1 : ¬ (n : Int) ≤ wh := by omega
  have d1 := (decide_eq_true (show  la < 0 by omega))
  go_enter Try.func25, Try.ntmps25
  go_wp2
  rw [← hW]
  clear hW
  go_quiet (fail)
  go_wp2
  go_ret
  exact ⟨rfl, below_drewN BW.out _⟩

set_option maxHeartbeats 4000000 in
set_option maxRecDepth 100000 in
theorem gt_8 (B S HO IO : Nat) (hb ib : Nat → Nat) (w0 : World) (lp : Option Addr) (lc n m hc ic : Nat) (f : Plain.Shv) (kd wh tz la ke va : Int) (hk : kd = 1 ∨ kd = 2) (hw : 0 ≤ wh ∧ wh < n) (hl : (m : Int) ≤ la) (w W : World) (hW : W = w.alloc (boxT ⟨kd, wh, tz, la, ke, va⟩)) (I : ShI B S HO IO hb ib w0 W lp lc n m hc ic f) :
    Calls Try.prog 25 #[.pointer (some ⟨S, 0, none⟩), .int .i64 (n : Int), aggT ⟨kd, wh, tz, la, ke, va⟩] w fun e w' => e = .returned (.int .i64 (2 : Nat)) ∧ Below w.heap.size w w' := by
  obtain ⟨t0, t1, t2, t3, t4, t5⟩ := (show CellT W w.heap.size 0 ⟨kd, wh, tz, la, ke, va⟩ by rw [hW]; exact boxT_at w _)
  simp only [Nat.zero_add] at t1 t2 t3 t4 t5
  dsimp only at t0 t1 t2 t3 t4 t5
  have BW := hid (show Below w.heap.size w W by rw [hW]; exact (Below.refl _ _).alloc (Nat.le_refl _) _)
  have x0 := I.cell0
  have HI := hid I
  clear I
  have hk1 : ¬ kd < 1 := by omega
  have hk2 : ¬ 3 < kd := by omega
  have hk3 : (kd == 3) = false := by rw [beq_eq_false_iff_ne]; omega
  have hw0 : ¬ wh < 0 := by omega
  have hw1 : ¬ (n : Int) ≤ wh := by omega
  have d1 := (decide_eq_false (show ¬ la < 0 by omega))
  have d2 := (decide_eq_true (show  (m : Int) ≤ la by omega))
  go_enter Try.func25, Try.ntmps25
  go_wp2
  rw [← hW]
  clear hW
  go_quiet (fail)
  go_wp2
  go_ret
  exact ⟨rfl, below_drewN BW.out _⟩

set_option maxHeartbeats 4000000 in
set_option maxRecDepth 100000 in
theorem gt_9 (B S HO IO : Nat) (hb ib : Nat → Nat) (w0 : World) (lp : Option Addr) (lc n m hc ic : Nat) (f : Plain.Shv) (kd wh tz la ke va : Int) (hk : kd = 1 ∨ kd = 2) (hw : 0 ≤ wh ∧ wh < n) (hl : 0 ≤ la ∧ la < m) (hy : ke < 0) (w W : World) (hW : W = w.alloc (boxT ⟨kd, wh, tz, la, ke, va⟩)) (I : ShI B S HO IO hb ib w0 W lp lc n m hc ic f) :
    Calls Try.prog 25 #[.pointer (some ⟨S, 0, none⟩), .int .i64 (n : Int), aggT ⟨kd, wh, tz, la, ke, va⟩] w fun e w' => e = .returned (.int .i64 (2 : Nat)) ∧ Below w.heap.size w w' := by
  obtain ⟨t0, t1, t2, t3, t4, t5⟩ := (show CellT W w.heap.size 0 ⟨kd, wh, tz, la, ke, va⟩ by rw [hW]; exact boxT_at w _)
  simp only [Nat.zero_add] at t1 t2 t3 t4 t5
  dsimp only at t0 t1 t2 t3 t4 t5
  have BW := hid (show Below w.heap.size w W by rw [hW]; exact (Below.refl _ _).alloc (Nat.le_refl _) _)
  have x0 := I.cell0
  have HI := hid I
  clear I
  have hk1 : ¬ kd < 1 := by omega
  have hk2 : ¬ 3 < kd := by omega
  have hk3 : (kd == 3) = false := by rw [beq_eq_false_iff_ne]; omega
  have hw0 : ¬ wh < 0 := by omega
  have hw1 : ¬ (n : Int) ≤ wh := by omega
  have d1 := (decide_eq_false (show ¬ la < 0 by omega))
  have d2 := (decide_eq_false (show ¬ (m : Int) ≤ la by omega))
  have d3 := (decide_eq_true (show  ke < 0 by omega))
  go_enter Try.func25, Try.ntmps25
  go_wp2
  rw [← hW]
  clear hW
  go_quiet (fail)
  go_wp2
  go_ret
  exact ⟨rfl, below_drewN BW.out _⟩

set_option maxHeartbeats 4000000 in
set_option maxRecDepth 100000 in
theorem gt_10 (B S HO IO : Nat) (hb ib : Nat → Nat) (w0 : World) (lp : Option Addr) (lc n m hc ic : Nat) (f : Plain.Shv) (kd wh tz la ke va : Int) (hk : kd = 1 ∨ kd = 2) (hw : 0 ≤ wh ∧ wh < n) (hl : 0 ≤ la ∧ la < m) (hy : 7 < ke) (w W : World) (hW : W = w.alloc (boxT ⟨kd, wh, tz, la, ke, va⟩)) (I : ShI B S HO IO hb ib w0 W lp lc n m hc ic f) :
    Calls Try.prog 25 #[.pointer (some ⟨S, 0, none⟩), .int .i64 (n : Int), aggT ⟨kd, wh, tz, la, ke, va⟩] w fun e w' => e = .returned (.int .i64 (2 : Nat)) ∧ Below w.heap.size w w' := by
  obtain ⟨t0, t1, t2, t3, t4, t5⟩ := (show CellT W w.heap.size 0 ⟨kd, wh, tz, la, ke, va⟩ by rw [hW]; exact boxT_at w _)
  simp only [Nat.zero_add] at t1 t2 t3 t4 t5
  dsimp only at t0 t1 t2 t3 t4 t5
  have BW := hid (show Below w.heap.size w W by rw [hW]; exact (Below.refl _ _).alloc (Nat.le_refl _) _)
  have x0 := I.cell0
  have HI := hid I
  clear I
  have hk1 : ¬ kd < 1 := by omega
  have hk2 : ¬ 3 < kd := by omega
  have hk3 : (kd == 3) = false := by rw [beq_eq_false_iff_ne]; omega
  have hw0 : ¬ wh < 0 := by omega
  have hw1 : ¬ (n : Int) ≤ wh := by omega
  have d1 := (decide_eq_false (show ¬ la < 0 by omega))
  have d2 := (decide_eq_false (show ¬ (m : Int) ≤ la by omega))
  have d3 := (decide_eq_false (show ¬ ke < 0 by omega))
  have d4 := (decide_eq_true (show  7 < ke by omega))
  go_enter Try.func25, Try.ntmps25
  go_wp2
  rw [← hW]
  clear hW
  go_quiet (fail)
  go_wp2
  go_ret
  exact ⟨rfl, below_drewN BW.out _⟩

set_option maxHeartbeats 4000000 in
set_option maxRecDepth 100000 in
theorem gt_11 (B S HO IO : Nat) (hb ib : Nat → Nat) (w0 : World) (lp : Option Addr) (lc n m hc ic : Nat) (f : Plain.Shv) (kd wh tz la ke va : Int) (hk : kd = 1 ∨ kd = 2) (hw : 0 ≤ wh ∧ wh < n) (hl : 0 ≤ la ∧ la < m) (hy : 0 ≤ ke ∧ ke < 8) (hkd : kd = 1) (hv : va < 0) (w W : World) (hW : W = w.alloc (boxT ⟨kd, wh, tz, la, ke, va⟩)) (I : ShI B S HO IO hb ib w0 W lp lc n m hc ic f) :
    Calls Try.prog 25 #[.pointer (some ⟨S, 0, none⟩), .int .i64 (n : Int), aggT ⟨kd, wh, tz, la, ke, va⟩] w fun e w' => e = .returned (.int .i64 (2 : Nat)) ∧ Below w.heap.size w w' := by
  obtain ⟨t0, t1, t2, t3, t4, t5⟩ := (show CellT W w.heap.size 0 ⟨kd, wh, tz, la, ke, va⟩ by rw [hW]; exact boxT_at w _)
  simp only [Nat.zero_add] at t1 t2 t3 t4 t5
  dsimp only at t0 t1 t2 t3 t4 t5
  have BW := hid (show Below w.heap.size w W by rw [hW]; exact (Below.refl _ _).alloc (Nat.le_refl _) _)
  have x0 := I.cell0
  have HI := hid I
  clear I
  subst hkd
  have hw0 : ¬ wh < 0 := by omega
  have hw1 : ¬ (n : Int) ≤ wh := by omega
  have d1 := (decide_eq_false (show ¬ la < 0 by omega))
  have d2 := (decide_eq_false (show ¬ (m : Int) ≤ la by omega))
  have d3 := (decide_eq_false (show ¬ ke < 0 by omega))
  have d4 := (decide_eq_false (show ¬ 7 < ke by omega))
  go_enter Try.func25, Try.ntmps25
  go_wp2
  rw [← hW]
  clear hW
  go_quiet (fail)
  obtain ⟨V, hV⟩ : ∃ V, V = W.drewN nq := ⟨_, rfl⟩
  rw [← hV]
  have s0 : V.cell? ⟨w.heap.size, 0, none⟩ = some (.int .i64 1) := by rw [hV]; simpa using t0
  have s1 : V.cell? ⟨w.heap.size, 1, none⟩ = some (.int .i64 wh) := by rw [hV]; simpa using t1
  have s3 : V.cell? ⟨w.heap.size, 3, none⟩ = some (.int .i64 la) := by rw [hV]; simpa using t3
  have s4 : V.cell? ⟨w.heap.size, 4, none⟩ = some (.int .i64 ke) := by rw [hV]; simpa using t4
  have s5 : V.cell? ⟨w.heap.size, 5, none⟩ = some (.int .i64 va) := by rw [hV]; simpa using t5
  have y0 : V.cell? ⟨S, 0, none⟩ = some (.slice lp m lc) := by rw [hV]; simpa using x0
  have BV := hid (show Below w.heap.size w V by rw [hV]; exact below_drewN BW.out _)
  have BWV := hid (show Below W.heap.size W V by rw [hV]; exact below_drewN (Below.refl _ _) _)
  clear hV t0 t1 t2 t3 t4 t5 x0 d1 d2 d3 d4
  go_wp2
  go_ret
  exact ⟨rfl, BV.out⟩

set_option maxHeartbeats 4000000 in
set_option maxRecDepth 100000 in
theorem gt_12 (B S HO IO : Nat) (hb ib : Nat → Nat) (w0 : World) (lp : Option Addr) (lc n m hc ic : Nat) (f : Plain.Shv) (kd wh tz la ke va : Int) (hk : kd = 1 ∨ kd = 2) (hw : 0 ≤ wh ∧ wh < n) (hl : 0 ≤ la ∧ la < m) (hy : 0 ≤ ke ∧ ke < 8) (hkd : kd = 1) (hv : 255 < va) (w W : World) (hW : W = w.alloc (boxT ⟨kd, wh, tz, la, ke, va⟩)) (I : ShI B S HO IO hb ib w0 W lp lc n m hc ic f) :
    Calls Try.prog 25 #[.pointer (some ⟨S, 0, none⟩), .int .i64 (n : Int), aggT ⟨kd, wh, tz, la, ke, va⟩] w fun e w' => e = .returned (.int .i64 (2 : Nat)) ∧ Below w.heap.size w w' := by
  obtain ⟨t0, t1, t2, t3, t4, t5⟩ := (show CellT W w.heap.size 0 ⟨kd, wh, tz, la, ke, va⟩ by rw [hW]; exact boxT_at w _)
  simp only [Nat.zero_add] at t1 t2 t3 t4 t5
  dsimp only at t0 t1 t2 t3 t4 t5
  have BW := hid (show Below w.heap.size w W by rw [hW]; exact (Below.refl _ _).alloc (Nat.le_refl _) _)
  have x0 := I.cell0
  have HI := hid I
  clear I
  subst hkd
  have hv0 : ¬ va < 0 := by omega
  have hw0 : ¬ wh < 0 := by omega
  have hw1 : ¬ (n : Int) ≤ wh := by omega
  have d1 := (decide_eq_false (show ¬ la < 0 by omega))
  have d2 := (decide_eq_false (show ¬ (m : Int) ≤ la by omega))
  have d3 := (decide_eq_false (show ¬ ke < 0 by omega))
  have d4 := (decide_eq_false (show ¬ 7 < ke by omega))
  go_enter Try.func25, Try.ntmps25
  go_wp2
  rw [← hW]
  clear hW
  go_quiet (fail)
  obtain ⟨V, hV⟩ : ∃ V, V = W.drewN nq := ⟨_, rfl⟩
  rw [← hV]
  have s0 : V.cell? ⟨w.heap.size, 0, none⟩ = some (.int .i64 1) := by rw [hV]; simpa using t0
  have s1 : V.cell? ⟨w.heap.size, 1, none⟩ = some (.int .i64 wh) := by rw [hV]; simpa using t1
  have s3 : V.cell? ⟨w.heap.size, 3, none⟩ = some (.int .i64 la) := by rw [hV]; simpa using t3
  have s4 : V.cell? ⟨w.heap.size, 4, none⟩ = some (.int .i64 ke) := by rw [hV]; simpa using t4
  have s5 : V.cell? ⟨w.heap.size, 5, none⟩ = some (.int .i64 va) := by rw [hV]; simpa using t5
  have y0 : V.cell? ⟨S, 0, none⟩ = some (.slice lp m lc) := by rw [hV]; simpa using x0
  have BV := hid (show Below w.heap.size w V by rw [hV]; exact below_drewN BW.out _)
  have BWV := hid (show Below W.heap.size W V by rw [hV]; exact below_drewN (Below.refl _ _) _)
  clear hV t0 t1 t2 t3 t4 t5 x0 d1 d2 d3 d4
  go_wp2
  go_ret
  exact ⟨rfl, BV.out⟩
end Go.Proofs.Ytdcgkeanghhopak

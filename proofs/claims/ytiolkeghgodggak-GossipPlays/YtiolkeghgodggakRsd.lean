/-
  The document's gossipTurn, whatever the turn (five texts laid together).
-/
import Derived.Test.YtiolkeghgodggakRs3
namespace Go.Proofs.Ytiolkeghgodggak
open Go.RowKit Go.Shelf Go.Sort

set_option maxHeartbeats 400000 in
theorem rreads_c (s k : Nat) (hs : s < 256) (hk : k < 8) (w : World) :
    Calls Try.prog 41 #[.int .i64 s, .int .i64 k] w fun e w' => e = .returned (.bool (Plain.reads (s : Int) k)) ∧ w' = w := by
  have e1 : (bits .and .i64 ((s : Int) / 2 ^ k) 1 == 1) = (s / 2 ^ k % 2 == 1) := LabP.reads_eq s k hs
  have e2 : Plain.reads (s : Int) k = (s / 2 ^ k % 2 == 1) := by unfold Plain.reads; rw [Int.toNat_natCast]
  rw [e2]
  clear e2
  go_enter Try.func41, Try.ntmps41
  go_wp2
  go_ret
  exact ⟨rfl, rfl⟩
/-- What a turn comes to at the shelves. -/
def TuP (B S HO IO : Nat) (hb ib : Nat → Nat) (w0 : World) (lp : Option Addr) (lc n m hc ic : Nat) (L : List Int) (f : Plain.Shv) (t : Plain.Tu) (w : World) (e : Ending) (w' : World) : Prop :=
  ∃ f' : Plain.Shv, e = .returned (.int .i64 (Plain.tuE n L f.st t : Nat)) ∧ ShI B S HO IO hb ib w0 w' lp lc n m hc ic f' ∧ f'.Ok ∧ f'.st = Plain.tuS n L f.st t ∧ Un (isS hb ib n) w w'
theorem tuP_no {B S HO IO : Nat} {hb ib : Nat → Nat} {w0 : World} {lp : Option Addr} {lc n m hc ic : Nat} {L : List Int} {f : Plain.Shv} {t : Plain.Tu} {w w' : World} {E : Nat} (hE : Plain.tuE n L f.st t = E) (h0 : E ≠ 0) (hB : B ≤ w.heap.size) (I : ShI B S HO IO hb ib w0 w lp lc n m hc ic f) (ok : f.Ok) (b : Below w.heap.size w w') :
    TuP B S HO IO hb ib w0 lp lc n m hc ic L f t w (.returned (.int .i64 (E : Nat))) w' := by
  refine ⟨f, by rw [hE], I.grow hB b, ok, ?_, Un.of_below b⟩
  unfold Plain.tuS
  rw [if_pos (by rw [hE]; exact h0)]
/-- What is written, in the shelves. -/
theorem tuP_set {B S HO IO : Nat} {hb ib : Nat → Nat} {w0 : World} {lp : Option Addr} {lc n m hc ic : Nat} {L : List Int} {f : Plain.Shv} {w W w' : World} {kd tz va : Int} {i j k : Nat} (ok : f.Ok) (hw : Plain.Wr n L f.st ⟨kd, (i : Int), tz, (j : Int), (k : Int), va⟩) (b : Below w.heap.size w W)
    (h : ShI B S HO IO hb ib w0 w' lp lc n m hc ic (f.upd i j k ⟨(k : Int), if kd = 1 then va else 0, Plain.maxA (f i j) 8 + 1, (i : Int), decide (kd = 2)⟩)) (u : Un (isS hb ib n) W w') :
    TuP B S HO IO hb ib w0 lp lc n m hc ic L f ⟨kd, (i : Int), tz, (j : Int), (k : Int), va⟩ w (.returned (.int .i64 (0 : Nat))) w' := by
  have hk := hw.ke
  dsimp only at hk
  have hE := Plain.write_ok hw
  have eM : Plain.maxA (f i j) 8 = Plain.maxT (f.st i j) := (Plain.maxA_list (f i j) 8).symm
  have hkd := hw.kd
  dsimp only at hkd
  have eS : Plain.tuS n L f.st ⟨kd, (i : Int), tz, (j : Int), (k : Int), va⟩ = Plain.writeS f.st ⟨kd, (i : Int), tz, (j : Int), (k : Int), va⟩ := by
    unfold Plain.tuS
    rw [hE, if_neg (by decide), if_neg (by show ¬ kd = 3; omega)]
  refine ⟨_, by rw [hE], h, ok.upd i j k _ rfl (by omega), ?_, (Un.of_below b).trans u⟩
  rw [eS]
  funext a c
  by_cases hh : a = i ∧ c = j
  · have eW : Plain.writeS f.st ⟨kd, (i : Int), tz, (j : Int), (k : Int), va⟩ a c = Plain.put (f.st a c) (Plain.entF (f.st a c) ⟨kd, (i : Int), tz, (j : Int), (k : Int), va⟩) := by
      unfold Plain.writeS
      rw [if_pos (by simpa using hh)]
    rw [eW, hh.1, hh.2]
    have e := Plain.upd_put ok (i := i) (j := j) (k := k) (e := ⟨(k : Int), if kd = 1 then va else 0, Plain.maxA (f i j) 8 + 1, (i : Int), decide (kd = 2)⟩) rfl (by omega) (fun x hx => Plain.new_newer (l := f.st i j) (by show Plain.maxA (f i j) 8 + 1 = _; rw [eM]) (Plain.listA_mem.2 ⟨k, by omega, hx⟩))
    rw [e, eM]
    rfl
  · have eW : Plain.writeS f.st ⟨kd, (i : Int), tz, (j : Int), (k : Int), va⟩ a c = f.st a c := by
      unfold Plain.writeS
      rw [if_neg (by simpa using hh)]
    rw [eW, Plain.upd_other f _ hh]

set_option maxHeartbeats 4000000 in
set_option maxRecDepth 100000 in
theorem gt_1 (B S HO IO : Nat) (hb ib : Nat → Nat) (w0 : World) (lp : Option Addr) (lc n m hc ic : Nat) (f : Plain.Shv) (kd wh tz la ke va : Int) (hk : kd < 1) (w W : World) (hW : W = w.alloc (boxT ⟨kd, wh, tz, la, ke, va⟩)) (I : ShI B S HO IO hb ib w0 W lp lc n m hc ic f) :
    Calls Try.prog 27 #[.pointer (some ⟨S, 0, none⟩), .int .i64 (n : Int), aggT ⟨kd, wh, tz, la, ke, va⟩] w fun e w' => e = .returned (.int .i64 (3 : Nat)) ∧ Below w.heap.size w w' := by
  obtain ⟨t0, t1, t2, t3, t4, t5⟩ := (show CellT W w.heap.size 0 ⟨kd, wh, tz, la, ke, va⟩ by rw [hW]; exact boxT_at w _)
  simp only [Nat.zero_add] at t1 t2 t3 t4 t5
  dsimp only at t0 t1 t2 t3 t4 t5
  have BW := hid (show Below w.heap.size w W by rw [hW]; exact (Below.refl _ _).alloc (Nat.le_refl _) _)
  have x0 := I.cell0
  have HI := hid I
  clear I
  go_enter Try.func27, Try.ntmps27
  go_wp2
  go_ret
  exact ⟨rfl, by rw [← hW]; exact BW.out⟩

set_option maxHeartbeats 4000000 in
set_option maxRecDepth 100000 in
theorem gt_2 (B S HO IO : Nat) (hb ib : Nat → Nat) (w0 : World) (lp : Option Addr) (lc n m hc ic : Nat) (f : Plain.Shv) (kd wh tz la ke va : Int) (hk : 3 < kd) (w W : World) (hW : W = w.alloc (boxT ⟨kd, wh, tz, la, ke, va⟩)) (I : ShI B S HO IO hb ib w0 W lp lc n m hc ic f) :
    Calls Try.prog 27 #[.pointer (some ⟨S, 0, none⟩), .int .i64 (n : Int), aggT ⟨kd, wh, tz, la, ke, va⟩] w fun e w' => e = .returned (.int .i64 (3 : Nat)) ∧ Below w.heap.size w w' := by
  obtain ⟨t0, t1, t2, t3, t4, t5⟩ := (show CellT W w.heap.size 0 ⟨kd, wh, tz, la, ke, va⟩ by rw [hW]; exact boxT_at w _)
  simp only [Nat.zero_add] at t1 t2 t3 t4 t5
  dsimp only at t0 t1 t2 t3 t4 t5
  have BW := hid (show Below w.heap.size w W by rw [hW]; exact (Below.refl _ _).alloc (Nat.le_refl _) _)
  have x0 := I.cell0
  have HI := hid I
  clear I
  have hk1 : ¬ kd < 1 := by omega
  go_enter Try.func27, Try.ntmps27
  go_wp2
  go_ret
  exact ⟨rfl, by rw [← hW]; exact BW.out⟩

set_option maxHeartbeats 4000000 in
set_option maxRecDepth 100000 in
theorem gt_3 (B S HO IO : Nat) (hb ib : Nat → Nat) (w0 : World) (lp : Option Addr) (lc n m hc ic : Nat) (f : Plain.Shv) (kd wh tz la ke va : Int) (hk : 1 ≤ kd ∧ kd ≤ 3) (hw : wh < 0) (w W : World) (hW : W = w.alloc (boxT ⟨kd, wh, tz, la, ke, va⟩)) (I : ShI B S HO IO hb ib w0 W lp lc n m hc ic f) :
    Calls Try.prog 27 #[.pointer (some ⟨S, 0, none⟩), .int .i64 (n : Int), aggT ⟨kd, wh, tz, la, ke, va⟩] w fun e w' => e = .returned (.int .i64 (2 : Nat)) ∧ Below w.heap.size w w' := by
  obtain ⟨t0, t1, t2, t3, t4, t5⟩ := (show CellT W w.heap.size 0 ⟨kd, wh, tz, la, ke, va⟩ by rw [hW]; exact boxT_at w _)
  simp only [Nat.zero_add] at t1 t2 t3 t4 t5
  dsimp only at t0 t1 t2 t3 t4 t5
  have BW := hid (show Below w.heap.size w W by rw [hW]; exact (Below.refl _ _).alloc (Nat.le_refl _) _)
  have x0 := I.cell0
  have HI := hid I
  clear I
  have hk1 : ¬ kd < 1 := by omega
  have hk2 : ¬ 3 < kd := by omega
  go_enter Try.func27, Try.ntmps27
  go_wp2
  go_ret
  exact ⟨rfl, by rw [← hW]; exact BW.out⟩

set_option maxHeartbeats 4000000 in
set_option maxRecDepth 100000 in
theorem gt_4 (B S HO IO : Nat) (hb ib : Nat → Nat) (w0 : World) (lp : Option Addr) (lc n m hc ic : Nat) (f : Plain.Shv) (kd wh tz la ke va : Int) (hk : 1 ≤ kd ∧ kd ≤ 3) (hw : (n : Int) ≤ wh) (w W : World) (hW : W = w.alloc (boxT ⟨kd, wh, tz, la, ke, va⟩)) (I : ShI B S HO IO hb ib w0 W lp lc n m hc ic f) :
    Calls Try.prog 27 #[.pointer (some ⟨S, 0, none⟩), .int .i64 (n : Int), aggT ⟨kd, wh, tz, la, ke, va⟩] w fun e w' => e = .returned (.int .i64 (2 : Nat)) ∧ Below w.heap.size w w' := by
  obtain ⟨t0, t1, t2, t3, t4, t5⟩ := (show CellT W w.heap.size 0 ⟨kd, wh, tz, la, ke, va⟩ by rw [hW]; exact boxT_at w _)
  simp only [Nat.zero_add] at t1 t2 t3 t4 t5
  dsimp only at t0 t1 t2 t3 t4 t5
  have BW := hid (show Below w.heap.size w W by rw [hW]; exact (Below.refl _ _).alloc (Nat.le_refl _) _)
  have x0 := I.cell0
  have HI := hid I
  clear I
  have hk1 : ¬ kd < 1 := by omega
  have hk2 : ¬ 3 < kd := by omega
  have hw0 : ¬ wh < 0 := by omega
  go_enter Try.func27, Try.ntmps27
  go_wp2
  go_ret
  exact ⟨rfl, by rw [← hW]; exact BW.out⟩

set_option maxHeartbeats 4000000 in
set_option maxRecDepth 100000 in
theorem gt_5 (B S HO IO : Nat) (hb ib : Nat → Nat) (w0 : World) (lp : Option Addr) (lc n m hc ic : Nat) (f : Plain.Shv) (kd wh tz la ke va : Int) (hk : kd = 3) (hw : 0 ≤ wh ∧ wh < n) (ht : tz < 0) (w W : World) (hW : W = w.alloc (boxT ⟨kd, wh, tz, la, ke, va⟩)) (I : ShI B S HO IO hb ib w0 W lp lc n m hc ic f) :
    Calls Try.prog 27 #[.pointer (some ⟨S, 0, none⟩), .int .i64 (n : Int), aggT ⟨kd, wh, tz, la, ke, va⟩] w fun e w' => e = .returned (.int .i64 (2 : Nat)) ∧ Below w.heap.size w w' := by
  obtain ⟨t0, t1, t2, t3, t4, t5⟩ := (show CellT W w.heap.size 0 ⟨kd, wh, tz, la, ke, va⟩ by rw [hW]; exact boxT_at w _)
  simp only [Nat.zero_add] at t1 t2 t3 t4 t5
  dsimp only at t0 t1 t2 t3 t4 t5
  have BW := hid (show Below w.heap.size w W by rw [hW]; exact (Below.refl _ _).alloc (Nat.le_refl _) _)
  have x0 := I.cell0
  have HI := hid I
  clear I
  subst hk
  have hw0 : ¬ wh < 0 := by omega
  have hw1 : ¬ (n : Int) ≤ wh := by omega
  go_enter Try.func27, Try.ntmps27
  go_wp2
  go_ret
  exact ⟨rfl, by rw [← hW]; exact BW.out⟩

set_option maxHeartbeats 4000000 in
set_option maxRecDepth 100000 in
theorem gt_6 (B S HO IO : Nat) (hb ib : Nat → Nat) (w0 : World) (lp : Option Addr) (lc n m hc ic : Nat) (f : Plain.Shv) (kd wh tz la ke va : Int) (hk : kd = 3) (hw : 0 ≤ wh ∧ wh < n) (ht : (n : Int) ≤ tz) (w W : World) (hW : W = w.alloc (boxT ⟨kd, wh, tz, la, ke, va⟩)) (I : ShI B S HO IO hb ib w0 W lp lc n m hc ic f) :
    Calls Try.prog 27 #[.pointer (some ⟨S, 0, none⟩), .int .i64 (n : Int), aggT ⟨kd, wh, tz, la, ke, va⟩] w fun e w' => e = .returned (.int .i64 (2 : Nat)) ∧ Below w.heap.size w w' := by
  obtain ⟨t0, t1, t2, t3, t4, t5⟩ := (show CellT W w.heap.size 0 ⟨kd, wh, tz, la, ke, va⟩ by rw [hW]; exact boxT_at w _)
  simp only [Nat.zero_add] at t1 t2 t3 t4 t5
  dsimp only at t0 t1 t2 t3 t4 t5
  have BW := hid (show Below w.heap.size w W by rw [hW]; exact (Below.refl _ _).alloc (Nat.le_refl _) _)
  have x0 := I.cell0
  have HI := hid I
  clear I
  subst hk
  have hw0 : ¬ wh < 0 := by omega
  have hw1 : ¬ (n : Int) ≤ wh := by omega
  have ht0 : ¬ tz < 0 := by omega
  go_enter Try.func27, Try.ntmps27
  go_wp2
  go_ret
  exact ⟨rfl, by rw [← hW]; exact BW.out⟩

set_option maxHeartbeats 4000000 in
set_option maxRecDepth 100000 in
theorem gt_7 (B S HO IO : Nat) (hb ib : Nat → Nat) (w0 : World) (lp : Option Addr) (lc n m hc ic : Nat) (f : Plain.Shv) (kd wh tz la ke va : Int) (hk : kd = 1 ∨ kd = 2) (hw : 0 ≤ wh ∧ wh < n) (hl : la < 0) (w W : World) (hW : W = w.alloc (boxT ⟨kd, wh, tz, la, ke, va⟩)) (I : ShI B S HO IO hb ib w0 W lp lc n m hc ic f) :
    Calls Try.prog 27 #[.pointer (some ⟨S, 0, none⟩), .int .i64 (n : Int), aggT ⟨kd, wh, tz, la, ke, va⟩] w fun e w' => e = .returned (.int .i64 (2 : Nat)) ∧ Below w.heap.size w w' := by
  obtain ⟨t0, t1, t2, t3, t4, t5⟩ := (show CellT W w.heap.size 0 ⟨kd, wh, tz, la, ke, va⟩ by rw [hW]; exact boxT_at w _)
  simp only [Nat.zero_add] at t1 t2 t3 t4 t5
  dsimp only at t0 t1 t2 t3 t4 t5
  have BW := hid (show Below w.heap.size w W by rw [hW]; exact (Below.refl _ _).alloc (Nat.le_refl _) _)
  have x0 := I.cell0
  have HI := hid I
  clear I
  have hk1 : ¬ kd < 1 := by omega
  have hk2 : ¬ 3 < kd := by omega
  have hk3 : (kd == 3) = false := by rw [beq_eq_false_iff_ne]; omega
  have hw0 : ¬ wh < 0 := by omega
  have hw1 : ¬ (n : Int) ≤ wh := by omega
  have d1 := (decide_eq_true (show  la < 0 by omega))
  go_enter Try.func27, Try.ntmps27
  go_wp2
  rw [← hW]
  clear hW
  go_quiet (fail)
  go_wp2
  go_ret
  exact ⟨rfl, below_drewN BW.out _⟩

set_option maxHeartbeats 4000000 in
set_option maxRecDepth 100000 in
theorem gt_8 (B S HO IO : Nat) (hb ib : Nat → Nat) (w0 : World) (lp : Option Addr) (lc n m hc ic : Nat) (f : Plain.Shv) (kd wh tz la ke va : Int) (hk : kd = 1 ∨ kd = 2) (hw : 0 ≤ wh ∧ wh < n) (hl : (m : Int) ≤ la) (w W : World) (hW : W = w.alloc (boxT ⟨kd, wh, tz, la, ke, va⟩)) (I : ShI B S HO IO hb ib w0 W lp lc n m hc ic f) :
    Calls Try.prog 27 #[.pointer (some ⟨S, 0, none⟩), .int .i64 (n : Int), aggT ⟨kd, wh, tz, la, ke, va⟩] w fun e w' => e = .returned (.int .i64 (2 : Nat)) ∧ Below w.heap.size w w' := by
  obtain ⟨t0, t1, t2, t3, t4, t5⟩ := (show CellT W w.heap.size 0 ⟨kd, wh, tz, la, ke, va⟩ by rw [hW]; exact boxT_at w _)
  simp only [Nat.zero_add] at t1 t2 t3 t4 t5
  dsimp only at t0 t1 t2 t3 t4 t5
  have BW := hid (show Below w.heap.size w W by rw [hW]; exact (Below.refl _ _).alloc (Nat.le_refl _) _)
  have x0 := I.cell0
  have HI := hid I
  clear I
  have hk1 : ¬ kd < 1 := by omega
  have hk2 : ¬ 3 < kd := by omega
  have hk3 : (kd == 3) = false := by rw [beq_eq_false_iff_ne]; omega
  have hw0 : ¬ wh < 0 := by omega
  have hw1 : ¬ (n : Int) ≤ wh := by omega
  have d1 := (decide_eq_false (show ¬ la < 0 by omega))
  have d2 := (decide_eq_true (show  (m : Int) ≤ la by omega))
  go_enter Try.func27, Try.ntmps27
  go_wp2
  rw [← hW]
  clear hW
  go_quiet (fail)
  go_wp2
  go_ret
  exact ⟨rfl, below_drewN BW.out _⟩

set_option maxHeartbeats 4000000 in
set_option maxRecDepth 100000 in
theorem gt_9 (B S HO IO : Nat) (hb ib : Nat → Nat) (w0 : World) (lp : Option Addr) (lc n m hc ic : Nat) (f : Plain.Shv) (kd wh tz la ke va : Int) (hk : kd = 1 ∨ kd = 2) (hw : 0 ≤ wh ∧ wh < n) (hl : 0 ≤ la ∧ la < m) (hy : ke < 0) (w W : World) (hW : W = w.alloc (boxT ⟨kd, wh, tz, la, ke, va⟩)) (I : ShI B S HO IO hb ib w0 W lp lc n m hc ic f) :
    Calls Try.prog 27 #[.pointer (some ⟨S, 0, none⟩), .int .i64 (n : Int), aggT ⟨kd, wh, tz, la, ke, va⟩] w fun e w' => e = .returned (.int .i64 (2 : Nat)) ∧ Below w.heap.size w w' := by
  obtain ⟨t0, t1, t2, t3, t4, t5⟩ := (show CellT W w.heap.size 0 ⟨kd, wh, tz, la, ke, va⟩ by rw [hW]; exact boxT_at w _)
  simp only [Nat.zero_add] at t1 t2 t3 t4 t5
  dsimp only at t0 t1 t2 t3 t4 t5
  have BW := hid (show Below w.heap.size w W by rw [hW]; exact (Below.refl _ _).alloc (Nat.le_refl _) _)
  have x0 := I.cell0
  have HI := hid I
  clear I
  have hk1 : ¬ kd < 1 := by omega
  have hk2 : ¬ 3 < kd := by omega
  have hk3 : (kd == 3) = false := by rw [beq_eq_false_iff_ne]; omega
  have hw0 : ¬ wh < 0 := by omega
  have hw1 : ¬ (n : Int) ≤ wh := by omega
  have d1 := (decide_eq_false (show ¬ la < 0 by omega))
  have d2 := (decide_eq_false (show ¬ (m : Int) ≤ la by omega))
  have d3 := (decide_eq_true (show  ke < 0 by omega))
  go_enter Try.func27, Try.ntmps27
  go_wp2
  rw [← hW]
  clear hW
  go_quiet (fail)
  go_wp2
  go_ret
  exact ⟨rfl, below_drewN BW.out _⟩

set_option maxHeartbeats 4000000 in
set_option maxRecDepth 100000 in
theorem gt_10 (B S HO IO : Nat) (hb ib : Nat → Nat) (w0 : World) (lp : Option Addr) (lc n m hc ic : Nat) (f : Plain.Shv) (kd wh tz la ke va : Int) (hk : kd = 1 ∨ kd = 2) (hw : 0 ≤ wh ∧ wh < n) (hl : 0 ≤ la ∧ la < m) (hy : 7 < ke) (w W : World) (hW : W = w.alloc (boxT ⟨kd, wh, tz, la, ke, va⟩)) (I : ShI B S HO IO hb ib w0 W lp lc n m hc ic f) :
    Calls Try.prog 27 #[.pointer (some ⟨S, 0, none⟩), .int .i64 (n : Int), aggT ⟨kd, wh, tz, la, ke, va⟩] w fun e w' => e = .returned (.int .i64 (2 : Nat)) ∧ Below w.heap.size w w' := by
  obtain ⟨t0, t1, t2, t3, t4, t5⟩ := (show CellT W w.heap.size 0 ⟨kd, wh, tz, la, ke, va⟩ by rw [hW]; exact boxT_at w _)
  simp only [Nat.zero_add] at t1 t2 t3 t4 t5
  dsimp only at t0 t1 t2 t3 t4 t5
  have BW := hid (show Below w.heap.size w W by rw [hW]; exact (Below.refl _ _).alloc (Nat.le_refl _) _)
  have x0 := I.cell0
  have HI := hid I
  clear I
  have hk1 : ¬ kd < 1 := by omega
  have hk2 : ¬ 3 < kd := by omega
  have hk3 : (kd == 3) = false := by rw [beq_eq_false_iff_ne]; omega
  have hw0 : ¬ wh < 0 := by omega
  have hw1 : ¬ (n : Int) ≤ wh := by omega
  have d1 := (decide_eq_false (show ¬ la < 0 by omega))
  have d2 := (decide_eq_false (show ¬ (m : Int) ≤ la by omega))
  have d3 := (decide_eq_false (show ¬ ke < 0 by omega))
  have d4 := (decide_eq_true (show  7 < ke by omega))
  go_enter Try.func27, Try.ntmps27
  go_wp2
  rw [← hW]
  clear hW
  go_quiet (fail)
  go_wp2
  go_ret
  exact ⟨rfl, below_drewN BW.out _⟩

set_option maxHeartbeats 4000000 in
set_option maxRecDepth 100000 in
theorem gt_11 (B S HO IO : Nat) (hb ib : Nat → Nat) (w0 : World) (lp : Option Addr) (lc n m hc ic : Nat) (f : Plain.Shv) (kd wh tz la ke va : Int) (hk : kd = 1 ∨ kd = 2) (hw : 0 ≤ wh ∧ wh < n) (hl : 0 ≤ la ∧ la < m) (hy : 0 ≤ ke ∧ ke < 8) (hkd : kd = 1) (hv : va < 0) (w W : World) (hW : W = w.alloc (boxT ⟨kd, wh, tz, la, ke, va⟩)) (I : ShI B S HO IO hb ib w0 W lp lc n m hc ic f) :
    Calls Try.prog 27 #[.pointer (some ⟨S, 0, none⟩), .int .i64 (n : Int), aggT ⟨kd, wh, tz, la, ke, va⟩] w fun e w' => e = .returned (.int .i64 (2 : Nat)) ∧ Below w.heap.size w w' := by
  obtain ⟨t0, t1, t2, t3, t4, t5⟩ := (show CellT W w.heap.size 0 ⟨kd, wh, tz, la, ke, va⟩ by rw [hW]; exact boxT_at w _)
  simp only [Nat.zero_add] at t1 t2 t3 t4 t5
  dsimp only at t0 t1 t2 t3 t4 t5
  have BW := hid (show Below w.heap.size w W by rw [hW]; exact (Below.refl _ _).alloc (Nat.le_refl _) _)
  have x0 := I.cell0
  have HI := hid I
  clear I
  subst hkd
  have hw0 : ¬ wh < 0 := by omega
  have hw1 : ¬ (n : Int) ≤ wh := by omega
  have d1 := (decide_eq_false (show ¬ la < 0 by omega))
  have d2 := (decide_eq_false (show ¬ (m : Int) ≤ la by omega))
  have d3 := (decide_eq_false (show ¬ ke < 0 by omega))
  have d4 := (decide_eq_false (show ¬ 7 < ke by omega))
  go_enter Try.func27, Try.ntmps27
  go_wp2
  rw [← hW]
  clear hW
  go_quiet (fail)
  obtain ⟨V, hV⟩ : ∃ V, V = W.drewN nq := ⟨_, rfl⟩
  rw [← hV]
  have s0 : V.cell? ⟨w.heap.size, 0, none⟩ = some (.int .i64 1) := by rw [hV]; simpa using t0
  have s1 : V.cell? ⟨w.heap.size, 1, none⟩ = some (.int .i64 wh) := by rw [hV]; simpa using t1
  have s3 : V.cell? ⟨w.heap.size, 3, none⟩ = some (.int .i64 la) := by rw [hV]; simpa using t3
  have s4 : V.cell? ⟨w.heap.size, 4, none⟩ = some (.int .i64 ke) := by rw [hV]; simpa using t4
  have s5 : V.cell? ⟨w.heap.size, 5, none⟩ = some (.int .i64 va) := by rw [hV]; simpa using t5
  have y0 : V.cell? ⟨S, 0, none⟩ = some (.slice lp m lc) := by rw [hV]; simpa using x0
  have BV := hid (show Below w.heap.size w V by rw [hV]; exact below_drewN BW.out _)
  have BWV := hid (show Below W.heap.size W V by rw [hV]; exact below_drewN (Below.refl _ _) _)
  clear hV t0 t1 t2 t3 t4 t5 x0 d1 d2 d3 d4
  go_wp2
  go_ret
  exact ⟨rfl, BV.out⟩

set_option maxHeartbeats 4000000 in
set_option maxRecDepth 100000 in
theorem gt_12 (B S HO IO : Nat) (hb ib : Nat → Nat) (w0 : World) (lp : Option Addr) (lc n m hc ic : Nat) (f : Plain.Shv) (kd wh tz la ke va : Int) (hk : kd = 1 ∨ kd = 2) (hw : 0 ≤ wh ∧ wh < n) (hl : 0 ≤ la ∧ la < m) (hy : 0 ≤ ke ∧ ke < 8) (hkd : kd = 1) (hv : 255 < va) (w W : World) (hW : W = w.alloc (boxT ⟨kd, wh, tz, la, ke, va⟩)) (I : ShI B S HO IO hb ib w0 W lp lc n m hc ic f) :
    Calls Try.prog 27 #[.pointer (some ⟨S, 0, none⟩), .int .i64 (n : Int), aggT ⟨kd, wh, tz, la, ke, va⟩] w fun e w' => e = .returned (.int .i64 (2 : Nat)) ∧ Below w.heap.size w w' := by
  obtain ⟨t0, t1, t2, t3, t4, t5⟩ := (show CellT W w.heap.size 0 ⟨kd, wh, tz, la, ke, va⟩ by rw [hW]; exact boxT_at w _)
  simp only [Nat.zero_add] at t1 t2 t3 t4 t5
  dsimp only at t0 t1 t2 t3 t4 t5
  have BW := hid (show Below w.heap.size w W by rw [hW]; exact (Below.refl _ _).alloc (Nat.le_refl _) _)
  have x0 := I.cell0
  have HI := hid I
  clear I
  subst hkd
  have hv0 : ¬ va < 0 := by omega
  have hw0 : ¬ wh < 0 := by omega
  have hw1 : ¬ (n : Int) ≤ wh := by omega
  have d1 := (decide_eq_false (show ¬ la < 0 by omega))
  have d2 := (decide_eq_false (show ¬ (m : Int) ≤ la by omega))
  have d3 := (decide_eq_false (show ¬ ke < 0 by omega))
  have d4 := (decide_eq_false (show ¬ 7 < ke by omega))
  go_enter Try.func27, Try.ntmps27
  go_wp2
  rw [← hW]
  clear hW
  go_quiet (fail)
  obtain ⟨V, hV⟩ : ∃ V, V = W.drewN nq := ⟨_, rfl⟩
  rw [← hV]
  have s0 : V.cell? ⟨w.heap.size, 0, none⟩ = some (.int .i64 1) := by rw [hV]; simpa using t0
  have s1 : V.cell? ⟨w.heap.size, 1, none⟩ = some (.int .i64 wh) := by rw [hV]; simpa using t1
  have s3 : V.cell? ⟨w.heap.size, 3, none⟩ = some (.int .i64 la) := by rw [hV]; simpa using t3
  have s4 : V.cell? ⟨w.heap.size, 4, none⟩ = some (.int .i64 ke) := by rw [hV]; simpa using t4
  have s5 : V.cell? ⟨w.heap.size, 5, none⟩ = some (.int .i64 va) := by rw [hV]; simpa using t5
  have y0 : V.cell? ⟨S, 0, none⟩ = some (.slice lp m lc) := by rw [hV]; simpa using x0
  have BV := hid (show Below w.heap.size w V by rw [hV]; exact below_drewN BW.out _)
  have BWV := hid (show Below W.heap.size W V by rw [hV]; exact below_drewN (Below.refl _ _) _)
  clear hV t0 t1 t2 t3 t4 t5 x0 d1 d2 d3 d4
  go_wp2
  go_ret
  exact ⟨rfl, BV.out⟩

set_option maxHeartbeats 4000000 in
set_option maxRecDepth 100000 in
theorem gt_13 (B S HO IO : Nat) (hb ib : Nat → Nat) (w0 : World) (lp : Option Addr) (lc n m hc ic : Nat) (f : Plain.Shv) (i j k : Nat) (tz va : Int) (hn : n ≤ 8) (hi : i < n) (hj : j < m) (hk : k < 8) (hv : 0 ≤ va ∧ va ≤ 255) (z : Nat) (hz : z < 256) (hrd : Plain.reads (z : Int) i = false) (lb lo : Nat) (hlp : lp = some ⟨lb, lo, none⟩) (w W : World) (hW : W = w.alloc (boxT ⟨1, (i : Int), tz, (j : Int), (k : Int), va⟩)) (hlc : W.cell? ⟨lb, lo + j, none⟩ = some (.int .i64 (z : Int))) (I : ShI B S HO IO hb ib w0 W lp lc n m hc ic f) :
    Calls Try.prog 27 #[.pointer (some ⟨S, 0, none⟩), .int .i64 (n : Int), aggT ⟨1, (i : Int), tz, (j : Int), (k : Int), va⟩] w fun e w' => e = .returned (.int .i64 (11 : Nat)) ∧ Below w.heap.size w w' := by
  obtain ⟨t0, t1, t2, t3, t4, t5⟩ := (show CellT W w.heap.size 0 ⟨1, (i : Int), tz, (j : Int), (k : Int), va⟩ by rw [hW]; exact boxT_at w _)
  simp only [Nat.zero_add] at t1 t2 t3 t4 t5
  dsimp only at t0 t1 t2 t3 t4 t5
  have BW := hid (show Below w.heap.size w W by rw [hW]; exact (Below.refl _ _).alloc (Nat.le_refl _) _)
  have x0 := I.cell0
  have HI := hid I
  subst hlp
  have hiz : (i : Int) < (n : Int) := by omega
  have hjz : (j : Int) < (m : Int) := by omega
  clear I
  have hw0 : ¬ (i : Int) < 0 := by omega
  have hw1 : ¬ (n : Int) ≤ (i : Int) := by omega
  have d1 := (decide_eq_false (show ¬ (j : Int) < 0 by omega))
  have d2 := (decide_eq_false (show ¬ (m : Int) ≤ (j : Int) by omega))
  have d3 := (decide_eq_false (show ¬ (k : Int) < 0 by omega))
  have d4 := (decide_eq_false (show ¬ 7 < (k : Int) by omega))
  go_enter Try.func27, Try.ntmps27
  go_wp2
  rw [← hW]
  clear hW
  go_quiet (fail)
  obtain ⟨V, hV⟩ : ∃ V, V = W.drewN nq := ⟨_, rfl⟩
  rw [← hV]
  have s0 : V.cell? ⟨w.heap.size, 0, none⟩ = some (.int .i64 1) := by rw [hV]; simpa using t0
  have s1 : V.cell? ⟨w.heap.size, 1, none⟩ = some (.int .i64 (i : Int)) := by rw [hV]; simpa using t1
  have s3 : V.cell? ⟨w.heap.size, 3, none⟩ = some (.int .i64 (j : Int)) := by rw [hV]; simpa using t3
  have s4 : V.cell? ⟨w.heap.size, 4, none⟩ = some (.int .i64 (k : Int)) := by rw [hV]; simpa using t4
  have s5 : V.cell? ⟨w.heap.size, 5, none⟩ = some (.int .i64 va) := by rw [hV]; simpa using t5
  have y0 : V.cell? ⟨S, 0, none⟩ = some (.slice (some ⟨lb, lo, none⟩) m lc) := by rw [hV]; simpa using x0
  have BV := hid (show Below w.heap.size w V by rw [hV]; exact below_drewN BW.out _)
  have BWV := hid (show Below W.heap.size W V by rw [hV]; exact below_drewN (Below.refl _ _) _)
  clear hV t0 t1 t2 t3 t4 t5 x0 d1 d2 d3 d4
  have yl : V.cell? ⟨lb, lo + j, none⟩ = some (.int .i64 (z : Int)) := (BWV.out.cell (p := ⟨lb, lo + j, none⟩) (World.block_lt_of_cell? (w := W) (h := hlc))).trans hlc
  have KR := fun X => rreads_c z i hz (by omega) X
  clear hlc
  have hv0 : ¬ va < 0 := by omega
  have hv1 : ¬ 255 < va := by omega
  rw [hrd] at KR
  go_wp2
  go_quiet ((go_at_call 41; exact Calls.quiet_of_same (KR _)))
  go_wp2
  go_ret
  exact ⟨rfl, below_drewN BV.out _⟩

set_option maxHeartbeats 4000000 in
set_option maxRecDepth 100000 in
theorem gt_14 (B S HO IO : Nat) (hb ib : Nat → Nat) (w0 : World) (lp : Option Addr) (lc n m hc ic : Nat) (f : Plain.Shv) (i j k : Nat) (tz va : Int) (hn : n ≤ 8) (hi : i < n) (hj : j < m) (hk : k < 8) (z : Nat) (hz : z < 256) (hrd : Plain.reads (z : Int) i = false) (lb lo : Nat) (hlp : lp = some ⟨lb, lo, none⟩) (w W : World) (hW : W = w.alloc (boxT ⟨2, (i : Int), tz, (j : Int), (k : Int), va⟩)) (hlc : W.cell? ⟨lb, lo + j, none⟩ = some (.int .i64 (z : Int))) (I : ShI B S HO IO hb ib w0 W lp lc n m hc ic f) :
    Calls Try.prog 27 #[.pointer (some ⟨S, 0, none⟩), .int .i64 (n : Int), aggT ⟨2, (i : Int), tz, (j : Int), (k : Int), va⟩] w fun e w' => e = .returned (.int .i64 (11 : Nat)) ∧ Below w.heap.size w w' := by
  obtain ⟨t0, t1, t2, t3, t4, t5⟩ := (show CellT W w.heap.size 0 ⟨2, (i : Int), tz, (j : Int), (k : Int), va⟩ by rw [hW]; exact boxT_at w _)
  simp only [Nat.zero_add] at t1 t2 t3 t4 t5
  dsimp only at t0 t1 t2 t3 t4 t5
  have BW := hid (show Below w.heap.size w W by rw [hW]; exact (Below.refl _ _).alloc (Nat.le_refl _) _)
  have x0 := I.cell0
  have HI := hid I
  subst hlp
  have hiz : (i : Int) < (n : Int) := by omega
  have hjz : (j : Int) < (m : Int) := by omega
  clear I
  have hw0 : ¬ (i : Int) < 0 := by omega
  have hw1 : ¬ (n : Int) ≤ (i : Int) := by omega
  have d1 := (decide_eq_false (show ¬ (j : Int) < 0 by omega))
  have d2 := (decide_eq_false (show ¬ (m : Int) ≤ (j : Int) by omega))
  have d3 := (decide_eq_false (show ¬ (k : Int) < 0 by omega))
  have d4 := (decide_eq_false (show ¬ 7 < (k : Int) by omega))
  go_enter Try.func27, Try.ntmps27
  go_wp2
  rw [← hW]
  clear hW
  go_quiet (fail)
  obtain ⟨V, hV⟩ : ∃ V, V = W.drewN nq := ⟨_, rfl⟩
  rw [← hV]
  have s0 : V.cell? ⟨w.heap.size, 0, none⟩ = some (.int .i64 2) := by rw [hV]; simpa using t0
  have s1 : V.cell? ⟨w.heap.size, 1, none⟩ = some (.int .i64 (i : Int)) := by rw [hV]; simpa using t1
  have s3 : V.cell? ⟨w.heap.size, 3, none⟩ = some (.int .i64 (j : Int)) := by rw [hV]; simpa using t3
  have s4 : V.cell? ⟨w.heap.size, 4, none⟩ = some (.int .i64 (k : Int)) := by rw [hV]; simpa using t4
  have s5 : V.cell? ⟨w.heap.size, 5, none⟩ = some (.int .i64 va) := by rw [hV]; simpa using t5
  have y0 : V.cell? ⟨S, 0, none⟩ = some (.slice (some ⟨lb, lo, none⟩) m lc) := by rw [hV]; simpa using x0
  have BV := hid (show Below w.heap.size w V by rw [hV]; exact below_drewN BW.out _)
  have BWV := hid (show Below W.heap.size W V by rw [hV]; exact below_drewN (Below.refl _ _) _)
  clear hV t0 t1 t2 t3 t4 t5 x0 d1 d2 d3 d4
  have yl : V.cell? ⟨lb, lo + j, none⟩ = some (.int .i64 (z : Int)) := (BWV.out.cell (p := ⟨lb, lo + j, none⟩) (World.block_lt_of_cell? (w := W) (h := hlc))).trans hlc
  have KR := fun X => rreads_c z i hz (by omega) X
  clear hlc
  rw [hrd] at KR
  go_wp2
  go_quiet ((go_at_call 41; exact Calls.quiet_of_same (KR _)))
  go_wp2
  go_ret
  exact ⟨rfl, below_drewN BV.out _⟩

set_option maxHeartbeats 4000000 in
set_option maxRecDepth 100000 in
theorem gt_15 (B S HO IO : Nat) (hb ib : Nat → Nat) (w0 : World) (lp : Option Addr) (lc n m hc ic : Nat) (f : Plain.Shv) (i j k : Nat) (tz va : Int) (hn : n ≤ 8) (hi : i < n) (hj : j < m) (hk : k < 8) (hv : 0 ≤ va ∧ va ≤ 255) (L : List Int) (ok : f.Ok) (hwr : Plain.Wr n L f.st ⟨1, (i : Int), tz, (j : Int), (k : Int), va⟩) (T : Int) (hT : Plain.maxA (f i j) 8 ≤ T ∧ T < 1000000) (z : Nat) (hz : z < 256) (hrd : Plain.reads (z : Int) i = true) (lb lo : Nat) (hlp : lp = some ⟨lb, lo, none⟩) (w W : World) (hW : W = w.alloc (boxT ⟨1, (i : Int), tz, (j : Int), (k : Int), va⟩)) (hBW : B ≤ W.heap.size) (hlc : W.cell? ⟨lb, lo + j, none⟩ = some (.int .i64 (z : Int))) (I : ShI B S HO IO hb ib w0 W lp lc n m hc ic f) :
    Calls Try.prog 27 #[.pointer (some ⟨S, 0, none⟩), .int .i64 (n : Int), aggT ⟨1, (i : Int), tz, (j : Int), (k : Int), va⟩] w fun e w' => TuP B S HO IO hb ib w0 lp lc n m hc ic L f ⟨1, (i : Int), tz, (j : Int), (k : Int), va⟩ w e w' := by
  obtain ⟨t0, t1, t2, t3, t4, t5⟩ := (show CellT W w.heap.size 0 ⟨1, (i : Int), tz, (j : Int), (k : Int), va⟩ by rw [hW]; exact boxT_at w _)
  simp only [Nat.zero_add] at t1 t2 t3 t4 t5
  dsimp only at t0 t1 t2 t3 t4 t5
  have BW := hid (show Below w.heap.size w W by rw [hW]; exact (Below.refl _ _).alloc (Nat.le_refl _) _)
  have x0 := I.cell0
  have HI := hid I
  subst hlp
  have hiz : (i : Int) < (n : Int) := by omega
  have hjz : (j : Int) < (m : Int) := by omega
  clear I
  have hw0 : ¬ (i : Int) < 0 := by omega
  have hw1 : ¬ (n : Int) ≤ (i : Int) := by omega
  have d1 := (decide_eq_false (show ¬ (j : Int) < 0 by omega))
  have d2 := (decide_eq_false (show ¬ (m : Int) ≤ (j : Int) by omega))
  have d3 := (decide_eq_false (show ¬ (k : Int) < 0 by omega))
  have d4 := (decide_eq_false (show ¬ 7 < (k : Int) by omega))
  go_enter Try.func27, Try.ntmps27
  go_wp2
  rw [← hW]
  clear hW
  go_quiet (fail)
  obtain ⟨V, hV⟩ : ∃ V, V = W.drewN nq := ⟨_, rfl⟩
  rw [← hV]
  have s0 : V.cell? ⟨w.heap.size, 0, none⟩ = some (.int .i64 1) := by rw [hV]; simpa using t0
  have s1 : V.cell? ⟨w.heap.size, 1, none⟩ = some (.int .i64 (i : Int)) := by rw [hV]; simpa using t1
  have s3 : V.cell? ⟨w.heap.size, 3, none⟩ = some (.int .i64 (j : Int)) := by rw [hV]; simpa using t3
  have s4 : V.cell? ⟨w.heap.size, 4, none⟩ = some (.int .i64 (k : Int)) := by rw [hV]; simpa using t4
  have s5 : V.cell? ⟨w.heap.size, 5, none⟩ = some (.int .i64 va) := by rw [hV]; simpa using t5
  have y0 : V.cell? ⟨S, 0, none⟩ = some (.slice (some ⟨lb, lo, none⟩) m lc) := by rw [hV]; simpa using x0
  have BV := hid (show Below w.heap.size w V by rw [hV]; exact below_drewN BW.out _)
  have BWV := hid (show Below W.heap.size W V by rw [hV]; exact below_drewN (Below.refl _ _) _)
  clear hV t0 t1 t2 t3 t4 t5 x0 d1 d2 d3 d4
  have yl : V.cell? ⟨lb, lo + j, none⟩ = some (.int .i64 (z : Int)) := (BWV.out.cell (p := ⟨lb, lo + j, none⟩) (World.block_lt_of_cell? (w := W) (h := hlc))).trans hlc
  have KR := fun X => rreads_c z i hz (by omega) X
  clear hlc
  have hv0 : ¬ va < 0 := by omega
  have hv1 : ¬ 255 < va := by omega
  rw [hrd] at KR
  go_wp2
  go_quiet ((go_at_call 41; exact Calls.quiet_of_same (KR _)))
  obtain ⟨V2, hV2⟩ : ∃ V2, V2 = V.drewN nq := ⟨_, rfl⟩
  rw [← hV2]
  have bV2 : Below V.heap.size V V2 := by rw [hV2]; exact below_drewN (Below.refl _ _) _
  have hbx : w.heap.size < V.heap.size := World.block_lt_of_cell? (w := V) (h := s0)
  have u0 := (bV2.cell (p := ⟨w.heap.size, 0, none⟩) hbx).trans s0
  have u1 := (bV2.cell (p := ⟨w.heap.size, 1, none⟩) hbx).trans s1
  have u3 := (bV2.cell (p := ⟨w.heap.size, 3, none⟩) hbx).trans s3
  have u4 := (bV2.cell (p := ⟨w.heap.size, 4, none⟩) hbx).trans s4
  have u5 := (bV2.cell (p := ⟨w.heap.size, 5, none⟩) hbx).trans s5
  have IV := hid (HI.out.grow hBW (BWV.out.trans (bV2.mono BWV.out.size)))
  have BV2 := hid (BV.out.trans (bV2.mono BV.out.size))
  have KS := set_c B S HO IO hb ib w0 (some ⟨lb, lo, none⟩) lc n m hc ic f i j k va false hi hj hk T hT V2 IV.out
  have HWR := hid hwr
  have HOK := hid ok
  clear hwr ok s0 s1 s3 s4 s5 y0 yl hV2 bV2 KR
  go_wp2_with fail
  refine KS.mono ?_
  rintro e W3 ⟨rfl, h3, u3'⟩
  have FX := hid (tuP_set (kd := 1) (tz := tz) (va := va) HOK.out HWR.out BV2.out (by simpa using h3) u3')
  clear h3 u3' KS
  go_wp2
  go_ret
  exact FX.out

set_option maxHeartbeats 4000000 in
set_option maxRecDepth 100000 in
theorem gt_16 (B S HO IO : Nat) (hb ib : Nat → Nat) (w0 : World) (lp : Option Addr) (lc n m hc ic : Nat) (f : Plain.Shv) (i j k : Nat) (tz va : Int) (hn : n ≤ 8) (hi : i < n) (hj : j < m) (hk : k < 8) (hf : f i j k = none) (z : Nat) (hz : z < 256) (hrd : Plain.reads (z : Int) i = true) (lb lo : Nat) (hlp : lp = some ⟨lb, lo, none⟩) (w W : World) (hW : W = w.alloc (boxT ⟨2, (i : Int), tz, (j : Int), (k : Int), va⟩)) (hBW : B ≤ W.heap.size) (hlc : W.cell? ⟨lb, lo + j, none⟩ = some (.int .i64 (z : Int))) (I : ShI B S HO IO hb ib w0 W lp lc n m hc ic f) :
    Calls Try.prog 27 #[.pointer (some ⟨S, 0, none⟩), .int .i64 (n : Int), aggT ⟨2, (i : Int), tz, (j : Int), (k : Int), va⟩] w fun e w' => e = .returned (.int .i64 (6 : Nat)) ∧ Below w.heap.size w w' := by
  obtain ⟨t0, t1, t2, t3, t4, t5⟩ := (show CellT W w.heap.size 0 ⟨2, (i : Int), tz, (j : Int), (k : Int), va⟩ by rw [hW]; exact boxT_at w _)
  simp only [Nat.zero_add] at t1 t2 t3 t4 t5
  dsimp only at t0 t1 t2 t3 t4 t5
  have BW := hid (show Below w.heap.size w W by rw [hW]; exact (Below.refl _ _).alloc (Nat.le_refl _) _)
  have x0 := I.cell0
  have HI := hid I
  subst hlp
  have hiz : (i : Int) < (n : Int) := by omega
  have hjz : (j : Int) < (m : Int) := by omega
  clear I
  have hw0 : ¬ (i : Int) < 0 := by omega
  have hw1 : ¬ (n : Int) ≤ (i : Int) := by omega
  have d1 := (decide_eq_false (show ¬ (j : Int) < 0 by omega))
  have d2 := (decide_eq_false (show ¬ (m : Int) ≤ (j : Int) by omega))
  have d3 := (decide_eq_false (show ¬ (k : Int) < 0 by omega))
  have d4 := (decide_eq_false (show ¬ 7 < (k : Int) by omega))
  go_enter Try.func27, Try.ntmps27
  go_wp2
  rw [← hW]
  clear hW
  go_quiet (fail)
  obtain ⟨V, hV⟩ : ∃ V, V = W.drewN nq := ⟨_, rfl⟩
  rw [← hV]
  have s0 : V.cell? ⟨w.heap.size, 0, none⟩ = some (.int .i64 2) := by rw [hV]; simpa using t0
  have s1 : V.cell? ⟨w.heap.size, 1, none⟩ = some (.int .i64 (i : Int)) := by rw [hV]; simpa using t1
  have s3 : V.cell? ⟨w.heap.size, 3, none⟩ = some (.int .i64 (j : Int)) := by rw [hV]; simpa using t3
  have s4 : V.cell? ⟨w.heap.size, 4, none⟩ = some (.int .i64 (k : Int)) := by rw [hV]; simpa using t4
  have s5 : V.cell? ⟨w.heap.size, 5, none⟩ = some (.int .i64 va) := by rw [hV]; simpa using t5
  have y0 : V.cell? ⟨S, 0, none⟩ = some (.slice (some ⟨lb, lo, none⟩) m lc) := by rw [hV]; simpa using x0
  have BV := hid (show Below w.heap.size w V by rw [hV]; exact below_drewN BW.out _)
  have BWV := hid (show Below W.heap.size W V by rw [hV]; exact below_drewN (Below.refl _ _) _)
  clear hV t0 t1 t2 t3 t4 t5 x0 d1 d2 d3 d4
  have yl : V.cell? ⟨lb, lo + j, none⟩ = some (.int .i64 (z : Int)) := (BWV.out.cell (p := ⟨lb, lo + j, none⟩) (World.block_lt_of_cell? (w := W) (h := hlc))).trans hlc
  have KR := fun X => rreads_c z i hz (by omega) X
  clear hlc
  rw [hrd] at KR
  go_wp2
  go_quiet ((go_at_call 41; exact Calls.quiet_of_same (KR _)))
  obtain ⟨V2, hV2⟩ : ∃ V2, V2 = V.drewN nq := ⟨_, rfl⟩
  rw [← hV2]
  have bV2 : Below V.heap.size V V2 := by rw [hV2]; exact below_drewN (Below.refl _ _) _
  have hbx : w.heap.size < V.heap.size := World.block_lt_of_cell? (w := V) (h := s0)
  have u0 := (bV2.cell (p := ⟨w.heap.size, 0, none⟩) hbx).trans s0
  have u1 := (bV2.cell (p := ⟨w.heap.size, 1, none⟩) hbx).trans s1
  have u3 := (bV2.cell (p := ⟨w.heap.size, 3, none⟩) hbx).trans s3
  have u4 := (bV2.cell (p := ⟨w.heap.size, 4, none⟩) hbx).trans s4
  have u5 := (bV2.cell (p := ⟨w.heap.size, 5, none⟩) hbx).trans s5
  have IV := hid (HI.out.grow hBW (BWV.out.trans (bV2.mono BWV.out.size)))
  have BV2 := hid (BV.out.trans (bV2.mono BV.out.size))
  have HB2 := hid (bV2.mono BWV.out.size)
  have x1 := IV.out.cell1
  have x2 := IV.out.cell2
  have xh := IV.out.cellH hi
  have xi := IV.out.cellI hi
  have ci := (IV.out.isAt hi hj hk).1
  rw [hf] at ci
  have ci' : V2.cell? ⟨ib i, j * 8 + k, none⟩ = some (.bool false) := ci
  clear ci s0 s1 s3 s4 s5 y0 yl hV2 bV2 KR
  go_wp2
  go_quiet (fail)
  go_wp2
  go_ret
  exact ⟨rfl, below_drewN BV2.out _⟩

set_option maxHeartbeats 4000000 in
set_option maxRecDepth 100000 in
theorem gt_17 (B S HO IO : Nat) (hb ib : Nat → Nat) (w0 : World) (lp : Option Addr) (lc n m hc ic : Nat) (f : Plain.Shv) (i j k : Nat) (tz va : Int) (hn : n ≤ 8) (hi : i < n) (hj : j < m) (hk : k < 8) (x : Plain.En) (hf : f i j k = some x) (hgx : x.gone = true) (z : Nat) (hz : z < 256) (hrd : Plain.reads (z : Int) i = true) (lb lo : Nat) (hlp : lp = some ⟨lb, lo, none⟩) (w W : World) (hW : W = w.alloc (boxT ⟨2, (i : Int), tz, (j : Int), (k : Int), va⟩)) (hBW : B ≤ W.heap.size) (hlc : W.cell? ⟨lb, lo + j, none⟩ = some (.int .i64 (z : Int))) (I : ShI B S HO IO hb ib w0 W lp lc n m hc ic f) :
    Calls Try.prog 27 #[.pointer (some ⟨S, 0, none⟩), .int .i64 (n : Int), aggT ⟨2, (i : Int), tz, (j : Int), (k : Int), va⟩] w fun e w' => e = .returned (.int .i64 (6 : Nat)) ∧ Below w.heap.size w w' := by
  obtain ⟨t0, t1, t2, t3, t4, t5⟩ := (show CellT W w.heap.size 0 ⟨2, (i : Int), tz, (j : Int), (k : Int), va⟩ by rw [hW]; exact boxT_at w _)
  simp only [Nat.zero_add] at t1 t2 t3 t4 t5
  dsimp only at t0 t1 t2 t3 t4 t5
  have BW := hid (show Below w.heap.size w W by rw [hW]; exact (Below.refl _ _).alloc (Nat.le_refl _) _)
  have x0 := I.cell0
  have HI := hid I
  subst hlp
  have hiz : (i : Int) < (n : Int) := by omega
  have hjz : (j : Int) < (m : Int) := by omega
  clear I
  have hw0 : ¬ (i : Int) < 0 := by omega
  have hw1 : ¬ (n : Int) ≤ (i : Int) := by omega
  have d1 := (decide_eq_false (show ¬ (j : Int) < 0 by omega))
  have d2 := (decide_eq_false (show ¬ (m : Int) ≤ (j : Int) by omega))
  have d3 := (decide_eq_false (show ¬ (k : Int) < 0 by omega))
  have d4 := (decide_eq_false (show ¬ 7 < (k : Int) by omega))
  go_enter Try.func27, Try.ntmps27
  go_wp2
  rw [← hW]
  clear hW
  go_quiet (fail)
  obtain ⟨V, hV⟩ : ∃ V, V = W.drewN nq := ⟨_, rfl⟩
  rw [← hV]
  have s0 : V.cell? ⟨w.heap.size, 0, none⟩ = some (.int .i64 2) := by rw [hV]; simpa using t0
  have s1 : V.cell? ⟨w.heap.size, 1, none⟩ = some (.int .i64 (i : Int)) := by rw [hV]; simpa using t1
  have s3 : V.cell? ⟨w.heap.size, 3, none⟩ = some (.int .i64 (j : Int)) := by rw [hV]; simpa using t3
  have s4 : V.cell? ⟨w.heap.size, 4, none⟩ = some (.int .i64 (k : Int)) := by rw [hV]; simpa using t4
  have s5 : V.cell? ⟨w.heap.size, 5, none⟩ = some (.int .i64 va) := by rw [hV]; simpa using t5
  have y0 : V.cell? ⟨S, 0, none⟩ = some (.slice (some ⟨lb, lo, none⟩) m lc) := by rw [hV]; simpa using x0
  have BV := hid (show Below w.heap.size w V by rw [hV]; exact below_drewN BW.out _)
  have BWV := hid (show Below W.heap.size W V by rw [hV]; exact below_drewN (Below.refl _ _) _)
  clear hV t0 t1 t2 t3 t4 t5 x0 d1 d2 d3 d4
  have yl : V.cell? ⟨lb, lo + j, none⟩ = some (.int .i64 (z : Int)) := (BWV.out.cell (p := ⟨lb, lo + j, none⟩) (World.block_lt_of_cell? (w := W) (h := hlc))).trans hlc
  have KR := fun X => rreads_c z i hz (by omega) X
  clear hlc
  rw [hrd] at KR
  go_wp2
  go_quiet ((go_at_call 41; exact Calls.quiet_of_same (KR _)))
  obtain ⟨V2, hV2⟩ : ∃ V2, V2 = V.drewN nq := ⟨_, rfl⟩
  rw [← hV2]
  have bV2 : Below V.heap.size V V2 := by rw [hV2]; exact below_drewN (Below.refl _ _) _
  have hbx : w.heap.size < V.heap.size := World.block_lt_of_cell? (w := V) (h := s0)
  have u0 := (bV2.cell (p := ⟨w.heap.size, 0, none⟩) hbx).trans s0
  have u1 := (bV2.cell (p := ⟨w.heap.size, 1, none⟩) hbx).trans s1
  have u3 := (bV2.cell (p := ⟨w.heap.size, 3, none⟩) hbx).trans s3
  have u4 := (bV2.cell (p := ⟨w.heap.size, 4, none⟩) hbx).trans s4
  have u5 := (bV2.cell (p := ⟨w.heap.size, 5, none⟩) hbx).trans s5
  have IV := hid (HI.out.grow hBW (BWV.out.trans (bV2.mono BWV.out.size)))
  have BV2 := hid (BV.out.trans (bV2.mono BV.out.size))
  have HB2 := hid (bV2.mono BWV.out.size)
  have x1 := IV.out.cell1
  have x2 := IV.out.cell2
  have xh := IV.out.cellH hi
  have xi := IV.out.cellI hi
  have ci := (IV.out.isAt hi hj hk).1
  rw [hf] at ci
  have ci' : V2.cell? ⟨ib i, j * 8 + k, none⟩ = some (.bool true) := ci
  have c4 := (IV.out.enAt hi hj hk hf).c4
  rw [hgx] at c4
  clear ci s0 s1 s3 s4 s5 y0 yl hV2 bV2 KR
  go_wp2
  go_quiet (fail)
  go_wp2
  go_ret
  exact ⟨rfl, below_drewN BV2.out _⟩

set_option maxHeartbeats 4000000 in
set_option maxRecDepth 100000 in
theorem gt_18 (B S HO IO : Nat) (hb ib : Nat → Nat) (w0 : World) (lp : Option Addr) (lc n m hc ic : Nat) (f : Plain.Shv) (i j k : Nat) (tz va : Int) (hn : n ≤ 8) (hi : i < n) (hj : j < m) (hk : k < 8) (x : Plain.En) (hf : f i j k = some x) (hgx : x.gone = false) (L : List Int) (ok : f.Ok) (hwr : Plain.Wr n L f.st ⟨2, (i : Int), tz, (j : Int), (k : Int), va⟩) (T : Int) (hT : Plain.maxA (f i j) 8 ≤ T ∧ T < 1000000) (z : Nat) (hz : z < 256) (hrd : Plain.reads (z : Int) i = true) (lb lo : Nat) (hlp : lp = some ⟨lb, lo, none⟩) (w W : World) (hW : W = w.alloc (boxT ⟨2, (i : Int), tz, (j : Int), (k : Int), va⟩)) (hBW : B ≤ W.heap.size) (hlc : W.cell? ⟨lb, lo + j, none⟩ = some (.int .i64 (z : Int))) (I : ShI B S HO IO hb ib w0 W lp lc n m hc ic f) :
    Calls Try.prog 27 #[.pointer (some ⟨S, 0, none⟩), .int .i64 (n : Int), aggT ⟨2, (i : Int), tz, (j : Int), (k : Int), va⟩] w fun e w' => TuP B S HO IO hb ib w0 lp lc n m hc ic L f ⟨2, (i : Int), tz, (j : Int), (k : Int), va⟩ w e w' := by
  obtain ⟨t0, t1, t2, t3, t4, t5⟩ := (show CellT W w.heap.size 0 ⟨2, (i : Int), tz, (j : Int), (k : Int), va⟩ by rw [hW]; exact boxT_at w _)
  simp only [Nat.zero_add] at t1 t2 t3 t4 t5
  dsimp only at t0 t1 t2 t3 t4 t5
  have BW := hid (show Below w.heap.size w W by rw [hW]; exact (Below.refl _ _).alloc (Nat.le_refl _) _)
  have x0 := I.cell0
  have HI := hid I
  subst hlp
  have hiz : (i : Int) < (n : Int) := by omega
  have hjz : (j : Int) < (m : Int) := by omega
  clear I
  have hw0 : ¬ (i : Int) < 0 := by omega
  have hw1 : ¬ (n : Int) ≤ (i : Int) := by omega
  have d1 := (decide_eq_false (show ¬ (j : Int) < 0 by omega))
  have d2 := (decide_eq_false (show ¬ (m : Int) ≤ (j : Int) by omega))
  have d3 := (decide_eq_false (show ¬ (k : Int) < 0 by omega))
  have d4 := (decide_eq_false (show ¬ 7 < (k : Int) by omega))
  go_enter Try.func27, Try.ntmps27
  go_wp2
  rw [← hW]
  clear hW
  go_quiet (fail)
  obtain ⟨V, hV⟩ : ∃ V, V = W.drewN nq := ⟨_, rfl⟩
  rw [← hV]
  have s0 : V.cell? ⟨w.heap.size, 0, none⟩ = some (.int .i64 2) := by rw [hV]; simpa using t0
  have s1 : V.cell? ⟨w.heap.size, 1, none⟩ = some (.int .i64 (i : Int)) := by rw [hV]; simpa using t1
  have s3 : V.cell? ⟨w.heap.size, 3, none⟩ = some (.int .i64 (j : Int)) := by rw [hV]; simpa using t3
  have s4 : V.cell? ⟨w.heap.size, 4, none⟩ = some (.int .i64 (k : Int)) := by rw [hV]; simpa using t4
  have s5 : V.cell? ⟨w.heap.size, 5, none⟩ = some (.int .i64 va) := by rw [hV]; simpa using t5
  have y0 : V.cell? ⟨S, 0, none⟩ = some (.slice (some ⟨lb, lo, none⟩) m lc) := by rw [hV]; simpa using x0
  have BV := hid (show Below w.heap.size w V by rw [hV]; exact below_drewN BW.out _)
  have BWV := hid (show Below W.heap.size W V by rw [hV]; exact below_drewN (Below.refl _ _) _)
  clear hV t0 t1 t2 t3 t4 t5 x0 d1 d2 d3 d4
  have yl : V.cell? ⟨lb, lo + j, none⟩ = some (.int .i64 (z : Int)) := (BWV.out.cell (p := ⟨lb, lo + j, none⟩) (World.block_lt_of_cell? (w := W) (h := hlc))).trans hlc
  have KR := fun X => rreads_c z i hz (by omega) X
  clear hlc
  rw [hrd] at KR
  go_wp2
  go_quiet ((go_at_call 41; exact Calls.quiet_of_same (KR _)))
  obtain ⟨V2, hV2⟩ : ∃ V2, V2 = V.drewN nq := ⟨_, rfl⟩
  rw [← hV2]
  have bV2 : Below V.heap.size V V2 := by rw [hV2]; exact below_drewN (Below.refl _ _) _
  have hbx : w.heap.size < V.heap.size := World.block_lt_of_cell? (w := V) (h := s0)
  have u0 := (bV2.cell (p := ⟨w.heap.size, 0, none⟩) hbx).trans s0
  have u1 := (bV2.cell (p := ⟨w.heap.size, 1, none⟩) hbx).trans s1
  have u3 := (bV2.cell (p := ⟨w.heap.size, 3, none⟩) hbx).trans s3
  have u4 := (bV2.cell (p := ⟨w.heap.size, 4, none⟩) hbx).trans s4
  have u5 := (bV2.cell (p := ⟨w.heap.size, 5, none⟩) hbx).trans s5
  have IV := hid (HI.out.grow hBW (BWV.out.trans (bV2.mono BWV.out.size)))
  have BV2 := hid (BV.out.trans (bV2.mono BV.out.size))
  have HB2 := hid (bV2.mono BWV.out.size)
  have x1 := IV.out.cell1
  have x2 := IV.out.cell2
  have xh := IV.out.cellH hi
  have xi := IV.out.cellI hi
  have ci := (IV.out.isAt hi hj hk).1
  rw [hf] at ci
  have ci' : V2.cell? ⟨ib i, j * 8 + k, none⟩ = some (.bool true) := ci
  have c4 := (IV.out.enAt hi hj hk hf).c4
  rw [hgx] at c4
  clear ci s0 s1 s3 s4 s5 y0 yl hV2 bV2 KR
  go_wp2
  go_quiet (fail)
  obtain ⟨V3, hV3⟩ : ∃ V3, V3 = V2.drewN nq := ⟨_, rfl⟩
  rw [← hV3]
  have bV3 : Below V2.heap.size V2 V3 := by rw [hV3]; exact below_drewN (Below.refl _ _) _
  have hbx2 : w.heap.size < V2.heap.size := World.block_lt_of_cell? (w := V2) (h := u0)
  have a1 := (bV3.cell (p := ⟨w.heap.size, 1, none⟩) hbx2).trans u1
  have a3 := (bV3.cell (p := ⟨w.heap.size, 3, none⟩) hbx2).trans u3
  have a4 := (bV3.cell (p := ⟨w.heap.size, 4, none⟩) hbx2).trans u4
  have BV3 := hid (BV2.out.trans (bV3.mono BV2.out.size))
  have KS := set_c B S HO IO hb ib w0 (some ⟨lb, lo, none⟩) lc n m hc ic f i j k 0 true hi hj hk T hT V3 (IV.out.grow (Nat.le_trans hBW (BWV.out.trans (show Below W.heap.size V V2 from HB2.out)).size) bV3)
  have HWR := hid hwr
  have HOK := hid ok
  clear hwr ok hV3 bV3 u0 u1 u3 u4 u5 x1 x2 xh xi ci' c4
  go_wp2_with fail
  refine KS.mono ?_
  rintro e W3 ⟨rfl, h3, u3'⟩
  have FX := hid (tuP_set (kd := 2) (tz := tz) (va := va) HOK.out HWR.out BV3.out (by simpa using h3) u3')
  clear h3 u3' KS
  go_wp2
  go_ret
  exact FX.out
namespace Plain
def telK (L : List Int) (s : Stt) (a b k : Nat) : Stt := fun i j => if (i = b ∧ j < k) ∧ (reads (labAt L j) a = true ∧ reads (labAt L j) b = true) then mergeL (s i j) (s a j) else s i j
theorem telK_zero (L : List Int) (s : Stt) (a b : Nat) : telK L s a b 0 = s := by
  funext i j
  unfold telK
  rw [if_neg (by omega)]
theorem telK_all (L : List Int) (s : Stt) (a b : Nat) : telK L s a b L.length = tellS L s a b := rfl
theorem telK_at (L : List Int) (s : Stt) (a b k j : Nat) (h : k ≤ j) (i : Nat) : telK L s a b k i j = s i j := by
  unfold telK
  rw [if_neg (by omega)]
theorem telK_no {L : List Int} (s : Stt) {a b k : Nat} (h : ¬ (reads (labAt L k) a = true ∧ reads (labAt L k) b = true)) : telK L s a b (k + 1) = telK L s a b k := by
  funext i j
  unfold telK
  by_cases hj : j = k
  · subst hj
    rw [if_neg (fun x => h x.2), if_neg (fun x => h x.2)]
  · by_cases hc : (i = b ∧ j < k) ∧ (reads (labAt L j) a = true ∧ reads (labAt L j) b = true)
    · rw [if_pos hc, if_pos ⟨⟨hc.1.1, by omega⟩, hc.2⟩]
    · rw [if_neg hc, if_neg (fun x => hc ⟨⟨x.1.1, by omega⟩, x.2⟩)]
theorem telK_yes {L : List Int} (s : Stt) {a b k : Nat} (h : reads (labAt L k) a = true ∧ reads (labAt L k) b = true) : telK L s a b (k + 1) = fun i j => if i = b ∧ j = k then mergeL (s b k) (s a k) else telK L s a b k i j := by
  funext i j
  by_cases hj : i = b ∧ j = k
  · rw [if_pos hj]
    obtain ⟨rfl, rfl⟩ := hj
    unfold telK
    rw [if_pos ⟨⟨rfl, by omega⟩, h⟩]
  · rw [if_neg hj]
    unfold telK
    by_cases hc : (i = b ∧ j < k) ∧ (reads (labAt L j) a = true ∧ reads (labAt L j) b = true)
    · rw [if_pos hc, if_pos ⟨⟨hc.1.1, by omega⟩, hc.2⟩]
    · rw [if_neg hc, if_neg (fun x => hc ⟨⟨x.1.1, by have := x.1.2; have h2 : j ≠ k := fun e => hj ⟨x.1.1, e⟩; omega⟩, x.2⟩)]
end Plain

/-- Entries in a row of the call's own stay where shelves turn. -/
theorem own_un {B S HO IO : Nat} {hb ib : Nat → Nat} {w0 w w' : World} {lp : Option Addr} {lc n m hc ic : Nat} {f : Plain.Shv} {C N : Nat} {v : Value} {xs : List Value} (I : ShI B S HO IO hb ib w0 w lp lc n m hc ic f) (o : w.ownsRow C 46 5 v N xs) (u : Un (isS hb ib n) w w') : w'.ownsRow C 46 5 v N xs :=
  owns_block o fun b e => u.block b (o.lt b e).2 fun ⟨i, hi, h⟩ => by
    rcases h with h | h
    · obtain ⟨F, r, _⟩ := I.hr i hi
      exact row_owns_ne r o (by decide) (by rw [← h]; exact e)
    · obtain ⟨F, r, _⟩ := I.ir i hi
      exact row_owns_ne r o (by decide) (by rw [← h]; exact e)
/-- A turn in its box stays where shelves turn. -/
theorem turn_un {B S HO IO : Nat} {hb ib : Nat → Nat} {w0 w w' : World} {lp : Option Addr} {lc n m hc ic : Nat} {f : Plain.Shv} {b k : Nat} {g : Nat → Value} (I : ShI B S HO IO hb ib w0 w lp lc n m hc ic f) (r0 : w.rowIs b 44 k g) (u : Un (isS hb ib n) w w') : w'.rowIs b 44 k g :=
  u.rowIs r0 fun ⟨i, hi, h⟩ => by
    rcases h with h | h
    · obtain ⟨F, r, _⟩ := I.hr i hi
      exact rows_ne r0 r (by decide) h
    · obtain ⟨F, r, _⟩ := I.ir i hi
      exact rows_ne r0 r (by decide) h
theorem boxT_row (w : World) (t : Plain.Tu) : (w.alloc (boxT t)).rowIs w.heap.size 44 6 (tuF t) := by
  refine World.rowIs_alloc _ _ 44 _ fun i hi => ?_
  have hi6 : i < 6 := hi
  have : i = 0 ∨ i = 1 ∨ i = 2 ∨ i = 3 ∨ i = 4 ∨ i = 5 := by omega
  rcases this with rfl | rfl | rfl | rfl | rfl | rfl <;> rfl

set_option maxHeartbeats 8000000 in
set_option maxRecDepth 100000 in
theorem gt_19 (B S HO IO : Nat) (hb ib : Nat → Nat) (w0 : World) (lp : Option Addr) (lc n hc ic : Nat) (L : List Int) (f : Plain.Shv) (a b : Nat) (la ke va : Int) (hn : n ≤ 8) (hL4 : L.length ≤ 4) (hL : ∀ x, x ∈ L → 0 ≤ x ∧ x < 256) (ha : a < n) (hbn : b < n) (ok : f.Ok) (w W : World) (hW : W = w.alloc (boxT ⟨3, (a : Int), (b : Int), la, ke, va⟩)) (hB : w0.heap.size = B) (hBw : B ≤ w.heap.size) (NL : Nums w0 lp L) (I : ShI B S HO IO hb ib w0 W lp lc n L.length hc ic f) :
    Calls Try.prog 27 #[.pointer (some ⟨S, 0, none⟩), .int .i64 (n : Int), aggT ⟨3, (a : Int), (b : Int), la, ke, va⟩] w fun e w' => TuP B S HO IO hb ib w0 lp lc n L.length hc ic L f ⟨3, (a : Int), (b : Int), la, ke, va⟩ w e w' := by
  obtain ⟨eb, heb⟩ : ∃ eb, eb = w.heap.size := ⟨_, rfl⟩
  have RT := hid (show W.rowIs eb 44 6 (tuF ⟨3, (a : Int), (b : Int), la, ke, va⟩) by rw [hW, heb]; exact boxT_row w _)
  have BW := hid (show Below w.heap.size w W by rw [hW]; exact (Below.refl _ _).alloc (Nat.le_refl _) _)
  have hBW : B ≤ W.heap.size := Nat.le_trans hBw BW.out.size
  have t0 : W.cell? ⟨eb, 0, none⟩ = some (.int .i64 3) := RT.out.cell (i := 0) (by omega)
  have t1 : W.cell? ⟨eb, 1, none⟩ = some (.int .i64 (a : Int)) := RT.out.cell (i := 1) (by omega)
  have t2 : W.cell? ⟨eb, 2, none⟩ = some (.int .i64 (b : Int)) := RT.out.cell (i := 2) (by omega)
  have x0 := I.cell0
  have HI := hid I
  have HL := hid hL
  have HNL := hid NL
  have HBB := hid hB
  have HOK := hid ok
  have ha0 : ¬ (a : Int) < 0 := by omega
  have hb0 : ¬ (b : Int) < 0 := by omega
  have haz : ¬ (n : Int) ≤ (a : Int) := by omega
  have hbz : ¬ (n : Int) ≤ (b : Int) := by omega
  have ha8 : a < 8 := by omega
  have hb8 : b < 8 := by omega
  obtain ⟨m, hm⟩ : ∃ m, m = L.length := ⟨_, rfl⟩
  rw [← hm] at x0 hL4 ⊢
  have HM := hid hm
  clear I hL NL hB hm ok
  go_enter Try.func27, Try.ntmps27
  go_upto_region 8 with fail
  rw [← hW, ← heb]
  clear hW
  have HEB := hid heb
  clear heb
  go_wp2
  clear t0 t1 t2 x0
  go_loopg [7, 8, 10, 45] m (fun gg _ _ _ s45 wx => ∃ k : Nat, k ≤ m ∧ m - k ≤ gg ∧ s45 = .int .i64 k ∧ Aside (∃ g : Plain.Shv, ShI B S HO IO hb ib w0 wx lp lc n m hc ic g ∧ g.Ok ∧ g.st = Plain.telK L f.st a b k) ∧ Aside (Un (isS hb ib n) W wx))
  case atStart => exact ⟨0, Nat.zero_le _, by omega, rfl, (show Aside _ from ⟨f, by rw [HM.out]; exact HI.out, HOK.out, (Plain.telK_zero L f.st a b).symm⟩), (show Aside _ from Un.refl _ _)⟩
  case round =>
    obtain ⟨k, hk, hg, rfl, AI, AU⟩ := hrel
    obtain ⟨g, Ig, okg, stg⟩ := AI.out
    have IG := hid Ig
    have OKG := hid okg
    have STG := hid stg
    have UG := hid AU.out
    have RB := hid (turn_un HI.out RT.out AU.out)
    have hBr : B ≤ wr.heap.size := Nat.le_trans hBW UG.out.size
    clear Ig okg stg AI AU
    by_cases hlt : k < m
    · have hltz : (k : Int) < (m : Int) := by omega
      have hkl : k < L.length := by rw [← HM.out]; exact hlt
      have NLr := HNL.out.grow (show Below w0.heap.size w0 wr by rw [HBB.out]; exact IG.out.be)
      obtain ⟨lb, lo, rfl, hlb, lcs⟩ := NLr (by omega)
      have lc0 := lcs k hkl
      obtain ⟨z, ez, hz⟩ := labAt_lt HL.out k
      have ez' : L.getD k 0 = (z : Int) := ez
      rw [ez'] at lc0
      have t1 : wr.cell? ⟨eb, 1, none⟩ = some (.int .i64 (a : Int)) := RB.out.cell (i := 1) (by omega)
      have t2 : wr.cell? ⟨eb, 2, none⟩ = some (.int .i64 (b : Int)) := RB.out.cell (i := 2) (by omega)
      have KA := rreads_c z a hz ha8 wr
      have KB := rreads_c z b hz hb8 wr
      have HEZ := hid ez
      clear lcs NLr ez' ez
      cases hra : Plain.reads (z : Int) a with
      | false =>
        rw [hra] at KA
        have HN := hid (Plain.telK_no f.st (a := a) (b := b) (k := k) (L := L) (fun x => by have := x.1; rw [HEZ.out, hra] at this; cases this))
        clear hra KB
        go_wp2_with fail
        refine KA.mono ?_
        rintro e wx ⟨rfl, hx⟩
        have hy := hx.symm
        clear hx KA
        subst hy
        go_wp2
        go_roundg (m - (k + 1))
        case measure => omega
        case rel => exact ⟨k + 1, by omega, by omega, by go_num, (show Aside _ from ⟨g, IG.out, OKG.out, by rw [HN.out]; exact STG.out⟩), (show Aside _ from UG.out)⟩
      | true =>
        rw [hra] at KA
        cases hrb : Plain.reads (z : Int) b with
        | false =>
          rw [hrb] at KB
          have HN := hid (Plain.telK_no f.st (a := a) (b := b) (k := k) (L := L) (fun x => by have := x.2; rw [HEZ.out, hrb] at this; cases this))
          clear hra hrb
          go_wp2_with fail
          refine KA.mono ?_
          rintro e wx ⟨rfl, hx⟩
          have hy := hx.symm
          clear hx KA
          subst hy
          go_wp2_with fail
          refine KB.mono ?_
          rintro e wx ⟨rfl, hx⟩
          have hy := hx.symm
          clear hx KB
          subst hy
          go_wp2
          go_roundg (m - (k + 1))
          case measure => omega
          case rel => exact ⟨k + 1, by omega, by omega, by go_num, (show Aside _ from ⟨g, IG.out, OKG.out, by rw [HN.out]; exact STG.out⟩), (show Aside _ from UG.out)⟩
        | true =>
          rw [hrb] at KB
          have HY := hid (Plain.telK_yes (L := L) f.st (a := a) (b := b) (k := k) ⟨by rw [HEZ.out]; exact hra, by rw [HEZ.out]; exact hrb⟩)
          have HS1 := hid (show g.st a k = f.st a k by rw [STG.out, Plain.telK_at L f.st a b k k (Nat.le_refl _)])
          have HS2 := hid (show g.st b k = f.st b k by rw [STG.out, Plain.telK_at L f.st a b k k (Nat.le_refl _)])
          have HT := hid (Plain.tell_one OKG.out a b k)
          have HEND := hid (show (g.learns b k (g.st a k)).st = Plain.telK L f.st a b (k + 1) by
            funext p q
            rw [HT.out.2 p q, HY.out, HS1.out, HS2.out, STG.out])
          have KL := list_c B S HO IO hb ib w0 (some ⟨lb, lo, none⟩) lc n m hc ic g a k ha hlt wr hBr IG.out
          have HKS := hid (Plain.st_keys OKG.out a k)
          have hl8 : (g.st a k).length ≤ 8 := Plain.listA_le (g a k) 8
          clear hra hrb HY HS1 HS2
          generalize g.st a k = l at KL HT HEND HKS hl8
          go_wp2_with fail
          refine KA.mono ?_
          rintro e wx ⟨rfl, hx⟩
          have hy := hx.symm
          clear hx KA
          subst hy
          go_wp2_with fail
          refine KB.mono ?_
          rintro e wx ⟨rfl, hx⟩
          have hy := hx.symm
          clear hx KB
          subst hy
          go_wp2_with fail
          refine KL.mono ?_
          rintro e w1 ⟨qp, qc, rfl, hE⟩
          have I1 := hid (IG.out.grow hBr hE.be)
          have U1 := hid (UG.out.trans (Un.of_below hE.be))
          obtain ⟨C0, hC0⟩ : ∃ C0, C0 = wr.heap.size := ⟨_, rfl⟩
          have O1 := hid (show w1.ownsRow C0 46 5 (.slice qp l.length qc) l.length (encN.vals l) by rw [hC0]; exact hE.ow)
          clear hC0
          have R1 := hid (turn_un HI.out RT.out U1.out)
          have hB1 : B ≤ w1.heap.size := Nat.le_trans hBr hE.be.size
          obtain ⟨N, hN⟩ : ∃ N, N = l.length := ⟨_, rfl⟩
          rw [← hN] at hl8 O1 ⊢
          have HN := hid hN
          clear KL hE t1 t2 lc0 hN IG RB UG hlb
          go_wp2
          go_loopg [10, 66] N (fun gg _ s66 wx => ∃ q : Nat, q ≤ N ∧ N - q ≤ gg ∧ s66 = .int .i64 q ∧ Aside (ShI B S HO IO hb ib w0 wx (some ⟨lb, lo, none⟩) lc n m hc ic (g.learns b k (l.take q))) ∧ Aside (Un (isS hb ib n) w1 wx))
          case atStart => exact ⟨0, Nat.zero_le _, by omega, rfl, (show Aside _ from I1.out), (show Aside _ from Un.refl _ _)⟩
          case round =>
            obtain ⟨q, hq, hgq, rfl, AQ, AV⟩ := hrel
            have hBq : B ≤ wr.heap.size := Nat.le_trans hB1 AV.out.size
            by_cases hltq : q < N
            · have hltqz : (q : Int) < (N : Int) := by omega
              have hql : q < l.length := by rw [← HN.out]; exact hltq
              have OQ := own_un I1.out O1.out AV.out
              have TQ := turn_un I1.out R1.out AV.out
              have t2 : wr.cell? ⟨eb, 2, none⟩ = some (.int .i64 (b : Int)) := TQ.cell (i := 2) (by omega)
              have hebl : eb < wr.heap.size := TQ.lt
              have OQ2 : OwnN wr C0 46 (.slice qp N qc) l := by
                unfold OwnN
                rw [← HN.out]
                exact OQ
              obtain ⟨gb, cap, cur, e1, hrest⟩ := OQ2.row (by omega)
              injection e1 with e1 e2 e3
              subst e1
              obtain ⟨c0, c1, c2, c3, c4⟩ := OQ2.cells q hql
              simp only [Nat.zero_add] at c0 c1 c2 c3 c4
              have hky := HKS.out _ (show Plain.en l q ∈ l by rw [Plain.en_lt hql]; exact List.getElem_mem _)
              have HTK := hid (Plain.learns_take g b k l q hql)
              clear hrest OQ OQ2 TQ e2 e3 cap cur
              generalize Plain.en l q = y at c0 c1 c2 c3 c4 hky HTK
              obtain ⟨yk, yv, yt, yo, yg⟩ := y
              dsimp only at c0 c1 c2 c3 c4 hky
              obtain ⟨yn, rfl⟩ : ∃ yn : Nat, yk = (yn : Int) := ⟨yk.toNat, by omega⟩
              have hyn : yn < 8 := by omega
              have bA : Below wr.heap.size wr (wr.alloc (boxE ⟨(yn : Int), yv, yt, yo, yg⟩)) := (Below.refl _ _).alloc (Nat.le_refl _) _
              have K := learn_c B S HO IO hb ib w0 (some ⟨lb, lo, none⟩) lc n m hc ic (g.learns b k (l.take q)) b k yn yv yt yo yg hbn hlt hyn (wr.alloc (boxE ⟨(yn : Int), yv, yt, yo, yg⟩)) (Nat.le_trans hBq bA.size) (AQ.out.grow hBq bA)
              have HBA := hid bA
              have HAV := hid AV.out
              rw [← HTK.out] at K
              clear bA AQ AV hky HTK
              go_wp2_with fail
              refine K.mono ?_
              rintro e w2 ⟨rfl, hI2, hU2⟩
              have I2 := hid hI2
              have U2 := hid ((HAV.out.trans (Un.of_below HBA.out)).trans hU2)
              clear K hI2 hU2 HBA HAV c0 c1 c2 c3 c4 t2
              go_wp2
              go_roundg (N - (q + 1))
              case measure => omega
              case rel => exact ⟨q + 1, by omega, by omega, by go_num, (show Aside _ from I2.out), (show Aside _ from U2.out)⟩
            · have hltqz : ¬ (q : Int) < (N : Int) := by omega
              have hall : l.take q = l := List.take_of_length_le (by rw [← HN.out]; omega)
              have FI := hid (show ShI B S HO IO hb ib w0 wr (some ⟨lb, lo, none⟩) lc n m hc ic (g.learns b k l) by
                have := AQ.out
                rw [hall] at this
                exact this)
              have FU := hid (U1.out.trans AV.out)
              clear AQ AV hall
              go_wp2
              go_roundg (m - (k + 1))
              case measure => omega
              case rel => exact ⟨k + 1, by omega, by omega, by go_num, (show Aside _ from ⟨_, FI.out, HT.out.1, HEND.out⟩), (show Aside _ from FU.out)⟩
    · have hltz : ¬ (k : Int) < (m : Int) := by omega
      have hkm : k = m := by omega
      have FX := hid (show TuP B S HO IO hb ib w0 lp lc n m hc ic L f ⟨3, (a : Int), (b : Int), la, ke, va⟩ w (.returned (.int .i64 (0 : Nat))) wr by
        have hE : Plain.tuE n L f.st ⟨3, (a : Int), (b : Int), la, ke, va⟩ = 0 := by
          unfold Plain.tuE
          rw [if_neg (by dsimp only; omega), if_neg (by dsimp only; omega), if_pos rfl, if_neg (by dsimp only; omega)]
        refine ⟨g, by rw [hE], IG.out, OKG.out, ?_, (Un.of_below BW.out).trans UG.out⟩
        unfold Plain.tuS
        rw [hE, if_neg (by decide), if_pos rfl, STG.out, hkm, HM.out]
        rfl)
      clear IG OKG STG UG
      go_wp2
      go_ret
      exact FX.out

theorem turn_c (B S HO IO : Nat) (hb ib : Nat → Nat) (w0 : World) (lp : Option Addr) (lc n hc ic : Nat) (L : List Int) (f : Plain.Shv) (t : Plain.Tu) (T : Int) (hn : n ≤ 8) (hL4 : L.length ≤ 4) (hL : ∀ x, x ∈ L → 0 ≤ x ∧ x < 256) (ok : f.Ok) (hT : ∀ i j, Plain.maxA (f i j) 8 ≤ T) (hT2 : T < 1000000)
    (w : World) (hB : w0.heap.size = B) (hBw : B ≤ w.heap.size) (NL : Nums w0 lp L) (I : ShI B S HO IO hb ib w0 w lp lc n L.length hc ic f) :
    Calls Try.prog 27 #[.pointer (some ⟨S, 0, none⟩), .int .i64 (n : Int), aggT t] w fun e w' => TuP B S HO IO hb ib w0 lp lc n L.length hc ic L f t w e w' := by
  obtain ⟨kd, wh, tz, la, ke, va⟩ := t
  have bA : Below w.heap.size w (w.alloc (boxT ⟨kd, wh, tz, la, ke, va⟩)) := (Below.refl _ _).alloc (Nat.le_refl _) _
  have IW := I.grow hBw bA
  have hBW : B ≤ (w.alloc (boxT ⟨kd, wh, tz, la, ke, va⟩)).heap.size := Nat.le_trans hBw bA.size
  have no : ∀ (E : Nat), Plain.tuE n L f.st ⟨kd, wh, tz, la, ke, va⟩ = E → E ≠ 0 → (Calls Try.prog 27 #[.pointer (some ⟨S, 0, none⟩), .int .i64 (n : Int), aggT ⟨kd, wh, tz, la, ke, va⟩] w fun e w' => e = .returned (.int .i64 (E : Nat)) ∧ Below w.heap.size w w') →
      Calls Try.prog 27 #[.pointer (some ⟨S, 0, none⟩), .int .i64 (n : Int), aggT ⟨kd, wh, tz, la, ke, va⟩] w fun e w' => TuP B S HO IO hb ib w0 lp lc n L.length hc ic L f ⟨kd, wh, tz, la, ke, va⟩ w e w' := fun E h1 h2 K => K.mono (by
    rintro e w' ⟨rfl, b⟩
    exact tuP_no h1 h2 hBw I ok b)
  by_cases c1 : kd < 1
  · exact no 3 (by unfold Plain.tuE; rw [if_pos (.inl c1)]) (by decide) (gt_1 B S HO IO hb ib w0 lp lc n L.length hc ic f kd wh tz la ke va c1 w _ rfl IW)
  by_cases c2 : 3 < kd
  · exact no 3 (by unfold Plain.tuE; rw [if_pos (.inr c2)]) (by decide) (gt_2 B S HO IO hb ib w0 lp lc n L.length hc ic f kd wh tz la ke va c2 w _ rfl IW)
  have e1 : ¬ (kd < 1 ∨ 3 < kd) := by omega
  by_cases c3 : wh < 0
  · exact no 2 (by unfold Plain.tuE; rw [if_neg e1, if_pos (.inl c3)]) (by decide) (gt_3 B S HO IO hb ib w0 lp lc n L.length hc ic f kd wh tz la ke va (by omega) c3 w _ rfl IW)
  by_cases c4 : (n : Int) ≤ wh
  · exact no 2 (by unfold Plain.tuE; rw [if_neg e1, if_pos (.inr c4)]) (by decide) (gt_4 B S HO IO hb ib w0 lp lc n L.length hc ic f kd wh tz la ke va (by omega) c4 w _ rfl IW)
  have e2 : ¬ (wh < 0 ∨ (n : Int) ≤ wh) := by omega
  obtain ⟨i, rfl⟩ : ∃ i : Nat, wh = (i : Int) := ⟨wh.toNat, by omega⟩
  have hi : i < n := by omega
  by_cases c5 : kd = 3
  · by_cases c6 : tz < 0
    · exact no 2 (by unfold Plain.tuE; rw [if_neg e1, if_neg e2, if_pos c5, if_pos (.inl c6)]) (by decide) (gt_5 B S HO IO hb ib w0 lp lc n L.length hc ic f kd i tz la ke va c5 (by omega) c6 w _ rfl IW)
    by_cases c7 : (n : Int) ≤ tz
    · exact no 2 (by unfold Plain.tuE; rw [if_neg e1, if_neg e2, if_pos c5, if_pos (.inr c7)]) (by decide) (gt_6 B S HO IO hb ib w0 lp lc n L.length hc ic f kd i tz la ke va c5 (by omega) c7 w _ rfl IW)
    obtain ⟨b, rfl⟩ : ∃ b : Nat, tz = (b : Int) := ⟨tz.toNat, by omega⟩
    subst c5
    exact gt_19 B S HO IO hb ib w0 lp lc n hc ic L f i b la ke va hn hL4 hL hi (by omega) ok w _ rfl hB hBw NL IW
  have e5 : ¬ kd = 3 := c5
  have hk12 : kd = 1 ∨ kd = 2 := by omega
  by_cases c8 : la < 0
  · exact no 2 (by unfold Plain.tuE; rw [if_neg e1, if_neg e2, if_neg e5, if_pos (.inl (.inl c8))]) (by decide) (gt_7 B S HO IO hb ib w0 lp lc n L.length hc ic f kd i tz la ke va hk12 (by omega) c8 w _ rfl IW)
  by_cases c9 : (L.length : Int) ≤ la
  · exact no 2 (by unfold Plain.tuE; rw [if_neg e1, if_neg e2, if_neg e5, if_pos (.inl (.inr c9))]) (by decide) (gt_8 B S HO IO hb ib w0 lp lc n L.length hc ic f kd i tz la ke va hk12 (by omega) c9 w _ rfl IW)
  by_cases c10 : ke < 0
  · exact no 2 (by unfold Plain.tuE; rw [if_neg e1, if_neg e2, if_neg e5, if_pos (.inr (.inl c10))]) (by decide) (gt_9 B S HO IO hb ib w0 lp lc n L.length hc ic f kd i tz la ke va hk12 (by omega) (by omega) c10 w _ rfl IW)
  by_cases c11 : 7 < ke
  · exact no 2 (by unfold Plain.tuE; rw [if_neg e1, if_neg e2, if_neg e5, if_pos (.inr (.inr c11))]) (by decide) (gt_10 B S HO IO hb ib w0 lp lc n L.length hc ic f kd i tz la ke va hk12 (by omega) (by omega) c11 w _ rfl IW)
  have e6 : ¬ ((la < 0 ∨ (L.length : Int) ≤ la) ∨ (ke < 0 ∨ 7 < ke)) := by omega
  obtain ⟨j, rfl⟩ : ∃ j : Nat, la = (j : Int) := ⟨la.toNat, by omega⟩
  obtain ⟨k, rfl⟩ : ∃ k : Nat, ke = (k : Int) := ⟨ke.toNat, by omega⟩
  have hj : j < L.length := by omega
  have hk : k < 8 := by omega
  by_cases c12 : kd = 1 ∧ va < 0
  · exact no 2 (by unfold Plain.tuE; rw [if_neg e1, if_neg e2, if_neg e5, if_neg e6, if_pos ⟨c12.1, .inl c12.2⟩]) (by decide) (gt_11 B S HO IO hb ib w0 lp lc n L.length hc ic f kd i tz j k va hk12 (by omega) (by omega) (by omega) c12.1 c12.2 w _ rfl IW)
  by_cases c13 : kd = 1 ∧ 255 < va
  · exact no 2 (by unfold Plain.tuE; rw [if_neg e1, if_neg e2, if_neg e5, if_neg e6, if_pos ⟨c13.1, .inr c13.2⟩]) (by decide) (gt_12 B S HO IO hb ib w0 lp lc n L.length hc ic f kd i tz j k va hk12 (by omega) (by omega) (by omega) c13.1 c13.2 w _ rfl IW)
  have e7 : ¬ (kd = 1 ∧ (va < 0 ∨ 255 < va)) := by omega
  have NLr := NL.grow (show Below w0.heap.size w0 (w.alloc (boxT ⟨kd, (i : Int), tz, (j : Int), (k : Int), va⟩)) by rw [hB]; exact IW.be)
  obtain ⟨lb, lo, hlp, hlb, lcs⟩ := NLr (by omega)
  have lc0 := lcs j hj
  obtain ⟨z, ez, hz⟩ := labAt_lt hL j
  have ez' : L.getD j 0 = (z : Int) := ez
  rw [ez'] at lc0
  cases hrd : Plain.reads (z : Int) i with
  | false =>
    have hE : Plain.tuE n L f.st ⟨kd, (i : Int), tz, (j : Int), (k : Int), va⟩ = 11 := by
      unfold Plain.tuE
      rw [if_neg e1, if_neg e2, if_neg e5, if_neg e6, if_neg e7, if_pos (by simp only [Int.toNat_natCast]; rw [ez]; exact hrd)]
    rcases hk12 with h1 | h1
    · subst h1
      exact no 11 hE (by decide) (gt_13 B S HO IO hb ib w0 lp lc n L.length hc ic f i j k tz va hn hi hj hk (by omega) z hz hrd lb lo hlp w _ rfl lc0 IW)
    · subst h1
      exact no 11 hE (by decide) (gt_14 B S HO IO hb ib w0 lp lc n L.length hc ic f i j k tz va hn hi hj hk z hz hrd lb lo hlp w _ rfl lc0 IW)
  | true =>
    have hrd' : Plain.reads (Plain.labAt L j) i = true := by rw [ez]; exact hrd
    rcases hk12 with h1 | h1
    · subst h1
      exact gt_15 B S HO IO hb ib w0 lp lc n L.length hc ic f i j k tz va hn hi hj hk (by omega) L ok
        ⟨.inl rfl, by dsimp only; omega, by dsimp only; omega, by dsimp only; omega, fun _ => by dsimp only; omega, by simpa using hrd', fun h => by dsimp only at h; omega⟩ T ⟨hT i j, hT2⟩ z hz hrd lb lo hlp w _ rfl hBW lc0 IW
    · subst h1
      have hlook : Plain.lives (k : Int) (f.st i j) = match f i j k with | some e => !e.gone | none => false := by
        unfold Plain.lives
        rw [ok.look i j hk]
        cases f i j k <;> rfl
      have hE6 : Plain.lives (k : Int) (f.st i j) = false → Plain.tuE n L f.st ⟨2, (i : Int), tz, (j : Int), (k : Int), va⟩ = 6 := fun h => by
        unfold Plain.tuE
        rw [if_neg e1, if_neg e2, if_neg e5, if_neg e6, if_neg e7, if_neg (by simp only [Int.toNat_natCast]; rw [hrd']; decide), if_pos ⟨rfl, by simpa using h⟩]
      cases hf : f i j k with
      | none => exact no 6 (hE6 (by rw [hlook, hf])) (by decide) (gt_16 B S HO IO hb ib w0 lp lc n L.length hc ic f i j k tz va hn hi hj hk hf z hz hrd lb lo hlp w _ rfl hBW lc0 IW)
      | some x =>
        cases hgx : x.gone with
        | true => exact no 6 (hE6 (by rw [hlook, hf]; simp [hgx])) (by decide) (gt_17 B S HO IO hb ib w0 lp lc n L.length hc ic f i j k tz va hn hi hj hk x hf hgx z hz hrd lb lo hlp w _ rfl hBW lc0 IW)
        | false =>
          exact gt_18 B S HO IO hb ib w0 lp lc n L.length hc ic f i j k tz va hn hi hj hk x hf hgx L ok
            ⟨.inr rfl, by dsimp only; omega, by dsimp only; omega, by dsimp only; omega, fun h => by dsimp only at h; omega, by simpa using hrd', fun _ => by simp only [Int.toNat_natCast]; rw [hlook, hf]; simp [hgx]⟩ T ⟨hT i j, hT2⟩ z hz hrd lb lo hlp w _ rfl hBW lc0 IW
end Go.Proofs.Ytiolkeghgodggak

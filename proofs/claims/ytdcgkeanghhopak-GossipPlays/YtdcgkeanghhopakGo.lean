/-
  The circle's refuse.
-/
import Derived.Test.YtdcgkeanghhopakGn
namespace Go.Proofs.Ytdcgkeanghhopak
open Go.RowKit Go.Shelf Go.Sort

theorem labAt_lt {L : List Int} (h : ∀ x, x ∈ L → 0 ≤ x ∧ x < 256) (j : Nat) : ∃ s : Nat, Plain.labAt L j = (s : Int) ∧ s < 256 := by
  unfold Plain.labAt
  by_cases hj : j < L.length
  · have := h _ (getD_mem L 0 hj)
    exact ⟨(L.getD j 0).toNat, by omega, by omega⟩
  · rw [List.getD_eq_getElem?_getD, List.getElem?_eq_none (by omega)]
    exact ⟨0, rfl, by omega⟩

set_option maxHeartbeats 4000000 in
set_option maxRecDepth 100000 in
theorem refuse_1 (C H n : Nat) (kd wh tz la ke va : Int) (w W : World) (hW : W = w.alloc (boxT ⟨kd, wh, tz, la, ke, va⟩)) (hw : ¬ (0 ≤ wh ∧ wh < n)) (b1 : W.cell? ⟨C, 1, none⟩ = some (.slice (some ⟨H, 0, none⟩) n n)) :
    Calls Try.prog 43 #[.pointer (some ⟨C, 0, none⟩), aggT ⟨kd, wh, tz, la, ke, va⟩] w fun e w' => e = .returned (.int .i64 (2 : Nat)) ∧ Below w.heap.size w w' := by
  obtain ⟨t0, t1, t2, t3, t4, t5⟩ := (show CellT W w.heap.size 0 ⟨kd, wh, tz, la, ke, va⟩ by rw [hW]; exact boxT_at w _)
  simp only [Nat.zero_add] at t1 t2 t3 t4 t5
  have BW := hid (show Below w.heap.size w W by rw [hW]; exact (Below.refl _ _).alloc (Nat.le_refl _) _)
  have K1 := fun q => branch_f hw (W.drewN q) (by simpa using b1)
  clear hw
  go_enter Try.func43, Try.ntmps43
  go_wp2
  rw [← hW]
  clear hW
  go_quiet ((go_at_call 47; exact Calls.quiet_of_same (K1 _)))
  go_wp2
  go_ret
  exact ⟨rfl, below_drewN BW.out _⟩

set_option maxHeartbeats 4000000 in
set_option maxRecDepth 100000 in
theorem refuse_2 (C H n m : Nat) (lp : Option Addr) (lc : Nat) (kd wh tz la ke va : Int) (w W : World) (hW : W = w.alloc (boxT ⟨kd, wh, tz, la, ke, va⟩)) (hw : 0 ≤ wh ∧ wh < n) (hl : ¬ (0 ≤ la ∧ la < m)) (b0 : W.cell? ⟨C, 0, none⟩ = some (.slice lp m lc)) (b1 : W.cell? ⟨C, 1, none⟩ = some (.slice (some ⟨H, 0, none⟩) n n)) :
    Calls Try.prog 43 #[.pointer (some ⟨C, 0, none⟩), aggT ⟨kd, wh, tz, la, ke, va⟩] w fun e w' => e = .returned (.int .i64 (2 : Nat)) ∧ Below w.heap.size w w' := by
  obtain ⟨t0, t1, t2, t3, t4, t5⟩ := (show CellT W w.heap.size 0 ⟨kd, wh, tz, la, ke, va⟩ by rw [hW]; exact boxT_at w _)
  simp only [Nat.zero_add] at t1 t2 t3 t4 t5
  have BW := hid (show Below w.heap.size w W by rw [hW]; exact (Below.refl _ _).alloc (Nat.le_refl _) _)
  have K1 := fun q => branch_t hw (W.drewN q) (by simpa using b1)
  have K2 := fun q => place_f hl (W.drewN q)
  clear hw hl
  go_enter Try.func43, Try.ntmps43
  go_wp2
  rw [← hW]
  clear hW
  go_quiet ((first | (go_at_call 47; exact Calls.quiet_of_same (K1 _)) | (go_at_call_of 50 (Value.int .i64 la); exact Calls.quiet_of_same (K2 _))))
  go_wp2
  go_ret
  exact ⟨rfl, below_drewN BW.out _⟩

set_option maxHeartbeats 4000000 in
set_option maxRecDepth 100000 in
theorem refuse_3 (C H n m : Nat) (lp : Option Addr) (lc : Nat) (kd wh tz la ke va : Int) (w W : World) (hW : W = w.alloc (boxT ⟨kd, wh, tz, la, ke, va⟩)) (hw : 0 ≤ wh ∧ wh < n) (hl : 0 ≤ la ∧ la < m) (hk : ¬ (0 ≤ ke ∧ ke < 8)) (b0 : W.cell? ⟨C, 0, none⟩ = some (.slice lp m lc)) (b1 : W.cell? ⟨C, 1, none⟩ = some (.slice (some ⟨H, 0, none⟩) n n)) :
    Calls Try.prog 43 #[.pointer (some ⟨C, 0, none⟩), aggT ⟨kd, wh, tz, la, ke, va⟩] w fun e w' => e = .returned (.int .i64 (2 : Nat)) ∧ Below w.heap.size w w' := by
  obtain ⟨t0, t1, t2, t3, t4, t5⟩ := (show CellT W w.heap.size 0 ⟨kd, wh, tz, la, ke, va⟩ by rw [hW]; exact boxT_at w _)
  simp only [Nat.zero_add] at t1 t2 t3 t4 t5
  have BW := hid (show Below w.heap.size w W by rw [hW]; exact (Below.refl _ _).alloc (Nat.le_refl _) _)
  have K1 := fun q => branch_t hw (W.drewN q) (by simpa using b1)
  have K2 := fun q => place_t hl (W.drewN q)
  have K3 := fun q => place_f hk (W.drewN q)
  clear hw hl hk
  go_enter Try.func43, Try.ntmps43
  go_wp2
  rw [← hW]
  clear hW
  go_quiet ((first | (go_at_call 47; exact Calls.quiet_of_same (K1 _)) | (go_at_call_of 50 (Value.int .i64 la); exact Calls.quiet_of_same (K2 _)) | (go_at_call_of 50 (Value.int .i64 ke); exact Calls.quiet_of_same (K3 _))))
  go_wp2
  go_ret
  exact ⟨rfl, below_drewN BW.out _⟩

set_option maxHeartbeats 4000000 in
set_option maxRecDepth 100000 in
theorem refuse_4 (C H n m : Nat) (lp : Option Addr) (lc : Nat) (kd wh tz la ke va : Int) (w W : World) (hW : W = w.alloc (boxT ⟨kd, wh, tz, la, ke, va⟩)) (hw : 0 ≤ wh ∧ wh < n) (hl : 0 ≤ la ∧ la < m) (hk : 0 ≤ ke ∧ ke < 8) (hkd : kd = 1) (hv : ¬ (0 ≤ va ∧ va < 256)) (b0 : W.cell? ⟨C, 0, none⟩ = some (.slice lp m lc)) (b1 : W.cell? ⟨C, 1, none⟩ = some (.slice (some ⟨H, 0, none⟩) n n)) :
    Calls Try.prog 43 #[.pointer (some ⟨C, 0, none⟩), aggT ⟨kd, wh, tz, la, ke, va⟩] w fun e w' => e = .returned (.int .i64 (2 : Nat)) ∧ Below w.heap.size w w' := by
  obtain ⟨t0, t1, t2, t3, t4, t5⟩ := (show CellT W w.heap.size 0 ⟨kd, wh, tz, la, ke, va⟩ by rw [hW]; exact boxT_at w _)
  simp only [Nat.zero_add] at t1 t2 t3 t4 t5
  have BW := hid (show Below w.heap.size w W by rw [hW]; exact (Below.refl _ _).alloc (Nat.le_refl _) _)
  have K1 := fun q => branch_t hw (W.drewN q) (by simpa using b1)
  have K2 := fun q => place_t hl (W.drewN q)
  have K3 := fun q => place_t hk (W.drewN q)
  have K4 := fun W => place_f hv W
  clear hw hl hk hv
  subst hkd
  go_enter Try.func43, Try.ntmps43
  go_wp2
  rw [← hW]
  clear hW
  go_quiet ((first | (go_at_call 47; exact Calls.quiet_of_same (K1 _)) | (go_at_call_of 50 (Value.int .i64 la); exact Calls.quiet_of_same (K2 _)) | (go_at_call_of 50 (Value.int .i64 ke); exact Calls.quiet_of_same (K3 _))))
  obtain ⟨W1, hW1⟩ : ∃ W1, W1 = W.drewN nq := ⟨_, rfl⟩
  rw [← hW1]
  have c0 : W1.cell? ⟨C, 0, none⟩ = some (.slice lp m lc) := by rw [hW1]; simpa using b0
  have s0 : W1.cell? ⟨w.heap.size, 0, none⟩ = some (.int .i64 1) := by rw [hW1]; simpa using t0
  have s1 : W1.cell? ⟨w.heap.size, 1, none⟩ = some (.int .i64 wh) := by rw [hW1]; simpa using t1
  have s3 : W1.cell? ⟨w.heap.size, 3, none⟩ = some (.int .i64 la) := by rw [hW1]; simpa using t3
  have s5 : W1.cell? ⟨w.heap.size, 5, none⟩ = some (.int .i64 va) := by rw [hW1]; simpa using t5
  have BW1 := hid (show Below w.heap.size w W1 by rw [hW1]; exact below_drewN BW.out _)
  clear b0 b1 t0 t1 t2 t3 t4 t5 K1 K2 K3 hW1 BW
  go_wp2_with fail
  refine (K4 _).mono ?_
  rintro e wx ⟨rfl, hx⟩
  have hy := hx.symm
  clear hx K4
  subst hy
  go_wp2
  go_ret
  exact ⟨rfl, BW1.out⟩

set_option maxHeartbeats 4000000 in
set_option maxRecDepth 100000 in
theorem refuse_5 (C H n m : Nat) (lp : Option Addr) (lc : Nat) (kd wh tz la ke va : Int) (w W : World) (hW : W = w.alloc (boxT ⟨kd, wh, tz, la, ke, va⟩)) (hn : n ≤ 8) (hm : m ≤ 4) (hw : 0 ≤ wh ∧ wh < n) (hl : 0 ≤ la ∧ la < m) (hk : 0 ≤ ke ∧ ke < 8) (hkd : kd = 1) (hv : 0 ≤ va ∧ va < 256) (s : Nat) (hs : s < 256) (r : Bool) (NL : 0 < m → ∃ lb lo, lp = some ⟨lb, lo, none⟩ ∧ W.cell? ⟨lb, lo + la.toNat, none⟩ = some (.int .i64 (s : Int))) (hr : Plain.reads (s : Int) wh.toNat = r) (b0 : W.cell? ⟨C, 0, none⟩ = some (.slice lp m lc)) (b1 : W.cell? ⟨C, 1, none⟩ = some (.slice (some ⟨H, 0, none⟩) n n)) :
    Calls Try.prog 43 #[.pointer (some ⟨C, 0, none⟩), aggT ⟨kd, wh, tz, la, ke, va⟩] w fun e w' => e = .returned (.int .i64 (if r = true then 0 else 11 : Nat)) ∧ Below w.heap.size w w' := by
  obtain ⟨t0, t1, t2, t3, t4, t5⟩ := (show CellT W w.heap.size 0 ⟨kd, wh, tz, la, ke, va⟩ by rw [hW]; exact boxT_at w _)
  simp only [Nat.zero_add] at t1 t2 t3 t4 t5
  have BW := hid (show Below w.heap.size w W by rw [hW]; exact (Below.refl _ _).alloc (Nat.le_refl _) _)
  have K1 := fun q => branch_t hw (W.drewN q) (by simpa using b1)
  have K2 := fun q => place_t hl (W.drewN q)
  have K3 := fun q => place_t hk (W.drewN q)
  have HWN := hid (show wh = ((wh.toNat : Nat) : Int) by omega)
  have HLN := hid (show la = ((la.toNat : Nat) : Int) by omega)
  have hjm : (la.toNat : Int) < (m : Int) := by omega
  have hi8 : wh.toNat < 8 := by omega
  obtain ⟨lb, lo, rfl, lcell⟩ := NL (by omega)
  have hpz : ((2 ^ wh.toNat : Nat) : Int) = (2 : Int) ^ wh.toNat := by simp
  have hp0 : (0 : Int) ≤ 2 ^ wh.toNat := Int.pow_nonneg (by decide)
  have hp : (2 : Int) ^ wh.toNat ≤ 128 := by
    have h2 : 2 ^ wh.toNat ≤ 2 ^ 7 := Nat.pow_le_pow_right (by decide) (by omega)
    omega
  have KM := fun W => mayRead_yes (2 ^ wh.toNat) s (LabP.pow_lt hi8) hs W
  rw [LabP.inB_one, hr, hpz] at KM
  have HKM := hid KM
  have HP0 := hid hp0
  have HP1 := hid hp
  clear KM hp0 hp
  have K4 := fun W => place_t hv W
  clear hv
  subst hkd
  clear hw hl hk NL hr hpz
  go_enter Try.func43, Try.ntmps43
  go_wp2
  rw [← hW]
  clear hW
  go_quiet ((first | (go_at_call 47; exact Calls.quiet_of_same (K1 _)) | (go_at_call_of 50 (Value.int .i64 la); exact Calls.quiet_of_same (K2 _)) | (go_at_call_of 50 (Value.int .i64 ke); exact Calls.quiet_of_same (K3 _))))
  obtain ⟨W1, hW1⟩ : ∃ W1, W1 = W.drewN nq := ⟨_, rfl⟩
  rw [← hW1]
  have c0 : W1.cell? ⟨C, 0, none⟩ = some (.slice (some ⟨lb, lo, none⟩) m lc) := by rw [hW1]; simpa using b0
  have s0 : W1.cell? ⟨w.heap.size, 0, none⟩ = some (.int .i64 1) := by rw [hW1]; simpa using t0
  have s1 : W1.cell? ⟨w.heap.size, 1, none⟩ = some (.int .i64 wh) := by rw [hW1]; simpa using t1
  have s3 : W1.cell? ⟨w.heap.size, 3, none⟩ = some (.int .i64 la) := by rw [hW1]; simpa using t3
  have s5 : W1.cell? ⟨w.heap.size, 5, none⟩ = some (.int .i64 va) := by rw [hW1]; simpa using t5
  have BW1 := hid (show Below w.heap.size w W1 by rw [hW1]; exact below_drewN BW.out _)
  have l1 : W1.cell? ⟨lb, lo + la.toNat, none⟩ = some (.int .i64 (s : Int)) := by rw [hW1]; simpa using lcell
  clear lcell
  clear b0 b1 t0 t1 t2 t3 t4 t5 K1 K2 K3 hW1 BW
  have hwn := HWN.out
  have hln := HLN.out
  clear HWN HLN
  generalize wh.toNat = i at *
  generalize la.toNat = j at *
  subst hwn
  subst hln
  go_wp2_with fail
  refine (K4 _).mono ?_
  rintro e wx ⟨rfl, hx⟩
  have hy := hx.symm
  clear hx K4
  subst hy
  go_wp2
  have hp0 := HP0.out
  have hp := HP1.out
  have KM := HKM.out
  go_quiet ((go_at_call 22; exact Calls.quiet_of_same (KM _)))
  cases r with
  | true =>
    go_wp2
    go_ret
    exact ⟨rfl, below_drewN BW1.out _⟩
  | false =>
    go_wp2
    go_ret
    exact ⟨rfl, below_drewN BW1.out _⟩

set_option maxHeartbeats 4000000 in
set_option maxRecDepth 100000 in
theorem refuse_6 (C H n m : Nat) (lp : Option Addr) (lc : Nat) (kd wh tz la ke va : Int) (w W : World) (hW : W = w.alloc (boxT ⟨kd, wh, tz, la, ke, va⟩)) (hn : n ≤ 8) (hm : m ≤ 4) (hw : 0 ≤ wh ∧ wh < n) (hl : 0 ≤ la ∧ la < m) (hk : 0 ≤ ke ∧ ke < 8) (hkd : kd ≠ 1) (s : Nat) (hs : s < 256) (r : Bool) (NL : 0 < m → ∃ lb lo, lp = some ⟨lb, lo, none⟩ ∧ W.cell? ⟨lb, lo + la.toNat, none⟩ = some (.int .i64 (s : Int))) (hr : Plain.reads (s : Int) wh.toNat = r) (b0 : W.cell? ⟨C, 0, none⟩ = some (.slice lp m lc)) (b1 : W.cell? ⟨C, 1, none⟩ = some (.slice (some ⟨H, 0, none⟩) n n)) :
    Calls Try.prog 43 #[.pointer (some ⟨C, 0, none⟩), aggT ⟨kd, wh, tz, la, ke, va⟩] w fun e w' => e = .returned (.int .i64 (if r = true then 0 else 11 : Nat)) ∧ Below w.heap.size w w' := by
  obtain ⟨t0, t1, t2, t3, t4, t5⟩ := (show CellT W w.heap.size 0 ⟨kd, wh, tz, la, ke, va⟩ by rw [hW]; exact boxT_at w _)
  simp only [Nat.zero_add] at t1 t2 t3 t4 t5
  have BW := hid (show Below w.heap.size w W by rw [hW]; exact (Below.refl _ _).alloc (Nat.le_refl _) _)
  have K1 := fun q => branch_t hw (W.drewN q) (by simpa using b1)
  have K2 := fun q => place_t hl (W.drewN q)
  have K3 := fun q => place_t hk (W.drewN q)
  have HWN := hid (show wh = ((wh.toNat : Nat) : Int) by omega)
  have HLN := hid (show la = ((la.toNat : Nat) : Int) by omega)
  have hjm : (la.toNat : Int) < (m : Int) := by omega
  have hi8 : wh.toNat < 8 := by omega
  obtain ⟨lb, lo, rfl, lcell⟩ := NL (by omega)
  have hpz : ((2 ^ wh.toNat : Nat) : Int) = (2 : Int) ^ wh.toNat := by simp
  have hp0 : (0 : Int) ≤ 2 ^ wh.toNat := Int.pow_nonneg (by decide)
  have hp : (2 : Int) ^ wh.toNat ≤ 128 := by
    have h2 : 2 ^ wh.toNat ≤ 2 ^ 7 := Nat.pow_le_pow_right (by decide) (by omega)
    omega
  have KM := fun W => mayRead_yes (2 ^ wh.toNat) s (LabP.pow_lt hi8) hs W
  rw [LabP.inB_one, hr, hpz] at KM
  have HKM := hid KM
  have HP0 := hid hp0
  have HP1 := hid hp
  clear KM hp0 hp
  have hkb : (kd == 1) = false := by simpa using hkd
  clear hkd
  clear hw hl hk NL hr hpz
  go_enter Try.func43, Try.ntmps43
  go_wp2
  rw [← hW]
  clear hW
  go_quiet ((first | (go_at_call 47; exact Calls.quiet_of_same (K1 _)) | (go_at_call_of 50 (Value.int .i64 la); exact Calls.quiet_of_same (K2 _)) | (go_at_call_of 50 (Value.int .i64 ke); exact Calls.quiet_of_same (K3 _))))
  obtain ⟨W1, hW1⟩ : ∃ W1, W1 = W.drewN nq := ⟨_, rfl⟩
  rw [← hW1]
  have c0 : W1.cell? ⟨C, 0, none⟩ = some (.slice (some ⟨lb, lo, none⟩) m lc) := by rw [hW1]; simpa using b0
  have s0 : W1.cell? ⟨w.heap.size, 0, none⟩ = some (.int .i64 kd) := by rw [hW1]; simpa using t0
  have s1 : W1.cell? ⟨w.heap.size, 1, none⟩ = some (.int .i64 wh) := by rw [hW1]; simpa using t1
  have s3 : W1.cell? ⟨w.heap.size, 3, none⟩ = some (.int .i64 la) := by rw [hW1]; simpa using t3
  have s5 : W1.cell? ⟨w.heap.size, 5, none⟩ = some (.int .i64 va) := by rw [hW1]; simpa using t5
  have BW1 := hid (show Below w.heap.size w W1 by rw [hW1]; exact below_drewN BW.out _)
  have l1 : W1.cell? ⟨lb, lo + la.toNat, none⟩ = some (.int .i64 (s : Int)) := by rw [hW1]; simpa using lcell
  clear lcell
  clear b0 b1 t0 t1 t2 t3 t4 t5 K1 K2 K3 hW1 BW
  have hwn := HWN.out
  have hln := HLN.out
  clear HWN HLN
  generalize wh.toNat = i at *
  generalize la.toNat = j at *
  subst hwn
  subst hln
  go_wp2
  have hp0 := HP0.out
  have hp := HP1.out
  have KM := HKM.out
  go_quiet ((go_at_call 22; exact Calls.quiet_of_same (KM _)))
  cases r with
  | true =>
    go_wp2
    go_ret
    exact ⟨rfl, below_drewN BW1.out _⟩
  | false =>
    go_wp2
    go_ret
    exact ⟨rfl, below_drewN BW1.out _⟩

theorem refuse_c (C H n : Nat) (lp : Option Addr) (lc : Nat) (L : List Int) (t : Plain.Tu) (hn : n ≤ 8) (hL4 : L.length ≤ 4) (hL : ∀ x, x ∈ L → 0 ≤ x ∧ x < 256) (w : World) (b0 : w.cell? ⟨C, 0, none⟩ = some (.slice lp L.length lc)) (b1 : w.cell? ⟨C, 1, none⟩ = some (.slice (some ⟨H, 0, none⟩) n n)) (NL : Nums w lp L) :
    Calls Try.prog 43 #[.pointer (some ⟨C, 0, none⟩), aggT t] w fun e w' => e = .returned (.int .i64 (Plain.rfE n L t : Nat)) ∧ Below w.heap.size w w' := by
  have hC : C < w.heap.size := World.block_lt_of_cell? (w := w) (h := b0)
  have BA : Below w.heap.size w (w.alloc (boxT t)) := (Below.refl _ _).alloc (Nat.le_refl _) _
  have d0 : (w.alloc (boxT t)).cell? ⟨C, 0, none⟩ = some (.slice lp L.length lc) := by rw [World.cell?_alloc_lt _ _ _ hC]; exact b0
  have d1 : (w.alloc (boxT t)).cell? ⟨C, 1, none⟩ = some (.slice (some ⟨H, 0, none⟩) n n) := by rw [World.cell?_alloc_lt _ _ _ hC]; exact b1
  have NA := NL.grow BA
  obtain ⟨kd, wh, tz, la, ke, va⟩ := t
  by_cases hw : 0 ≤ wh ∧ wh < n
  case neg =>
    have e : Plain.rfE n L ⟨kd, wh, tz, la, ke, va⟩ = 2 := by unfold Plain.rfE; rw [if_pos (.inl (by show wh < 0 ∨ (n : Int) ≤ wh; omega))]
    rw [e]
    exact refuse_1 C H n kd wh tz la ke va w _ rfl hw d1
  by_cases hl : 0 ≤ la ∧ la < L.length
  case neg =>
    have e : Plain.rfE n L ⟨kd, wh, tz, la, ke, va⟩ = 2 := by unfold Plain.rfE; rw [if_pos (.inr (.inl (by show la < 0 ∨ (L.length : Int) ≤ la; omega)))]
    rw [e]
    exact refuse_2 C H n _ lp lc kd wh tz la ke va w _ rfl hw hl d0 d1
  by_cases hk : 0 ≤ ke ∧ ke < 8
  case neg =>
    have e : Plain.rfE n L ⟨kd, wh, tz, la, ke, va⟩ = 2 := by unfold Plain.rfE; rw [if_pos (.inr (.inr (by show ke < 0 ∨ 7 < ke; omega)))]
    rw [e]
    exact refuse_3 C H n _ lp lc kd wh tz la ke va w _ rfl hw hl hk d0 d1
  have nb : ¬ ((wh < 0 ∨ (n : Int) ≤ wh) ∨ (la < 0 ∨ (L.length : Int) ≤ la) ∨ (ke < 0 ∨ 7 < ke)) := by omega
  obtain ⟨s, es, hs⟩ := labAt_lt hL la.toNat
  have NB : 0 < L.length → ∃ lb lo, lp = some ⟨lb, lo, none⟩ ∧ (w.alloc (boxT ⟨kd, wh, tz, la, ke, va⟩)).cell? ⟨lb, lo + la.toNat, none⟩ = some (.int .i64 (s : Int)) := fun h0 => by
    obtain ⟨lb, lo, e1, _, hc⟩ := NA h0
    have := hc la.toNat (by omega)
    rw [show L.getD la.toNat 0 = Plain.labAt L la.toNat from rfl, es] at this
    exact ⟨lb, lo, e1, this⟩
  have fin : ∀ r, Plain.reads (s : Int) wh.toNat = r → ¬ (kd = 1 ∧ (va < 0 ∨ 255 < va)) → Plain.rfE n L ⟨kd, wh, tz, la, ke, va⟩ = if r = true then 0 else 11 := fun r hr h => by
    unfold Plain.rfE
    rw [if_neg nb, if_neg h]
    show (if Plain.reads (Plain.labAt L la.toNat) wh.toNat = false then 11 else 0) = _
    rw [es, hr]
    cases r <;> rfl
  by_cases hkd : kd = 1
  · by_cases hv : 0 ≤ va ∧ va < 256
    · rw [fin _ rfl (by omega)]
      exact refuse_5 C H n _ lp lc kd wh tz la ke va w _ rfl hn hL4 hw hl hk hkd hv s hs _ NB rfl d0 d1
    · have e : Plain.rfE n L ⟨kd, wh, tz, la, ke, va⟩ = 2 := by unfold Plain.rfE; rw [if_neg nb, if_pos (by show kd = 1 ∧ (va < 0 ∨ 255 < va); omega)]
      rw [e]
      exact refuse_4 C H n _ lp lc kd wh tz la ke va w _ rfl hw hl hk hkd hv d0 d1
  · rw [fin _ rfl (by omega)]
    exact refuse_6 C H n _ lp lc kd wh tz la ke va w _ rfl hn hL4 hw hl hk hkd s hs _ NB rfl d0 d1
end Go.Proofs.Ytdcgkeanghhopak

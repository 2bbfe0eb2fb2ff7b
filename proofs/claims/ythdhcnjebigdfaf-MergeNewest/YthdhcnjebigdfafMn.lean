/-
  A contract of MergeNewest.
-/
import Derived.Test.YthdhcnjebigdfafNp
import Derived.Test.YthdhcnjebigdfafBx
import Derived.Test.YthdhcnjebigdfafEg
import Derived.Test.YthdhcnjebigdfafAp
namespace Go.Proofs.Ythdhcnjebigdfaf
open Go.RowKit Go.Sort

theorem Try.infoNote : (Try.prog.info? 33).map (fun i => (i.zero, i.size, i.bytes)) = some (some (.agg #[.int .i64 0, .int .i64 0, .int .i64 0, .int .i64 0, .bool false]), 5, 40) := by kernel_rfl
/-- A note is laid in a row of its own, and others are appended. -/
theorem app_front {w : World} {B : Nat} {vo : Value} {M : List Plain.En} (x : Plain.En) (hl : M.length ≤ 100) (hB : B ≤ w.heap.size) (h : OwnN w B 33 vo M) :
    ∃ v' w', (Builtin.append_ #[22, 22] 22 #[.slice (some ⟨w.heap.size, 0, none⟩) 1 1, vo]).run Try.prog (w.alloc (.cells #[.int .i64 x.key, .int .i64 x.value, .int .i64 x.time, .int .i64 x.who, .bool x.gone] 33)) = .ok v' w' ∧
      OwnN w' B 33 v' (x :: M) ∧ Below w.heap.size w w' := by
  obtain ⟨i0, hi, hz0, hz1, hz2⟩ := info_parts Try.infoNote
  have e1 : evals [x] = encE x := by rw [evals_cons]; simp [evals]
  have hown : OwnN (w.alloc (.cells #[.int .i64 x.key, .int .i64 x.value, .int .i64 x.time, .int .i64 x.who, .bool x.gone] 33)) B 33 (.slice (some ⟨w.heap.size, 0, none⟩) 1 1) [x] :=
    OwnN.mk (l := [x]) hB (Deep.blk_alloc_new w _) (Nat.le_refl _) (by unfold maxLen; omega) rfl (by rw [e1]; rfl)
  have hsrc := h.grow ((Below.refl _ _).alloc (Nat.le_refl _) (.cells #[.int .i64 x.key, .int .i64 x.value, .int .i64 x.time, .int .i64 x.who, .bool x.gone] 33))
  obtain ⟨v', w', a1, a2, a3⟩ := run_app_owned (P := Try.prog) (ty := 22) Try.underlying22 hi hz0 hz1 hz2 rfl (by decide) hown hsrc (evals_one M) (by unfold maxLen; simp; omega) (by simp; omega) (by simp; omega)
  refine ⟨v', w', a1, ?_, ?_⟩
  · unfold OwnN
    rw [evals_cons, ← e1, List.length_cons]
    have e2 : M.length + 1 = [x].length + M.length := by simp; omega
    rw [e2]
    exact a2
  · exact ((Below.refl _ _).alloc (Nat.le_refl _) _).grown a3 (by simp) fun j hj => by simp [Value.ownBlock] at hj; omega

set_option maxHeartbeats 16000000 in
set_option maxRecDepth 100000 in
theorem newest_some (gl ol cl : Nat) (l : List Plain.En) (h0 : 0 < l.length) (hl : l.length ≤ 9223372036854775807) (hr : ∀ j, j < l.length → InE (Plain.en l j)) (turn : Int) (ht : -9223372036854775808 ≤ turn ∧ turn ≤ 9223372036854775807) (w : World) (hb : gl < w.heap.size) (hc : CellsN w gl ol l) :
    Calls Try.prog 4 #[.slice (some ⟨gl, ol, none⟩) l.length cl, .int .i64 turn] w fun e w' => e = .returned (.bool true) ∧ Below w.heap.size w w' := by
  have K0 := entriesOf_some l gl ol cl h0 hl hr w hb hc
  have hN1 : Plain.noteN l ≤ l.length := by unfold Plain.noteN; omega
  have hN30 : Plain.noteN l ≤ 30 := by unfold Plain.noteN; omega
  have hN0 : 0 < Plain.noteN l := by unfold Plain.noteN; omega
  have hmin : (if (30 : Int) < (l.length : Int) then (30 : Int) else (l.length : Int)) = (Plain.noteN l : Int) := by unfold Plain.noteN; split <;> omega
  generalize Plain.noteN l = N at K0 hN1 hN30 hN0 hmin
  have HA0 := hid (Plain.eofs_pos hN1 hN0)
  have HAL := hid (Plain.eofs_le l N hN1)
  have HA6 := hid (Plain.eofs_six l N hN1)
  have HNW := hid (fun i k (hi : i < N) hk he => Plain.eofs_newest (l := l) (N := N) (i := i) (k := k) hN1 hi hk he)
  have HHD := hid (fun i (hi : i < N) => Plain.eofs_had (l := l) (N := N) (i := i) hN1 hi)
  have HWR := hid (fun k hk => Plain.eofs_written (l := l) (N := N) (k := k) hk)
  have HTU := hid (fun t => Plain.turned_eofs l N t hN1)
  have HR := hid hr
  have HC := hid hc
  clear hr hc
  generalize Plain.eofs l N = A at K0 HA0 HAL HA6 HNW HHD HWR HTU
  go_enter Try.func4, Try.ntmps4
  go_wp2_with fail
  refine K0.mono ?_
  rintro e w1 ⟨va, rfl, hA, b1⟩
  obtain ⟨ga, oa, ca, rfl, hcaL, hca⟩ := hA.seg.some HA0.out
  have HCL := hid hcaL
  clear hcaL
  have W1 := hid (show NW w w1 gl ol ga oa l A from ⟨HC.out.below b1 hb, hca, Nat.lt_of_lt_of_le hb b1.size, hA.lies ⟨ga, oa, none⟩ _ _ rfl HA0.out, b1⟩)
  clear hA hca b1 K0 HC
  have hLA : ¬ (l.length : Int) < (A.length : Int) := by have := HAL.out; omega
  have hAp : 0 < A.length := HA0.out
  have hA6 : A.length ≤ 6 := HA6.out.len
  generalize hLL : l.length = L at h0 hl hN1 hmin hLA ⊢
  have HL := hid hLL
  clear hLL
  have hLB : ¬ L < A.length := by omega
  have hLD : decide (L < A.length) = false := decide_eq_false hLB
  go_wp2_with (first | (at_builtin; refine wpList_minK _ rfl _ _ 3 3 rfl _ _ (N : Int) rfl rfl hmin ?_) | fail)
  clear hmin
  go_loopw [8] (fun s8 wx => ∃ i : Nat, i ≤ N ∧ s8 = .int .i64 i ∧ NW w wx gl ol ga oa l A) (fun s8 _ => N - (intOf s8).toNat)
  case atStart => exact ⟨0, Nat.zero_le _, rfl, W1.out⟩
  case round =>
    obtain ⟨i, hi, rfl, hW⟩ := hrel
    have HW := hid hW
    clear hW
    by_cases hiN : i < N
    · have hiN' : (i : Int) < (N : Int) := by omega
      have hiL' : (i : Int) < (L : Int) := by omega
      obtain ⟨c0, c1, c2, c3, c4⟩ := HW.out.cl i (by rw [HL.out]; omega)
      have K1 := fun W => entryOf_c (Plain.en l i) (HR.out i (by rw [HL.out]; omega)) W
      have H1 := hid (fun k hk he => HNW.out i k hiN hk he)
      have H2 := hid (HHD.out i hiN)
      generalize Plain.en l i = x at c0 c1 c2 c3 c4 K1 H1 H2
      generalize Plain.eof x = y at K1 H1 H2
      go_wp2_with fail
      refine (K1 _).mono ?_
      rintro e wX ⟨rfl, b1⟩
      have W2 := hid (HW.out.grow b1)
      clear b1 c0 c1 c2 c3 c4 K1 HW
      go_wp2
      obtain ⟨wB, hwB⟩ : ∃ wB, wB = wX.alloc (boxE y) := ⟨_, rfl⟩
      rw [← hwB]
      have W3 := hid (W2.out.grow (show Below wX.heap.size wX wB by rw [hwB]; exact (Below.refl _ _).alloc (Nat.le_refl _) _))
      have BX := hid (show BoxT wB wX.heap.size 31 y by rw [hwB]; exact box_new wX _ y)
      clear hwB W2
      generalize wX.heap.size = bx at BX ⊢
      go_loopw [10, 11] (fun s10 s11 wx => ∃ k : Nat, k ≤ A.length ∧ s11 = .int .i64 k ∧ s10 = .bool (Plain.hadB y.key A k) ∧ NW w wx gl ol ga oa l A ∧ BoxT wx bx 31 y) (fun _ s11 _ => A.length - (intOf s11).toNat)
      case atStart => exact ⟨0, Nat.zero_le _, rfl, rfl, W3.out, BX.out⟩
      case round =>
        obtain ⟨k, hk, rfl, rfl, hW, hB⟩ := hrel
        have HW := hid hW
        have HB := hid hB
        clear hW hB
        by_cases hkA : k < A.length
        · have hkA' : (k : Int) < (A.length : Int) := by omega
          have z0 := (HW.out.ca k hkA).c0
          have y0 := HB.out.cells.c0
          have HS := hid (Plain.hadB_succ (q := y.key) hkA)
          have HN := hid (H1.out k hkA)
          have HCA := hid (HW.out.ca k hkA)
          generalize Plain.en A k = z at z0 HS HN HCA
          generalize Plain.hadB y.key A k = hd at HS ⊢
          by_cases he : z.key = y.key
          · rw [he] at z0 HS
            have hn := HN.out he
            have KA := fun W => newer_g y z W
            rw [hn] at KA
            clear hn he HN
            go_wp2
            go_quiet (fail)
            obtain ⟨wq, hwq⟩ : ∃ wq, wq = wr.drewN nq := ⟨_, rfl⟩
            rw [← hwq]
            have bq : Below wr.heap.size wr wq := by rw [hwq]; exact below_drewN (Below.refl _ _) nq
            have W4 := hid (HW.out.grow bq)
            have B4 := hid (HB.out.grow bq)
            have CZ := hid (HCA.out.below bq HW.out.la)
            clear hwq bq z0 y0 HW HB HCA
            have p0 := fun n os => (B4.out.cells.grown n os).c0
            have p1 := fun n os => (B4.out.cells.grown n os).c1
            have p2 := fun n os => (B4.out.cells.grown n os).c2
            have p3 := fun n os => (B4.out.cells.grown n os).c3
            have p4 := fun n os => (B4.out.cells.grown n os).c4
            have q0 := fun n os => (CZ.out.grown n os).c0
            have q1 := fun n os => (CZ.out.grown n os).c1
            have q2 := fun n os => (CZ.out.grown n os).c2
            have q3 := fun n os => (CZ.out.grown n os).c3
            have q4 := fun n os => (CZ.out.grown n os).c4
            simp only [Nat.zero_add] at p1 p2 p3 p4
            have mixed : Try.prog.follows .mixedOrders = true := by kernel_rfl
            go_wp2
            go_quiet_grown (first | (go_at_call 11; exact Calls.grown_of (KA _)) | fail)
            obtain ⟨wv, hwv⟩ : ∃ wv, wv = grow (wq.drewN nq) osq := ⟨_, rfl⟩
            rw [← hwv]
            have bv : Below wq.heap.size wq wv := by rw [hwv]; exact below_grow (Below.refl _ _) (Nat.le_refl _) nq osq
            have W5 := hid (W4.out.grow bv)
            have B5 := hid (B4.out.grow bv)
            clear hwv bv p0 p1 p2 p3 p4 q0 q1 q2 q3 q4 KA W4 B4 CZ
            go_wp2
            go_roundw
            case rel => exact ⟨k + 1, by omega, by go_num, by rw [HS.out]; simp, W5.out, B5.out⟩
            case measure => simp [intOf]; omega
          · have hef : (z.key == y.key) = false := beq_eq_false_iff_ne.2 he
            rw [hef] at HS
            clear he HN
            go_wp2
            go_quiet (fail)
            obtain ⟨wq, hwq⟩ : ∃ wq, wq = wr.drewN nq := ⟨_, rfl⟩
            rw [← hwq]
            have bq : Below wr.heap.size wr wq := by rw [hwq]; exact below_drewN (Below.refl _ _) nq
            have W4 := hid (HW.out.grow bq)
            have B4 := hid (HB.out.grow bq)
            clear hwq bq z0 y0 HW HB HCA
            go_wp2
            go_roundw
            case rel => exact ⟨k + 1, by omega, by go_num, by rw [HS.out]; simp, W4.out, B4.out⟩
            case measure => simp [intOf]; omega
        · have ek : k = A.length := by omega
          subst ek
          rw [H2.out]
          go_wp2
          go_roundw
          case rel => first | exact ⟨i + 1, by omega, by go_num, HW.out⟩ | ((repeat apply Exists.intro); refine ⟨⟨i + 1, by omega, ?_, HW.out⟩, rfl⟩; go_num)
          case measure => simp [intOf]; omega
    · have ei : i = N := by omega
      subst ei
      clear HNW HHD
      go_wp2
      go_loopw [12] (fun s12 wx => ∃ k : Nat, k ≤ A.length ∧ s12 = .int .i64 k ∧ NW w wx gl ol ga oa l A) (fun s12 _ => A.length - (intOf s12).toNat)
      case atStart => exact ⟨0, Nat.zero_le _, rfl, HW.out⟩
      case round =>
        obtain ⟨k, hk, rfl, hW⟩ := hrel
        have HV := hid hW
        clear hW HW
        by_cases hkA : k < A.length
        · have hkA' : (k : Int) < (A.length : Int) := by omega
          have H2 := hid (HWR.out k hkA)
          go_wp2
          obtain ⟨wz, hwz⟩ : ∃ wz, wz = wr := ⟨_, rfl⟩
          subst hwz
          go_loopw [13, 14] (fun s13 s14 wx => ∃ j : Nat, j ≤ i ∧ s14 = .int .i64 j ∧ s13 = .bool (Plain.wrB l (Plain.en A k) j) ∧ NW w wx gl ol ga oa l A) (fun _ s14 _ => i - (intOf s14).toNat)
          case atStart => exact ⟨0, Nat.zero_le _, rfl, rfl, HV.out⟩
          case round =>
            obtain ⟨j, hj, rfl, rfl, hW⟩ := hrel
            have HW := hid hW
            clear hW HV
            by_cases hjN : j < i
            · have hjN' : (j : Int) < (i : Int) := by omega
              have hjL' : (j : Int) < (L : Int) := by omega
              have HS := hid (Plain.wrB_succ (l := l) (z := Plain.en A k) (i := j) (by rw [HL.out]; omega))
              cases hwr : Plain.wrB l (Plain.en A k) j with
              | true =>
                rw [hwr] at HS
                clear hwr
                go_wp2
                go_quiet (fail)
                obtain ⟨wq, hwq⟩ : ∃ wq, wq = wr.drewN nq := ⟨_, rfl⟩
                rw [← hwq]
                have W4 := hid (HW.out.grow (show Below wr.heap.size wr wq by rw [hwq]; exact below_drewN (Below.refl _ _) nq))
                clear hwq HW
                go_wp2
                go_roundw
                case rel => exact ⟨j + 1, by omega, by go_num, by rw [HS.out]; simp, W4.out⟩
                case measure => simp [intOf]; omega
              | false =>
                rw [hwr] at HS
                clear hwr
                have CL := hid (HW.out.cl j (by rw [HL.out]; omega))
                have CZ := hid (HW.out.ca k hkA)
                have KE := fun W => entryOf_g (Plain.en l j) (HR.out j (by rw [HL.out]; omega)) W
                have heq := fun W => eqlE (Plain.eof (Plain.en l j)) (Plain.en A k) W
                generalize Plain.en A k = z at HS CZ heq
                generalize Plain.en l j = x at HS CL KE heq
                generalize Plain.eof x = y at HS KE heq
                generalize (y == z) = d at HS heq
                have p0 := fun n os => (CL.out.grown n os).c0
                have p1 := fun n os => (CL.out.grown n os).c1
                have p2 := fun n os => (CL.out.grown n os).c2
                have p3 := fun n os => (CL.out.grown n os).c3
                have p4 := fun n os => (CL.out.grown n os).c4
                have q0 := fun n os => (CZ.out.grown n os).c0
                have q1 := fun n os => (CZ.out.grown n os).c1
                have q2 := fun n os => (CZ.out.grown n os).c2
                have q3 := fun n os => (CZ.out.grown n os).c3
                have q4 := fun n os => (CZ.out.grown n os).c4
                have gd := Try.guardEntry
                have mixed : Try.prog.follows .mixedOrders = true := by kernel_rfl
                go_wp2
                go_quiet_grown (first | (go_at_call 10; exact Calls.grown_of (KE _)) | fail)
                obtain ⟨wv, hwv⟩ : ∃ wv, wv = grow (wr.drewN nq) osq := ⟨_, rfl⟩
                rw [← hwv]
                have W5 := hid (HW.out.grow (show Below wr.heap.size wr wv by rw [hwv]; exact below_grow (Below.refl _ _) (Nat.le_refl _) nq osq))
                clear hwv p0 p1 p2 p3 p4 q0 q1 q2 q3 q4 KE heq HW CL CZ
                go_wp2
                go_roundw
                case rel => exact ⟨j + 1, by omega, by go_num, by rw [HS.out]; simp, W5.out⟩
                case measure => simp [intOf]; omega
            · have ej : j = i := by omega
              subst ej
              rw [H2.out]
              go_wp2
              go_roundw
              case rel => first | exact ⟨k + 1, by omega, by go_num, HW.out⟩ | ((repeat apply Exists.intro); refine ⟨⟨k + 1, by omega, ?_, HW.out⟩, rfl⟩; go_num)
              case measure => simp [intOf]; omega
        · have ek : k = A.length := by omega
          subst ek
          clear HWR
          obtain ⟨t, htn⟩ := Int.eq_ofNat_of_zero_le (Int.emod_nonneg turn (show (i : Int) ≠ 0 by omega))
          have htl := Int.emod_lt_of_pos turn (show (0 : Int) < (i : Int) by omega)
          have KP := fun W => picked_any turn i ht.1 ht.2 (by omega) (by omega) W
          rw [htn] at KP htl
          clear htn
          have htl' : t < i := by omega
          go_wp2
          obtain ⟨wz, hwz⟩ : ∃ wz, wz = wr := ⟨_, rfl⟩
          subst hwz
          go_loopw [15, 16] (fun vo s16 wx => ∃ j : Nat, j ≤ i ∧ s16 = .int .i64 j ∧ OwnN wx w.heap.size 33 vo (Plain.turned l i t j) ∧ NW w wx gl ol ga oa l A) (fun _ s16 _ => i - (intOf s16).toNat)
          case atStart => exact ⟨0, Nat.zero_le _, rfl, OwnN.nil _ _ _, HV.out⟩
          case round =>
            obtain ⟨j, hj, rfl, hO, hW⟩ := hrel
            have HW := hid hW
            have HO := hid hO
            clear hW HV hO
            by_cases hjN : j < i
            · have hjN' : (j : Int) < (i : Int) := by omega
              obtain ⟨m, hm⟩ : ∃ m, m = (j + t) % i := ⟨_, rfl⟩
              have hmi : m < i := by rw [hm]; exact Nat.mod_lt _ (by omega)
              have hmL' : (m : Int) < (L : Int) := by omega
              have hrem : ((j : Int) + (t : Int)).tmod (i : Int) = (m : Int) := by
                rw [hm, show (j : Int) + (t : Int) = ((j + t : Nat) : Int) by omega]
                exact (Int.ofNat_tmod (j + t) i).symm
              have HT := hid (show Plain.turned l i t (j + 1) = Plain.en l m :: Plain.turned l i t j by rw [hm]; rfl)
              have hTL := Plain.turned_len l i t j
              obtain ⟨c0, c1, c2, c3, c4⟩ := HW.out.cl m (by rw [HL.out]; omega)
              generalize Plain.en l m = x at c0 c1 c2 c3 c4 HT
              generalize Plain.turned l i t j = M at HT hTL HO
              obtain ⟨v', w', hrun, o', b'⟩ := app_front x (by omega) HW.out.bel.size HO.out
              have RUN := hid hrun
              have R := hid o'
              have RW := hid (HW.out.grow b')
              clear hrun o' b' hm hTL
              have hi0 : ¬ (i : Int) = 0 := by omega
              go_wp2_with fail
              refine (KP _).mono ?_
              rintro e wy ⟨rfl, hy⟩
              have hy2 := hy.symm
              clear hy
              subst hy2
              go_wp2_with (first | (at_builtin; refine wpList_app _ _ 22 RUN.out (by rfl) (by rfl) (by rfl) (by rfl) (by rfl) ?_) | fail)
              go_roundw
              case rel => exact ⟨j + 1, by omega, by go_num, by rw [HT.out]; exact R.out, RW.out⟩
              case measure => simp [intOf]; omega
            · have ej : j = i := by omega
              subst ej
              have hTL := Plain.turned_len l j t j
              have KO := entriesOf_any u15 (Plain.turned l j t j) (by omega) (Plain.turned_in HR.out (by rw [HL.out]; exact hN1) hN0) wr HO.out.seg.1 HO.out.seg.2
              have hNT : Plain.noteN (Plain.turned l j t j) = j := by unfold Plain.noteN; omega
              rw [hNT, HTU.out t] at KO
              clear hNT hTL HO HTU KP HR
              go_wp2_with fail
              refine KO.mono ?_
              rintro e w5 ⟨vr, rfl, hR5, b5⟩
              have W5 := hid (HW.out.grow b5)
              have R5 := hid hR5
              clear hR5 b5 KO HW
              go_wp2_with fail
              refine (keep.same_any _ vr A (by omega) _ (.inr ⟨ga, oa, ca, rfl, HCL.out, W5.out.ca⟩) R5.out.seg).mono ?_
              rintro e w6 ⟨rfl, q, hq⟩
              have B6 := hid (show Below w.heap.size w w6 by rw [hq]; exact below_drewN W5.out.bel q)
              clear hq W5 R5
              go_wp2
              go_ret
              exact ⟨rfl, B6.out⟩

set_option maxHeartbeats 2000000 in
theorem newest_nil (p : Option Addr) (c : Nat) (turn : Int) (w : World) :
    Calls Try.prog 4 #[.slice p 0 c, .int .i64 turn] w fun e w' => e = .returned (.bool true) ∧ Below w.heap.size w w' := by
  have K0 := entriesOf_nil p c w
  go_enter Try.func4, Try.ntmps4
  go_wp2_with fail
  refine K0.mono ?_
  rintro e w1 ⟨rfl, b1⟩
  clear K0
  go_wp2_with (first | (at_builtin; refine wpList_minK _ rfl _ _ 3 3 rfl _ _ 0 rfl rfl (by decide) ?_) | fail)
  refine wp_loop_rounds 1 ?_
  rw [rounds_succ]
  go_wp2
  refine wp_loop_rounds 1 ?_
  rw [rounds_succ]
  go_wp2
  refine wp_loop_rounds 1 ?_
  rw [rounds_succ]
  go_wp2_with fail
  refine (entriesOf_nil none 0 w1).mono ?_
  rintro e w2 ⟨rfl, b2⟩
  have B2 := hid (b1.trans (b2.mono b1.size))
  clear b1 b2
  go_wp2_with fail
  refine (keep.same_nil none none 0 0 w2).mono ?_
  rintro e w3 ⟨rfl, q, hq⟩
  have B3 := hid (show Below w.heap.size w w3 by rw [hq]; exact below_drewN B2.out q)
  clear hq B2
  go_wp2
  go_ret
  exact ⟨rfl, B3.out⟩

theorem newest_any (v : Value) (l : List Plain.En) (hl : l.length ≤ 9223372036854775807) (hr : ∀ j, j < l.length → InE (Plain.en l j)) (turn : Int) (ht : -9223372036854775808 ≤ turn ∧ turn ≤ 9223372036854775807) (w : World) (hs : SegN w v l) (hy : Lies w.heap.size v) :
    Calls Try.prog 4 #[v, .int .i64 turn] w fun e w' => e = .returned (.bool true) ∧ Below w.heap.size w w' := by
  by_cases h0 : 0 < l.length
  · obtain ⟨b, off, c, rfl, _, hc⟩ := hs.some h0
    exact newest_some b off c l h0 hl hr turn ht w (hy ⟨b, off, none⟩ _ _ rfl h0) hc
  · obtain rfl : l = [] := List.length_eq_zero_iff.1 (by omega)
    obtain ⟨p, c, rfl, _⟩ := hs.form
    exact newest_nil p c turn w
end Go.Proofs.Ythdhcnjebigdfaf

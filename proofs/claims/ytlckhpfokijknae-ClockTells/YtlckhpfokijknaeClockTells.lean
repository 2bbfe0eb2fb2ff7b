/- Proved: at every list of happenings the law ClockTells returns true: of two events' clocks one is ahead just if there is a way from one to the other, by the order at a site and by what was sent and heard. Conditions: none. -/
import Derived.Test.YtlckhpfokijknaeRows
import Derived.WalkKit
import Derived.ProofKit
import Derived.OpenShut
import Derived.WalkSmall
import Derived.ShutString
import Derived.ChangeOld
import Derived.Below
import Derived.Test.YtlckhpfokijknaeWy
import Derived.Test.YtlckhpfokijknaeEvo
namespace Go.Proofs.Ytlckhpfokijknae
namespace clockTells
open Go.ChangeShapes Go.WideShapes Go.ChangeAt Go.RowKit
set_option linter.unusedVariables false

theorem own : ownKnob Try.prog.godebug = none := by kernel_rfl
theorem laidOut : laidOutB Try.prog = true := by kernel_rfl

set_option maxHeartbeats 4000000 in
set_option maxRecDepth 100000 in
theorem walk (w : World) (v0 : Value) (l0 : List Plain.Ev) (hm0 : l0.length ≤ 9223372036854775807) (hr0 : ∀ j, j < l0.length → (-9223372036854775808 ≤ (Plain.ev l0 j).1 ∧ (Plain.ev l0 j).1 ≤ 9223372036854775807) ∧ (-9223372036854775808 ≤ (Plain.ev l0 j).2.1 ∧ (Plain.ev l0 j).2.1 ≤ 9223372036854775807) ∧ (-9223372036854775808 ≤ (Plain.ev l0 j).2.2 ∧ (Plain.ev l0 j).2.2 ≤ 9223372036854775807)) (s0 : SegE w v0 l0) (y0 : Lies w.heap.size v0) :
    Calls Try.prog 3 #[v0] w fun e w' => e = .returned (.bool true) ∧ Below w.heap.size w w' := by
  have S0 := hid s0
  have Y0 := hid y0
  have HR := hid hr0
  have HM := hid hm0
  clear s0 y0 hr0 hm0
  go_enter Try.func3, Try.ntmps3
  go_wp2_with fail
  refine (kevents_any v0 l0 HM.out HR.out _ S0.out Y0.out).mono ?_
  rintro e w1 ⟨r, rfl, own1, b1⟩
  obtain ⟨p, c, rfl⟩ := owns_form own1
  obtain ⟨cv, w2, hrun, own2, b2⟩ := app_copy (show Plain.evN l0 ≤ 60 by unfold Plain.evN; omega) own1
  have RUN := hid hrun
  have O1 := hid own1
  have O2 := hid own2
  have B1 := hid b1
  have B2 := hid b2
  clear own1 own2 b1 b2 hrun
  go_wp2_with (first | (at_builtin; refine wpList_app _ _ 23 RUN.out (by rfl) (by rfl) (by rfl) (by rfl) (by rfl) ?_) | fail)
  refine (play_evs cv l0 _ _ O2.out).mono ?_
  rintro e w3 ⟨bc, cc, rfl, hrow, hbc, b3⟩
  have D3 := hid (PD.mk' O1.out (B2.out.trans (b3.mono B2.out.size)) hrow hbc)
  have B3 := hid (show Below w.heap.size w w3 from (B1.out.trans ((B2.out.trans (b3.mono B2.out.size)).mono B1.out.size)))
  clear hrow hbc b3 O1 O2 B1 B2 RUN S0 Y0 HR HM
  generalize Plain.evN l0 = N at *
  generalize Plain.evs l0 = es at *
  have hN60 := D3.out.n60
  have hmk := run_make_row' (P := Try.prog) 30 4 (.bool false) 1 Try.underlying30 Try.infoBool rfl .i64 .i64 N (by omega) (by omega)
  go_wp2
  go_loopw [6, 7] (fun vw i wx => ∃ (m : Nat) (g : Nat → Nat), m ≤ N ∧ i = .int .i64 m ∧ WI es N m w3.heap.size w3 wx vw g) (fun _ i _ => N - (intOf i).toNat)
  case atStart => exact ⟨0, fun _ => 0, Nat.zero_le _, rfl, WI.start w3⟩
  case round =>
    obtain ⟨m, g, hm, rfl, hwi⟩ := hrel
    have HI := hid hwi
    clear hwi
    obtain ⟨wo, hwo⟩ : ∃ wo, wo = wr := ⟨_, rfl⟩
    subst hwo
    by_cases hlt : m < N
    · have hlt' : (m : Int) < (N : Int) := by omega
      obtain ⟨ge, wi, gg, dd, hp, hge, hce, hwi4, hwhi, hevi, _⟩ := (D3.out.grow HI.out.bel).at hlt
      subst hp
      have HCE := hid hce
      have HWI := hid hwhi
      have HEV := hid hevi
      clear hce hwhi hevi hwi4
      obtain ⟨ki, hki⟩ : ∃ ki, ki = (Plain.ev es m).1 := ⟨_, rfl⟩
      obtain ⟨oi, hoi⟩ : ∃ oi, oi = (Plain.ev es m).2.2 := ⟨_, rfl⟩
      have HKI := hid hki
      have HOI := hid hoi
      have H0 := hid (show ki = 3 → 0 ≤ oi by intro h3; rw [hoi]; exact (Plain.evE_of (D3.out.ok m hlt) (by unfold Plain.kd; rw [← hki]; exact h3)).1)
      clear hki hoi
      go_wp2
      clear hmk
      go_loopw [9] (fun i wx => ∃ k : Nat, k ≤ m ∧ i = .int .i64 k ∧ wx.rowIs wo.heap.size 4 N (fun j => .bool (Plain.toK es N m k j)) ∧ Below wo.heap.size wo wx) (fun i _ => m - (intOf i).toNat)
      case atStart => exact ⟨0, Nat.zero_le _, rfl, (World.rowIs_made wo (.bool false) N 4).congr fun s _ => rfl, (Below.refl _ _).alloc (Nat.le_refl _) _⟩
      case round =>
        obtain ⟨k, hk, rfl, hrow, hbel⟩ := hrel
        have HO := hid hrow
        have HB := hid hbel
        clear hrow hbel
        by_cases hkm : k < m
        · have hkm' : (k : Int) < (m : Int) := by omega
          have hkN : k < N := by omega
          have hkN' : (k : Int) < (N : Int) := by omega
          obtain ⟨wk, hwk, hwhk, hevk⟩ : ∃ wk : Nat, wk < 4 ∧ Plain.wh es k = wk ∧ (Plain.ev es k).2.1 = (wk : Int) := by
            obtain ⟨_, wk, _, _, _, _, _, a, b, c, _⟩ := D3.out.at hkN
            exact ⟨wk, a, b, c⟩
          have HK := hid (stepB_is HWI.out hwhk HKI.out.symm HOI.out.symm H0.out)
          have e1 := ((HCE.out.below HB.out hge) k (by rw [D3.out.len]; exact hkN)).2.1
          obtain ⟨e2, e3, e4⟩ := (HCE.out.below HB.out hge) m (by rw [D3.out.len]; exact hlt)
          rw [hevk, Nat.zero_add] at e1
          rw [← HKI.out, Nat.zero_add] at e2
          rw [HEV.out, Nat.zero_add] at e3
          rw [← HOI.out, Nat.zero_add] at e4
          clear hwk hwhk hevk
          by_cases c1 : wk = wi
          · have HS := hid (show Plain.stepB es m k = true by rw [HK.out]; simp [c1])
            subst c1
            clear HK
            have x1 := HO.out.cell hkN
            have x2 := HO.out.frozen k
            have x3 := HO.out.lt
            go_wp2
            go_quiet (fail)
            go_wp2
            have HO1 := hid (show (wr.drewN nq).rowIs wo.heap.size 4 N (fun j => .bool (Plain.toK es N m k j)) from HO.out)
            have HB1 := hid (show Below wo.heap.size wo (wr.drewN nq) from below_drewN HB.out nq)
            clear e1 e2 e3 e4 HO HB x1 x2 x3
            obtain ⟨gw, cw, hvw⟩ := owns_some HI.out.own (show 0 < m by omega)
            subst hvw
            go_loopw [11] (fun i wx => ∃ j : Nat, j ≤ k ∧ i = .int .i64 j ∧ wx.rowIs wo.heap.size 4 N (fun t => .bool (toJ es N m k j t)) ∧ Below wo.heap.size wo wx) (fun i _ => k - (intOf i).toNat)
            case atStart => exact ⟨0, Nat.zero_le _, rfl, toJ_start HS.out HO1.out, HB1.out.setCell (p := ⟨wo.heap.size, k, none⟩) (Nat.le_refl _) _⟩
            case round =>
              clear HB1 HO1
              obtain ⟨j, hj, rfl, hrow, hbel⟩ := hrel
              have HO := hid hrow
              have HB := hid hbel
              clear hrow hbel
              by_cases hjk : j < k
              · have hjk' : (j : Int) < (k : Int) := by omega
                have hjN : j < N := by omega
                have hjN' : (j : Int) < (N : Int) := by omega
                have o1 := HO.out.cell hjN
                have ho : toJ es N m k j j = Plain.toK es N m k j := by unfold toJ; rw [if_neg (by omega)]
                rw [ho] at o1
                clear ho
                have o2 := HO.out.frozen j
                have o3 := HO.out.lt
                have q1 := rvals_cell (HI.out.grow HB.out).own hkm
                have q2 := ((HI.out.grow HB.out).rows k hkm).cell hjN
                have HT := hid (Plain.toK_less (n := N) HS.out hjk)
                obtain ⟨x, hx⟩ : ∃ x, x = Plain.toK es N m k j := ⟨_, rfl⟩
                obtain ⟨y, hy⟩ : ∃ y, y = Plain.way es N m k j := ⟨_, rfl⟩
                rw [← hx] at o1 HT
                rw [← hy] at q2 HT
                clear hx hy
                cases x
                · go_wp2
                  go_roundw
                  case rel => exact ⟨j + 1, by omega, by go_num, toJ_set hjk HO.out (by rw [HT.out]; simp), HB.out.setCell (p := ⟨wo.heap.size, j, none⟩) (Nat.le_refl _) _⟩
                  case measure => simp [intOf]; omega
                · go_wp2
                  go_roundw
                  case rel => exact ⟨j + 1, by omega, by go_num, toJ_set hjk HO.out (by rw [HT.out]; simp), HB.out.setCell (p := ⟨wo.heap.size, j, none⟩) (Nat.le_refl _) _⟩
                  case measure => simp [intOf]; omega
              · have ej : k = j := by omega
                subst ej
                have HO2 := hid (toJ_done HS.out HO.out)
                clear HO
                go_wp2
                go_roundw
                case rel => first | exact ⟨k + 1, by omega, by go_num, HO2.out, HB.out⟩ | ((repeat apply Exists.intro); refine ⟨⟨k + 1, by omega, ?_, HO2.out, HB.out⟩, rfl⟩; go_num)
                case measure => simp [intOf]; omega
          · have c1' : ¬ (wk : Int) = (wi : Int) := by omega
            have b1 : ((wk : Int) == (wi : Int)) = false := beq_false_of_ne c1'
            by_cases c2 : ki = 3
            · by_cases c3 : oi = (k : Int)
              · have HS := hid (show Plain.stepB es m k = true by rw [HK.out]; simp [c2, c3])
                subst c2 c3
                clear HK c1
                have x1 := HO.out.cell hkN
                have x2 := HO.out.frozen k
                have x3 := HO.out.lt
                go_wp2
                go_quiet (fail)
                go_wp2
                have HO1 := hid (show (wr.drewN nq).rowIs wo.heap.size 4 N (fun j => .bool (Plain.toK es N m k j)) from HO.out)
                have HB1 := hid (show Below wo.heap.size wo (wr.drewN nq) from below_drewN HB.out nq)
                clear e1 e2 e3 e4 HO HB x1 x2 x3
                obtain ⟨gw, cw, hvw⟩ := owns_some HI.out.own (show 0 < m by omega)
                subst hvw
                go_loopw [11] (fun i wx => ∃ j : Nat, j ≤ k ∧ i = .int .i64 j ∧ wx.rowIs wo.heap.size 4 N (fun t => .bool (toJ es N m k j t)) ∧ Below wo.heap.size wo wx) (fun i _ => k - (intOf i).toNat)
                case atStart => exact ⟨0, Nat.zero_le _, rfl, toJ_start HS.out HO1.out, HB1.out.setCell (p := ⟨wo.heap.size, k, none⟩) (Nat.le_refl _) _⟩
                case round =>
                  clear HB1 HO1
                  obtain ⟨j, hj, rfl, hrow, hbel⟩ := hrel
                  have HO := hid hrow
                  have HB := hid hbel
                  clear hrow hbel
                  by_cases hjk : j < k
                  · have hjk' : (j : Int) < (k : Int) := by omega
                    have hjN : j < N := by omega
                    have hjN' : (j : Int) < (N : Int) := by omega
                    have o1 := HO.out.cell hjN
                    have ho : toJ es N m k j j = Plain.toK es N m k j := by unfold toJ; rw [if_neg (by omega)]
                    rw [ho] at o1
                    clear ho
                    have o2 := HO.out.frozen j
                    have o3 := HO.out.lt
                    have q1 := rvals_cell (HI.out.grow HB.out).own hkm
                    have q2 := ((HI.out.grow HB.out).rows k hkm).cell hjN
                    have HT := hid (Plain.toK_less (n := N) HS.out hjk)
                    obtain ⟨x, hx⟩ : ∃ x, x = Plain.toK es N m k j := ⟨_, rfl⟩
                    obtain ⟨y, hy⟩ : ∃ y, y = Plain.way es N m k j := ⟨_, rfl⟩
                    rw [← hx] at o1 HT
                    rw [← hy] at q2 HT
                    clear hx hy
                    cases x
                    · go_wp2
                      go_roundw
                      case rel => exact ⟨j + 1, by omega, by go_num, toJ_set hjk HO.out (by rw [HT.out]; simp), HB.out.setCell (p := ⟨wo.heap.size, j, none⟩) (Nat.le_refl _) _⟩
                      case measure => simp [intOf]; omega
                    · go_wp2
                      go_roundw
                      case rel => exact ⟨j + 1, by omega, by go_num, toJ_set hjk HO.out (by rw [HT.out]; simp), HB.out.setCell (p := ⟨wo.heap.size, j, none⟩) (Nat.le_refl _) _⟩
                      case measure => simp [intOf]; omega
                  · have ej : k = j := by omega
                    subst ej
                    have HO2 := hid (toJ_done HS.out HO.out)
                    clear HO
                    go_wp2
                    go_roundw
                    case rel => first | exact ⟨k + 1, by omega, by go_num, HO2.out, HB.out⟩ | ((repeat apply Exists.intro); refine ⟨⟨k + 1, by omega, ?_, HO2.out, HB.out⟩, rfl⟩; go_num)
                    case measure => simp [intOf]; omega
              · have b3 : (oi == (k : Int)) = false := beq_false_of_ne c3
                have HS := hid (show Plain.stepB es m k = false by rw [HK.out]; simp [c1', c3])
                subst c2
                go_wp2
                go_quiet (fail)
                go_wp2
                go_roundw
                case rel => exact ⟨k + 1, by omega, by go_num, (show World.rowIs (World.drewN wr _) _ _ _ _ from HO.out).congr fun j _ => by rw [Plain.toK_skip HS.out], below_drewN HB.out _⟩
                case measure => simp [intOf]; omega
            · have b2 : (ki == 3) = false := beq_false_of_ne c2
              have HS := hid (show Plain.stepB es m k = false by rw [HK.out]; simp [c1', c2])
              go_wp2
              go_quiet (fail)
              go_wp2
              go_roundw
              case rel => exact ⟨k + 1, by omega, by go_num, (show World.rowIs (World.drewN wr _) _ _ _ _ from HO.out).congr fun j _ => by rw [Plain.toK_skip HS.out], below_drewN HB.out _⟩
              case measure => simp [intOf]; omega
        · have ek : m = k := by omega
          subst ek
          obtain ⟨i1, hi, hz0, hz1, hz2⟩ := info_parts Try.infoRowB
          go_wp2_with (first
            | (at_builtin; refine wpList_append_own _ rfl _ _ 29 rfl w3.heap.size 30 i1 (.slice none 0 0) 1 24 Try.underlying29 hi hz0 hz1 hz2 rfl (by decide) _ _ _ rfl ((HI.out.grow HB.out).own.alloc _) ⟨wr.heap.size, 0, none⟩ 1 1 [.slice (some ⟨wo.heap.size, 0, none⟩) N N] rfl rfl ?c1 ?c2 ?c3 ?c4 ?c5 ?_)
            | go_in)
          case c1 =>
            intro j u hj
            match j, hj with
            | 0, hj => simp at hj; subst hj; exact new_cell0 _ _ _
          case c2 => intro u hu; simp at hu; subst hu; rfl
          case c3 => unfold maxLen; omega
          case c4 => omega
          case c5 => have := (HI.out.grow HB.out).bel.size; simp; omega
          intro vw' w1 hown' hgrow _
          have RH := hid (WI.next HI.out HB.out HO.out hgrow hown')
          clear hown' hgrow hi hz0 hz1 hz2 HO HB
          go_wp2
          go_roundw
          case rel => first | exact ⟨m + 1, _, by omega, by go_num, RH.out⟩ | ((repeat apply Exists.intro); refine ⟨⟨m + 1, _, by omega, ?_, RH.out⟩, rfl⟩; go_num)
          case measure => simp [intOf]; omega
    · have em : N = m := by omega
      subst em
      clear hmk
      have DW := hid (D3.out.grow HI.out.bel)
      go_wp2
      go_loopw [12] (fun i wx => ∃ m q : Nat, m ≤ N ∧ i = .int .i64 m ∧ wx = wo.drewN q) (fun i _ => N - (intOf i).toNat)
      case atStart => exact ⟨0, 0, Nat.zero_le _, rfl, rfl⟩
      case round =>
        obtain ⟨m, q, hm, rfl, hw⟩ := hrel
        have HW := hid hw
        clear hw hlt
        by_cases hlt : m < N
        · have hlt' : (m : Int) < (N : Int) := by omega
          obtain ⟨wp, hwp⟩ : ∃ wp, wp = wr := ⟨_, rfl⟩
          subst hwp
          go_wp2
          go_loopw [13] (fun i wx => ∃ k q : Nat, k ≤ m ∧ i = .int .i64 k ∧ wx = wo.drewN q) (fun i _ => m - (intOf i).toNat)
          case atStart => exact ⟨0, q, Nat.zero_le _, rfl, HW.out⟩
          case round =>
            clear HW
            obtain ⟨k, q, hk, rfl, hw⟩ := hrel
            have HW := hid hw
            clear hw
            by_cases hkm : k < m
            · have hkm' : (k : Int) < (m : Int) := by omega
              have hkN : k < N := by omega
              have hkN' : (k : Int) < (N : Int) := by omega
              have BW := hid (show Below wo.heap.size wo wr by rw [HW.out]; exact below_drewN (Below.refl _ _) q)
              have D := hid (DW.out.grow BW.out)
              obtain ⟨g1, d1, a1, r1⟩ := D.out.rows k hkN
              obtain ⟨g2, d2, a2, r2⟩ := D.out.rows m hlt
              obtain ⟨gw, cw, hvw⟩ := owns_some HI.out.own (show 0 < N by omega)
              subst hvw
              have q1 := rvals_cell (HI.out.grow BW.out).own hlt
              have q2 := ((HI.out.grow BW.out).rows m hlt).cell hkN
              rw [Plain.way_on es N hlt hkm] at q2
              have T := Plain.tells D.out.good (by omega) (by omega) (by omega) (fun i hi => by have := Plain.evE_wh (D.out.ok i hi); unfold Plain.wh; omega) hlt hkm
              have KK := fun z hz q => order_rows g1 d1 g2 d2 _ _ (D.out.good.csRow k hkN) (D.out.good.csRow m hlt) T.1 z hz (wr.drewN q) (r1.drewN q) (r2.drewN q)
              rw [T.2] at KK
              clear T r1 r2
              cases hon : Plain.on es N N m k
              · rw [hon] at q2 KK
                replace KK := KK 2 rfl
                go_wp2
                go_quiet ((go_at_call 7; exact Calls.quiet_of (KK _)))
                clear KK
                go_wp2
                go_roundw
                case rel => exact ⟨k + 1, _, by omega, by go_num, by rw [HW.out, drewN_add]⟩
                case measure => simp [intOf]; omega
              · rw [hon] at q2 KK
                replace KK := KK (-1) rfl
                go_wp2
                go_quiet ((go_at_call 7; exact Calls.quiet_of (KK _)))
                clear KK
                go_wp2
                go_roundw
                case rel => exact ⟨k + 1, _, by omega, by go_num, by rw [HW.out, drewN_add]⟩
                case measure => simp [intOf]; omega
            · have ek : m = k := by omega
              subst ek
              go_wp2
              go_roundw
              case rel => first | exact ⟨m + 1, q, by omega, by go_num, HW.out⟩ | ((repeat apply Exists.intro); refine ⟨⟨m + 1, q, by omega, ?_, HW.out⟩, rfl⟩; go_num)
              case measure => simp [intOf]; omega
        · have em : N = m := by omega
          subst em
          have BW := hid (show Below w.heap.size w wr by rw [HW.out]; exact below_drewN (B3.out.trans (HI.out.bel.mono B3.out.size)) q)
          clear HW DW HI D3 B3
          go_wp2_with fail
          refine (play_one wr.heap.size 1 (Nat.le_refl _) _ (lit_event wr) (by simp)).mono ?_
          rintro e w4 ⟨b4, c4, g4, d4, rfl, k4, r4, lt4, bl4⟩
          have B4 := hid (show Below w.heap.size w w4 from BW.out.trans ((((Below.refl _ _).alloc (Nat.le_refl _) _).trans (bl4.mono (by simp))).mono BW.out.size))
          have R4 := hid r4
          clear r4 bl4
          go_wp2_with fail
          refine (same_one g4 d4 w4.heap.size _ (R4.out.below ((Below.refl w4.heap.size w4).alloc (Nat.le_refl _) _) R4.out.lt) (lit_one w4)).mono ?_
          rintro e w5 ⟨rfl, q5, rfl⟩
          go_wp2
          go_ret
          exact ⟨rfl, below_drewN (B4.out.alloc B4.out.size _) q5⟩

set_option maxRecDepth 100000 in
theorem lifted (os : Os) (started : os.Started) (H : Type) (enc : TypeId × Value → H) :
    ReturnsInHanded {} Try.checked os 3 .any (Rows.clockTellsSpec.pre6 enc Try.prog Try.f3 Rows.clockTellsRow.domain false) (Rows.clockTellsSpec.post enc Try.prog Try.f3 false true false false) := by
  refine returnsInHanded_of_change (C := Try.checked) own started (by kernel_rfl) Try.func3
    (ChangeSpec.witness6 (enc := enc) (C := Try.checked) false ⟨#[], #[.slice none 0 0], []⟩ 8 (by kernel_rfl) (by kernel_rfl) (by kernel_rfl) (by kernel_rfl)) ?_
  intro W base args ds gs before hval0 hW hcnd _
  have hval : ∀ (j : Nat) t v, Try.f3.params[j]? = some t → args[j]? = some v → Value.okWide Try.prog W .any base t v := hval0
  have hW' := hW
  obtain ⟨p, q, hA0, hV, rfl, hfz, hnd⟩ := hW
  have hA : DataW.TrodAll enc Try.prog W 0 (fun _ => true) true Try.f3.params.toList args.toList ds p := hA0
  rw [Try.params3] at hA hval
  obtain ⟨v0, vs0, d0, ds0, p0, q0, hargs, rfl, rfl, h0, r0⟩ := trodAll_cons hA
  obtain ⟨rfl, rfl, rfl⟩ := trodAll_nil r0
  obtain rfl : args = #[v0] := by cases args; simp_all
  obtain ⟨rfl, rfl⟩ := trodVars_none hV
  obtain ⟨a0, len0, cap0, rfl⟩ := okWide_slice Try.underlying22 (hval 0 22 v0 rfl rfl)
  have k0 := h0
  have lt0 : ∀ x ∈ p0, x.block < W.heap.size := by obtain ⟨m, hm⟩ := k0; exact DataW.trod_lt m _ _ _ hm
  obtain ⟨l0, hl0, hm0, s0, y0, hr0⟩ := trips_open Try.underlying22 Try.underlying38 (by kernel_rfl) rfl (by intro j f hj; rcases j with _ | _ | _ | j <;> simp at hj <;> subst hj <;> exact ⟨rfl, by kernel_rfl, Try.underlying3⟩) h0
  clear hA0 hval0
  refine (walk W _ l0 (by omega) hr0 s0 y0).mono fun e W' ⟨he, bel⟩ => ?_
  subst he
  exact ⟨_, rfl, _, _, _, [], _, [], hW', trodAll_mk1 (shut_bool Try.underlying4 _), (trodAll_cons_mk (Below.trod laidOut (by kernel_rfl) (of_decide_eq_true (by kernel_rfl)) k0 bel lt0) trodAll_mk0), rfl, bel.frame _, fun h => by cases h⟩

theorem over : Rows.clockTellsRow.holds Try.pinned (OpenSpec.ofChange Rows.clockTellsSpec) :=
  OpenClaim.holds_of_wide 3 Try.f3 rfl rfl rfl rfl rfl rfl rfl ⟨rfl, rfl, rfl, rfl, rfl⟩ rfl rfl rfl rfl rfl (by kernel_rfl) Try.func3 (by kernel_rfl)
    (of_decide_eq_true (by kernel_rfl)) (by unfold Func.isWrapper; first | (rw [if_pos (by decide +kernel)]; kernel_rfl) | (rw [if_neg (by decide +kernel)]; exact ⟨rfl, rfl⟩))
    (fun os started H enc _ => lifted os started H enc)

end clockTells

theorem clockTells_holds : Rows.ClockTellsSaid := clockTells.over
#print axioms clockTells_holds
end Go.Proofs.Ytlckhpfokijknae

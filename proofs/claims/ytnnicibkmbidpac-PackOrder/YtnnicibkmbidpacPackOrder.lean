/- Proved: at every three lists of 64-bit integers the law PackOrder returns true: records stand in the order of their values, byte by byte, the first field first. Conditions: none. -/
import Derived.Test.YtnnicibkmbidpacRows
import Derived.WalkKit
import Derived.ProofKit
import Derived.OpenShut
import Derived.WalkSmall
import Derived.Test.YtnnicibkmbidpacKo
import Derived.Test.YtnnicibkmbidpacSameI
import Derived.Deep.QuietTactic
import Derived.BigQuiet
import Derived.ShutString
import Derived.ChangeOld
import Derived.Below
namespace Go.Proofs.Ytnnicibkmbidpac
namespace packOrder
open Go.ChangeShapes Go.WideShapes Go.ChangeAt Go.RowKit
open Go.ChangeMaps (open_string shut_string)
set_option linter.unusedVariables false

theorem own : ownKnob Try.prog.godebug = none := by kernel_rfl
theorem laidOut : laidOutB Try.prog = true := by kernel_rfl

/-- WHAT THE WALK IS TOLD OF A SLICE OF INTEGERS THAT CAME IN: it is nil; or it leads to a row of 'cap' cells, the numbers 'zs' (the first 'len' are its elements, the rest its spare room), each fitting its kind. -/
def IsRow (k : IntKind) (w : World) (a : Option Addr) (len cap : Nat) (zs : List Int) : Prop :=
  (a = none ∧ len = 0 ∧ cap = 0 ∧ zs = []) ∨
  ∃ x, a = some x ∧ len ≤ cap ∧ cap ≤ maxLen ∧ zs.length = cap ∧ (∀ i, i < zs.length → w.cell? (x.add i) = some (.int k (zs.getD i 0))) ∧ ∀ n ∈ zs, (Lit.int k n).wf = true

set_option maxHeartbeats 4000000 in
theorem walk (a0 : Option Addr) (len0 cap0 : Nat) (z0 : List Int) (a1 : Option Addr) (len1 cap1 : Nat) (z1 : List Int) (a2 : Option Addr) (len2 cap2 : Nat) (z2 : List Int) (w : World) (w0 : IsRow .i64 w a0 len0 cap0 z0) (w1 : IsRow .i64 w a1 len1 cap1 z1) (w2 : IsRow .i64 w a2 len2 cap2 z2) :
    Calls Try.prog 7 #[.slice a0 len0 cap0, .slice a1 len1 cap1, .slice a2 len2 cap2] w fun e w' => e = .returned (.bool true) ∧ Below w.heap.size w w' := by
  obtain ⟨l, hl, hc, hm, hr, hv, hs⟩ := row_seg w0
  obtain ⟨xs, hl1, hc1, hm1, hr1, hv1, hs1⟩ := row_seg w1
  obtain ⟨ys, hl2, hc2, hm2, hr2, hv2, hs2⟩ := row_seg w2
  clear w0 w1 w2
  have X := hid (show l.length ≤ 9223372036854775807 ∧ xs.length ≤ 9223372036854775807 ∧ ys.length ≤ 9223372036854775807 by omega)
  have S0 := hid hs
  have V0 := hid hv
  have R0 := hid hr
  have S1 := hid hs1
  have V1 := hid hv1
  have R1 := hid hr1
  have S2 := hid hs2
  have V2 := hid hv2
  have R2 := hid hr2
  clear hs hv hr hs1 hv1 hr1 hs2 hv2 hr2 hl hc hm hl1 hc1 hm1 hl2 hc2 hm2
  have HWL := hid (Plain.wlist_len l)
  have HSN := hid (Plain.snoc_sz (Plain.wlist l) 5 (Plain.wlist_ok l) (by have := Plain.wlist_len l; omega) (by omega))
  obtain ⟨i0, hi, hz0, hz1, hz2⟩ := info_parts Try.infoInt
  go_enter Try.func7, Try.ntmps7
  go_wp2_with fail
  refine (kwidths_any _ l R0.out X.out.1 _ S0.out V0.out).mono ?_
  rintro e w1 ⟨r0, rfl, o0, b0⟩
  have O0 := hid o0
  have B0 := hid b0
  have hge0 := b0.size
  have hwl := HWL.out
  clear o0 b0
  generalize hws : Plain.wlist l = ws0 at *
  clear hws
  have HIV := hid (ivals_snoc ws0 5)
  generalize hl0 : ws0.length = k0 at *
  have HL0 := hid hl0
  clear hl0
  generalize hiv : ivals ws0 = iv at *
  clear hiv
  go_wp2_with (first
    | (at_builtin; refine wpList_append_own _ rfl _ _ 22 rfl w.heap.size 3 i0 (.int .i64 0) 1 8 Try.underlying22 hi hz0 hz1 hz2 rfl (by decide) _ _ _ rfl (O0.out.alloc _) ⟨w1.heap.size, 0, none⟩ 1 1 [.int .i64 5] rfl rfl ?c1 ?c2 ?c3 ?c4 ?c5 ?_)
    | go_in)
  case c1 =>
    intro j u hj
    match j, hj with
    | 0, hj => simp at hj; subst hj; simp [Addr.add]
  case c2 => first | rfl | (intro u hu; simp at hu; subst hu; rfl)
  case c3 => unfold maxLen; omega
  case c4 => omega
  case c5 => first | omega | (simp; omega)
  intro v2 w2 o2 g2 _
  have B2 := hid (below_app (B0.out.alloc hge0 _) g2 O0.out)
  have O2 := hid (show w2.ownsRow w.heap.size 3 1 v2 (ws0 ++ [5]).length (ivals (ws0 ++ [5])) by rw [HIV.out, List.length_append, HL0.out]; exact o2)
  clear o2 g2
  have HL1 := hid (show (ws0 ++ [5]).length ≤ 21 by rw [List.length_append, HL0.out]; simp; omega)
  generalize hws1 : ws0 ++ [5] = ws at *
  clear hws1 HIV
  go_wp2_with fail
  refine (kfields_any _ _ ws xs HSN.out.1 (by have := HL1.out; omega) R1.out X.out.2.1 _ (seg_ivals O2.out) (lies_owns2 O2.out) (Seg.below S1.out B2.out V1.out) (Lies.mono V1.out (Below.size B2.out))).mono ?_
  rintro e w3 ⟨r3, rfl, o3, b3⟩
  obtain ⟨p3, c3, rfl⟩ := own_form o3
  have K3 := hid (kf_seg o3)
  have B3 := hid b3
  have B03 := hid (Below.trans B2.out (Below.mono b3 (Below.size B2.out)))
  clear o3 b3
  go_wp2_with fail
  refine (kfields_any _ _ ws ys HSN.out.1 (by have := HL1.out; omega) R2.out X.out.2.2 _ (Seg.below (seg_ivals O2.out) B3.out (lies_owns2 O2.out)) (Lies.mono (lies_owns2 O2.out) (Below.size B3.out)) (Seg.below S2.out B03.out V2.out) (Lies.mono V2.out (Below.size B03.out))).mono ?_
  rintro e w4 ⟨r4, rfl, o4, b4⟩
  obtain ⟨p4, c4, rfl⟩ := own_form o4
  have K4 := hid (kf_seg o4)
  have B4 := hid b4
  have B04 := hid (Below.trans B03.out (Below.mono b4 (Below.size B03.out)))
  clear o4 b4
  go_wp2_with fail
  refine (pack_any _ _ (by rw [Plain.flist_len]; have := HL1.out; omega) _ (SegF.below K3.out.1 B4.out K3.out.2) (Lies.mono K3.out.2 (Below.size B4.out))).mono ?_
  rintro e w5 ⟨u5, rfl, s5, l5, b5⟩
  obtain ⟨p5, c5, rfl⟩ := segB_form s5
  rw [(Plain.fl_pack ws xs HSN.out.2.1).1, Plain.fl_len ws xs HSN.out.2.1]
  have HA := hid (Plain.fl_len ws xs HSN.out.2.1)
  have S5 := hid (show SegB w5 (.slice p5 (Plain.szN ws) c5) (Plain.packB (Plain.flist ws xs ws.length)) by rw [Plain.fl_len ws xs HSN.out.2.1] at s5; exact s5)
  have L5 := hid (show Lies w5.heap.size (.slice p5 (Plain.szN ws) c5) by rw [Plain.fl_len ws xs HSN.out.2.1] at l5; exact l5)
  have B5 := hid b5
  have B05 := hid (Below.trans B04.out (Below.mono b5 (Below.size B04.out)))
  clear s5 l5 b5
  go_wp2_with fail
  refine (pack_any _ _ (by rw [Plain.flist_len]; have := HL1.out; omega) _ (SegF.below K4.out.1 B5.out K4.out.2) (Lies.mono K4.out.2 (Below.size B5.out))).mono ?_
  rintro e w6 ⟨u6, rfl, s6, l6, b6⟩
  obtain ⟨p6, c6, rfl⟩ := segB_form s6
  rw [(Plain.fl_pack ws ys HSN.out.2.1).1, Plain.fl_len ws ys HSN.out.2.1]
  have HB := hid (Plain.fl_len ws ys HSN.out.2.1)
  have S6 := hid (show SegB w6 (.slice p6 (Plain.szN ws) c6) (Plain.packB (Plain.flist ws ys ws.length)) by rw [Plain.fl_len ws ys HSN.out.2.1] at s6; exact s6)
  have S5' := hid (SegB.below S5.out b6 L5.out)
  have B46 := hid (Below.trans B5.out (Below.mono b6 (Below.size B5.out)))
  have B06 := hid (Below.trans B05.out (Below.mono b6 (Below.size B05.out)))
  have B36 := hid (Below.trans B4.out (Below.mono B46.out (Below.size B4.out)))
  have F3 := hid (SegF.below K3.out.1 B36.out K3.out.2)
  have F4 := hid (SegF.below K4.out.1 B46.out K4.out.2)
  clear s6 l6 b6
  have HFL3 := hid (Plain.flist_len ws xs ws.length)
  have HFL4 := hid (Plain.flist_len ws ys ws.length)
  have HORD := hid (Plain.fl_order ws xs ys HSN.out.2.1)
  have hn0 := HSN.out.2.2
  have hn3 := Plain.szN_le ws
  have hm21 := HL1.out
  generalize hfx : Plain.flist ws xs ws.length = fx at *
  generalize hfy : Plain.flist ws ys ws.length = fy at *
  generalize hpx : Plain.packB fx = bx at *
  generalize hpy : Plain.packB fy = cy at *
  clear hfx hfy hpx hpy
  generalize Plain.szN ws = n at *
  generalize hmm : ws.length = m at *
  clear hmm
  have hnb : ((n : Int) == 0) = false := beq_eq_false_iff_ne.2 (by omega)
  go_wp2
  go_loopw [14, 15] (fun t i wr => ∃ k q : Nat, k ≤ m ∧ i = .int .i64 ((k : Int) - 1) ∧ t = .int .i64 (Plain.sgn ((fx.map Prod.snd).drop k) ((fy.map Prod.snd).drop k)) ∧ wr = w6.drewN q) (fun _ i _ => (intOf i + 1).toNat)
  case atStart => exact ⟨m, 0, Nat.le_refl _, rfl, by rw [Plain.sgn_end _ _ _ (by rw [List.length_map, HFL3.out]; exact Nat.le_refl _)], rfl⟩
  case round =>
    obtain ⟨k, q, hk, rfl, rfl, hw0⟩ := hrel
    have HW := hid hw0
    clear hw0
    cases k with
    | succ j =>
      rw [show (((j + 1 : Nat) : Int) - 1) = (j : Int) by omega]
      have hj : j < m := by omega
      have hj' : (j : Int) < (m : Int) := by omega
      have hj0 : (0 : Int) ≤ (j : Int) := by omega
      obtain ⟨bf, of, rfl, _, gf⟩ := segF_at F3.out (k := j) (by rw [HFL3.out]; exact hj)
      obtain ⟨bg, og, rfl, _, gg⟩ := segF_at F4.out (k := j) (by rw [HFL4.out]; exact hj)
      have hst := hid (Plain.sgn_drop (fx.map Prod.snd) (fy.map Prod.snd) j (by rw [List.length_map, HFL3.out]; exact hj) (by rw [List.length_map, HFL4.out]; exact hj))
      rw [snd_getD fx j (by rw [HFL3.out]; exact hj), snd_getD fy j (by rw [HFL4.out]; exact hj)] at hst
      have g1 : wr.cell? ⟨bf, of + j * 2 + 1, none⟩ = some (.int .i64 (fx.getD j (0, 0)).2) := by rw [HW.out]; exact gf
      have g2 : wr.cell? ⟨bg, og + j * 2 + 1, none⟩ = some (.int .i64 (fy.getD j (0, 0)).2) := by rw [HW.out]; exact gg
      clear gf gg
      generalize (fx.getD j (0, 0)).2 = x at g1 hst
      generalize (fy.getD j (0, 0)).2 = y at g2 hst
      generalize Plain.sgn ((fx.map Prod.snd).drop (j + 1)) ((fy.map Prod.snd).drop (j + 1)) = t at hst
      by_cases c1 : x < y
      · have d1 : decide (x < y) = true := by simpa using c1
        go_wp2
        go_quiet (fail)
        go_wp2
        go_roundw
        case rel => exact ⟨j, q + nq, by omega, by go_num, by rw [hst.out, if_pos c1], by rw [HW.out, drewN_add]⟩
        case measure => simp [intOf]
      · by_cases c2 : y < x
        · have HVL := hid (show Plain.sgn ((fx.map Prod.snd).drop j) ((fy.map Prod.snd).drop j) = 1 by rw [hst.out, if_neg c1, if_pos c2])
          have d1 : decide (x < y) = false := by simpa using c1
          have d2 : decide (y < x) = true := by simpa using c2
          go_wp2
          go_quiet (fail)
          obtain ⟨q1, hq1⟩ : ∃ q1, q1 = nq := ⟨_, rfl⟩
          subst hq1
          go_wp2
          go_quiet (fail)
          go_wp2
          go_roundw
          case rel => first | exact ⟨j, q + (q1 + nq), by omega, by go_num, by rw [HVL.out], by rw [HW.out, drewN_add]⟩ | ((repeat apply Exists.intro); exact ⟨⟨j, q + (q1 + nq), by omega, by go_num, by rw [HVL.out], by rw [HW.out, drewN_add]⟩, rfl⟩)
          case measure => simp [intOf]
        · have HVL := hid (show Plain.sgn ((fx.map Prod.snd).drop j) ((fy.map Prod.snd).drop j) = t by rw [hst.out, if_neg c1, if_neg c2])
          have d1 : decide (x < y) = false := by simpa using c1
          have d2 : decide (y < x) = false := by simpa using c2
          go_wp2
          go_quiet (fail)
          obtain ⟨q1, hq1⟩ : ∃ q1, q1 = nq := ⟨_, rfl⟩
          subst hq1
          go_wp2
          go_quiet (fail)
          go_wp2
          go_roundw
          case rel => first | exact ⟨j, q + (q1 + nq), by omega, by go_num, by rw [HVL.out], by rw [HW.out, drewN_add]⟩ | ((repeat apply Exists.intro); exact ⟨⟨j, q + (q1 + nq), by omega, by go_num, by rw [HVL.out], by rw [HW.out, drewN_add]⟩, rfl⟩)
          case measure => simp [intOf]
    | zero =>
      rw [List.drop_zero, List.drop_zero, ← HORD.out]
      rw [show (((0 : Nat) : Int) - 1) = -1 from rfl]
      have HB06 := hid (show Below w.heap.size w wr by rw [HW.out]; exact below_drewN B06.out q)
      obtain ⟨wo, hwo⟩ : ∃ wo, wo = wr := ⟨_, rfl⟩
      subst hwo
      have SA := hid (show SegB wo (.slice p5 n c5) bx by rw [HW.out]; exact SegB.drew S5'.out q)
      have SB := hid (show SegB wo (.slice p6 n c6) cy by rw [HW.out]; exact SegB.drew S6.out q)
      generalize hT : Plain.sgn (bx.map (fun x : Nat => (x : Int))) (cy.map (fun x : Nat => (x : Int))) = T at *
      have HT := hid hT
      clear hT
      go_wp2
      go_loopw [16, 17] (fun t i wr => ∃ k q : Nat, k ≤ n ∧ i = .int .i64 ((k : Int) - 1) ∧ t = .int .i64 (Plain.sgn ((bx.map (fun x : Nat => (x : Int))).drop k) ((cy.map (fun x : Nat => (x : Int))).drop k)) ∧ wr = wo.drewN q) (fun _ i _ => (intOf i + 1).toNat)
      case atStart => exact ⟨n, 0, Nat.le_refl _, rfl, by rw [Plain.sgn_end _ _ _ (by rw [List.length_map, HA.out]; exact Nat.le_refl _)], rfl⟩
      case round =>
        obtain ⟨k, q, hk, rfl, rfl, hw0⟩ := hrel
        have HW := hid hw0
        clear hw0
        cases k with
        | succ j =>
          rw [show (((j + 1 : Nat) : Int) - 1) = (j : Int) by omega]
          have hj : j < n := by omega
          have hj' : (j : Int) < (n : Int) := by omega
          have hj0 : (0 : Int) ≤ (j : Int) := by omega
          obtain ⟨bf, of, rfl, gf⟩ := segB_at SA.out (k := j) (by rw [HA.out]; exact hj)
          obtain ⟨bg, og, rfl, gg⟩ := segB_at SB.out (k := j) (by rw [HB.out]; exact hj)
          have hst := hid (Plain.sgn_drop (bx.map (fun x : Nat => (x : Int))) (cy.map (fun x : Nat => (x : Int))) j (by rw [List.length_map, HA.out]; exact hj) (by rw [List.length_map, HB.out]; exact hj))
          rw [cast_getD bx j (by rw [HA.out]; exact hj), cast_getD cy j (by rw [HB.out]; exact hj)] at hst
          have g1 : wr.cell? ⟨bf, of + j, none⟩ = some (.int .u8 (bx.getD j 0 : Nat)) := by rw [HW.out]; exact gf
          have g2 : wr.cell? ⟨bg, og + j, none⟩ = some (.int .u8 (cy.getD j 0 : Nat)) := by rw [HW.out]; exact gg
          clear gf gg
          generalize ((bx.getD j 0 : Nat) : Int) = x at g1 hst
          generalize ((cy.getD j 0 : Nat) : Int) = y at g2 hst
          generalize Plain.sgn ((bx.map (fun x : Nat => (x : Int))).drop (j + 1)) ((cy.map (fun x : Nat => (x : Int))).drop (j + 1)) = t at hst
          by_cases c1 : x < y
          · have d1 : decide (x < y) = true := by simpa using c1
            go_wp2
            go_quiet (fail)
            go_wp2
            go_roundw
            case rel => exact ⟨j, q + nq, by omega, by go_num, by rw [hst.out, if_pos c1], by rw [HW.out, drewN_add]⟩
            case measure => simp [intOf]
          · by_cases c2 : y < x
            · have HVL := hid (show Plain.sgn ((bx.map (fun x : Nat => (x : Int))).drop j) ((cy.map (fun x : Nat => (x : Int))).drop j) = 1 by rw [hst.out, if_neg c1, if_pos c2])
              have d1 : decide (x < y) = false := by simpa using c1
              have d2 : decide (y < x) = true := by simpa using c2
              go_wp2
              go_quiet (fail)
              obtain ⟨q1, hq1⟩ : ∃ q1, q1 = nq := ⟨_, rfl⟩
              subst hq1
              go_wp2
              go_quiet (fail)
              go_wp2
              go_roundw
              case rel => first | exact ⟨j, q + (q1 + nq), by omega, by go_num, by rw [HVL.out], by rw [HW.out, drewN_add]⟩ | ((repeat apply Exists.intro); exact ⟨⟨j, q + (q1 + nq), by omega, by go_num, by rw [HVL.out], by rw [HW.out, drewN_add]⟩, rfl⟩)
              case measure => simp [intOf]
            · have HVL := hid (show Plain.sgn ((bx.map (fun x : Nat => (x : Int))).drop j) ((cy.map (fun x : Nat => (x : Int))).drop j) = t by rw [hst.out, if_neg c1, if_neg c2])
              have d1 : decide (x < y) = false := by simpa using c1
              have d2 : decide (y < x) = false := by simpa using c2
              go_wp2
              go_quiet (fail)
              obtain ⟨q1, hq1⟩ : ∃ q1, q1 = nq := ⟨_, rfl⟩
              subst hq1
              go_wp2
              go_quiet (fail)
              go_wp2
              go_roundw
              case rel => first | exact ⟨j, q + (q1 + nq), by omega, by go_num, by rw [HVL.out], by rw [HW.out, drewN_add]⟩ | ((repeat apply Exists.intro); exact ⟨⟨j, q + (q1 + nq), by omega, by go_num, by rw [HVL.out], by rw [HW.out, drewN_add]⟩, rfl⟩)
              case measure => simp [intOf]
        | zero =>
          rw [List.drop_zero, List.drop_zero, HT.out]
          rw [show (((0 : Nat) : Int) - 1) = -1 from rfl]
          go_wp2
          go_ret
          exact ⟨rfl, by rw [HW.out]; exact below_drewN HB06.out q⟩

set_option maxRecDepth 100000 in
theorem lifted (os : Os) (started : os.Started) (H : Type) (enc : TypeId × Value → H) :
    ReturnsInHanded {} Try.checked os 7 .any (Rows.packOrderSpec.pre6 enc Try.prog Try.f7 Rows.packOrderRow.domain false) (Rows.packOrderSpec.post enc Try.prog Try.f7 false true false false) := by
  refine returnsInHanded_of_change (C := Try.checked) own started (by kernel_rfl) Try.func7
    (ChangeSpec.witness6 (enc := enc) (C := Try.checked) false ⟨#[], #[.slice none 0 0, .slice none 0 0, .slice none 0 0], []⟩ 8 (by kernel_rfl) (by kernel_rfl) (by kernel_rfl) (by kernel_rfl)) ?_
  intro W base args ds gs before hval0 hW hcnd _
  have hval : ∀ (j : Nat) t v, Try.f7.params[j]? = some t → args[j]? = some v → Value.okWide Try.prog W .any base t v := hval0
  have hW' := hW
  obtain ⟨p, q, hA0, hV, rfl, hfz, hnd⟩ := hW
  have hA : DataW.TrodAll enc Try.prog W 0 (fun _ => true) true Try.f7.params.toList args.toList ds p := hA0
  rw [Try.params7] at hA hval
  obtain ⟨v0, vs0, d0, ds0, p0, q0, hargs, rfl, rfl, h0, r0⟩ := trodAll_cons hA
  obtain ⟨v1, vs1, d1, ds1, p1, q1, rfl, rfl, rfl, h1, r1⟩ := trodAll_cons r0
  obtain ⟨v2, vs2, d2, ds2, p2, q2, rfl, rfl, rfl, h2, r2⟩ := trodAll_cons r1
  obtain ⟨rfl, rfl, rfl⟩ := trodAll_nil r2
  obtain rfl : args = #[v0, v1, v2] := by cases args; simp_all
  obtain ⟨rfl, rfl⟩ := trodVars_none hV
  obtain ⟨a0, len0, cap0, rfl⟩ := okWide_slice Try.underlying22 (hval 0 22 v0 rfl rfl)
  have k0 := h0
  have lt0 : ∀ x ∈ p0, x.block < W.heap.size := by obtain ⟨m, hm⟩ := k0; exact DataW.trod_lt m _ _ _ hm
  obtain ⟨z0, w0⟩ : ∃ zs, IsRow .i64 W a0 len0 cap0 zs := by
    obtain ⟨fuel, hf⟩ := h0
    rcases open_ints Try.underlying22 Try.underlying3 (by kernel_rfl) hf with ⟨hcs, _⟩ | ⟨x, l, c, zs, hcs, _, hl, hm, hz, _, hcell, hwz⟩
    · simp [Value.cells] at hcs
      obtain ⟨rfl, rfl, rfl⟩ := hcs
      exact ⟨[], .inl ⟨rfl, rfl, rfl, rfl⟩⟩
    · simp [Value.cells] at hcs
      obtain ⟨rfl, rfl, rfl⟩ := hcs
      exact ⟨zs, .inr ⟨_, rfl, hl, hm, by simpa using hz, hcell, hwz⟩⟩
  obtain ⟨a1, len1, cap1, rfl⟩ := okWide_slice Try.underlying22 (hval 1 22 v1 rfl rfl)
  have k1 := h1
  have lt1 : ∀ x ∈ p1, x.block < W.heap.size := by obtain ⟨m, hm⟩ := k1; exact DataW.trod_lt m _ _ _ hm
  obtain ⟨z1, w1⟩ : ∃ zs, IsRow .i64 W a1 len1 cap1 zs := by
    obtain ⟨fuel, hf⟩ := h1
    rcases open_ints Try.underlying22 Try.underlying3 (by kernel_rfl) hf with ⟨hcs, _⟩ | ⟨x, l, c, zs, hcs, _, hl, hm, hz, _, hcell, hwz⟩
    · simp [Value.cells] at hcs
      obtain ⟨rfl, rfl, rfl⟩ := hcs
      exact ⟨[], .inl ⟨rfl, rfl, rfl, rfl⟩⟩
    · simp [Value.cells] at hcs
      obtain ⟨rfl, rfl, rfl⟩ := hcs
      exact ⟨zs, .inr ⟨_, rfl, hl, hm, by simpa using hz, hcell, hwz⟩⟩
  obtain ⟨a2, len2, cap2, rfl⟩ := okWide_slice Try.underlying22 (hval 2 22 v2 rfl rfl)
  have k2 := h2
  have lt2 : ∀ x ∈ p2, x.block < W.heap.size := by obtain ⟨m, hm⟩ := k2; exact DataW.trod_lt m _ _ _ hm
  obtain ⟨z2, w2⟩ : ∃ zs, IsRow .i64 W a2 len2 cap2 zs := by
    obtain ⟨fuel, hf⟩ := h2
    rcases open_ints Try.underlying22 Try.underlying3 (by kernel_rfl) hf with ⟨hcs, _⟩ | ⟨x, l, c, zs, hcs, _, hl, hm, hz, _, hcell, hwz⟩
    · simp [Value.cells] at hcs
      obtain ⟨rfl, rfl, rfl⟩ := hcs
      exact ⟨[], .inl ⟨rfl, rfl, rfl, rfl⟩⟩
    · simp [Value.cells] at hcs
      obtain ⟨rfl, rfl, rfl⟩ := hcs
      exact ⟨zs, .inr ⟨_, rfl, hl, hm, by simpa using hz, hcell, hwz⟩⟩
  clear hA0 hval0
  refine (walk a0 len0 cap0 z0 a1 len1 cap1 z1 a2 len2 cap2 z2 W w0 w1 w2).mono fun e W' ⟨he, bel⟩ => ?_
  subst he
  exact ⟨_, rfl, _, _, _, [], _, [], hW', trodAll_mk1 (shut_bool Try.underlying4 _), (trodAll_cons_mk (Below.trod laidOut (by kernel_rfl) (of_decide_eq_true (by kernel_rfl)) k0 bel lt0) (trodAll_cons_mk (Below.trod laidOut (by kernel_rfl) (of_decide_eq_true (by kernel_rfl)) k1 bel lt1) (trodAll_cons_mk (Below.trod laidOut (by kernel_rfl) (of_decide_eq_true (by kernel_rfl)) k2 bel lt2) trodAll_mk0))), rfl, bel.frame _, fun h => by cases h⟩

theorem over : Rows.packOrderRow.holds Try.pinned (OpenSpec.ofChange Rows.packOrderSpec) :=
  OpenClaim.holds_of_wide 7 Try.f7 rfl rfl rfl rfl rfl rfl rfl ⟨rfl, rfl, rfl, rfl, rfl⟩ rfl rfl rfl rfl rfl (by kernel_rfl) Try.func7 (by kernel_rfl)
    (of_decide_eq_true (by kernel_rfl)) (by unfold Func.isWrapper; first | (rw [if_pos (by decide +kernel)]; kernel_rfl) | (rw [if_neg (by decide +kernel)]; exact ⟨rfl, rfl⟩))
    (fun os started H enc _ => lifted os started H enc)

end packOrder

theorem packOrder_holds : Rows.PackOrderSaid := packOrder.over
#print axioms packOrder_holds
end Go.Proofs.Ytnnicibkmbidpac

/- Proved: at every list of wishes of 64-bit integers the law HoldRefused returns true: what is refused changes nothing. Conditions: none. -/
import Derived.Test.YtiolkeghgodggaiRows
import Derived.WalkKit
import Derived.ProofKit
import Derived.OpenShut
import Derived.WalkSmall
import Derived.ShutString
import Derived.ChangeOld
import Derived.Below
import Derived.Test.YtiolkeghgodggaiJ4
namespace Go.Proofs.Ytiolkeghgodggai
namespace holdRefused
open Go.ChangeShapes Go.WideShapes Go.ChangeAt Go.RowKit Hd
set_option linter.unusedVariables false

theorem own : ownKnob Try.prog.godebug = none := by kernel_rfl
theorem laidOut : laidOutB Try.prog = true := by kernel_rfl

set_option maxHeartbeats 4000000 in
set_option maxRecDepth 100000 in
theorem walk (w : World) (v0 : Value) (l0 : List Plain.Or) (s0 : SegO w v0 l0) (r0 : ∀ j, j < l0.length → InO (l0.getD j default)) :
    Calls Try.prog 5 #[v0] w fun e w' => e = .returned (.bool true) ∧ Below w.heap.size w w' := by
  obtain ⟨hm0, p, cap, rfl, hp⟩ := s0
  have K0 := ordersOf_c p l0.length cap l0 r0 hm0 100 (by omega) w rfl hp
  rw [show ((100 : Nat) : Int) = 100 from rfl] at K0
  clear hp r0
  go_enter Try.func5, Try.ntmps5
  go_wp2_with fail
  refine K0.mono ?_
  rintro e W1 ⟨r, rfl, hown, hb1⟩
  clear K0
  obtain ⟨po, co, rfl, hpo, hnil, hx⟩ := Enc.owns (E := encO) hown rfl
  clear hx
  have hlm := Plain.ordsOf_len l0 100
  have OIN := hid (Plain.ordsOf_in l0 100)
  generalize Plain.ordsOf l0 100 = os at *
  have K1 := stocked_c po os.length co os (fun j hj => by
    have h := OIN.out (os.getD j default) (by rw [Plain.getD_lt' _ _ _ hj]; exact List.getElem_mem _)
    exact ⟨by omega, by omega, by omega, by omega⟩) (by omega) W1 rfl hpo hnil
  have HO := hid hpo
  have HB1 := hid hb1
  clear hpo hnil hown hb1
  generalize hn : os.length = n at *
  have HN := hid hn
  clear hn
  go_wp2_with fail
  refine K1.mono ?_
  rintro e W2 ⟨qs, cs, rfl, hs, hb2, hx⟩
  clear hx
  have HS2 := hid hs
  have HO2 := hid (HO.out.grow hb2)
  have HB2 := hid (HB1.out.trans (hb2.mono HB1.out.size))
  clear hs hb2 K1 HO HB1
  go_wp2_with fail
  refine (shelfSure_c W2).mono ?_
  rintro e W3 ⟨rfl, hb3⟩
  have HS := hid (HS2.out.grow hb3)
  have HO := hid (HO2.out.grow hb3)
  have HB := hid (HB2.out.trans (hb3.mono HB2.out.size))
  clear hb3 HS2 HO2 HB2
  have ST := hid (FW.start W3)
  go_wp2
  go_loopg [6, 7, 8] n (fun gg s6 s7 s8 wx => ∃ (k : Nat) (vf vw : Value), k ≤ n ∧ n - k ≤ gg ∧ s8 = .int .i64 k ∧ s6 = vf ∧ s7 = vw ∧ Aside (FW W3 wx vf vw (Plain.fewF Plain.Rk.nil (os.take k)) (Plain.wantF Plain.Rk.nil (os.take k)) (Plain.fewF Plain.Rk.nil (os.take k)).length (Plain.fewF Plain.Rk.nil (os.take k)).length))
  case atStart => exact ⟨0, _, _, Nat.zero_le _, by omega, rfl, rfl, rfl, ST.out⟩
  case round =>
    obtain ⟨k, vf, vw, hkk, hg, rfl, rfl, rfl, A⟩ := hrel
    clear ST
    by_cases hlt : k < n
    · have hltz : (k : Int) < (n : Int) := by omega
      have hkl : k < os.length := by rw [HN.out]; exact hlt
      obtain ⟨bo, oo, rfl, hbo, go⟩ := holdsO HO.out (by omega)
      obtain ⟨bs, ss, rfl, hbs, gs⟩ := holdsS HS.out (by rw [Plain.playF_len]; omega)
      have H1 := hid ((go k hkl).below A.out.be hbo)
      have H2 := hid ((gs k (by rw [Plain.playF_len]; exact hkl)).below A.out.be hbs)
      rw [Plain.playF_at _ _ _ hkl] at H2
      have GO := hid (go k hkl)
      have GS := hid (gs k (by rw [Plain.playF_len]; exact hkl))
      rw [Plain.playF_at _ _ _ hkl] at GS
      clear go gs
      have FT := hid (Plain.fewF_take Plain.Rk.nil os k hkl)
      have WT := hid (Plain.wantF_take Plain.Rk.nil os k hkl)
      have hfl : (Plain.fewF Plain.Rk.nil (os.take k)).length ≤ 300 := by
        have := (Plain.fewF_len Plain.Rk.nil (os.take k)).1
        rw [List.length_take] at this; omega
      obtain ⟨pf, cf, ef, hx1⟩ := Enc.owns (E := encO) A.out.of A.out.l1
      obtain ⟨pw, cw, ew, hx2⟩ := Enc.owns (E := encS) A.out.ow A.out.l2
      clear hx1 hx2
      obtain ⟨T, hT⟩ : ∃ T, T = Plain.toldR (Plain.runF Plain.Rk.nil (os.take k)) (os.getD k default) := ⟨_, rfl⟩
      have hcd : Plain.ordE (Plain.runF Plain.Rk.nil (os.take k)) (os.getD k default) = T.code := by rw [hT]; rfl
      rw [← hT] at H2 GS WT
      rw [hcd] at FT WT
      clear hT hcd
      generalize os.getD k default = o at *
      have hll : (Plain.fewF Plain.Rk.nil (os.take (k + 1))).length = (Plain.fewF Plain.Rk.nil (os.take k)).length + if T.code = 0 then 1 else 0 := by
        rw [FT.out, List.length_append]; split <;> rfl
      have HLL := hid hll
      clear hll
      generalize Plain.fewF Plain.Rk.nil (os.take k) = fs at *
      generalize Plain.wantF Plain.Rk.nil (os.take k) = ws at *
      generalize hm : fs.length = m at *
      clear hm
      have AA := hid A.out
      rw [ef, ew] at AA
      subst ef
      subst ew
      clear A
      obtain ⟨t0, _, _, _, _⟩ := H2.out
      by_cases hc : T.code = 0
      · obtain ⟨p1, c1, U1, hr1, F1⟩ := AA.out.ord (by omega) o
        obtain ⟨p2, c2, U2, hr2, F2⟩ := F1.told (by omega) T
        have HR1 := hid hr1
        have HR2 := hid hr2
        have HF2 := hid F2
        have H3 := hid (GS.out.below F1.be hbs)
        rw [hc] at t0
        rw [if_pos hc] at FT WT HLL
        clear hr1 hr2 F1 F2 AA
        obtain ⟨o0, o1, o2, o3⟩ := H1.out
        obtain ⟨s0, s1, s2, s3, s4⟩ := H3.out
        obtain ⟨ok, oc, ol, oi⟩ := o
        obtain ⟨Ta, Tb, Tc, Td, Te⟩ := T
        dsimp only at o0 o1 o2 o3 s0 s1 s2 s3 s4 hc HR1 HR2
        clear hc
        go_wp2_with (first | (at_builtin; refine wpList_app _ _ 23 HR1.out (by rfl) (by rfl) (by rfl) (by rfl) (by rfl) ?_) | (at_builtin; refine wpList_app _ _ 25 HR2.out (by rfl) (by rfl) (by rfl) (by rfl) (by rfl) ?_) | fail)
        go_wp2
        go_roundg (n - (k + 1))
        case measure => omega
        case rel =>
          refine ⟨k + 1, _, _, by omega, by omega, by go_num, rfl, rfl, (show Aside _ from ?_)⟩
          rw [HLL.out, FT.out, WT.out]
          exact HF2.out
      · have hcz : ((T.code : Int) == 0) = false := by rw [beq_eq_false_iff_ne]; omega
        rw [if_neg hc] at FT WT HLL
        rw [List.append_nil] at FT WT
        clear hc
        go_wp2
        go_roundg (n - (k + 1))
        case measure => omega
        case rel =>
          refine ⟨k + 1, _, _, by omega, by omega, by go_num, rfl, rfl, (show Aside _ from ?_)⟩
          rw [HLL.out, FT.out, WT.out, Nat.add_zero]
          exact AA.out
    · have hltz : ¬ (k : Int) < (n : Int) := by omega
      have hall : os.take k = os := List.take_of_length_le (by rw [HN.out]; omega)
      have AF := hid A.out
      rw [hall] at AF
      have PF := hid (Plain.play_few Plain.Rk.nil os)
      have hfl := (Plain.fewF_len Plain.Rk.nil os).1
      have FIN := hid (show ∀ o, o ∈ Plain.fewF Plain.Rk.nil os → o ∈ os from Plain.fewF_mem Plain.Rk.nil os)
      clear A hall
      obtain ⟨pf, cf, ef, hf, hnf, hx1⟩ := Enc.owns (E := encO) AF.out.of AF.out.l1
      obtain ⟨pw, cw, ew, hw, hx2, hx3⟩ := Enc.owns (E := encS) AF.out.ow AF.out.l2
      clear hx1 hx2 hx3
      have KS := stocked_c pf _ cf _ (fun j hj => by
        have h := OIN.out ((Plain.fewF Plain.Rk.nil os).getD j default) (FIN.out _ (by rw [Plain.getD_lt' _ _ _ hj]; exact List.getElem_mem _))
        exact ⟨by omega, by omega, by omega, by omega⟩) (by rw [HN.out] at hfl; omega) wr rfl hf hnf
      rw [PF.out] at KS
      have HW := hid hw
      have BF := hid AF.out.be
      have L2 := hid AF.out.l2
      generalize Plain.wantF Plain.Rk.nil os = ws at *
      generalize (Plain.fewF Plain.Rk.nil os).length = m at *
      have hm : m ≤ 300 := by rw [HN.out] at hfl; omega
      subst ef
      subst ew
      clear hf hnf hw AF PF FIN hfl
      go_wp2_with fail
      refine KS.mono ?_
      rintro e W5 ⟨qu, cu, rfl, hu, hb5, hx⟩
      clear hx
      have HU := hid hu
      have HW5 := hid (HW.out.grow hb5)
      have B5 := hid (HB.out.trans ((BF.out.trans (hb5.mono BF.out.size)).mono HB.out.size))
      clear hu hb5 KS HW BF
      have gd := Try.guardStock
      go_wp2
      clear hltz hlt
      go_loopg [11] m (fun gg s11 wx => ∃ j : Nat, j ≤ m ∧ m - j ≤ gg ∧ s11 = .int .i64 j ∧ Aside (∃ q, wx = W5.drewN q))
      case atStart => exact ⟨0, Nat.zero_le _, by omega, rfl, (show Aside _ from ⟨0, rfl⟩)⟩
      case round =>
        obtain ⟨j, hjj, hg2, rfl, I⟩ := hrel
        by_cases hlt : j < m
        · have hltz : (j : Int) < (m : Int) := by omega
          have hjl : j < ws.length := by rw [L2.out]; exact hlt
          obtain ⟨b1, o1, rfl, _, g1⟩ := holdsS HU.out (by omega)
          obtain ⟨b2, o2, rfl, _, g2⟩ := holdsS HW5.out (by omega)
          obtain ⟨q, hq⟩ := I.out
          obtain ⟨x0, x1, x2, x3, x4⟩ := (g1 j hjl).drewN q
          obtain ⟨y0, y1, y2, y3, y4⟩ := (g2 j hjl).drewN q
          rw [← hq] at x0 x1 x2 x3 x4 y0 y1 y2 y3 y4
          have hne := fun w => neqS (ws.getD j default) w
          have HQ := hid hq
          clear g1 g2 hq
          generalize ws.getD j default = z at x0 x1 x2 x3 x4 y0 y1 y2 y3 y4 hne
          obtain ⟨za, zb, zc, zd, ze⟩ := z
          dsimp only at x0 x1 x2 x3 x4 y0 y1 y2 y3 y4 hne
          go_wp2
          go_quiet (fail)
          go_wp2
          go_roundg (m - (j + 1))
          case measure => omega
          case rel => exact ⟨j + 1, by omega, by omega, by go_num, (show Aside _ from ⟨_, by rw [HQ.out, drewN_add]⟩)⟩
        · have hltz : ¬ (j : Int) < (m : Int) := by omega
          go_wp2
          go_ret
          refine ⟨rfl, ?_⟩
          obtain ⟨q, hq⟩ := I.out
          rw [hq]; exact below_drewN B5.out q

set_option maxRecDepth 100000 in
theorem lifted (os : Os) (started : os.Started) (H : Type) (enc : TypeId × Value → H) :
    ReturnsInHanded {} Try.checked os 5 .any (Rows.holdRefusedSpec.pre6 enc Try.prog Try.f5 Rows.holdRefusedRow.domain false) (Rows.holdRefusedSpec.post enc Try.prog Try.f5 false true false false) := by
  refine returnsInHanded_of_change (C := Try.checked) own started (by kernel_rfl) Try.func5
    (ChangeSpec.witness6 (enc := enc) (C := Try.checked) false ⟨#[], #[.slice none 0 0], []⟩ 8 (by kernel_rfl) (by kernel_rfl) (by kernel_rfl) (by kernel_rfl)) ?_
  intro W base args ds gs before hval0 hW hcnd _
  have hval : ∀ (j : Nat) t v, Try.f5.params[j]? = some t → args[j]? = some v → Value.okWide Try.prog W .any base t v := hval0
  have hW' := hW
  obtain ⟨p, q, hA0, hV, rfl, hfz, hnd⟩ := hW
  have hA : DataW.TrodAll enc Try.prog W 0 (fun _ => true) true Try.f5.params.toList args.toList ds p := hA0
  rw [Try.params5] at hA hval
  obtain ⟨v0, vs0, d0, ds0, p0, q0, hargs, rfl, rfl, h0, r0⟩ := trodAll_cons hA
  obtain ⟨rfl, rfl, rfl⟩ := trodAll_nil r0
  obtain rfl : args = #[v0] := by cases args; simp_all
  obtain ⟨rfl, rfl⟩ := trodVars_none hV
  obtain ⟨a0, len0, cap0, rfl⟩ := okWide_slice Try.underlying22 (hval 0 22 v0 rfl rfl)
  have k0 := h0
  have lt0 : ∀ x ∈ p0, x.block < W.heap.size := by obtain ⟨m, hm⟩ := k0; exact DataW.trod_lt m _ _ _ hm
  obtain ⟨l0, s0, ri0⟩ := ors_open Try.underlying22 Try.underlying58 (by kernel_rfl) ⟨rfl, by intro j f hj; rcases j with _ | _ | _ | _ | j <;> simp at hj <;> subst hj <;> exact ⟨rfl, by kernel_rfl, Try.underlying3⟩⟩ h0
  clear hA0 hval0
  refine (walk W _ l0 s0 ri0).mono fun e W' ⟨he, bel⟩ => ?_
  subst he
  exact ⟨_, rfl, _, _, _, [], _, [], hW', trodAll_mk1 (shut_bool Try.underlying4 _), (trodAll_cons_mk (Below.trod laidOut (by kernel_rfl) (of_decide_eq_true (by kernel_rfl)) k0 bel lt0) trodAll_mk0), rfl, bel.frame _, fun h => by cases h⟩

theorem over : Rows.holdRefusedRow.holds Try.pinned (OpenSpec.ofChange Rows.holdRefusedSpec) :=
  OpenClaim.holds_of_wide 5 Try.f5 rfl rfl rfl rfl rfl rfl rfl ⟨rfl, rfl, rfl, rfl, rfl⟩ rfl rfl rfl rfl rfl (by kernel_rfl) Try.func5 (by kernel_rfl)
    (of_decide_eq_true (by kernel_rfl)) (by unfold Func.isWrapper; first | (rw [if_pos (by decide +kernel)]; kernel_rfl) | (rw [if_neg (by decide +kernel)]; exact ⟨rfl, rfl⟩))
    (fun os started H enc _ => lifted os started H enc)

end holdRefused

theorem holdRefused_holds : Rows.HoldRefusedSaid := holdRefused.over
#print axioms holdRefused_holds
end Go.Proofs.Ytiolkeghgodggai

/- Proved: at every list of wishes of 64-bit integers the law HoldSums returns true: what is free, held and used is what was gained, and none of it is ever below 0. Conditions: none. -/
import Derived.Test.YtiolkeghgodggahRows
import Derived.WalkKit
import Derived.ProofKit
import Derived.OpenShut
import Derived.WalkSmall
import Derived.ShutString
import Derived.ChangeOld
import Derived.Below
import Derived.Test.YtiolkeghgodggahJ3
namespace Go.Proofs.Ytiolkeghgodggah
namespace holdSums
open Go.ChangeShapes Go.WideShapes Go.ChangeAt Go.RowKit Hd
set_option linter.unusedVariables false

theorem own : ownKnob Try.prog.godebug = none := by kernel_rfl
theorem laidOut : laidOutB Try.prog = true := by kernel_rfl

set_option maxHeartbeats 4000000 in
set_option maxRecDepth 100000 in
theorem walk (w : World) (v0 : Value) (l0 : List Plain.Or) (s0 : SegO w v0 l0) (r0 : ∀ j, j < l0.length → InO (l0.getD j default)) :
    Calls Try.prog 8 #[v0] w fun e w' => e = .returned (.bool true) ∧ Below w.heap.size w w' := by
  obtain ⟨hm0, p, cap, rfl, hp⟩ := s0
  have K0 := ordersOf_c p l0.length cap l0 r0 hm0 150 (by omega) w rfl hp
  rw [show ((150 : Nat) : Int) = 150 from rfl] at K0
  clear hp r0
  go_enter Try.func8, Try.ntmps8
  go_wp2_with fail
  refine K0.mono ?_
  rintro e W1 ⟨r, rfl, hown, hb1⟩
  clear K0
  obtain ⟨po, co, rfl, hpo, hnil, hx⟩ := Enc.owns (E := encO) hown rfl
  clear hx
  have hlm := Plain.ordsOf_len l0 150
  have OIN := hid (Plain.ordsOf_in l0 150)
  generalize Plain.ordsOf l0 150 = os at *
  have K1 := stocked_c po os.length co os (fun j hj => by
    have h := OIN.out (os.getD j default) (by rw [Plain.getD_lt' _ _ _ hj]; exact List.getElem_mem _)
    exact ⟨by omega, by omega, by omega, by omega⟩) (by omega) W1 rfl hpo hnil
  have HO := hid hpo
  have HB1 := hid hb1
  clear hpo hnil hown hb1
  generalize hn : os.length = n at *
  have HN := hid hn
  clear hn
  go_wp2_with fail
  refine K1.mono ?_
  rintro e W2 ⟨qs, cs, rfl, hs, hb2, hx⟩
  clear hx
  have HS2 := hid hs
  have HO2 := hid (HO.out.grow hb2)
  have HB2 := hid (HB1.out.trans (hb2.mono HB1.out.size))
  clear hs hb2 K1 HO HB1
  go_wp2_with fail
  refine (shelfSure_c W2).mono ?_
  rintro e W3 ⟨rfl, hb3⟩
  have HS := hid (HS2.out.grow hb3)
  have HO := hid (HO2.out.grow hb3)
  have HB := hid (HB2.out.trans (hb3.mono HB2.out.size))
  clear hb3 HS2 HO2 HB2
  go_wp2
  go_loopg [6, 7] n (fun gg s6 s7 wx => ∃ (k : Nat) (G : Int), k ≤ n ∧ n - k ≤ gg ∧ s7 = .int .i64 k ∧ s6 = .int .i64 G ∧ Aside (G = Plain.gainF Plain.Rk.nil (os.take k) ∧ ∃ q, wx = W3.drewN q))
  case atStart => exact ⟨0, 0, Nat.zero_le _, by omega, rfl, rfl, (show Aside _ from ⟨rfl, 0, rfl⟩)⟩
  case round =>
    obtain ⟨k, G, hkk, hg, rfl, rfl, A⟩ := hrel
    by_cases hlt : k < n
    · have hltz : (k : Int) < (n : Int) := by omega
      have hkl : k < os.length := by rw [HN.out]; exact hlt
      obtain ⟨q, hq⟩ := A.out.2
      obtain ⟨bo, oo, rfl, _, go⟩ := holdsO HO.out (by omega)
      obtain ⟨bs, ss, rfl, _, gs⟩ := holdsS HS.out (by rw [Plain.playF_len]; omega)
      obtain ⟨o0, o1, _, _⟩ := (go k hkl).drewN' q
      obtain ⟨t0, _, t2, t3, t4⟩ := (gs k (by rw [Plain.playF_len]; exact hkl)).drewN q
      rw [← hq] at o0 o1 t0 t2 t3 t4
      rw [Plain.playF_at _ _ _ hkl] at t0 t2 t3 t4
      have HQ := hid hq
      clear go gs hq
      have hin := OIN.out (os.getD k default) (by rw [Plain.getD_lt' _ _ _ hkl]; exact List.getElem_mem _)
      have hv0 := Plain.Hv.nil.run (os.take k)
      rw [Int.zero_add, ← A.out.1] at hv0
      have GT := hid (Plain.gainF_take Plain.Rk.nil os k hkl)
      rw [← A.out.1] at GT
      have hGb := hv0.gb
      have hv1 := hv0.step (os.getD k default)
      unfold Plain.toldR at t0 t2 t3 t4
      dsimp only at t0 t2 t3 t4
      have hh1 := hv1.held
      have hsm := hv1.sm
      have hfr := hv1.fr
      have hus := hv1.us
      have hgb1 := hv1.gb
      clear hv0 hv1
      unfold Plain.gainO at GT hsm hgb1
      generalize (Plain.stepR (Plain.runF Plain.Rk.nil (os.take k)) (os.getD k default)).free = f at *
      generalize (Plain.stepR (Plain.runF Plain.Rk.nil (os.take k)) (os.getD k default)).held = d at *
      generalize (Plain.stepR (Plain.runF Plain.Rk.nil (os.take k)) (os.getD k default)).used = u at *
      generalize Plain.ordE (Plain.runF Plain.Rk.nil (os.take k)) (os.getD k default) = cd at *
      generalize (os.getD k default).kind = kd at *
      generalize (os.getD k default).count = ct at *
      obtain ⟨hG1, hG2⟩ := hGb
      obtain ⟨_, ⟨ct1, ct2⟩, _⟩ := hin
      have n1 : decide (f < 0) = false := by rw [decide_eq_false_iff_not]; omega
      have n2 : decide (d < 0) = false := by rw [decide_eq_false_iff_not]; omega
      have n3 : decide (u < 0) = false := by rw [decide_eq_false_iff_not]; omega
      by_cases hc : kd = 1 ∧ cd = 0
      · rw [if_pos hc] at GT hsm hgb1
        obtain ⟨G', hG'⟩ : ∃ G', G' = G + ct := ⟨_, rfl⟩
        have n4 : decide (G' < f) = false := by rw [decide_eq_false_iff_not]; omega
        have n5 : decide (G' < d) = false := by rw [decide_eq_false_iff_not]; omega
        have n6 : decide (G' < u) = false := by rw [decide_eq_false_iff_not]; omega
        obtain ⟨fd, hfd⟩ : ∃ fd, fd = f + d := ⟨_, rfl⟩
        obtain ⟨fdu, hfdu⟩ : ∃ fdu, fdu = fd + u := ⟨_, rfl⟩
        have hwA : IntKind.i64.wrap (f + d) = fd := by rw [hfd, IntKind.wrap_i64]; omega
        have hwB : IntKind.i64.wrap (fd + u) = fdu := by rw [hfdu, IntKind.wrap_i64]; omega
        have n7 : (fdu != G') = false := by rw [bne_eq_false_iff_eq]; omega
        clear hfd hfdu
        have fb : f ≤ 1048576 ∧ d ≤ 1048576 ∧ u ≤ 1048576 := by omega
        obtain ⟨fb1, fb2, fb3⟩ := fb
        obtain ⟨rfl, rfl⟩ := hc
        rw [hG'] at n4 n5 n6 n7
        have HG' := hid hG'
        clear hsm hgb1 hG'
        go_wp2
        go_quiet (fail)
        go_wp2
        go_roundg (n - (k + 1))
        case measure => omega
        case rel => exact ⟨k + 1, G + ct, by omega, by omega, by go_num, rfl, (show Aside _ from ⟨GT.out.symm, _, by rw [HQ.out, drewN_add]⟩)⟩
      · rw [if_neg hc, Int.add_zero] at GT hsm hgb1
        have n4 : decide (G < f) = false := by rw [decide_eq_false_iff_not]; omega
        have n5 : decide (G < d) = false := by rw [decide_eq_false_iff_not]; omega
        have n6 : decide (G < u) = false := by rw [decide_eq_false_iff_not]; omega
        obtain ⟨fd, hfd⟩ : ∃ fd, fd = f + d := ⟨_, rfl⟩
        obtain ⟨fdu, hfdu⟩ : ∃ fdu, fdu = fd + u := ⟨_, rfl⟩
        have hwA : IntKind.i64.wrap (f + d) = fd := by rw [hfd, IntKind.wrap_i64]; omega
        have hwB : IntKind.i64.wrap (fd + u) = fdu := by rw [hfdu, IntKind.wrap_i64]; omega
        have n7 : (fdu != G) = false := by rw [bne_eq_false_iff_eq]; omega
        clear hfd hfdu
        have fb : f ≤ 1048576 ∧ d ≤ 1048576 ∧ u ≤ 1048576 := by omega
        obtain ⟨fb1, fb2, fb3⟩ := fb
        clear hsm hgb1
        by_cases hk1 : kd = 1
        · have hcd : ((cd : Int) == 0) = false := by rw [beq_eq_false_iff_ne]; omega
          subst hk1
          clear hc
          go_wp2
          go_quiet (fail)
          go_wp2
          go_roundg (n - (k + 1))
          case measure => omega
          case rel => exact ⟨k + 1, G, by omega, by omega, by go_num, rfl, (show Aside _ from ⟨GT.out.symm, _, by rw [HQ.out, drewN_add]⟩)⟩
        · have hkd : (kd == 1) = false := by rw [beq_eq_false_iff_ne]; exact hk1
          clear hc
          go_wp2
          go_quiet (fail)
          go_wp2
          go_roundg (n - (k + 1))
          case measure => omega
          case rel => exact ⟨k + 1, G, by omega, by omega, by go_num, rfl, (show Aside _ from ⟨GT.out.symm, _, by rw [HQ.out, drewN_add]⟩)⟩
    · have hltz : ¬ (k : Int) < (n : Int) := by omega
      go_wp2
      go_ret
      refine ⟨rfl, ?_⟩
      obtain ⟨q, hq⟩ := A.out.2
      rw [hq]; exact below_drewN HB.out q

set_option maxRecDepth 100000 in
theorem lifted (os : Os) (started : os.Started) (H : Type) (enc : TypeId × Value → H) :
    ReturnsInHanded {} Try.checked os 8 .any (Rows.holdSumsSpec.pre6 enc Try.prog Try.f8 Rows.holdSumsRow.domain false) (Rows.holdSumsSpec.post enc Try.prog Try.f8 false true false false) := by
  refine returnsInHanded_of_change (C := Try.checked) own started (by kernel_rfl) Try.func8
    (ChangeSpec.witness6 (enc := enc) (C := Try.checked) false ⟨#[], #[.slice none 0 0], []⟩ 8 (by kernel_rfl) (by kernel_rfl) (by kernel_rfl) (by kernel_rfl)) ?_
  intro W base args ds gs before hval0 hW hcnd _
  have hval : ∀ (j : Nat) t v, Try.f8.params[j]? = some t → args[j]? = some v → Value.okWide Try.prog W .any base t v := hval0
  have hW' := hW
  obtain ⟨p, q, hA0, hV, rfl, hfz, hnd⟩ := hW
  have hA : DataW.TrodAll enc Try.prog W 0 (fun _ => true) true Try.f8.params.toList args.toList ds p := hA0
  rw [Try.params8] at hA hval
  obtain ⟨v0, vs0, d0, ds0, p0, q0, hargs, rfl, rfl, h0, r0⟩ := trodAll_cons hA
  obtain ⟨rfl, rfl, rfl⟩ := trodAll_nil r0
  obtain rfl : args = #[v0] := by cases args; simp_all
  obtain ⟨rfl, rfl⟩ := trodVars_none hV
  obtain ⟨a0, len0, cap0, rfl⟩ := okWide_slice Try.underlying38 (hval 0 38 v0 rfl rfl)
  have k0 := h0
  have lt0 : ∀ x ∈ p0, x.block < W.heap.size := by obtain ⟨m, hm⟩ := k0; exact DataW.trod_lt m _ _ _ hm
  obtain ⟨l0, s0, ri0⟩ := ors_open Try.underlying38 Try.underlying56 (by kernel_rfl) ⟨rfl, by intro j f hj; rcases j with _ | _ | _ | _ | j <;> simp at hj <;> subst hj <;> exact ⟨rfl, by kernel_rfl, Try.underlying3⟩⟩ h0
  clear hA0 hval0
  refine (walk W _ l0 s0 ri0).mono fun e W' ⟨he, bel⟩ => ?_
  subst he
  exact ⟨_, rfl, _, _, _, [], _, [], hW', trodAll_mk1 (shut_bool Try.underlying4 _), (trodAll_cons_mk (Below.trod laidOut (by kernel_rfl) (of_decide_eq_true (by kernel_rfl)) k0 bel lt0) trodAll_mk0), rfl, bel.frame _, fun h => by cases h⟩

theorem over : Rows.holdSumsRow.holds Try.pinned (OpenSpec.ofChange Rows.holdSumsSpec) :=
  OpenClaim.holds_of_wide 8 Try.f8 rfl rfl rfl rfl rfl rfl rfl ⟨rfl, rfl, rfl, rfl, rfl⟩ rfl rfl rfl rfl rfl (by kernel_rfl) Try.func8 (by kernel_rfl)
    (of_decide_eq_true (by kernel_rfl)) (by unfold Func.isWrapper; first | (rw [if_pos (by decide +kernel)]; kernel_rfl) | (rw [if_neg (by decide +kernel)]; exact ⟨rfl, rfl⟩))
    (fun os started H enc _ => lifted os started H enc)

end holdSums

theorem holdSums_holds : Rows.HoldSumsSaid := holdSums.over
#print axioms holdSums_holds
end Go.Proofs.Ytiolkeghgodggah

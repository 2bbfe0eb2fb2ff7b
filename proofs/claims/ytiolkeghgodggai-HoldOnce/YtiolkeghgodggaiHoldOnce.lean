/- Proved: at every list of wishes of 64-bit integers the law HoldOnce returns true: a hold ends once. Conditions: none. -/
import Derived.Test.YtiolkeghgodggaiRows
import Derived.WalkKit
import Derived.ProofKit
import Derived.OpenShut
import Derived.WalkSmall
import Derived.ShutString
import Derived.ChangeOld
import Derived.Below
import Derived.Test.YtiolkeghgodggaiJ3
namespace Go.Proofs.Ytiolkeghgodggai
namespace holdOnce
open Go.ChangeShapes Go.WideShapes Go.ChangeAt Go.RowKit Hd
set_option linter.unusedVariables false

theorem own : ownKnob Try.prog.godebug = none := by kernel_rfl
theorem laidOut : laidOutB Try.prog = true := by kernel_rfl

set_option maxHeartbeats 4000000 in
set_option maxRecDepth 100000 in
theorem walk (w : World) (v0 : Value) (l0 : List Plain.Or) (s0 : SegO w v0 l0) (r0 : ∀ j, j < l0.length → InO (l0.getD j default)) :
    Calls Try.prog 3 #[v0] w fun e w' => e = .returned (.bool true) ∧ Below w.heap.size w w' := by
  obtain ⟨hm0, p, cap, rfl, hp⟩ := s0
  have K0 := ordersOf_c p l0.length cap l0 r0 hm0 150 (by omega) w rfl hp
  rw [show ((150 : Nat) : Int) = 150 from rfl] at K0
  clear hp r0
  go_enter Try.func3, Try.ntmps3
  go_wp2_with fail
  refine K0.mono ?_
  rintro e W1 ⟨r, rfl, hown, hb1⟩
  clear K0
  obtain ⟨po, co, rfl, hpo, hnil, hx⟩ := Enc.owns (E := encO) hown rfl
  clear hx
  have hlm := Plain.ordsOf_len l0 150
  have OIN := hid (Plain.ordsOf_in l0 150)
  generalize Plain.ordsOf l0 150 = os at *
  have K1 := stocked_c po os.length co os (fun j hj => by
    have h := OIN.out (os.getD j default) (by rw [Plain.getD_lt' _ _ _ hj]; exact List.getElem_mem _)
    exact ⟨by omega, by omega, by omega, by omega⟩) (by omega) W1 rfl hpo hnil
  have HO := hid hpo
  have HB1 := hid hb1
  clear hpo hnil hown hb1
  generalize hn : os.length = n at *
  have HN := hid hn
  clear hn
  go_wp2_with fail
  refine K1.mono ?_
  rintro e W2 ⟨qs, cs, rfl, hs, hb2, hx⟩
  clear hx
  have HS2 := hid hs
  have HO2 := hid (HO.out.grow hb2)
  have HB2 := hid (HB1.out.trans (hb2.mono HB1.out.size))
  clear hs hb2 K1 HO HB1
  go_wp2_with fail
  refine (shelfSure_c W2).mono ?_
  rintro e W3 ⟨rfl, hb3⟩
  have HS := hid (HS2.out.grow hb3)
  have HO := hid (HO2.out.grow hb3)
  have HB := hid (HB2.out.trans (hb3.mono HB2.out.size))
  clear hb3 HS2 HO2 HB2
  have hmk : ∀ w : World, (Instr.makeSlice 29 (.int .i64 200) (.int .i64 200)).run Try.prog w = .ok (.slice (some ⟨w.heap.size, 0, none⟩) 200 200) (w.alloc (.cells (madeCells #[.bool false] 200) 4)) :=
    run_make_row' (P := Try.prog) 29 4 (.bool false) 1 Try.underlying29 Try.infoBool rfl .i64 .i64 200 (by omega) (by omega)
  go_wp2
  clear hmk
  go_loopg [6, 8] n (fun gg s6 s8 wx => ∃ (k md : Nat), k ≤ n ∧ n - k ≤ gg ∧ s8 = .int .i64 k ∧ s6 = .int .i64 md ∧ Aside (md = (Plain.runF Plain.Rk.nil (os.take k)).cs.length ∧ ∃ F : Nat → Bool, wx.rowIs W3.heap.size 4 200 (fun x => .bool (F x)) ∧ (∀ x, F x = true → 1 ≤ x ∧ Plain.Shut (Plain.runF Plain.Rk.nil (os.take k)) (x - 1)) ∧ Below W3.heap.size W3 wx))
  case atStart => exact ⟨0, 0, Nat.zero_le _, by omega, rfl, rfl, (show Aside _ from ⟨rfl, fun _ => false, World.rowIs_made W3 (.bool false) 200 4, (fun x hx => by cases hx), (Below.refl _ _).alloc (Nat.le_refl _) _⟩)⟩
  case round =>
    obtain ⟨k, md, hkk, hg, rfl, rfl, A⟩ := hrel
    by_cases hlt : k < n
    · have hltz : (k : Int) < (n : Int) := by omega
      have hkl : k < os.length := by rw [HN.out]; exact hlt
      obtain ⟨hmd, F, hF1, hF2, hF3⟩ := A.out
      obtain ⟨bo, oo, rfl, hbo, go⟩ := holdsO HO.out (by omega)
      obtain ⟨bs, ss, rfl, hbs, gs⟩ := holdsS HS.out (by rw [Plain.playF_len]; omega)
      obtain ⟨o0, _, _, o3⟩ := (go k hkl).below hF3 hbo
      obtain ⟨t0, t1, _, _, _⟩ := (gs k (by rw [Plain.playF_len]; exact hkl)).below hF3 hbs
      rw [Plain.playF_at _ _ _ hkl] at t0 t1
      clear go gs
      have hin := OIN.out (os.getD k default) (by rw [Plain.getD_lt' _ _ _ hkl]; exact List.getElem_mem _)
      have hln := (Plain.Hv.nil.run (os.take k)).ln
      have RT := hid (Plain.runF_take Plain.Rk.nil os k hkl)
      have hmle := Plain.made_take os k
      unfold Plain.toldR at t0 t1
      dsimp only at t0 t1
      generalize Plain.runF Plain.Rk.nil (os.take k) = r at *
      generalize os.getD k default = o at *
      have RE := hid hF1
      have FS := hid hF2
      have BE := hid hF3
      have MD := hid (Plain.stepR_made r o)
      rw [← hmd] at MD hmle
      have HMD := hid hmd
      have HLN := hid hln
      clear hF1 hF2 hF3 A hmd hln
      obtain ⟨kd, hkd'⟩ : ∃ kd, kd = o.kind := ⟨_, rfl⟩
      have hkd : o.kind = kd := hkd'.symm
      obtain ⟨j, hjd⟩ : ∃ j : Nat, (j : Int) = o.id := ⟨o.id.toNat, by omega⟩
      rw [hkd] at o0 MD
      rw [← hjd] at o3
      have hj1 : 1 ≤ j ∧ j ≤ 9 := by omega
      obtain ⟨hj1, hj9⟩ := hj1
      have hmdz : (md : Int) ≤ 200 := by omega
      by_cases hk3 : kd = 3
      · subst hk3
        by_cases hc0 : Plain.ordE r o = 0
        · have hI : Plain.ordI r o = (md : Int) + 1 := by unfold Plain.ordI; rw [if_pos ⟨hc0, hkd⟩, ← HMD.out]
          rw [hc0] at t0
          rw [hI] at t1
          have MD2 := hid (show (Plain.stepR r o).cs.length = md + 1 by rw [MD.out, if_pos ⟨rfl, hc0⟩])
          have N3 := hid (show ∀ x, F x = true → 1 ≤ x ∧ Plain.Shut (Plain.stepR r o) (x - 1) from fun x hx => ⟨(FS.out x hx).1, Plain.stepR_shut o (FS.out x hx).2⟩)
          have hne : ((md : Int) + 1 != (md : Int) + 1) = false := by simp
          clear hjd hkd hc0 hI
          go_wp2
          go_roundg (n - (k + 1))
          case measure => omega
          case rel => exact ⟨k + 1, md + 1, by omega, by omega, by go_num, by go_num, (show Aside _ from ⟨by rw [RT.out]; exact MD2.out.symm, F, RE.out, by rw [RT.out]; exact N3.out, BE.out⟩)⟩
        · have MD2 := hid (show (Plain.stepR r o).cs.length = md by rw [MD.out, if_neg (fun x => hc0 x.2), Nat.add_zero])
          have N3 := hid (show ∀ x, F x = true → 1 ≤ x ∧ Plain.Shut (Plain.stepR r o) (x - 1) from fun x hx => ⟨(FS.out x hx).1, Plain.stepR_shut o (FS.out x hx).2⟩)
          have hcz : ((Plain.ordE r o : Int) == 0) = false := by rw [beq_eq_false_iff_ne]; omega
          clear hjd hkd hc0
          go_wp2
          go_roundg (n - (k + 1))
          case measure => omega
          case rel => exact ⟨k + 1, md, by omega, by omega, by go_num, rfl, (show Aside _ from ⟨by rw [RT.out]; exact MD2.out.symm, F, RE.out, by rw [RT.out]; exact N3.out, BE.out⟩)⟩
      · by_cases hk4 : kd = 4
        · skip
          subst hk4
          have e4 := Plain.ordE_end (r := r) (o := o) (.inl hkd)
          rw [← hjd] at e4
          have SH := hid (fun h0 => Plain.end_shut (r := r) (o := o) (.inl hkd) HLN.out h0)
          rw [← hjd] at SH
          rw [← HMD.out] at e4 SH
          have MD2 := hid (show (Plain.stepR r o).cs.length = md by rw [MD.out, if_neg (fun x => by have := x.1; omega), Nat.add_zero])
          by_cases hc0 : Plain.ordE r o = 0
          · rw [hc0] at t0
            obtain ⟨g1, g2, g3, g4⟩ := SH.out hc0
            have ej : ((j : Int) - 1).toNat = j - 1 := by omega
            rw [ej] at g3 g4
            have hFj : F j = false := by
              cases hh : F j with
              | false => rfl
              | true => exact absurd (FS.out j hh).2 g3
            have hj200 : j < 200 := by omega
            have cE := RE.out.cell hj200
            have fE := RE.out.frozen j
            rw [hFj] at cE
            have hjm : ¬ (md : Int) < (j : Int) := by omega
            have hjz : (j : Int) < 200 := by omega
            have N2 := hid (show (wr.setCell ⟨W3.heap.size, j, none⟩ (.bool true)).rowIs W3.heap.size 4 200 (fun x => .bool (if x = j then true else F x)) from (RE.out.set j (.bool true)).congr fun x _ => by
              by_cases e : x = j
              · rw [if_pos e, if_pos e]
              · rw [if_neg e, if_neg e])
            have N3 := hid (show ∀ x, (if x = j then true else F x) = true → 1 ≤ x ∧ Plain.Shut (Plain.stepR r o) (x - 1) from fun x hx => by
              by_cases e : x = j
              · subst e; exact ⟨by omega, g4⟩
              · rw [if_neg e] at hx
                exact ⟨(FS.out x hx).1, Plain.stepR_shut o (FS.out x hx).2⟩)
            have N4 := hid (BE.out.setCell (p := ⟨W3.heap.size, j, none⟩) (Nat.le_refl _) (.bool true))
            clear g1 g2 g3 g4 e4 SH ej hFj hc0 hjd hkd
            go_wp2
            go_roundg (n - (k + 1))
            case measure => omega
            case rel => exact ⟨k + 1, md, by omega, by omega, by go_num, rfl, (show Aside _ from ⟨by rw [RT.out]; exact MD2.out.symm, _, N2.out, by rw [RT.out]; exact N3.out, N4.out⟩)⟩
          · have N3 := hid (show ∀ x, F x = true → 1 ≤ x ∧ Plain.Shut (Plain.stepR r o) (x - 1) from fun x hx => ⟨(FS.out x hx).1, Plain.stepR_shut o (FS.out x hx).2⟩)
            have hcz : ((Plain.ordE r o : Int) == 0) = false := by rw [beq_eq_false_iff_ne]; omega
            by_cases hjm : (md : Int) < (j : Int)
            · rw [if_pos (.inr (by omega))] at e4
              rw [e4] at t0 hcz
              have hle : ¬ (j : Int) ≤ (md : Int) := by omega
              clear e4 SH hc0 hjd hkd hcz
              go_wp2
              go_roundg (n - (k + 1))
              case measure => omega
              case rel => exact ⟨k + 1, md, by omega, by omega, by go_num, rfl, (show Aside _ from ⟨by rw [RT.out]; exact MD2.out.symm, F, RE.out, by rw [RT.out]; exact N3.out, BE.out⟩)⟩
            · rw [if_neg (by omega)] at e4
              have e5 : Plain.ordE r o = 10 := by
                by_cases z : r.ls.getD ((j : Int) - 1).toNat 0 = 0
                · rw [if_pos z] at e4; exact e4
                · rw [if_neg z] at e4; exact absurd e4 hc0
              rw [e5] at t0 hcz
              clear e4 e5 SH hc0 hjd hkd hcz
              go_wp2
              go_roundg (n - (k + 1))
              case measure => omega
              case rel => exact ⟨k + 1, md, by omega, by omega, by go_num, rfl, (show Aside _ from ⟨by rw [RT.out]; exact MD2.out.symm, F, RE.out, by rw [RT.out]; exact N3.out, BE.out⟩)⟩
        · by_cases hk5 : kd = 5
          · skip
            subst hk5
            have e4 := Plain.ordE_end (r := r) (o := o) (.inr hkd)
            rw [← hjd] at e4
            have SH := hid (fun h0 => Plain.end_shut (r := r) (o := o) (.inr hkd) HLN.out h0)
            rw [← hjd] at SH
            rw [← HMD.out] at e4 SH
            have MD2 := hid (show (Plain.stepR r o).cs.length = md by rw [MD.out, if_neg (fun x => by have := x.1; omega), Nat.add_zero])
            by_cases hc0 : Plain.ordE r o = 0
            · rw [hc0] at t0
              obtain ⟨g1, g2, g3, g4⟩ := SH.out hc0
              have ej : ((j : Int) - 1).toNat = j - 1 := by omega
              rw [ej] at g3 g4
              have hFj : F j = false := by
                cases hh : F j with
                | false => rfl
                | true => exact absurd (FS.out j hh).2 g3
              have hj200 : j < 200 := by omega
              have cE := RE.out.cell hj200
              have fE := RE.out.frozen j
              rw [hFj] at cE
              have hjm : ¬ (md : Int) < (j : Int) := by omega
              have hjz : (j : Int) < 200 := by omega
              have N2 := hid (show (wr.setCell ⟨W3.heap.size, j, none⟩ (.bool true)).rowIs W3.heap.size 4 200 (fun x => .bool (if x = j then true else F x)) from (RE.out.set j (.bool true)).congr fun x _ => by
                by_cases e : x = j
                · rw [if_pos e, if_pos e]
                · rw [if_neg e, if_neg e])
              have N3 := hid (show ∀ x, (if x = j then true else F x) = true → 1 ≤ x ∧ Plain.Shut (Plain.stepR r o) (x - 1) from fun x hx => by
                by_cases e : x = j
                · subst e; exact ⟨by omega, g4⟩
                · rw [if_neg e] at hx
                  exact ⟨(FS.out x hx).1, Plain.stepR_shut o (FS.out x hx).2⟩)
              have N4 := hid (BE.out.setCell (p := ⟨W3.heap.size, j, none⟩) (Nat.le_refl _) (.bool true))
              clear g1 g2 g3 g4 e4 SH ej hFj hc0 hjd hkd
              go_wp2
              go_roundg (n - (k + 1))
              case measure => omega
              case rel => exact ⟨k + 1, md, by omega, by omega, by go_num, rfl, (show Aside _ from ⟨by rw [RT.out]; exact MD2.out.symm, _, N2.out, by rw [RT.out]; exact N3.out, N4.out⟩)⟩
            · have N3 := hid (show ∀ x, F x = true → 1 ≤ x ∧ Plain.Shut (Plain.stepR r o) (x - 1) from fun x hx => ⟨(FS.out x hx).1, Plain.stepR_shut o (FS.out x hx).2⟩)
              have hcz : ((Plain.ordE r o : Int) == 0) = false := by rw [beq_eq_false_iff_ne]; omega
              by_cases hjm : (md : Int) < (j : Int)
              · rw [if_pos (.inr (by omega))] at e4
                rw [e4] at t0 hcz
                have hle : ¬ (j : Int) ≤ (md : Int) := by omega
                clear e4 SH hc0 hjd hkd hcz
                go_wp2
                go_roundg (n - (k + 1))
                case measure => omega
                case rel => exact ⟨k + 1, md, by omega, by omega, by go_num, rfl, (show Aside _ from ⟨by rw [RT.out]; exact MD2.out.symm, F, RE.out, by rw [RT.out]; exact N3.out, BE.out⟩)⟩
              · rw [if_neg (by omega)] at e4
                have e5 : Plain.ordE r o = 10 := by
                  by_cases z : r.ls.getD ((j : Int) - 1).toNat 0 = 0
                  · rw [if_pos z] at e4; exact e4
                  · rw [if_neg z] at e4; exact absurd e4 hc0
                rw [e5] at t0 hcz
                clear e4 e5 SH hc0 hjd hkd hcz
                go_wp2
                go_roundg (n - (k + 1))
                case measure => omega
                case rel => exact ⟨k + 1, md, by omega, by omega, by go_num, rfl, (show Aside _ from ⟨by rw [RT.out]; exact MD2.out.symm, F, RE.out, by rw [RT.out]; exact N3.out, BE.out⟩)⟩
          · have b3 : (kd == 3) = false := by rw [beq_eq_false_iff_ne]; exact hk3
            have b4 : (kd == 4) = false := by rw [beq_eq_false_iff_ne]; exact hk4
            have b5 : (kd == 5) = false := by rw [beq_eq_false_iff_ne]; exact hk5
            have MD2 := hid (show (Plain.stepR r o).cs.length = md by rw [MD.out, if_neg (fun x => hk3 x.1), Nat.add_zero])
            have N3 := hid (show ∀ x, F x = true → 1 ≤ x ∧ Plain.Shut (Plain.stepR r o) (x - 1) from fun x hx => ⟨(FS.out x hx).1, Plain.stepR_shut o (FS.out x hx).2⟩)
            clear hjd hkd
            go_wp2
            go_roundg (n - (k + 1))
            case measure => omega
            case rel => exact ⟨k + 1, md, by omega, by omega, by go_num, rfl, (show Aside _ from ⟨by rw [RT.out]; exact MD2.out.symm, F, RE.out, by rw [RT.out]; exact N3.out, BE.out⟩)⟩
    · have hltz : ¬ (k : Int) < (n : Int) := by omega
      obtain ⟨_, F, _, _, hF3⟩ := A.out
      have HF3 := hid hF3
      clear A hF3
      go_wp2
      go_ret
      exact ⟨rfl, HB.out.trans (HF3.out.mono HB.out.size)⟩

set_option maxRecDepth 100000 in
theorem lifted (os : Os) (started : os.Started) (H : Type) (enc : TypeId × Value → H) :
    ReturnsInHanded {} Try.checked os 3 .any (Rows.holdOnceSpec.pre6 enc Try.prog Try.f3 Rows.holdOnceRow.domain false) (Rows.holdOnceSpec.post enc Try.prog Try.f3 false true false false) := by
  refine returnsInHanded_of_change (C := Try.checked) own started (by kernel_rfl) Try.func3
    (ChangeSpec.witness6 (enc := enc) (C := Try.checked) false ⟨#[], #[.slice none 0 0], []⟩ 8 (by kernel_rfl) (by kernel_rfl) (by kernel_rfl) (by kernel_rfl)) ?_
  intro W base args ds gs before hval0 hW hcnd _
  have hval : ∀ (j : Nat) t v, Try.f3.params[j]? = some t → args[j]? = some v → Value.okWide Try.prog W .any base t v := hval0
  have hW' := hW
  obtain ⟨p, q, hA0, hV, rfl, hfz, hnd⟩ := hW
  have hA : DataW.TrodAll enc Try.prog W 0 (fun _ => true) true Try.f3.params.toList args.toList ds p := hA0
  rw [Try.params3] at hA hval
  obtain ⟨v0, vs0, d0, ds0, p0, q0, hargs, rfl, rfl, h0, r0⟩ := trodAll_cons hA
  obtain ⟨rfl, rfl, rfl⟩ := trodAll_nil r0
  obtain rfl : args = #[v0] := by cases args; simp_all
  obtain ⟨rfl, rfl⟩ := trodVars_none hV
  obtain ⟨a0, len0, cap0, rfl⟩ := okWide_slice Try.underlying22 (hval 0 22 v0 rfl rfl)
  have k0 := h0
  have lt0 : ∀ x ∈ p0, x.block < W.heap.size := by obtain ⟨m, hm⟩ := k0; exact DataW.trod_lt m _ _ _ hm
  obtain ⟨l0, s0, ri0⟩ := ors_open Try.underlying22 Try.underlying58 (by kernel_rfl) ⟨rfl, by intro j f hj; rcases j with _ | _ | _ | _ | j <;> simp at hj <;> subst hj <;> exact ⟨rfl, by kernel_rfl, Try.underlying3⟩⟩ h0
  clear hA0 hval0
  refine (walk W _ l0 s0 ri0).mono fun e W' ⟨he, bel⟩ => ?_
  subst he
  exact ⟨_, rfl, _, _, _, [], _, [], hW', trodAll_mk1 (shut_bool Try.underlying4 _), (trodAll_cons_mk (Below.trod laidOut (by kernel_rfl) (of_decide_eq_true (by kernel_rfl)) k0 bel lt0) trodAll_mk0), rfl, bel.frame _, fun h => by cases h⟩

theorem over : Rows.holdOnceRow.holds Try.pinned (OpenSpec.ofChange Rows.holdOnceSpec) :=
  OpenClaim.holds_of_wide 3 Try.f3 rfl rfl rfl rfl rfl rfl rfl ⟨rfl, rfl, rfl, rfl, rfl⟩ rfl rfl rfl rfl rfl (by kernel_rfl) Try.func3 (by kernel_rfl)
    (of_decide_eq_true (by kernel_rfl)) (by unfold Func.isWrapper; first | (rw [if_pos (by decide +kernel)]; kernel_rfl) | (rw [if_neg (by decide +kernel)]; exact ⟨rfl, rfl⟩))
    (fun os started H enc _ => lifted os started H enc)

end holdOnce

theorem holdOnce_holds : Rows.HoldOnceSaid := holdOnce.over
#print axioms holdOnce_holds
end Go.Proofs.Ytiolkeghgodggai

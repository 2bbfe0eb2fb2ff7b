/- Proved: for every config, all numbers and all lists of entries the law FrameRumours returns true: frame.Rumour answers what promise P11.3 says. Conditions: none. -/
import Derived.Test.YtkmnofmhjoehialRows
import Derived.WalkKit
import Derived.ProofKit
import Derived.OpenShut
import Derived.WalkSmall
import Derived.ShutString
import Derived.ChangeOld
import Derived.Below
import Derived.Test.YtkmnofmhjoehialQg
import Derived.Test.YtkmnofmhjoehialQo
import Derived.Test.YtkmnofmhjoehialQl
import Derived.Test.YtkmnofmhjoehialSameBl
namespace Go.Proofs.Ytkmnofmhjoehial
namespace frameRumours
open Go.ChangeShapes Go.WideShapes Go.ChangeAt Go.RowKit
set_option linter.unusedVariables false

theorem own : ownKnob Try.prog.godebug = none := by kernel_rfl
theorem laidOut : laidOutB Try.prog = true := by kernel_rfl

set_option maxHeartbeats 4000000 in
set_option maxRecDepth 100000 in
theorem walk (w : World) (c0 : Plain.Cf) (lv0 mv0 : Value) (i0 : CfI w c0 lv0 mv0) (a1 : Int) (w1 : -9223372036854775808 ≤ a1 ∧ a1 ≤ 9223372036854775807) (a2 : Int) (w2 : -9223372036854775808 ≤ a2 ∧ a2 ≤ 9223372036854775807) (v3 : Value) (l3 : List (List Plain.En)) (s3 : SegLs w v3 l3) :
    Calls Try.prog 6 #[cfV c0 lv0 mv0, .int .i64 a1, .int .i64 a2, v3] w fun e w' => e = .returned (.bool true) ∧ Below w.heap.size w w' := by
  have B0 := hid (BcI.start i0)
  have HS := hid (fun (X : World) (b : Below w.heap.size w X) => s3.grow b)
  have KA := hid (fun (X : World) (I : CfI X c0 lv0 mv0) (b : Below w.heap.size w X) => rumour_c c0 lv0 mv0 v3 a1 a2 l3 X I (HS.out X b))
  have KR := hid (fun (X : World) (I : CfI X c0 lv0 mv0) (b : Below w.heap.size w X) => rrumour_c c0 lv0 mv0 v3 a1 a2 l3 X I (HS.out X b))
  have HL := hid (show (Plain.rumB c0 a1 a2 l3).length ≤ 1000000 by
    unfold Plain.rumB
    split
    · unfold Plain.packB
      split
      · rw [Plain.bytesOf_len]; have := Plain.szN_le ((fldL 34 (Plain.flatS l3 (Plain.comL c0.ls a1 a2 c0.ls.length))).map Prod.fst); omega
      · simp
    · simp)
  clear s3 i0 w1 w2
  obtain ⟨n, ls, t, ms, cap⟩ := c0
  go_enter Try.func6, Try.ntmps6
  go_wp2_with fail
  refine (KA.out _ B0.out.ci B0.out.be).mono ?_
  rintro e w1 ⟨u, rfl, g1, g2, g3⟩
  have B1 := hid (B0.out.grow g3)
  have G1 := hid (And.intro g1 g2)
  obtain ⟨c0, c1, c2, c3, c4⟩ := B1.out.cc
  clear B0 g1 g2 g3
  go_wp2_with fail
  refine (KR.out w1 B1.out.ci B1.out.be).mono ?_
  rintro e w2 ⟨v, rfl, g1, g2, g3⟩
  have B2 := hid (B1.out.grow g3)
  have K := sameB_any u v _ HL.out w2 (G1.out.1.below g3 G1.out.2) g1
  clear B1 g1 g2 g3 c0 c1 c2 c3 c4
  go_wp2_with fail
  refine K.mono ?_
  rintro e w3 ⟨rfl, q, hq⟩
  have B3 := hid (show Below w.heap.size w w3 by rw [hq]; exact below_drewN B2.out.be q)
  clear hq K
  go_wp2
  go_ret
  exact ⟨rfl, B3.out⟩

set_option maxRecDepth 100000 in
theorem lifted (os : Os) (started : os.Started) (H : Type) (enc : TypeId × Value → H) :
    ReturnsInHanded {} Try.checked os 6 .any (Rows.frameRumoursSpec.pre6 enc Try.prog Try.f6 Rows.frameRumoursRow.domain false) (Rows.frameRumoursSpec.post enc Try.prog Try.f6 false true false false) := by
  refine returnsInHanded_of_change (C := Try.checked) own started (by kernel_rfl) Try.func6
    (ChangeSpec.witness6 (enc := enc) (C := Try.checked) false ⟨#[], #[.agg #[.int .i64 0, .slice none 0 0, .int .i64 0, .slice none 0 0, .int .i64 0], .int .i64 0, .int .i64 0, .slice none 0 0], []⟩ 8 (by kernel_rfl) (by kernel_rfl) (by kernel_rfl) (by kernel_rfl)) ?_
  intro W base args ds gs before hval0 hW hcnd _
  have hval : ∀ (j : Nat) t v, Try.f6.params[j]? = some t → args[j]? = some v → Value.okWide Try.prog W .any base t v := hval0
  have hW' := hW
  obtain ⟨p, q, hA0, hV, rfl, hfz, hnd⟩ := hW
  have hA : DataW.TrodAll enc Try.prog W 0 (fun _ => true) true Try.f6.params.toList args.toList ds p := hA0
  rw [Try.params6] at hA hval
  obtain ⟨v0, vs0, d0, ds0, p0, q0, hargs, rfl, rfl, h0, r0⟩ := trodAll_cons hA
  obtain ⟨v1, vs1, d1, ds1, p1, q1, rfl, rfl, rfl, h1, r1⟩ := trodAll_cons r0
  obtain ⟨v2, vs2, d2, ds2, p2, q2, rfl, rfl, rfl, h2, r2⟩ := trodAll_cons r1
  obtain ⟨v3, vs3, d3, ds3, p3, q3, rfl, rfl, rfl, h3, r3⟩ := trodAll_cons r2
  obtain ⟨rfl, rfl, rfl⟩ := trodAll_nil r3
  obtain rfl : args = #[v0, v1, v2, v3] := by cases args; simp_all
  obtain ⟨rfl, rfl⟩ := trodVars_none hV
  have k0 := h0
  have lt0 : ∀ x ∈ p0, x.block < W.heap.size := by obtain ⟨m, hm⟩ := k0; exact DataW.trod_lt m _ _ _ hm
  obtain ⟨c0, lv0, mv0, rfl, i0, _, _, _⟩ := cf_open Try.underlying24 (by kernel_rfl) ⟨rfl, rfl⟩ ⟨rfl, rfl⟩ ⟨rfl, rfl⟩ ⟨rfl, rfl⟩ ⟨rfl, rfl⟩ Try.underlying22 (by kernel_rfl) Try.underlying3 (by kernel_rfl) (hval 0 24 v0 rfl rfl) h0
  have k1 := h1
  have lt1 : ∀ x ∈ p1, x.block < W.heap.size := by obtain ⟨m, hm⟩ := k1; exact DataW.trod_lt m _ _ _ hm
  obtain ⟨a1, rfl, _, _, w1⟩ := open_int Try.underlying3 (hval 1 3 v1 rfl rfl) h1
  have k2 := h2
  have lt2 : ∀ x ∈ p2, x.block < W.heap.size := by obtain ⟨m, hm⟩ := k2; exact DataW.trod_lt m _ _ _ hm
  obtain ⟨a2, rfl, _, _, w2⟩ := open_int Try.underlying3 (hval 2 3 v2 rfl rfl) h2
  obtain ⟨a3, len3, cap3, rfl⟩ := okWide_slice Try.underlying36 (hval 3 36 v3 rfl rfl)
  have k3 := h3
  have lt3 : ∀ x ∈ p3, x.block < W.heap.size := by obtain ⟨m, hm⟩ := k3; exact DataW.trod_lt m _ _ _ hm
  obtain ⟨l3, s3⟩ := lists_open Try.underlying36 Try.underlying49 (by kernel_rfl) Try.underlying69 (by kernel_rfl) ⟨rfl, by intro j f hj; rcases j with _ | _ | _ | _ | _ | j <;> simp at hj <;> subst hj <;> first | exact ⟨rfl, by kernel_rfl, Try.underlying3⟩ | exact ⟨rfl, by kernel_rfl, Try.underlying4⟩⟩ h3
  clear hA0 hval0
  refine (walk W c0 lv0 mv0 i0 a1 (bounds_i64 w1) a2 (bounds_i64 w2) _ l3 s3).mono fun e W' ⟨he, bel⟩ => ?_
  subst he
  exact ⟨_, rfl, _, _, _, [], _, [], hW', trodAll_mk1 (shut_bool Try.underlying4 _), (trodAll_cons_mk (Below.trod laidOut (by kernel_rfl) (of_decide_eq_true (by kernel_rfl)) k0 bel lt0) (trodAll_cons_mk (Below.trod laidOut (by kernel_rfl) (of_decide_eq_true (by kernel_rfl)) k1 bel lt1) (trodAll_cons_mk (Below.trod laidOut (by kernel_rfl) (of_decide_eq_true (by kernel_rfl)) k2 bel lt2) (trodAll_cons_mk (Below.trod laidOut (by kernel_rfl) (of_decide_eq_true (by kernel_rfl)) k3 bel lt3) trodAll_mk0)))), rfl, bel.frame _, fun h => by cases h⟩

theorem over : Rows.frameRumoursRow.holds Try.pinned (OpenSpec.ofChange Rows.frameRumoursSpec) :=
  OpenClaim.holds_of_wide 6 Try.f6 rfl rfl rfl rfl rfl rfl rfl ⟨rfl, rfl, rfl, rfl, rfl⟩ rfl rfl rfl rfl rfl (by kernel_rfl) Try.func6 (by kernel_rfl)
    (of_decide_eq_true (by kernel_rfl)) (by unfold Func.isWrapper; first | (rw [if_pos (by decide +kernel)]; kernel_rfl) | (rw [if_neg (by decide +kernel)]; exact ⟨rfl, rfl⟩))
    (fun os started H enc _ => lifted os started H enc)

end frameRumours

theorem frameRumours_holds : Rows.FrameRumoursSaid := frameRumours.over
#print axioms frameRumours_holds
end Go.Proofs.Ytkmnofmhjoehial

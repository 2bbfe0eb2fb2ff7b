/- Proved: for every config, all numbers and all bytes the law FrameHeards returns true: frame.Heard answers what promise P11.3 says. Conditions: none. -/
import Derived.Test.YtkmnofmhjoehialRows
import Derived.WalkKit
import Derived.ProofKit
import Derived.OpenShut
import Derived.WalkSmall
import Derived.ShutString
import Derived.ChangeOld
import Derived.Below
import Derived.Test.YtkmnofmhjoehialQr
import Derived.Test.YtkmnofmhjoehialQk
import Derived.Test.YtkmnofmhjoehialQo
import Derived.Test.YtkmnofmhjoehialSameI
namespace Go.Proofs.Ytkmnofmhjoehial
namespace frameHeards
open Go.ChangeShapes Go.WideShapes Go.ChangeAt Go.RowKit
set_option linter.unusedVariables false

theorem own : ownKnob Try.prog.godebug = none := by kernel_rfl
theorem laidOut : laidOutB Try.prog = true := by kernel_rfl

theorem bytes_seg {H : Type} {enc : TypeId × Value → H} {W : World} {d : DataW H} {p : List MemPlace} {a : Option Addr} {len cap : Nat} (h : DataW.Trod enc Try.prog W 0 (fun _ => true) true 26 (.slice a len cap) d p) :
    ∃ l : List Nat, l.length = len ∧ len ≤ cap ∧ cap ≤ 9223372036854775807 ∧ (∀ n ∈ l, n < 256) ∧ Lies W.heap.size (.slice a len cap) ∧ SegB W (.slice a len cap) l := by
  obtain ⟨fuel, hf⟩ := h
  rcases open_ints Try.underlying26 Try.underlying5 (by kernel_rfl) hf with ⟨hcs, _⟩ | ⟨x, l, c, zs, hcs, _, hl, hm, hz, _, hcell, hwz⟩
  · simp [Value.cells] at hcs
    obtain ⟨rfl, rfl, rfl⟩ := hcs
    exact row_segB (zs := []) (.inl ⟨rfl, rfl, rfl, rfl⟩)
  · simp [Value.cells] at hcs
    obtain ⟨rfl, rfl, rfl⟩ := hcs
    exact row_segB (.inr ⟨_, rfl, hl, hm, by simpa using hz, hcell, hwz⟩)

set_option maxHeartbeats 4000000 in
set_option maxRecDepth 100000 in
theorem walk (w : World) (c0 : Plain.Cf) (lv0 mv0 : Value) (i0 : CfI w c0 lv0 mv0) (a1 : Int) (w1 : -9223372036854775808 ≤ a1 ∧ a1 ≤ 9223372036854775807) (a2 : Int) (w2 : -9223372036854775808 ≤ a2 ∧ a2 ≤ 9223372036854775807) (v3 : Value) (l3 : List Nat) (hm3 : l3.length ≤ 9223372036854775807) (hr3 : ∀ n ∈ l3, n < 256) (s3 : SegB w v3 l3) (y3 : Lies w.heap.size v3) :
    Calls Try.prog 7 #[cfV c0 lv0 mv0, .int .i64 a1, .int .i64 a2, v3] w fun e w' => e = .returned (.bool true) ∧ Below w.heap.size w w' := by
  have B0 := hid (BcI.start i0)
  have HS := hid (fun (X : World) (b : Below w.heap.size w X) => And.intro (s3.below b y3) (y3.mono b.size))
  have KA := hid (fun (X : World) (I : CfI X c0 lv0 mv0) (b : Below w.heap.size w X) => heard_c c0 lv0 mv0 v3 a1 a2 l3 hm3 hr3 X I (HS.out X b).1 (HS.out X b).2)
  have KR := hid (fun (X : World) (I : CfI X c0 lv0 mv0) (b : Below w.heap.size w X) => rheard_c c0 lv0 mv0 v3 a1 a2 l3 hm3 hr3 X I (HS.out X b).1 (HS.out X b).2)
  have HL := hid (show (Plain.heaV c0 a1 a2 l3).length ≤ 1000 ∧ ∀ l ∈ Plain.heaV c0 a1 a2 l3, l.length ≤ 1000 by
    by_cases h0 : Plain.refE c0 a1 a2 = 0
    · have h4 := (Plain.may_all (Plain.ref_may h0).1).2.1
      unfold Plain.heaV
      split
      · refine ⟨by simp [Plain.toldL]; omega, fun l hl => ?_⟩
        obtain ⟨j, _, rfl⟩ := List.mem_map.1 hl
        unfold Plain.toldV
        split
        · unfold Plain.entV
          split
          · have := Plain.entsD_len (Plain.slF l3 (Plain.comL c0.ls a1 a2 j).length) 8; omega
          · simp
        · simp
      · exact ⟨by simp, fun l hl => by simp at hl⟩
    · rw [(Plain.hea_ref h0).2]
      exact ⟨by simp, fun l hl => by simp at hl⟩)
  clear s3 y3 hr3 hm3 i0 w1 w2
  obtain ⟨n, ls, t, ms, cap⟩ := c0
  go_enter Try.func7, Try.ntmps7
  go_wp2_with fail
  refine (KA.out _ B0.out.ci B0.out.be).mono ?_
  rintro e w1 ⟨u, rfl, g1, g3⟩
  have B1 := hid (B0.out.grow g3)
  have G1 := hid g1
  obtain ⟨c0, c1, c2, c3, c4⟩ := B1.out.cc
  clear B0 g1 g3
  go_wp2_with fail
  refine (KR.out w1 B1.out.ci B1.out.be).mono ?_
  rintro e w2 ⟨v, rfl, g1, g3⟩
  have B2 := hid (B1.out.grow g3)
  have K := lists_same u v _ HL.out.1 HL.out.2 w2 (G1.out.grow g3) g1
  clear B1 g1 g3 c0 c1 c2 c3 c4
  go_wp2_with fail
  refine K.mono ?_
  rintro e w3 ⟨rfl, q, hq⟩
  have B3 := hid (show Below w.heap.size w w3 by rw [hq]; exact below_drewN B2.out.be q)
  clear hq K
  go_wp2
  go_ret
  exact ⟨rfl, B3.out⟩

set_option maxRecDepth 100000 in
theorem lifted (os : Os) (started : os.Started) (H : Type) (enc : TypeId × Value → H) :
    ReturnsInHanded {} Try.checked os 7 .any (Rows.frameHeardsSpec.pre6 enc Try.prog Try.f7 Rows.frameHeardsRow.domain false) (Rows.frameHeardsSpec.post enc Try.prog Try.f7 false true false false) := by
  refine returnsInHanded_of_change (C := Try.checked) own started (by kernel_rfl) Try.func7
    (ChangeSpec.witness6 (enc := enc) (C := Try.checked) false ⟨#[], #[.agg #[.int .i64 0, .slice none 0 0, .int .i64 0, .slice none 0 0, .int .i64 0], .int .i64 0, .int .i64 0, .slice none 0 0], []⟩ 8 (by kernel_rfl) (by kernel_rfl) (by kernel_rfl) (by kernel_rfl)) ?_
  intro W base args ds gs before hval0 hW hcnd _
  have hval : ∀ (j : Nat) t v, Try.f7.params[j]? = some t → args[j]? = some v → Value.okWide Try.prog W .any base t v := hval0
  have hW' := hW
  obtain ⟨p, q, hA0, hV, rfl, hfz, hnd⟩ := hW
  have hA : DataW.TrodAll enc Try.prog W 0 (fun _ => true) true Try.f7.params.toList args.toList ds p := hA0
  rw [Try.params7] at hA hval
  obtain ⟨v0, vs0, d0, ds0, p0, q0, hargs, rfl, rfl, h0, r0⟩ := trodAll_cons hA
  obtain ⟨v1, vs1, d1, ds1, p1, q1, rfl, rfl, rfl, h1, r1⟩ := trodAll_cons r0
  obtain ⟨v2, vs2, d2, ds2, p2, q2, rfl, rfl, rfl, h2, r2⟩ := trodAll_cons r1
  obtain ⟨v3, vs3, d3, ds3, p3, q3, rfl, rfl, rfl, h3, r3⟩ := trodAll_cons r2
  obtain ⟨rfl, rfl, rfl⟩ := trodAll_nil r3
  obtain rfl : args = #[v0, v1, v2, v3] := by cases args; simp_all
  obtain ⟨rfl, rfl⟩ := trodVars_none hV
  have k0 := h0
  have lt0 : ∀ x ∈ p0, x.block < W.heap.size := by obtain ⟨m, hm⟩ := k0; exact DataW.trod_lt m _ _ _ hm
  obtain ⟨c0, lv0, mv0, rfl, i0, _, _, _⟩ := cf_open Try.underlying24 (by kernel_rfl) ⟨rfl, rfl⟩ ⟨rfl, rfl⟩ ⟨rfl, rfl⟩ ⟨rfl, rfl⟩ ⟨rfl, rfl⟩ Try.underlying22 (by kernel_rfl) Try.underlying3 (by kernel_rfl) (hval 0 24 v0 rfl rfl) h0
  have k1 := h1
  have lt1 : ∀ x ∈ p1, x.block < W.heap.size := by obtain ⟨m, hm⟩ := k1; exact DataW.trod_lt m _ _ _ hm
  obtain ⟨a1, rfl, _, _, w1⟩ := open_int Try.underlying3 (hval 1 3 v1 rfl rfl) h1
  have k2 := h2
  have lt2 : ∀ x ∈ p2, x.block < W.heap.size := by obtain ⟨m, hm⟩ := k2; exact DataW.trod_lt m _ _ _ hm
  obtain ⟨a2, rfl, _, _, w2⟩ := open_int Try.underlying3 (hval 2 3 v2 rfl rfl) h2
  obtain ⟨a3, len3, cap3, rfl⟩ := okWide_slice Try.underlying26 (hval 3 26 v3 rfl rfl)
  have k3 := h3
  have lt3 : ∀ x ∈ p3, x.block < W.heap.size := by obtain ⟨m, hm⟩ := k3; exact DataW.trod_lt m _ _ _ hm
  obtain ⟨l3, hl3, hc3, hm3, hr3, y3, s3⟩ := bytes_seg h3
  clear hA0 hval0
  refine (walk W c0 lv0 mv0 i0 a1 (bounds_i64 w1) a2 (bounds_i64 w2) _ l3 (by omega) hr3 s3 y3).mono fun e W' ⟨he, bel⟩ => ?_
  subst he
  exact ⟨_, rfl, _, _, _, [], _, [], hW', trodAll_mk1 (shut_bool Try.underlying4 _), (trodAll_cons_mk (Below.trod laidOut (by kernel_rfl) (of_decide_eq_true (by kernel_rfl)) k0 bel lt0) (trodAll_cons_mk (Below.trod laidOut (by kernel_rfl) (of_decide_eq_true (by kernel_rfl)) k1 bel lt1) (trodAll_cons_mk (Below.trod laidOut (by kernel_rfl) (of_decide_eq_true (by kernel_rfl)) k2 bel lt2) (trodAll_cons_mk (Below.trod laidOut (by kernel_rfl) (of_decide_eq_true (by kernel_rfl)) k3 bel lt3) trodAll_mk0)))), rfl, bel.frame _, fun h => by cases h⟩

theorem over : Rows.frameHeardsRow.holds Try.pinned (OpenSpec.ofChange Rows.frameHeardsSpec) :=
  OpenClaim.holds_of_wide 7 Try.f7 rfl rfl rfl rfl rfl rfl rfl ⟨rfl, rfl, rfl, rfl, rfl⟩ rfl rfl rfl rfl rfl (by kernel_rfl) Try.func7 (by kernel_rfl)
    (of_decide_eq_true (by kernel_rfl)) (by unfold Func.isWrapper; first | (rw [if_pos (by decide +kernel)]; kernel_rfl) | (rw [if_neg (by decide +kernel)]; exact ⟨rfl, rfl⟩))
    (fun os started H enc _ => lifted os started H enc)

end frameHeards

theorem frameHeards_holds : Rows.FrameHeardsSaid := frameHeards.over
#print axioms frameHeards_holds
end Go.Proofs.Ytkmnofmhjoehial

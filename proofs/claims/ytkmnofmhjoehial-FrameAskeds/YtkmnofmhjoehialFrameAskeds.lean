/- Proved: for every config and all bytes the law FrameAskeds returns true: frame.Asked answers what promise P11.2 says. Conditions: none. -/
import Derived.Test.YtkmnofmhjoehialRows
import Derived.WalkKit
import Derived.ProofKit
import Derived.OpenShut
import Derived.WalkSmall
import Derived.ShutString
import Derived.ChangeOld
import Derived.Below
import Derived.Test.YtkmnofmhjoehialQ8
import Derived.Test.YtkmnofmhjoehialQo
import Derived.Test.YtkmnofmhjoehialSameI
namespace Go.Proofs.Ytkmnofmhjoehial
namespace frameAskeds
open Go.ChangeShapes Go.WideShapes Go.ChangeAt Go.RowKit
set_option linter.unusedVariables false

theorem own : ownKnob Try.prog.godebug = none := by kernel_rfl
theorem laidOut : laidOutB Try.prog = true := by kernel_rfl

theorem bytes_seg {H : Type} {enc : TypeId × Value → H} {W : World} {d : DataW H} {p : List MemPlace} {a : Option Addr} {len cap : Nat} (h : DataW.Trod enc Try.prog W 0 (fun _ => true) true 26 (.slice a len cap) d p) :
    ∃ l : List Nat, l.length = len ∧ len ≤ cap ∧ cap ≤ 9223372036854775807 ∧ (∀ n ∈ l, n < 256) ∧ Lies W.heap.size (.slice a len cap) ∧ SegB W (.slice a len cap) l := by
  obtain ⟨fuel, hf⟩ := h
  rcases open_ints Try.underlying26 Try.underlying5 (by kernel_rfl) hf with ⟨hcs, _⟩ | ⟨x, l, c, zs, hcs, _, hl, hm, hz, _, hcell, hwz⟩
  · simp [Value.cells] at hcs
    obtain ⟨rfl, rfl, rfl⟩ := hcs
    exact row_segB (zs := []) (.inl ⟨rfl, rfl, rfl, rfl⟩)
  · simp [Value.cells] at hcs
    obtain ⟨rfl, rfl, rfl⟩ := hcs
    exact row_segB (.inr ⟨_, rfl, hl, hm, by simpa using hz, hcell, hwz⟩)

set_option maxHeartbeats 4000000 in
set_option maxRecDepth 100000 in
theorem walk (w : World) (c0 : Plain.Cf) (lv0 mv0 : Value) (i0 : CfI w c0 lv0 mv0) (v1 : Value) (l1 : List Nat) (hm1 : l1.length ≤ 9223372036854775807) (hr1 : ∀ n ∈ l1, n < 256) (s1 : SegB w v1 l1) (y1 : Lies w.heap.size v1) :
    Calls Try.prog 5 #[cfV c0 lv0 mv0, v1] w fun e w' => e = .returned (.bool true) ∧ Below w.heap.size w w' := by
  have B0 := hid (BcI.start i0)
  have HS := hid (fun (X : World) (b : Below w.heap.size w X) => And.intro (s1.below b y1) (y1.mono b.size))
  have KA := hid (fun (X : World) (I : CfI X c0 lv0 mv0) (b : Below w.heap.size w X) => asked_c c0 lv0 mv0 v1 l1 hm1 hr1 X I (HS.out X b).1 (HS.out X b).2)
  have KR := hid (fun (X : World) (I : CfI X c0 lv0 mv0) (b : Below w.heap.size w X) => rasked_c c0 lv0 mv0 v1 l1 hr1 X I (HS.out X b).1 (HS.out X b).2)
  have HL := hid (show (Plain.askV c0 l1).length ≤ 1000000 by
    unfold Plain.askV
    split
    · split
      · split
        · exact Plain.unI_le _ _
        · simp
      · simp
    · simp)
  clear s1 y1 hr1 hm1 i0
  obtain ⟨n, ls, t, ms, cap⟩ := c0
  go_enter Try.func5, Try.ntmps5
  go_wp2_with fail
  refine (KA.out _ B0.out.ci B0.out.be).mono ?_
  rintro e w1 ⟨u, rfl, g1, g2, g3⟩
  have B1 := hid (B0.out.grow g3)
  have G1 := hid (And.intro g1 g2)
  obtain ⟨c0, c1, c2, c3, c4⟩ := B1.out.cc
  clear B0 g1 g2 g3
  go_wp2_with fail
  refine (KR.out w1 B1.out.ci B1.out.be).mono ?_
  rintro e w2 ⟨v, rfl, g1, g2, g3⟩
  have B2 := hid (B1.out.grow g3)
  have K := same_any u v _ HL.out w2 (G1.out.1.below g3 G1.out.2) g1
  clear B1 g1 g2 g3 c0 c1 c2 c3 c4
  go_wp2_with fail
  refine K.mono ?_
  rintro e w3 ⟨rfl, q, hq⟩
  have B3 := hid (show Below w.heap.size w w3 by rw [hq]; exact below_drewN B2.out.be q)
  clear hq K
  go_wp2
  go_ret
  exact ⟨rfl, B3.out⟩

set_option maxRecDepth 100000 in
theorem lifted (os : Os) (started : os.Started) (H : Type) (enc : TypeId × Value → H) :
    ReturnsInHanded {} Try.checked os 5 .any (Rows.frameAskedsSpec.pre6 enc Try.prog Try.f5 Rows.frameAskedsRow.domain false) (Rows.frameAskedsSpec.post enc Try.prog Try.f5 false true false false) := by
  refine returnsInHanded_of_change (C := Try.checked) own started (by kernel_rfl) Try.func5
    (ChangeSpec.witness6 (enc := enc) (C := Try.checked) false ⟨#[], #[.agg #[.int .i64 0, .slice none 0 0, .int .i64 0, .slice none 0 0, .int .i64 0], .slice none 0 0], []⟩ 8 (by kernel_rfl) (by kernel_rfl) (by kernel_rfl) (by kernel_rfl)) ?_
  intro W base args ds gs before hval0 hW hcnd _
  have hval : ∀ (j : Nat) t v, Try.f5.params[j]? = some t → args[j]? = some v → Value.okWide Try.prog W .any base t v := hval0
  have hW' := hW
  obtain ⟨p, q, hA0, hV, rfl, hfz, hnd⟩ := hW
  have hA : DataW.TrodAll enc Try.prog W 0 (fun _ => true) true Try.f5.params.toList args.toList ds p := hA0
  rw [Try.params5] at hA hval
  obtain ⟨v0, vs0, d0, ds0, p0, q0, hargs, rfl, rfl, h0, r0⟩ := trodAll_cons hA
  obtain ⟨v1, vs1, d1, ds1, p1, q1, rfl, rfl, rfl, h1, r1⟩ := trodAll_cons r0
  obtain ⟨rfl, rfl, rfl⟩ := trodAll_nil r1
  obtain rfl : args = #[v0, v1] := by cases args; simp_all
  obtain ⟨rfl, rfl⟩ := trodVars_none hV
  have k0 := h0
  have lt0 : ∀ x ∈ p0, x.block < W.heap.size := by obtain ⟨m, hm⟩ := k0; exact DataW.trod_lt m _ _ _ hm
  obtain ⟨c0, lv0, mv0, rfl, i0, _, _, _⟩ := cf_open Try.underlying24 (by kernel_rfl) ⟨rfl, rfl⟩ ⟨rfl, rfl⟩ ⟨rfl, rfl⟩ ⟨rfl, rfl⟩ ⟨rfl, rfl⟩ Try.underlying22 (by kernel_rfl) Try.underlying3 (by kernel_rfl) (hval 0 24 v0 rfl rfl) h0
  obtain ⟨a1, len1, cap1, rfl⟩ := okWide_slice Try.underlying26 (hval 1 26 v1 rfl rfl)
  have k1 := h1
  have lt1 : ∀ x ∈ p1, x.block < W.heap.size := by obtain ⟨m, hm⟩ := k1; exact DataW.trod_lt m _ _ _ hm
  obtain ⟨l1, hl1, hc1, hm1, hr1, y1, s1⟩ := bytes_seg h1
  clear hA0 hval0
  refine (walk W c0 lv0 mv0 i0 _ l1 (by omega) hr1 s1 y1).mono fun e W' ⟨he, bel⟩ => ?_
  subst he
  exact ⟨_, rfl, _, _, _, [], _, [], hW', trodAll_mk1 (shut_bool Try.underlying4 _), (trodAll_cons_mk (Below.trod laidOut (by kernel_rfl) (of_decide_eq_true (by kernel_rfl)) k0 bel lt0) (trodAll_cons_mk (Below.trod laidOut (by kernel_rfl) (of_decide_eq_true (by kernel_rfl)) k1 bel lt1) trodAll_mk0)), rfl, bel.frame _, fun h => by cases h⟩

theorem over : Rows.frameAskedsRow.holds Try.pinned (OpenSpec.ofChange Rows.frameAskedsSpec) :=
  OpenClaim.holds_of_wide 5 Try.f5 rfl rfl rfl rfl rfl rfl rfl ⟨rfl, rfl, rfl, rfl, rfl⟩ rfl rfl rfl rfl rfl (by kernel_rfl) Try.func5 (by kernel_rfl)
    (of_decide_eq_true (by kernel_rfl)) (by unfold Func.isWrapper; first | (rw [if_pos (by decide +kernel)]; kernel_rfl) | (rw [if_neg (by decide +kernel)]; exact ⟨rfl, rfl⟩))
    (fun os started H enc _ => lifted os started H enc)

end frameAskeds

theorem frameAskeds_holds : Rows.FrameAskedsSaid := frameAskeds.over
#print axioms frameAskeds_holds
end Go.Proofs.Ytkmnofmhjoehial

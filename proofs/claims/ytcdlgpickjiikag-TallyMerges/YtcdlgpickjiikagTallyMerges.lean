/- Proved: for every two tallies the law TallyMerges returns true: tally.Merge answers what promise P5.4 says. Conditions: none. -/
import Derived.Test.YtcdlgpickjiikagRows
import Derived.WalkKit
import Derived.ProofKit
import Derived.OpenShut
import Derived.WalkSmall
import Derived.ShutString
import Derived.ChangeOld
import Derived.Below
import Derived.Test.YtcdlgpickjiikagTmr
import Derived.Test.YtcdlgpickjiikagTst
import Derived.Test.YtcdlgpickjiikagTki
import Derived.Test.YtcdlgpickjiikagTo
namespace Go.Proofs.Ytcdlgpickjiikag
namespace tallyMerges
open Go.ChangeShapes Go.WideShapes Go.ChangeAt Go.RowKit
set_option linter.unusedVariables false

theorem own : ownKnob Try.prog.godebug = none := by kernel_rfl
theorem laidOut : laidOutB Try.prog = true := by kernel_rfl

set_option maxHeartbeats 4000000 in
set_option maxRecDepth 100000 in
theorem walk (w : World) (m0 u0 : Value) (t0 : Plain.Ta) (s0 : HasT w m0 u0 t0) (m1 u1 : Value) (t1 : Plain.Ta) (s1 : HasT w m1 u1 t1) :
    Calls Try.prog 3 #[.agg #[m0, u0], .agg #[m1, u1]] w fun e w' => e = .returned (.bool true) ∧ Below w.heap.size w w' := by
  have S := hid (show St w ((w.alloc (boxT m0 u0)).alloc (boxT m1 u1)) w.heap.size m0 u0 t0 from (St.start s0).step ((Below.refl _ _).alloc (Nat.le_refl _) _))
  have H1 := hid s1
  have Y := hid (show Res ((w.alloc (boxT m0 u0)).alloc (boxT m1 u1)) (w.heap.size + 1) m1 u1 by
    have := Deep.blk_alloc_new (w.alloc (boxT m0 u0)) (boxT m1 u1)
    simp only [World.size_alloc] at this
    exact this)
  clear s0 s1
  go_enter Try.func3, Try.ntmps3
  go_wp2_with fail
  refine (merge_any m0 u0 m1 u1 t0 t1 _ S.out.has (H1.out.grow S.out.bel)).mono ?_
  rintro e w1 ⟨x1, y1, rfl, p1, b1⟩
  have S1 := hid (S.out.step b1)
  have Y1 := hid (Y.out.below b1 Y.out.lt)
  have P1 := hid p1.has
  obtain ⟨pm, nm, cm, pu, nu, cu, rfl, rfl⟩ := p1.has.forms
  clear b1 p1 S Y
  have g1 : Below w1.heap.size w1 (w1.alloc (boxT (.slice pm nm cm) (.slice pu nu cu))) := (Below.refl _ _).alloc (Nat.le_refl _) _
  have S2 := hid (S1.out.step g1)
  have Y2 := hid (Y1.out.below g1 Y1.out.lt)
  have P2 := hid (P1.out.grow g1)
  have Z2 := hid (show Res (w1.alloc (boxT (.slice pm nm cm) (.slice pu nu cu))) w1.heap.size (.slice pm nm cm) (.slice pu nu cu) from Deep.blk_alloc_new _ _)
  clear g1
  have a0 := S2.out.x0
  have a1 := S2.out.x1
  have a2 := Y2.out.c0
  have a3 := Y2.out.c1
  go_wp2_with fail
  refine (rmerge_any m0 u0 m1 u1 t0 t1 _ S2.out.has (H1.out.grow S2.out.bel)).mono ?_
  rintro e w2 ⟨x2, y2, rfl, p2, b2⟩
  have S3 := hid (S2.out.step b2)
  have Z3 := hid (Z2.out.below b2 Z2.out.lt)
  have P3 := hid (P2.out.grow b2)
  have Q3 := hid p2.has
  obtain ⟨qm, rm, dm, qu, ru, du, rfl, rfl⟩ := p2.has.forms
  clear b2 p2 S2 Y2 P2 Z2 a0 a1 a2 a3
  have g2 : Below w2.heap.size w2 (w2.alloc (boxT (.slice qm rm dm) (.slice qu ru du))) := (Below.refl _ _).alloc (Nat.le_refl _) _
  have S4 := hid (S3.out.step g2)
  have P4 := hid (P3.out.grow g2)
  have Q4 := hid (Q3.out.grow g2)
  have a0 := (Z3.out.below g2 Z3.out.lt).c0
  have a1 := (Z3.out.below g2 Z3.out.lt).c1
  clear g2
  generalize Plain.mergeE t0 t1 = z at *
  go_wp2_with fail
  refine (law.tally_eq _ _ _ _ _ _ P4.out Q4.out).mono ?_
  rintro e w3 ⟨rfl, b3⟩
  have S5 := hid (S4.out.step b3)
  clear b3 S4 a0 a1
  go_wp2
  go_ret
  exact ⟨rfl, S5.out.bel⟩

set_option maxRecDepth 100000 in
theorem lifted (os : Os) (started : os.Started) (H : Type) (enc : TypeId × Value → H) :
    ReturnsInHanded {} Try.checked os 3 .any (Rows.tallyMergesSpec.pre6 enc Try.prog Try.f3 Rows.tallyMergesRow.domain false) (Rows.tallyMergesSpec.post enc Try.prog Try.f3 false true false false) := by
  refine returnsInHanded_of_change (C := Try.checked) own started (by kernel_rfl) Try.func3
    (ChangeSpec.witness6 (enc := enc) (C := Try.checked) false ⟨#[], #[.agg #[.slice none 0 0, .slice none 0 0], .agg #[.slice none 0 0, .slice none 0 0]], []⟩ 8 (by kernel_rfl) (by kernel_rfl) (by kernel_rfl) (by kernel_rfl)) ?_
  intro W base args ds gs before hval0 hW hcnd _
  have hval : ∀ (j : Nat) t v, Try.f3.params[j]? = some t → args[j]? = some v → Value.okWide Try.prog W .any base t v := hval0
  have hW' := hW
  obtain ⟨p, q, hA0, hV, rfl, hfz, hnd⟩ := hW
  have hA : DataW.TrodAll enc Try.prog W 0 (fun _ => true) true Try.f3.params.toList args.toList ds p := hA0
  rw [Try.params3] at hA hval
  obtain ⟨v0, vs0, d0, ds0, p0, q0, hargs, rfl, rfl, h0, r0⟩ := trodAll_cons hA
  obtain ⟨v1, vs1, d1, ds1, p1, q1, rfl, rfl, rfl, h1, r1⟩ := trodAll_cons r0
  obtain ⟨rfl, rfl, rfl⟩ := trodAll_nil r1
  obtain rfl : args = #[v0, v1] := by cases args; simp_all
  obtain ⟨rfl, rfl⟩ := trodVars_none hV
  have k0 := h0
  have lt0 : ∀ x ∈ p0, x.block < W.heap.size := by obtain ⟨m, hm⟩ := k0; exact DataW.trod_lt m _ _ _ hm
  obtain ⟨m0, u0, t0, rfl, s0⟩ := ta_open Try.underlying25 (by kernel_rfl) rfl rfl rfl rfl Try.underlying22 (by kernel_rfl) Try.underlying23 Try.underlying3 (by kernel_rfl) (by kernel_rfl) (hval 0 25 v0 rfl rfl) h0
  have k1 := h1
  have lt1 : ∀ x ∈ p1, x.block < W.heap.size := by obtain ⟨m, hm⟩ := k1; exact DataW.trod_lt m _ _ _ hm
  obtain ⟨m1, u1, t1, rfl, s1⟩ := ta_open Try.underlying25 (by kernel_rfl) rfl rfl rfl rfl Try.underlying22 (by kernel_rfl) Try.underlying23 Try.underlying3 (by kernel_rfl) (by kernel_rfl) (hval 1 25 v1 rfl rfl) h1
  clear hA0 hval0
  refine (walk W m0 u0 t0 s0 m1 u1 t1 s1).mono fun e W' ⟨he, bel⟩ => ?_
  subst he
  exact ⟨_, rfl, _, _, _, [], _, [], hW', trodAll_mk1 (shut_bool Try.underlying4 _), (trodAll_cons_mk (Below.trod laidOut (by kernel_rfl) (of_decide_eq_true (by kernel_rfl)) k0 bel lt0) (trodAll_cons_mk (Below.trod laidOut (by kernel_rfl) (of_decide_eq_true (by kernel_rfl)) k1 bel lt1) trodAll_mk0)), rfl, bel.frame _, fun h => by cases h⟩

theorem over : Rows.tallyMergesRow.holds Try.pinned (OpenSpec.ofChange Rows.tallyMergesSpec) :=
  OpenClaim.holds_of_wide 3 Try.f3 rfl rfl rfl rfl rfl rfl rfl ⟨rfl, rfl, rfl, rfl, rfl⟩ rfl rfl rfl rfl rfl (by kernel_rfl) Try.func3 (by kernel_rfl)
    (of_decide_eq_true (by kernel_rfl)) (by unfold Func.isWrapper; first | (rw [if_pos (by decide +kernel)]; kernel_rfl) | (rw [if_neg (by decide +kernel)]; exact ⟨rfl, rfl⟩))
    (fun os started H enc _ => lifted os started H enc)

end tallyMerges

theorem tallyMerges_holds : Rows.TallyMergesSaid := tallyMerges.over
#print axioms tallyMerges_holds
end Go.Proofs.Ytcdlgpickjiikag

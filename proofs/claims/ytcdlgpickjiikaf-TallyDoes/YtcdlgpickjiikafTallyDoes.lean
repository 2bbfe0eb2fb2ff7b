/- Proved: for every tally and every deed the law TallyDoes returns true: tally.Do answers what promise P5.3 says. Conditions: none. -/
import Derived.Test.YtcdlgpickjiikafRows
import Derived.WalkKit
import Derived.ProofKit
import Derived.OpenShut
import Derived.WalkSmall
import Derived.ShutString
import Derived.ChangeOld
import Derived.Below
import Derived.Test.YtcdlgpickjiikafTdr
import Derived.Test.YtcdlgpickjiikafTst
import Derived.Test.YtcdlgpickjiikafTki
import Derived.Test.YtcdlgpickjiikafTo
namespace Go.Proofs.Ytcdlgpickjiikaf
namespace tallyDoes
open Go.ChangeShapes Go.WideShapes Go.ChangeAt Go.RowKit
set_option linter.unusedVariables false

theorem own : ownKnob Try.prog.godebug = none := by kernel_rfl
theorem laidOut : laidOutB Try.prog = true := by kernel_rfl

set_option maxHeartbeats 4000000 in
set_option maxRecDepth 100000 in
theorem walk (w : World) (m0 u0 : Value) (t0 : Plain.Ta) (s0 : HasT w m0 u0 t0) (a1 : Plain.De) (w1 : InD a1) :
    Calls Try.prog 8 #[.agg #[m0, u0], aggD a1] w fun e w' => e = .returned (.bool true) ∧ Below w.heap.size w w' := by
  have S := hid (SD.start s0 a1)
  clear s0 w1
  go_enter Try.func8, Try.ntmps8
  go_wp2_with fail
  refine (do_any m0 u0 t0 a1 _ S.out.st.has).mono ?_
  rintro e w1 ⟨x1, y1, rfl, p1, b1⟩
  have S1 := hid (S.out.step b1)
  have P1 := hid p1.has
  obtain ⟨pm, nm, cm, pu, nu, cu, rfl, rfl⟩ := p1.has.forms
  clear b1 p1 S
  have g1 : Below w1.heap.size w1 (w1.alloc (boxT (.slice pm nm cm) (.slice pu nu cu))) := (Below.refl _ _).alloc (Nat.le_refl _) _
  have S2 := hid (S1.out.step g1)
  have P2 := hid (P1.out.grow g1)
  have Z2 := hid (show Res (w1.alloc (boxT (.slice pm nm cm) (.slice pu nu cu))) w1.heap.size (.slice pm nm cm) (.slice pu nu cu) from Deep.blk_alloc_new _ _)
  clear g1
  have a0 := S2.out.st.x0
  have a2 := S2.out.st.x1
  obtain ⟨c0, c1, c2, c3⟩ := S2.out.d
  simp only [Nat.zero_add] at c1 c2 c3
  go_wp2_with fail
  refine (rdo_any m0 u0 t0 a1 _ S2.out.st.has).mono ?_
  rintro e w2 ⟨x2, y2, rfl, p2, b2⟩
  have S3 := hid (S2.out.step b2)
  have Z3 := hid (Z2.out.below b2 Z2.out.lt)
  have P3 := hid (P2.out.grow b2)
  have Q3 := hid p2.has
  obtain ⟨qm, rm, dm, qu, ru, du, rfl, rfl⟩ := p2.has.forms
  clear b2 p2 S2 P2 Z2 a0 a2 c0 c1 c2 c3
  have g2 : Below w2.heap.size w2 (w2.alloc (boxT (.slice qm rm dm) (.slice qu ru du))) := (Below.refl _ _).alloc (Nat.le_refl _) _
  have S4 := hid (S3.out.step g2)
  have P4 := hid (P3.out.grow g2)
  have Q4 := hid (Q3.out.grow g2)
  have a0 := (Z3.out.below g2 Z3.out.lt).c0
  have a2 := (Z3.out.below g2 Z3.out.lt).c1
  clear g2
  generalize Plain.doE t0 a1 = z at *
  go_wp2_with fail
  refine (law.tally_eq _ _ _ _ _ _ P4.out Q4.out).mono ?_
  rintro e w3 ⟨rfl, b3⟩
  have S5 := hid (S4.out.step b3)
  clear b3 S4 a0 a2
  go_wp2
  go_ret
  exact ⟨rfl, S5.out.st.bel⟩

set_option maxRecDepth 100000 in
theorem lifted (os : Os) (started : os.Started) (H : Type) (enc : TypeId × Value → H) :
    ReturnsInHanded {} Try.checked os 8 .any (Rows.tallyDoesSpec.pre6 enc Try.prog Try.f8 Rows.tallyDoesRow.domain false) (Rows.tallyDoesSpec.post enc Try.prog Try.f8 false true false false) := by
  refine returnsInHanded_of_change (C := Try.checked) own started (by kernel_rfl) Try.func8
    (ChangeSpec.witness6 (enc := enc) (C := Try.checked) false ⟨#[], #[.agg #[.slice none 0 0, .slice none 0 0], .agg #[.int .i64 0, .int .i64 0, .int .i64 0, .int .i64 0]], []⟩ 8 (by kernel_rfl) (by kernel_rfl) (by kernel_rfl) (by kernel_rfl)) ?_
  intro W base args ds gs before hval0 hW hcnd _
  have hval : ∀ (j : Nat) t v, Try.f8.params[j]? = some t → args[j]? = some v → Value.okWide Try.prog W .any base t v := hval0
  have hW' := hW
  obtain ⟨p, q, hA0, hV, rfl, hfz, hnd⟩ := hW
  have hA : DataW.TrodAll enc Try.prog W 0 (fun _ => true) true Try.f8.params.toList args.toList ds p := hA0
  rw [Try.params8] at hA hval
  obtain ⟨v0, vs0, d0, ds0, p0, q0, hargs, rfl, rfl, h0, r0⟩ := trodAll_cons hA
  obtain ⟨v1, vs1, d1, ds1, p1, q1, rfl, rfl, rfl, h1, r1⟩ := trodAll_cons r0
  obtain ⟨rfl, rfl, rfl⟩ := trodAll_nil r1
  obtain rfl : args = #[v0, v1] := by cases args; simp_all
  obtain ⟨rfl, rfl⟩ := trodVars_none hV
  have k0 := h0
  have lt0 : ∀ x ∈ p0, x.block < W.heap.size := by obtain ⟨m, hm⟩ := k0; exact DataW.trod_lt m _ _ _ hm
  obtain ⟨m0, u0, t0, rfl, s0⟩ := ta_open Try.underlying41 (by kernel_rfl) rfl rfl rfl rfl Try.underlying38 (by kernel_rfl) Try.underlying39 Try.underlying3 (by kernel_rfl) (by kernel_rfl) (hval 0 41 v0 rfl rfl) h0
  have k1 := h1
  have lt1 : ∀ x ∈ p1, x.block < W.heap.size := by obtain ⟨m, hm⟩ := k1; exact DataW.trod_lt m _ _ _ hm
  obtain ⟨a1, rfl, w1⟩ := de_open Try.underlying48 (by kernel_rfl) ⟨rfl, by intro j f hj; rcases j with _ | _ | _ | _ | j <;> simp at hj <;> subst hj <;> exact ⟨rfl, by kernel_rfl, Try.underlying3⟩⟩ (hval 1 48 v1 rfl rfl) h1
  clear hA0 hval0
  refine (walk W m0 u0 t0 s0 a1 w1).mono fun e W' ⟨he, bel⟩ => ?_
  subst he
  exact ⟨_, rfl, _, _, _, [], _, [], hW', trodAll_mk1 (shut_bool Try.underlying4 _), (trodAll_cons_mk (Below.trod laidOut (by kernel_rfl) (of_decide_eq_true (by kernel_rfl)) k0 bel lt0) (trodAll_cons_mk (Below.trod laidOut (by kernel_rfl) (of_decide_eq_true (by kernel_rfl)) k1 bel lt1) trodAll_mk0)), rfl, bel.frame _, fun h => by cases h⟩

theorem over : Rows.tallyDoesRow.holds Try.pinned (OpenSpec.ofChange Rows.tallyDoesSpec) :=
  OpenClaim.holds_of_wide 8 Try.f8 rfl rfl rfl rfl rfl rfl rfl ⟨rfl, rfl, rfl, rfl, rfl⟩ rfl rfl rfl rfl rfl (by kernel_rfl) Try.func8 (by kernel_rfl)
    (of_decide_eq_true (by kernel_rfl)) (by unfold Func.isWrapper; first | (rw [if_pos (by decide +kernel)]; kernel_rfl) | (rw [if_neg (by decide +kernel)]; exact ⟨rfl, rfl⟩))
    (fun os started H enc _ => lifted os started H enc)

end tallyDoes

theorem tallyDoes_holds : Rows.TallyDoesSaid := tallyDoes.over
#print axioms tallyDoes_holds
end Go.Proofs.Ytcdlgpickjiikaf

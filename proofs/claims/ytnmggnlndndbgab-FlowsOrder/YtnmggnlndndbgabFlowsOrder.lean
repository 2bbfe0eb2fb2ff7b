/- Proved: for every three 64-bit integers the law FlowsOrder returns true: Flows orders the labels (each label flows to itself, what flows on flows at once, two labels that flow both ways are one), 0 is where all flow to and 255 where all flow from, and May refuses 256 and -1. Conditions: none. -/
import Derived.Test.YtnmggnlndndbgabRows
import Derived.WalkKit
import Derived.ProofKit
import Derived.OpenShut
import Derived.WalkSmall
import Derived.Test.YtnmggnlndndbgabPlain
import Derived.Test.YtnmggnlndndbgabLab
import Derived.Test.YtnmggnlndndbgabOrder
import Derived.ShutString
namespace Go.Proofs.Ytnmggnlndndbgab
namespace flowsOrder
open Go.ChangeShapes Go.WideShapes Go.ChangeAt Go.RowKit
open Go.ChangeMaps (open_string shut_string)
set_option linter.unusedVariables false      -- a walk need not use every 'w<i>' (that an integer argument fits its kind)

theorem own : ownKnob Try.prog.godebug = none := by kernel_rfl

theorem walk (a0 : Int) (a1 : Int) (a2 : Int) (w0 : (Lit.int .i64 a0).wf = true) (w1 : (Lit.int .i64 a1).wf = true) (w2 : (Lit.int .i64 a2).wf = true) (w : World) :
    Calls Try.prog 3 #[.int .i64 a0, .int .i64 a1, .int .i64 a2] w fun e w' => e = .returned (.bool true) ∧ Grown w w' := by
  have hb0 := bounds_i64 w0
  clear w0 w1 w2 hb0
  obtain ⟨x, hx, ex⟩ : ∃ x : Nat, x < 256 ∧ a0 % 256 = x := ⟨(a0 % 256).toNat, by omega, by omega⟩
  obtain ⟨y, hy, ey⟩ : ∃ x : Nat, x < 256 ∧ a1 % 256 = x := ⟨(a1 % 256).toNat, by omega, by omega⟩
  obtain ⟨z, hz, ez⟩ : ∃ x : Nat, x < 256 ∧ a2 % 256 = x := ⟨(a2 % 256).toNat, by omega, by omega⟩
  have EX : Hid _ := ex
  have EY : Hid _ := ey
  have EZ : Hid _ := ez
  clear ex ey ez
  have XX : Hid _ := Plain.flowsB_self x
  have AX : Hid _ := Plain.flowsB_all x hx
  have XN : Hid _ := Plain.flowsB_none x
  cases hxy : Plain.flowsB x y
  · have XY : Hid _ := hxy
    clear hxy
    go_enter Try.func3, Try.ntmps3
    go_wp2_with fail
    refine (picked a0 x EX.out _).mono ?_
    rintro e w' ⟨rfl, rfl⟩
    go_wp2_with fail
    refine (picked a1 y EY.out _).mono ?_
    rintro e w' ⟨rfl, rfl⟩
    go_wp2_with fail
    refine (picked a2 z EZ.out _).mono ?_
    rintro e w' ⟨rfl, rfl⟩
    go_wp2_with fail
    refine (may_yes x hx _).mono ?_
    rintro e w' ⟨rfl, rfl⟩
    go_wp2_with fail
    refine (may_no 256 (by decide) (by decide) (by decide) _).mono ?_
    rintro e w' ⟨rfl, rfl⟩
    go_wp2_with fail
    refine (may_no (-1) (by decide) (by decide) (by decide) _).mono ?_
    rintro e w' ⟨rfl, rfl⟩
    go_wp2_with fail
    refine (fl x x hx hx _).mono ?_
    rintro e w' ⟨rfl, rfl⟩
    rw [XX.out]
    go_wp2_with fail
    refine (fl_all x hx _).mono ?_
    rintro e w' ⟨rfl, rfl⟩
    rw [AX.out]
    go_wp2_with fail
    refine (fl_none x hx _).mono ?_
    rintro e w' ⟨rfl, rfl⟩
    rw [XN.out]
    go_wp2_with fail
    refine (fl x y hx hy _).mono ?_
    rintro e w' ⟨rfl, rfl⟩
    rw [XY.out]
    go_wp2_with fail
    refine (fl x y hx hy _).mono ?_
    rintro e w' ⟨rfl, rfl⟩
    rw [XY.out]
    go_wp2
    go_ret
    exact ⟨by simp, Grown.refl _⟩
  · have XY : Hid _ := hxy
    clear hxy
    cases hyz : Plain.flowsB y z
    · have YZ : Hid _ := hyz
      clear hyz
      cases hyx : Plain.flowsB y x
      · have YX : Hid _ := hyx
        clear hyx
        go_enter Try.func3, Try.ntmps3
        go_wp2_with fail
        refine (picked a0 x EX.out _).mono ?_
        rintro e w' ⟨rfl, rfl⟩
        go_wp2_with fail
        refine (picked a1 y EY.out _).mono ?_
        rintro e w' ⟨rfl, rfl⟩
        go_wp2_with fail
        refine (picked a2 z EZ.out _).mono ?_
        rintro e w' ⟨rfl, rfl⟩
        go_wp2_with fail
        refine (may_yes x hx _).mono ?_
        rintro e w' ⟨rfl, rfl⟩
        go_wp2_with fail
        refine (may_no 256 (by decide) (by decide) (by decide) _).mono ?_
        rintro e w' ⟨rfl, rfl⟩
        go_wp2_with fail
        refine (may_no (-1) (by decide) (by decide) (by decide) _).mono ?_
        rintro e w' ⟨rfl, rfl⟩
        go_wp2_with fail
        refine (fl x x hx hx _).mono ?_
        rintro e w' ⟨rfl, rfl⟩
        rw [XX.out]
        go_wp2_with fail
        refine (fl_all x hx _).mono ?_
        rintro e w' ⟨rfl, rfl⟩
        rw [AX.out]
        go_wp2_with fail
        refine (fl_none x hx _).mono ?_
        rintro e w' ⟨rfl, rfl⟩
        rw [XN.out]
        go_wp2_with fail
        refine (fl x y hx hy _).mono ?_
        rintro e w' ⟨rfl, rfl⟩
        rw [XY.out]
        go_wp2_with fail
        refine (fl y z hy hz _).mono ?_
        rintro e w' ⟨rfl, rfl⟩
        rw [YZ.out]
        go_wp2_with fail
        refine (fl x y hx hy _).mono ?_
        rintro e w' ⟨rfl, rfl⟩
        rw [XY.out]
        go_wp2_with fail
        refine (fl y x hy hx _).mono ?_
        rintro e w' ⟨rfl, rfl⟩
        rw [YX.out]
        go_wp2
        go_ret
        exact ⟨by simp, Grown.refl _⟩
      · have YX : Hid _ := hyx
        clear hyx
        obtain rfl := Plain.flowsB_anti x y XY.out YX.out
        go_enter Try.func3, Try.ntmps3
        go_wp2_with fail
        refine (picked a0 x EX.out _).mono ?_
        rintro e w' ⟨rfl, rfl⟩
        go_wp2_with fail
        refine (picked a1 x EY.out _).mono ?_
        rintro e w' ⟨rfl, rfl⟩
        go_wp2_with fail
        refine (picked a2 z EZ.out _).mono ?_
        rintro e w' ⟨rfl, rfl⟩
        go_wp2_with fail
        refine (may_yes x hx _).mono ?_
        rintro e w' ⟨rfl, rfl⟩
        go_wp2_with fail
        refine (may_no 256 (by decide) (by decide) (by decide) _).mono ?_
        rintro e w' ⟨rfl, rfl⟩
        go_wp2_with fail
        refine (may_no (-1) (by decide) (by decide) (by decide) _).mono ?_
        rintro e w' ⟨rfl, rfl⟩
        go_wp2_with fail
        refine (fl x x hx hx _).mono ?_
        rintro e w' ⟨rfl, rfl⟩
        rw [XX.out]
        go_wp2_with fail
        refine (fl_all x hx _).mono ?_
        rintro e w' ⟨rfl, rfl⟩
        rw [AX.out]
        go_wp2_with fail
        refine (fl_none x hx _).mono ?_
        rintro e w' ⟨rfl, rfl⟩
        rw [XN.out]
        go_wp2_with fail
        refine (fl x x hx hx _).mono ?_
        rintro e w' ⟨rfl, rfl⟩
        rw [XY.out]
        go_wp2_with fail
        refine (fl x z hx hz _).mono ?_
        rintro e w' ⟨rfl, rfl⟩
        rw [YZ.out]
        go_wp2_with fail
        refine (fl x x hx hx _).mono ?_
        rintro e w' ⟨rfl, rfl⟩
        rw [XY.out]
        go_wp2_with fail
        refine (fl x x hx hx _).mono ?_
        rintro e w' ⟨rfl, rfl⟩
        rw [YX.out]
        go_wp2
        go_ret
        exact ⟨by simp, Grown.refl _⟩
    · have YZ : Hid _ := hyz
      clear hyz
      have XZ : Hid _ := Plain.flowsB_trans x y z XY.out YZ.out
      cases hyx : Plain.flowsB y x
      · have YX : Hid _ := hyx
        clear hyx
        go_enter Try.func3, Try.ntmps3
        go_wp2_with fail
        refine (picked a0 x EX.out _).mono ?_
        rintro e w' ⟨rfl, rfl⟩
        go_wp2_with fail
        refine (picked a1 y EY.out _).mono ?_
        rintro e w' ⟨rfl, rfl⟩
        go_wp2_with fail
        refine (picked a2 z EZ.out _).mono ?_
        rintro e w' ⟨rfl, rfl⟩
        go_wp2_with fail
        refine (may_yes x hx _).mono ?_
        rintro e w' ⟨rfl, rfl⟩
        go_wp2_with fail
        refine (may_no 256 (by decide) (by decide) (by decide) _).mono ?_
        rintro e w' ⟨rfl, rfl⟩
        go_wp2_with fail
        refine (may_no (-1) (by decide) (by decide) (by decide) _).mono ?_
        rintro e w' ⟨rfl, rfl⟩
        go_wp2_with fail
        refine (fl x x hx hx _).mono ?_
        rintro e w' ⟨rfl, rfl⟩
        rw [XX.out]
        go_wp2_with fail
        refine (fl_all x hx _).mono ?_
        rintro e w' ⟨rfl, rfl⟩
        rw [AX.out]
        go_wp2_with fail
        refine (fl_none x hx _).mono ?_
        rintro e w' ⟨rfl, rfl⟩
        rw [XN.out]
        go_wp2_with fail
        refine (fl x y hx hy _).mono ?_
        rintro e w' ⟨rfl, rfl⟩
        rw [XY.out]
        go_wp2_with fail
        refine (fl y z hy hz _).mono ?_
        rintro e w' ⟨rfl, rfl⟩
        rw [YZ.out]
        go_wp2_with fail
        refine (fl x z hx hz _).mono ?_
        rintro e w' ⟨rfl, rfl⟩
        rw [XZ.out]
        go_wp2_with fail
        refine (fl x y hx hy _).mono ?_
        rintro e w' ⟨rfl, rfl⟩
        rw [XY.out]
        go_wp2_with fail
        refine (fl y x hy hx _).mono ?_
        rintro e w' ⟨rfl, rfl⟩
        rw [YX.out]
        go_wp2
        go_ret
        exact ⟨by simp, Grown.refl _⟩
      · have YX : Hid _ := hyx
        clear hyx
        obtain rfl := Plain.flowsB_anti x y XY.out YX.out
        go_enter Try.func3, Try.ntmps3
        go_wp2_with fail
        refine (picked a0 x EX.out _).mono ?_
        rintro e w' ⟨rfl, rfl⟩
        go_wp2_with fail
        refine (picked a1 x EY.out _).mono ?_
        rintro e w' ⟨rfl, rfl⟩
        go_wp2_with fail
        refine (picked a2 z EZ.out _).mono ?_
        rintro e w' ⟨rfl, rfl⟩
        go_wp2_with fail
        refine (may_yes x hx _).mono ?_
        rintro e w' ⟨rfl, rfl⟩
        go_wp2_with fail
        refine (may_no 256 (by decide) (by decide) (by decide) _).mono ?_
        rintro e w' ⟨rfl, rfl⟩
        go_wp2_with fail
        refine (may_no (-1) (by decide) (by decide) (by decide) _).mono ?_
        rintro e w' ⟨rfl, rfl⟩
        go_wp2_with fail
        refine (fl x x hx hx _).mono ?_
        rintro e w' ⟨rfl, rfl⟩
        rw [XX.out]
        go_wp2_with fail
        refine (fl_all x hx _).mono ?_
        rintro e w' ⟨rfl, rfl⟩
        rw [AX.out]
        go_wp2_with fail
        refine (fl_none x hx _).mono ?_
        rintro e w' ⟨rfl, rfl⟩
        rw [XN.out]
        go_wp2_with fail
        refine (fl x x hx hx _).mono ?_
        rintro e w' ⟨rfl, rfl⟩
        rw [XY.out]
        go_wp2_with fail
        refine (fl x z hx hz _).mono ?_
        rintro e w' ⟨rfl, rfl⟩
        rw [YZ.out]
        go_wp2_with fail
        refine (fl x z hx hz _).mono ?_
        rintro e w' ⟨rfl, rfl⟩
        rw [XZ.out]
        go_wp2_with fail
        refine (fl x x hx hx _).mono ?_
        rintro e w' ⟨rfl, rfl⟩
        rw [XY.out]
        go_wp2_with fail
        refine (fl x x hx hx _).mono ?_
        rintro e w' ⟨rfl, rfl⟩
        rw [YX.out]
        go_wp2
        go_ret
        exact ⟨by simp, Grown.refl _⟩

set_option maxRecDepth 100000 in
theorem lifted (os : Os) (started : os.Started) (H : Type) (enc : TypeId × Value → H) :
    ReturnsInHanded {} Try.checked os 3 .any (Rows.flowsOrderSpec.pre6 enc Try.prog Try.f3 Rows.flowsOrderRow.domain false) (Rows.flowsOrderSpec.post enc Try.prog Try.f3 false true false false) := by
  refine returnsInHanded_of_change (C := Try.checked) own started (by kernel_rfl) Try.func3
    (ChangeSpec.witness6 (enc := enc) (C := Try.checked) false ⟨#[], #[.int .i64 0, .int .i64 0, .int .i64 0], []⟩ 8 (by kernel_rfl) (by kernel_rfl) (by kernel_rfl) (by kernel_rfl)) ?_
  intro W base args ds gs before hval0 hW hcnd _
  have hval : ∀ (j : Nat) t v, Try.f3.params[j]? = some t → args[j]? = some v → Value.okWide Try.prog W .any base t v := hval0
  have hW' := hW
  obtain ⟨p, q, hA0, hV, rfl, hfz, hnd⟩ := hW
  have hA : DataW.TrodAll enc Try.prog W 0 (fun _ => true) true Try.f3.params.toList args.toList ds p := hA0
  rw [Try.params3] at hA hval
  obtain ⟨v0, vs0, d0, ds0, p0, q0, hargs, rfl, rfl, h0, r0⟩ := trodAll_cons hA
  obtain ⟨v1, vs1, d1, ds1, p1, q1, rfl, rfl, rfl, h1, r1⟩ := trodAll_cons r0
  obtain ⟨v2, vs2, d2, ds2, p2, q2, rfl, rfl, rfl, h2, r2⟩ := trodAll_cons r1
  obtain ⟨rfl, rfl, rfl⟩ := trodAll_nil r2
  obtain rfl : args = #[v0, v1, v2] := by cases args; simp_all
  obtain ⟨rfl, rfl⟩ := trodVars_none hV
  obtain ⟨a0, rfl, rfl, rfl, w0⟩ := open_int Try.underlying3 (hval 0 3 v0 rfl rfl) h0
  obtain ⟨a1, rfl, rfl, rfl, w1⟩ := open_int Try.underlying3 (hval 1 3 v1 rfl rfl) h1
  obtain ⟨a2, rfl, rfl, rfl, w2⟩ := open_int Try.underlying3 (hval 2 3 v2 rfl rfl) h2
  clear hA0 hval0
  simp only [List.append_nil] at hW'
  refine (walk a0 a1 a2 w0 w1 w2 W).mono fun e W' ⟨he, hg⟩ => ?_
  subst he
  exact ⟨_, rfl, post_of_same (pa := []) (pv := []) hW' (fun _ _ _ => (trodAll_cons_mk (shut_bool Try.underlying4 _) trodAll_mk0)) (fun sp _ => (trodAll_cons_mk (shut_int Try.underlying3 w0) (trodAll_cons_mk (shut_int Try.underlying3 w1) (trodAll_cons_mk (shut_int Try.underlying3 w2) trodAll_mk0)))) (fun _ _ => rfl) rfl
    (hg.frame _) hg.2.1 (ok_one (by kernel_rfl) rfl (okWide_bool_mk Try.underlying4 _))⟩

theorem over : Rows.flowsOrderRow.holds Try.pinned (OpenSpec.ofChange Rows.flowsOrderSpec) :=
  OpenClaim.holds_of_wide 3 Try.f3 rfl rfl rfl rfl rfl rfl rfl ⟨rfl, rfl, rfl, rfl, rfl⟩ rfl rfl rfl rfl rfl (by kernel_rfl) Try.func3 (by kernel_rfl)
    (of_decide_eq_true (by kernel_rfl)) (by unfold Func.isWrapper; first | (rw [if_pos (by decide +kernel)]; kernel_rfl) | (rw [if_neg (by decide +kernel)]; exact ⟨rfl, rfl⟩))
    (fun os started H enc _ => lifted os started H enc)

end flowsOrder

theorem flowsOrder_holds : Rows.FlowsOrderSaid := flowsOrder.over
#print axioms flowsOrder_holds
end Go.Proofs.Ytnmggnlndndbgab

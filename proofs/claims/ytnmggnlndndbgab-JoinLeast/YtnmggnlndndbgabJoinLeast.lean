/- Proved: for every three 64-bit integers the law JoinLeast returns true: of two labels the join is the widest label that both flow to, and the meet the narrowest one that flows to both. Conditions: none. -/
import Derived.Test.YtnmggnlndndbgabRows
import Derived.WalkKit
import Derived.ProofKit
import Derived.OpenShut
import Derived.WalkSmall
import Derived.Test.YtnmggnlndndbgabPlain
import Derived.Test.YtnmggnlndndbgabLab
import Derived.Test.YtnmggnlndndbgabOrder
import Derived.Test.YtnmggnlndndbgabBounds
import Derived.ShutString
namespace Go.Proofs.Ytnmggnlndndbgab
namespace joinLeast
open Go.ChangeShapes Go.WideShapes Go.ChangeAt Go.RowKit
open Go.ChangeMaps (open_string shut_string)
set_option linter.unusedVariables false      -- a walk need not use every 'w<i>' (that an integer argument fits its kind)

theorem own : ownKnob Try.prog.godebug = none := by kernel_rfl

set_option maxHeartbeats 4000000 in
theorem walk (a0 : Int) (a1 : Int) (a2 : Int) (w0 : (Lit.int .i64 a0).wf = true) (w1 : (Lit.int .i64 a1).wf = true) (w2 : (Lit.int .i64 a2).wf = true) (w : World) :
    Calls Try.prog 4 #[.int .i64 a0, .int .i64 a1, .int .i64 a2] w fun e w' => e = .returned (.bool true) ∧ Grown w w' := by
  have hb0 := bounds_i64 w0
  clear w0 w1 w2 hb0
  obtain ⟨x, hx, ex⟩ : ∃ x : Nat, x < 256 ∧ a0 % 256 = x := ⟨(a0 % 256).toNat, by omega, by omega⟩
  obtain ⟨y, hy, ey⟩ : ∃ x : Nat, x < 256 ∧ a1 % 256 = x := ⟨(a1 % 256).toNat, by omega, by omega⟩
  obtain ⟨z, hz, ez⟩ : ∃ x : Nat, x < 256 ∧ a2 % 256 = x := ⟨(a2 % 256).toNat, by omega, by omega⟩
  have EX : Hid _ := ex
  have EY : Hid _ := ey
  have EZ : Hid _ := ez
  clear ex ey ez
  obtain ⟨j, hj, ej⟩ : ∃ j : Nat, j < 256 ∧ x &&& y = j := ⟨_, Plain.and_lt x y hx, rfl⟩
  obtain ⟨m, hm, em⟩ : ∃ m : Nat, m < 256 ∧ x ||| y = m := ⟨_, Plain.or_lt x y hx hy, rfl⟩
  have XJ : Hid (Plain.flowsB x j = true) := hid (by rw [← ej]; exact Plain.flows_join_left x y)
  have YJ : Hid (Plain.flowsB y j = true) := hid (by rw [← ej]; exact Plain.flows_join_right x y)
  have MX : Hid (Plain.flowsB m x = true) := hid (by rw [← em]; exact Plain.flows_meet_left x y)
  have MY : Hid (Plain.flowsB m y = true) := hid (by rw [← em]; exact Plain.flows_meet_right x y)
  have JZ : Hid (Plain.flowsB j z = (Plain.flowsB x z && Plain.flowsB y z)) := hid (by rw [← ej]; exact Plain.flows_to x y z)
  have ZM : Hid (Plain.flowsB z m = (Plain.flowsB z x && Plain.flowsB z y)) := hid (by rw [← em]; exact Plain.flows_from x y z)
  have EJ : Hid _ := ej
  have EM : Hid _ := em
  clear ej em
  cases hXZ : Plain.flowsB x z
  · have XZ : Hid _ := hXZ
    rw [hXZ] at JZ
    clear hXZ
    have JZx : Hid (_ = false) := JZ.out
    clear JZ
    have JZ : Hid _ := JZx
    clear JZx
    cases hZX : Plain.flowsB z x
    · have ZX : Hid _ := hZX
      rw [hZX] at ZM
      clear hZX
      have ZMx : Hid (_ = false) := ZM.out
      clear ZM
      have ZM : Hid _ := ZMx
      clear ZMx
      go_enter Try.func4, Try.ntmps4
      go_wp2_with fail
      refine (picked a0 x EX.out _).mono ?_
      rintro e w' ⟨rfl, rfl⟩
      go_wp2_with fail
      refine (picked a1 y EY.out _).mono ?_
      rintro e w' ⟨rfl, rfl⟩
      go_wp2_with fail
      refine (picked a2 z EZ.out _).mono ?_
      rintro e w' ⟨rfl, rfl⟩
      go_wp2_with fail
      refine (join_is x y j hx hy EJ.out _).mono ?_
      rintro e w' ⟨rfl, rfl⟩
      go_wp2_with fail
      refine (meet_is x y m hx hy EM.out _).mono ?_
      rintro e w' ⟨rfl, rfl⟩
      go_wp2_with fail
      refine (may_yes j hj _).mono ?_
      rintro e w' ⟨rfl, rfl⟩
      go_wp2_with fail
      refine (may_yes m hm _).mono ?_
      rintro e w' ⟨rfl, rfl⟩
      go_wp2_with fail
      refine (fl x j hx hj _).mono ?_
      rintro e w' ⟨rfl, rfl⟩
      rw [XJ.out]
      go_wp2_with fail
      refine (fl y j hy hj _).mono ?_
      rintro e w' ⟨rfl, rfl⟩
      rw [YJ.out]
      go_wp2_with fail
      refine (fl m x hm hx _).mono ?_
      rintro e w' ⟨rfl, rfl⟩
      rw [MX.out]
      go_wp2_with fail
      refine (fl m y hm hy _).mono ?_
      rintro e w' ⟨rfl, rfl⟩
      rw [MY.out]
      go_wp2_with fail
      refine (fl x z hx hz _).mono ?_
      rintro e w' ⟨rfl, rfl⟩
      rw [XZ.out]
      go_wp2_with fail
      refine (fl j z hj hz _).mono ?_
      rintro e w' ⟨rfl, rfl⟩
      rw [JZ.out]
      go_wp2_with fail
      refine (fl z x hz hx _).mono ?_
      rintro e w' ⟨rfl, rfl⟩
      rw [ZX.out]
      go_wp2_with fail
      refine (fl z m hz hm _).mono ?_
      rintro e w' ⟨rfl, rfl⟩
      rw [ZM.out]
      go_wp2
      go_ret
      exact ⟨by simp, Grown.refl _⟩
    · have ZX : Hid _ := hZX
      rw [hZX] at ZM
      clear hZX
      cases hZY : Plain.flowsB z y
      · have ZY : Hid _ := hZY
        rw [hZY] at ZM
        clear hZY
        have ZMx : Hid (_ = false) := ZM.out
        clear ZM
        have ZM : Hid _ := ZMx
        clear ZMx
        go_enter Try.func4, Try.ntmps4
        go_wp2_with fail
        refine (picked a0 x EX.out _).mono ?_
        rintro e w' ⟨rfl, rfl⟩
        go_wp2_with fail
        refine (picked a1 y EY.out _).mono ?_
        rintro e w' ⟨rfl, rfl⟩
        go_wp2_with fail
        refine (picked a2 z EZ.out _).mono ?_
        rintro e w' ⟨rfl, rfl⟩
        go_wp2_with fail
        refine (join_is x y j hx hy EJ.out _).mono ?_
        rintro e w' ⟨rfl, rfl⟩
        go_wp2_with fail
        refine (meet_is x y m hx hy EM.out _).mono ?_
        rintro e w' ⟨rfl, rfl⟩
        go_wp2_with fail
        refine (may_yes j hj _).mono ?_
        rintro e w' ⟨rfl, rfl⟩
        go_wp2_with fail
        refine (may_yes m hm _).mono ?_
        rintro e w' ⟨rfl, rfl⟩
        go_wp2_with fail
        refine (fl x j hx hj _).mono ?_
        rintro e w' ⟨rfl, rfl⟩
        rw [XJ.out]
        go_wp2_with fail
        refine (fl y j hy hj _).mono ?_
        rintro e w' ⟨rfl, rfl⟩
        rw [YJ.out]
        go_wp2_with fail
        refine (fl m x hm hx _).mono ?_
        rintro e w' ⟨rfl, rfl⟩
        rw [MX.out]
        go_wp2_with fail
        refine (fl m y hm hy _).mono ?_
        rintro e w' ⟨rfl, rfl⟩
        rw [MY.out]
        go_wp2_with fail
        refine (fl x z hx hz _).mono ?_
        rintro e w' ⟨rfl, rfl⟩
        rw [XZ.out]
        go_wp2_with fail
        refine (fl j z hj hz _).mono ?_
        rintro e w' ⟨rfl, rfl⟩
        rw [JZ.out]
        go_wp2_with fail
        refine (fl z x hz hx _).mono ?_
        rintro e w' ⟨rfl, rfl⟩
        rw [ZX.out]
        go_wp2_with fail
        refine (fl z y hz hy _).mono ?_
        rintro e w' ⟨rfl, rfl⟩
        rw [ZY.out]
        go_wp2_with fail
        refine (fl z m hz hm _).mono ?_
        rintro e w' ⟨rfl, rfl⟩
        rw [ZM.out]
        go_wp2
        go_ret
        exact ⟨by simp, Grown.refl _⟩
      · have ZY : Hid _ := hZY
        rw [hZY] at ZM
        clear hZY
        have ZMx : Hid (_ = true) := ZM.out
        clear ZM
        have ZM : Hid _ := ZMx
        clear ZMx
        go_enter Try.func4, Try.ntmps4
        go_wp2_with fail
        refine (picked a0 x EX.out _).mono ?_
        rintro e w' ⟨rfl, rfl⟩
        go_wp2_with fail
        refine (picked a1 y EY.out _).mono ?_
        rintro e w' ⟨rfl, rfl⟩
        go_wp2_with fail
        refine (picked a2 z EZ.out _).mono ?_
        rintro e w' ⟨rfl, rfl⟩
        go_wp2_with fail
        refine (join_is x y j hx hy EJ.out _).mono ?_
        rintro e w' ⟨rfl, rfl⟩
        go_wp2_with fail
        refine (meet_is x y m hx hy EM.out _).mono ?_
        rintro e w' ⟨rfl, rfl⟩
        go_wp2_with fail
        refine (may_yes j hj _).mono ?_
        rintro e w' ⟨rfl, rfl⟩
        go_wp2_with fail
        refine (may_yes m hm _).mono ?_
        rintro e w' ⟨rfl, rfl⟩
        go_wp2_with fail
        refine (fl x j hx hj _).mono ?_
        rintro e w' ⟨rfl, rfl⟩
        rw [XJ.out]
        go_wp2_with fail
        refine (fl y j hy hj _).mono ?_
        rintro e w' ⟨rfl, rfl⟩
        rw [YJ.out]
        go_wp2_with fail
        refine (fl m x hm hx _).mono ?_
        rintro e w' ⟨rfl, rfl⟩
        rw [MX.out]
        go_wp2_with fail
        refine (fl m y hm hy _).mono ?_
        rintro e w' ⟨rfl, rfl⟩
        rw [MY.out]
        go_wp2_with fail
        refine (fl x z hx hz _).mono ?_
        rintro e w' ⟨rfl, rfl⟩
        rw [XZ.out]
        go_wp2_with fail
        refine (fl j z hj hz _).mono ?_
        rintro e w' ⟨rfl, rfl⟩
        rw [JZ.out]
        go_wp2_with fail
        refine (fl z x hz hx _).mono ?_
        rintro e w' ⟨rfl, rfl⟩
        rw [ZX.out]
        go_wp2_with fail
        refine (fl z y hz hy _).mono ?_
        rintro e w' ⟨rfl, rfl⟩
        rw [ZY.out]
        go_wp2_with fail
        refine (fl z m hz hm _).mono ?_
        rintro e w' ⟨rfl, rfl⟩
        rw [ZM.out]
        go_wp2
        go_ret
        exact ⟨by simp, Grown.refl _⟩
  · have XZ : Hid _ := hXZ
    rw [hXZ] at JZ
    clear hXZ
    cases hYZ : Plain.flowsB y z
    · have YZ : Hid _ := hYZ
      rw [hYZ] at JZ
      clear hYZ
      have JZx : Hid (_ = false) := JZ.out
      clear JZ
      have JZ : Hid _ := JZx
      clear JZx
      cases hZX : Plain.flowsB z x
      · have ZX : Hid _ := hZX
        rw [hZX] at ZM
        clear hZX
        have ZMx : Hid (_ = false) := ZM.out
        clear ZM
        have ZM : Hid _ := ZMx
        clear ZMx
        go_enter Try.func4, Try.ntmps4
        go_wp2_with fail
        refine (picked a0 x EX.out _).mono ?_
        rintro e w' ⟨rfl, rfl⟩
        go_wp2_with fail
        refine (picked a1 y EY.out _).mono ?_
        rintro e w' ⟨rfl, rfl⟩
        go_wp2_with fail
        refine (picked a2 z EZ.out _).mono ?_
        rintro e w' ⟨rfl, rfl⟩
        go_wp2_with fail
        refine (join_is x y j hx hy EJ.out _).mono ?_
        rintro e w' ⟨rfl, rfl⟩
        go_wp2_with fail
        refine (meet_is x y m hx hy EM.out _).mono ?_
        rintro e w' ⟨rfl, rfl⟩
        go_wp2_with fail
        refine (may_yes j hj _).mono ?_
        rintro e w' ⟨rfl, rfl⟩
        go_wp2_with fail
        refine (may_yes m hm _).mono ?_
        rintro e w' ⟨rfl, rfl⟩
        go_wp2_with fail
        refine (fl x j hx hj _).mono ?_
        rintro e w' ⟨rfl, rfl⟩
        rw [XJ.out]
        go_wp2_with fail
        refine (fl y j hy hj _).mono ?_
        rintro e w' ⟨rfl, rfl⟩
        rw [YJ.out]
        go_wp2_with fail
        refine (fl m x hm hx _).mono ?_
        rintro e w' ⟨rfl, rfl⟩
        rw [MX.out]
        go_wp2_with fail
        refine (fl m y hm hy _).mono ?_
        rintro e w' ⟨rfl, rfl⟩
        rw [MY.out]
        go_wp2_with fail
        refine (fl x z hx hz _).mono ?_
        rintro e w' ⟨rfl, rfl⟩
        rw [XZ.out]
        go_wp2_with fail
        refine (fl y z hy hz _).mono ?_
        rintro e w' ⟨rfl, rfl⟩
        rw [YZ.out]
        go_wp2_with fail
        refine (fl j z hj hz _).mono ?_
        rintro e w' ⟨rfl, rfl⟩
        rw [JZ.out]
        go_wp2_with fail
        refine (fl z x hz hx _).mono ?_
        rintro e w' ⟨rfl, rfl⟩
        rw [ZX.out]
        go_wp2_with fail
        refine (fl z m hz hm _).mono ?_
        rintro e w' ⟨rfl, rfl⟩
        rw [ZM.out]
        go_wp2
        go_ret
        exact ⟨by simp, Grown.refl _⟩
      · have ZX : Hid _ := hZX
        rw [hZX] at ZM
        clear hZX
        cases hZY : Plain.flowsB z y
        · have ZY : Hid _ := hZY
          rw [hZY] at ZM
          clear hZY
          have ZMx : Hid (_ = false) := ZM.out
          clear ZM
          have ZM : Hid _ := ZMx
          clear ZMx
          go_enter Try.func4, Try.ntmps4
          go_wp2_with fail
          refine (picked a0 x EX.out _).mono ?_
          rintro e w' ⟨rfl, rfl⟩
          go_wp2_with fail
          refine (picked a1 y EY.out _).mono ?_
          rintro e w' ⟨rfl, rfl⟩
          go_wp2_with fail
          refine (picked a2 z EZ.out _).mono ?_
          rintro e w' ⟨rfl, rfl⟩
          go_wp2_with fail
          refine (join_is x y j hx hy EJ.out _).mono ?_
          rintro e w' ⟨rfl, rfl⟩
          go_wp2_with fail
          refine (meet_is x y m hx hy EM.out _).mono ?_
          rintro e w' ⟨rfl, rfl⟩
          go_wp2_with fail
          refine (may_yes j hj _).mono ?_
          rintro e w' ⟨rfl, rfl⟩
          go_wp2_with fail
          refine (may_yes m hm _).mono ?_
          rintro e w' ⟨rfl, rfl⟩
          go_wp2_with fail
          refine (fl x j hx hj _).mono ?_
          rintro e w' ⟨rfl, rfl⟩
          rw [XJ.out]
          go_wp2_with fail
          refine (fl y j hy hj _).mono ?_
          rintro e w' ⟨rfl, rfl⟩
          rw [YJ.out]
          go_wp2_with fail
          refine (fl m x hm hx _).mono ?_
          rintro e w' ⟨rfl, rfl⟩
          rw [MX.out]
          go_wp2_with fail
          refine (fl m y hm hy _).mono ?_
          rintro e w' ⟨rfl, rfl⟩
          rw [MY.out]
          go_wp2_with fail
          refine (fl x z hx hz _).mono ?_
          rintro e w' ⟨rfl, rfl⟩
          rw [XZ.out]
          go_wp2_with fail
          refine (fl y z hy hz _).mono ?_
          rintro e w' ⟨rfl, rfl⟩
          rw [YZ.out]
          go_wp2_with fail
          refine (fl j z hj hz _).mono ?_
          rintro e w' ⟨rfl, rfl⟩
          rw [JZ.out]
          go_wp2_with fail
          refine (fl z x hz hx _).mono ?_
          rintro e w' ⟨rfl, rfl⟩
          rw [ZX.out]
          go_wp2_with fail
          refine (fl z y hz hy _).mono ?_
          rintro e w' ⟨rfl, rfl⟩
          rw [ZY.out]
          go_wp2_with fail
          refine (fl z m hz hm _).mono ?_
          rintro e w' ⟨rfl, rfl⟩
          rw [ZM.out]
          go_wp2
          go_ret
          exact ⟨by simp, Grown.refl _⟩
        · have ZY : Hid _ := hZY
          rw [hZY] at ZM
          clear hZY
          have ZMx : Hid (_ = true) := ZM.out
          clear ZM
          have ZM : Hid _ := ZMx
          clear ZMx
          go_enter Try.func4, Try.ntmps4
          go_wp2_with fail
          refine (picked a0 x EX.out _).mono ?_
          rintro e w' ⟨rfl, rfl⟩
          go_wp2_with fail
          refine (picked a1 y EY.out _).mono ?_
          rintro e w' ⟨rfl, rfl⟩
          go_wp2_with fail
          refine (picked a2 z EZ.out _).mono ?_
          rintro e w' ⟨rfl, rfl⟩
          go_wp2_with fail
          refine (join_is x y j hx hy EJ.out _).mono ?_
          rintro e w' ⟨rfl, rfl⟩
          go_wp2_with fail
          refine (meet_is x y m hx hy EM.out _).mono ?_
          rintro e w' ⟨rfl, rfl⟩
          go_wp2_with fail
          refine (may_yes j hj _).mono ?_
          rintro e w' ⟨rfl, rfl⟩
          go_wp2_with fail
          refine (may_yes m hm _).mono ?_
          rintro e w' ⟨rfl, rfl⟩
          go_wp2_with fail
          refine (fl x j hx hj _).mono ?_
          rintro e w' ⟨rfl, rfl⟩
          rw [XJ.out]
          go_wp2_with fail
          refine (fl y j hy hj _).mono ?_
          rintro e w' ⟨rfl, rfl⟩
          rw [YJ.out]
          go_wp2_with fail
          refine (fl m x hm hx _).mono ?_
          rintro e w' ⟨rfl, rfl⟩
          rw [MX.out]
          go_wp2_with fail
          refine (fl m y hm hy _).mono ?_
          rintro e w' ⟨rfl, rfl⟩
          rw [MY.out]
          go_wp2_with fail
          refine (fl x z hx hz _).mono ?_
          rintro e w' ⟨rfl, rfl⟩
          rw [XZ.out]
          go_wp2_with fail
          refine (fl y z hy hz _).mono ?_
          rintro e w' ⟨rfl, rfl⟩
          rw [YZ.out]
          go_wp2_with fail
          refine (fl j z hj hz _).mono ?_
          rintro e w' ⟨rfl, rfl⟩
          rw [JZ.out]
          go_wp2_with fail
          refine (fl z x hz hx _).mono ?_
          rintro e w' ⟨rfl, rfl⟩
          rw [ZX.out]
          go_wp2_with fail
          refine (fl z y hz hy _).mono ?_
          rintro e w' ⟨rfl, rfl⟩
          rw [ZY.out]
          go_wp2_with fail
          refine (fl z m hz hm _).mono ?_
          rintro e w' ⟨rfl, rfl⟩
          rw [ZM.out]
          go_wp2
          go_ret
          exact ⟨by simp, Grown.refl _⟩
    · have YZ : Hid _ := hYZ
      rw [hYZ] at JZ
      clear hYZ
      have JZx : Hid (_ = true) := JZ.out
      clear JZ
      have JZ : Hid _ := JZx
      clear JZx
      cases hZX : Plain.flowsB z x
      · have ZX : Hid _ := hZX
        rw [hZX] at ZM
        clear hZX
        have ZMx : Hid (_ = false) := ZM.out
        clear ZM
        have ZM : Hid _ := ZMx
        clear ZMx
        go_enter Try.func4, Try.ntmps4
        go_wp2_with fail
        refine (picked a0 x EX.out _).mono ?_
        rintro e w' ⟨rfl, rfl⟩
        go_wp2_with fail
        refine (picked a1 y EY.out _).mono ?_
        rintro e w' ⟨rfl, rfl⟩
        go_wp2_with fail
        refine (picked a2 z EZ.out _).mono ?_
        rintro e w' ⟨rfl, rfl⟩
        go_wp2_with fail
        refine (join_is x y j hx hy EJ.out _).mono ?_
        rintro e w' ⟨rfl, rfl⟩
        go_wp2_with fail
        refine (meet_is x y m hx hy EM.out _).mono ?_
        rintro e w' ⟨rfl, rfl⟩
        go_wp2_with fail
        refine (may_yes j hj _).mono ?_
        rintro e w' ⟨rfl, rfl⟩
        go_wp2_with fail
        refine (may_yes m hm _).mono ?_
        rintro e w' ⟨rfl, rfl⟩
        go_wp2_with fail
        refine (fl x j hx hj _).mono ?_
        rintro e w' ⟨rfl, rfl⟩
        rw [XJ.out]
        go_wp2_with fail
        refine (fl y j hy hj _).mono ?_
        rintro e w' ⟨rfl, rfl⟩
        rw [YJ.out]
        go_wp2_with fail
        refine (fl m x hm hx _).mono ?_
        rintro e w' ⟨rfl, rfl⟩
        rw [MX.out]
        go_wp2_with fail
        refine (fl m y hm hy _).mono ?_
        rintro e w' ⟨rfl, rfl⟩
        rw [MY.out]
        go_wp2_with fail
        refine (fl x z hx hz _).mono ?_
        rintro e w' ⟨rfl, rfl⟩
        rw [XZ.out]
        go_wp2_with fail
        refine (fl y z hy hz _).mono ?_
        rintro e w' ⟨rfl, rfl⟩
        rw [YZ.out]
        go_wp2_with fail
        refine (fl j z hj hz _).mono ?_
        rintro e w' ⟨rfl, rfl⟩
        rw [JZ.out]
        go_wp2_with fail
        refine (fl z x hz hx _).mono ?_
        rintro e w' ⟨rfl, rfl⟩
        rw [ZX.out]
        go_wp2_with fail
        refine (fl z m hz hm _).mono ?_
        rintro e w' ⟨rfl, rfl⟩
        rw [ZM.out]
        go_wp2
        go_ret
        exact ⟨by simp, Grown.refl _⟩
      · have ZX : Hid _ := hZX
        rw [hZX] at ZM
        clear hZX
        cases hZY : Plain.flowsB z y
        · have ZY : Hid _ := hZY
          rw [hZY] at ZM
          clear hZY
          have ZMx : Hid (_ = false) := ZM.out
          clear ZM
          have ZM : Hid _ := ZMx
          clear ZMx
          go_enter Try.func4, Try.ntmps4
          go_wp2_with fail
          refine (picked a0 x EX.out _).mono ?_
          rintro e w' ⟨rfl, rfl⟩
          go_wp2_with fail
          refine (picked a1 y EY.out _).mono ?_
          rintro e w' ⟨rfl, rfl⟩
          go_wp2_with fail
          refine (picked a2 z EZ.out _).mono ?_
          rintro e w' ⟨rfl, rfl⟩
          go_wp2_with fail
          refine (join_is x y j hx hy EJ.out _).mono ?_
          rintro e w' ⟨rfl, rfl⟩
          go_wp2_with fail
          refine (meet_is x y m hx hy EM.out _).mono ?_
          rintro e w' ⟨rfl, rfl⟩
          go_wp2_with fail
          refine (may_yes j hj _).mono ?_
          rintro e w' ⟨rfl, rfl⟩
          go_wp2_with fail
          refine (may_yes m hm _).mono ?_
          rintro e w' ⟨rfl, rfl⟩
          go_wp2_with fail
          refine (fl x j hx hj _).mono ?_
          rintro e w' ⟨rfl, rfl⟩
          rw [XJ.out]
          go_wp2_with fail
          refine (fl y j hy hj _).mono ?_
          rintro e w' ⟨rfl, rfl⟩
          rw [YJ.out]
          go_wp2_with fail
          refine (fl m x hm hx _).mono ?_
          rintro e w' ⟨rfl, rfl⟩
          rw [MX.out]
          go_wp2_with fail
          refine (fl m y hm hy _).mono ?_
          rintro e w' ⟨rfl, rfl⟩
          rw [MY.out]
          go_wp2_with fail
          refine (fl x z hx hz _).mono ?_
          rintro e w' ⟨rfl, rfl⟩
          rw [XZ.out]
          go_wp2_with fail
          refine (fl y z hy hz _).mono ?_
          rintro e w' ⟨rfl, rfl⟩
          rw [YZ.out]
          go_wp2_with fail
          refine (fl j z hj hz _).mono ?_
          rintro e w' ⟨rfl, rfl⟩
          rw [JZ.out]
          go_wp2_with fail
          refine (fl z x hz hx _).mono ?_
          rintro e w' ⟨rfl, rfl⟩
          rw [ZX.out]
          go_wp2_with fail
          refine (fl z y hz hy _).mono ?_
          rintro e w' ⟨rfl, rfl⟩
          rw [ZY.out]
          go_wp2_with fail
          refine (fl z m hz hm _).mono ?_
          rintro e w' ⟨rfl, rfl⟩
          rw [ZM.out]
          go_wp2
          go_ret
          exact ⟨by simp, Grown.refl _⟩
        · have ZY : Hid _ := hZY
          rw [hZY] at ZM
          clear hZY
          have ZMx : Hid (_ = true) := ZM.out
          clear ZM
          have ZM : Hid _ := ZMx
          clear ZMx
          go_enter Try.func4, Try.ntmps4
          go_wp2_with fail
          refine (picked a0 x EX.out _).mono ?_
          rintro e w' ⟨rfl, rfl⟩
          go_wp2_with fail
          refine (picked a1 y EY.out _).mono ?_
          rintro e w' ⟨rfl, rfl⟩
          go_wp2_with fail
          refine (picked a2 z EZ.out _).mono ?_
          rintro e w' ⟨rfl, rfl⟩
          go_wp2_with fail
          refine (join_is x y j hx hy EJ.out _).mono ?_
          rintro e w' ⟨rfl, rfl⟩
          go_wp2_with fail
          refine (meet_is x y m hx hy EM.out _).mono ?_
          rintro e w' ⟨rfl, rfl⟩
          go_wp2_with fail
          refine (may_yes j hj _).mono ?_
          rintro e w' ⟨rfl, rfl⟩
          go_wp2_with fail
          refine (may_yes m hm _).mono ?_
          rintro e w' ⟨rfl, rfl⟩
          go_wp2_with fail
          refine (fl x j hx hj _).mono ?_
          rintro e w' ⟨rfl, rfl⟩
          rw [XJ.out]
          go_wp2_with fail
          refine (fl y j hy hj _).mono ?_
          rintro e w' ⟨rfl, rfl⟩
          rw [YJ.out]
          go_wp2_with fail
          refine (fl m x hm hx _).mono ?_
          rintro e w' ⟨rfl, rfl⟩
          rw [MX.out]
          go_wp2_with fail
          refine (fl m y hm hy _).mono ?_
          rintro e w' ⟨rfl, rfl⟩
          rw [MY.out]
          go_wp2_with fail
          refine (fl x z hx hz _).mono ?_
          rintro e w' ⟨rfl, rfl⟩
          rw [XZ.out]
          go_wp2_with fail
          refine (fl y z hy hz _).mono ?_
          rintro e w' ⟨rfl, rfl⟩
          rw [YZ.out]
          go_wp2_with fail
          refine (fl j z hj hz _).mono ?_
          rintro e w' ⟨rfl, rfl⟩
          rw [JZ.out]
          go_wp2_with fail
          refine (fl z x hz hx _).mono ?_
          rintro e w' ⟨rfl, rfl⟩
          rw [ZX.out]
          go_wp2_with fail
          refine (fl z y hz hy _).mono ?_
          rintro e w' ⟨rfl, rfl⟩
          rw [ZY.out]
          go_wp2_with fail
          refine (fl z m hz hm _).mono ?_
          rintro e w' ⟨rfl, rfl⟩
          rw [ZM.out]
          go_wp2
          go_ret
          exact ⟨by simp, Grown.refl _⟩

set_option maxRecDepth 100000 in
theorem lifted (os : Os) (started : os.Started) (H : Type) (enc : TypeId × Value → H) :
    ReturnsInHanded {} Try.checked os 4 .any (Rows.joinLeastSpec.pre6 enc Try.prog Try.f4 Rows.joinLeastRow.domain false) (Rows.joinLeastSpec.post enc Try.prog Try.f4 false true false false) := by
  refine returnsInHanded_of_change (C := Try.checked) own started (by kernel_rfl) Try.func4
    (ChangeSpec.witness6 (enc := enc) (C := Try.checked) false ⟨#[], #[.int .i64 0, .int .i64 0, .int .i64 0], []⟩ 8 (by kernel_rfl) (by kernel_rfl) (by kernel_rfl) (by kernel_rfl)) ?_
  intro W base args ds gs before hval0 hW hcnd _
  have hval : ∀ (j : Nat) t v, Try.f4.params[j]? = some t → args[j]? = some v → Value.okWide Try.prog W .any base t v := hval0
  have hW' := hW
  obtain ⟨p, q, hA0, hV, rfl, hfz, hnd⟩ := hW
  have hA : DataW.TrodAll enc Try.prog W 0 (fun _ => true) true Try.f4.params.toList args.toList ds p := hA0
  rw [Try.params4] at hA hval
  obtain ⟨v0, vs0, d0, ds0, p0, q0, hargs, rfl, rfl, h0, r0⟩ := trodAll_cons hA
  obtain ⟨v1, vs1, d1, ds1, p1, q1, rfl, rfl, rfl, h1, r1⟩ := trodAll_cons r0
  obtain ⟨v2, vs2, d2, ds2, p2, q2, rfl, rfl, rfl, h2, r2⟩ := trodAll_cons r1
  obtain ⟨rfl, rfl, rfl⟩ := trodAll_nil r2
  obtain rfl : args = #[v0, v1, v2] := by cases args; simp_all
  obtain ⟨rfl, rfl⟩ := trodVars_none hV
  obtain ⟨a0, rfl, rfl, rfl, w0⟩ := open_int Try.underlying3 (hval 0 3 v0 rfl rfl) h0
  obtain ⟨a1, rfl, rfl, rfl, w1⟩ := open_int Try.underlying3 (hval 1 3 v1 rfl rfl) h1
  obtain ⟨a2, rfl, rfl, rfl, w2⟩ := open_int Try.underlying3 (hval 2 3 v2 rfl rfl) h2
  clear hA0 hval0
  simp only [List.append_nil] at hW'
  refine (walk a0 a1 a2 w0 w1 w2 W).mono fun e W' ⟨he, hg⟩ => ?_
  subst he
  exact ⟨_, rfl, post_of_same (pa := []) (pv := []) hW' (fun _ _ _ => (trodAll_cons_mk (shut_bool Try.underlying4 _) trodAll_mk0)) (fun sp _ => (trodAll_cons_mk (shut_int Try.underlying3 w0) (trodAll_cons_mk (shut_int Try.underlying3 w1) (trodAll_cons_mk (shut_int Try.underlying3 w2) trodAll_mk0)))) (fun _ _ => rfl) rfl
    (hg.frame _) hg.2.1 (ok_one (by kernel_rfl) rfl (okWide_bool_mk Try.underlying4 _))⟩

theorem over : Rows.joinLeastRow.holds Try.pinned (OpenSpec.ofChange Rows.joinLeastSpec) :=
  OpenClaim.holds_of_wide 4 Try.f4 rfl rfl rfl rfl rfl rfl rfl ⟨rfl, rfl, rfl, rfl, rfl⟩ rfl rfl rfl rfl rfl (by kernel_rfl) Try.func4 (by kernel_rfl)
    (of_decide_eq_true (by kernel_rfl)) (by unfold Func.isWrapper; first | (rw [if_pos (by decide +kernel)]; kernel_rfl) | (rw [if_neg (by decide +kernel)]; exact ⟨rfl, rfl⟩))
    (fun os started H enc _ => lifted os started H enc)

end joinLeast

theorem joinLeast_holds : Rows.JoinLeastSaid := joinLeast.over
#print axioms joinLeast_holds
end Go.Proofs.Ytnmggnlndndbgab

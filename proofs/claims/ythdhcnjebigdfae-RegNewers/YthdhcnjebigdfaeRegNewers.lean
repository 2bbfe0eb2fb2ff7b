/- Proved: at every two entries the law RegNewers returns true: reg.Newer answers what the document's P4.2 says. Conditions: none. -/
import Derived.Test.YthdhcnjebigdfaeRows
import Derived.WalkKit
import Derived.ProofKit
import Derived.OpenShut
import Derived.WalkSmall
import Derived.ShutString
import Derived.ChangeOld
import Derived.Below
import Derived.Test.YthdhcnjebigdfaeRng
import Derived.Test.YthdhcnjebigdfaeEno
namespace Go.Proofs.Ythdhcnjebigdfae
namespace regNewers
open Go.ChangeShapes Go.WideShapes Go.ChangeAt Go.RowKit
set_option linter.unusedVariables false

theorem own : ownKnob Try.prog.godebug = none := by kernel_rfl
theorem laidOut : laidOutB Try.prog = true := by kernel_rfl

set_option maxHeartbeats 4000000 in
set_option maxRecDepth 100000 in
theorem walk (w : World) (a0 : Plain.En) (w0 : InE a0) (a1 : Plain.En) (w1 : InE a1) :
    Calls Try.prog 6 #[aggE a0, aggE a1] w fun e w' => e = .returned (.bool true) ∧ Below w.heap.size w w' := by
  clear w0 w1
  have KA := fun W => newer_g a0 a1 W
  have KB := fun W => rnewer_g a0 a1 W
  have HA := hid (box_cellN w a0)
  have HB := hid (box_cellN (w.alloc (boxE a0)) a1)
  go_enter Try.func6, Try.ntmps6
  go_wp2_with fail
  obtain ⟨W, hW⟩ : ∃ W, W = (w.alloc (boxE a0)).alloc (boxE a1) := ⟨_, rfl⟩
  rw [← hW]
  have c1 := fun n os => ((HA.out.below (w' := W) (B := w.heap.size + 1) (by rw [hW]; exact (Below.refl _ _).alloc (by simp) _) (by omega)).grown n os)
  have c2 := fun n os => ((show CellN W (w.heap.size + 1) 0 a1 by rw [hW]; simpa using HB.out).grown n os)
  have BW := hid (show Below w.heap.size w W by rw [hW]; exact ((Below.refl _ _).alloc (by simp) _).alloc (by simp) _)
  clear hW HA HB
  have x0 := fun n os => (c1 n os).c0
  have x1 := fun n os => (c1 n os).c1
  have x2 := fun n os => (c1 n os).c2
  have x3 := fun n os => (c1 n os).c3
  have x4 := fun n os => (c1 n os).c4
  have y0 := fun n os => (c2 n os).c0
  have y1 := fun n os => (c2 n os).c1
  have y2 := fun n os => (c2 n os).c2
  have y3 := fun n os => (c2 n os).c3
  have y4 := fun n os => (c2 n os).c4
  clear c1 c2
  generalize Plain.newer a0 a1 = r at KA KB
  simp only [Nat.zero_add] at x1 x2 x3 x4 y1 y2 y3 y4
  have mixed : Try.prog.follows .mixedOrders = true := by kernel_rfl
  go_quiet_grown (first | (go_at_call 15; exact Calls.grown_of (KA _)) | (go_at_call 16; exact Calls.grown_of (KB _)))
  have B2 := hid (below_grow BW.out BW.out.size nq osq)
  clear x0 x1 x2 x3 x4 y0 y1 y2 y3 y4
  cases r
  all_goals
    go_wp2
    go_ret
    exact ⟨rfl, B2.out⟩

set_option maxRecDepth 100000 in
theorem lifted (os : Os) (started : os.Started) (H : Type) (enc : TypeId × Value → H) :
    ReturnsInHanded {} Try.checked os 6 .any (Rows.regNewersSpec.pre6 enc Try.prog Try.f6 Rows.regNewersRow.domain false) (Rows.regNewersSpec.post enc Try.prog Try.f6 false true false false) := by
  refine returnsInHanded_of_change (C := Try.checked) own started (by kernel_rfl) Try.func6
    (ChangeSpec.witness6 (enc := enc) (C := Try.checked) false ⟨#[], #[.agg #[.int .i64 0, .int .i64 0, .int .i64 0, .int .i64 0, .bool false], .agg #[.int .i64 0, .int .i64 0, .int .i64 0, .int .i64 0, .bool false]], []⟩ 8 (by kernel_rfl) (by kernel_rfl) (by kernel_rfl) (by kernel_rfl)) ?_
  intro W base args ds gs before hval0 hW hcnd _
  have hval : ∀ (j : Nat) t v, Try.f6.params[j]? = some t → args[j]? = some v → Value.okWide Try.prog W .any base t v := hval0
  have hW' := hW
  obtain ⟨p, q, hA0, hV, rfl, hfz, hnd⟩ := hW
  have hA : DataW.TrodAll enc Try.prog W 0 (fun _ => true) true Try.f6.params.toList args.toList ds p := hA0
  rw [Try.params6] at hA hval
  obtain ⟨v0, vs0, d0, ds0, p0, q0, hargs, rfl, rfl, h0, r0⟩ := trodAll_cons hA
  obtain ⟨v1, vs1, d1, ds1, p1, q1, rfl, rfl, rfl, h1, r1⟩ := trodAll_cons r0
  obtain ⟨rfl, rfl, rfl⟩ := trodAll_nil r1
  obtain rfl : args = #[v0, v1] := by cases args; simp_all
  obtain ⟨rfl, rfl⟩ := trodVars_none hV
  have k0 := h0
  have lt0 : ∀ x ∈ p0, x.block < W.heap.size := by obtain ⟨m, hm⟩ := k0; exact DataW.trod_lt m _ _ _ hm
  obtain ⟨a0, rfl, w0⟩ := en_open Try.underlying40 (by kernel_rfl) ⟨rfl, by intro j f hj; rcases j with _ | _ | _ | _ | _ | j <;> simp at hj <;> subst hj <;> first | exact ⟨rfl, by kernel_rfl, Try.underlying3⟩ | exact ⟨rfl, by kernel_rfl, Try.underlying4⟩⟩ (hval 0 40 v0 rfl rfl) h0
  have k1 := h1
  have lt1 : ∀ x ∈ p1, x.block < W.heap.size := by obtain ⟨m, hm⟩ := k1; exact DataW.trod_lt m _ _ _ hm
  obtain ⟨a1, rfl, w1⟩ := en_open Try.underlying40 (by kernel_rfl) ⟨rfl, by intro j f hj; rcases j with _ | _ | _ | _ | _ | j <;> simp at hj <;> subst hj <;> first | exact ⟨rfl, by kernel_rfl, Try.underlying3⟩ | exact ⟨rfl, by kernel_rfl, Try.underlying4⟩⟩ (hval 1 40 v1 rfl rfl) h1
  clear hA0 hval0
  refine (walk W a0 w0 a1 w1).mono fun e W' ⟨he, bel⟩ => ?_
  subst he
  exact ⟨_, rfl, _, _, _, [], _, [], hW', trodAll_mk1 (shut_bool Try.underlying4 _), (trodAll_cons_mk (Below.trod laidOut (by kernel_rfl) (of_decide_eq_true (by kernel_rfl)) k0 bel lt0) (trodAll_cons_mk (Below.trod laidOut (by kernel_rfl) (of_decide_eq_true (by kernel_rfl)) k1 bel lt1) trodAll_mk0)), rfl, bel.frame _, fun h => by cases h⟩

theorem over : Rows.regNewersRow.holds Try.pinned (OpenSpec.ofChange Rows.regNewersSpec) :=
  OpenClaim.holds_of_wide 6 Try.f6 rfl rfl rfl rfl rfl rfl rfl ⟨rfl, rfl, rfl, rfl, rfl⟩ rfl rfl rfl rfl rfl (by kernel_rfl) Try.func6 (by kernel_rfl)
    (of_decide_eq_true (by kernel_rfl)) (by unfold Func.isWrapper; first | (rw [if_pos (by decide +kernel)]; kernel_rfl) | (rw [if_neg (by decide +kernel)]; exact ⟨rfl, rfl⟩))
    (fun os started H enc _ => lifted os started H enc)

end regNewers

theorem regNewers_holds : Rows.RegNewersSaid := regNewers.over
#print axioms regNewers_holds
end Go.Proofs.Ythdhcnjebigdfae

/- Proved: for every tally the law TallyMays returns true: tally.May answers what promise P5.1 says. Conditions: none. -/
import Derived.Test.YtcdlgpickjiikafRows
import Derived.WalkKit
import Derived.ProofKit
import Derived.OpenShut
import Derived.WalkSmall
import Derived.ShutString
import Derived.ChangeOld
import Derived.Below
import Derived.Test.YtcdlgpickjiikafTg
import Derived.Test.YtcdlgpickjiikafTo
namespace Go.Proofs.Ytcdlgpickjiikaf
namespace tallyMays
open Go.ChangeShapes Go.WideShapes Go.ChangeAt Go.RowKit
set_option linter.unusedVariables false

theorem own : ownKnob Try.prog.godebug = none := by kernel_rfl
theorem laidOut : laidOutB Try.prog = true := by kernel_rfl

set_option maxHeartbeats 4000000 in
set_option maxRecDepth 100000 in
theorem walk (w : World) (m0 u0 : Value) (t0 : Plain.Ta) (s0 : HasT w m0 u0 t0) :
    Calls Try.prog 6 #[.agg #[m0, u0]] w fun e w' => e = .returned (.bool true) ∧ Below w.heap.size w w' := by
  have S0 := hid s0
  have BX := hid (box_cells w m0 u0)
  clear s0
  go_enter Try.func6, Try.ntmps6
  go_wp2_with fail
  obtain ⟨W, hW⟩ : ∃ W, W = w.alloc (boxT m0 u0) := ⟨_, rfl⟩
  rw [← hW]
  have BW := hid (show Below w.heap.size w W by rw [hW]; exact (Below.refl _ _).alloc (Nat.le_refl _) _)
  have KA := fun n os => may_g m0 u0 t0 (Sort.grow (W.drewN n) os) ((S0.out.grow BW.out).grown n os)
  have KB := fun n os => rmay_g m0 u0 t0 (Sort.grow (W.drewN n) os) ((S0.out.grow BW.out).grown n os)
  have b0 := BX.out
  rw [← hW] at b0
  have hlt : w.heap.size < W.heap.size := by rw [hW]; simp
  have x0 := fun n os => cell_grown (a := ⟨w.heap.size, 0, none⟩) hlt b0.1 n os
  have x1 := fun n os => cell_grown (a := ⟨w.heap.size, 1, none⟩) hlt b0.2 n os
  clear hW b0 hlt BX
  generalize Plain.mayT t0 = r at KA KB
  have mixed : Try.prog.follows .mixedOrders = true := by kernel_rfl
  go_quiet_grown (first | (go_at_call 16; exact Calls.grown_of (KA _ _)) | (go_at_call 17; exact Calls.grown_of (KB _ _)))
  have B2 := hid (below_grow BW.out BW.out.size nq osq)
  clear x0 x1 KA KB
  cases r
  all_goals
    go_wp2
    go_ret
    exact ⟨rfl, B2.out⟩

set_option maxRecDepth 100000 in
theorem lifted (os : Os) (started : os.Started) (H : Type) (enc : TypeId × Value → H) :
    ReturnsInHanded {} Try.checked os 6 .any (Rows.tallyMaysSpec.pre6 enc Try.prog Try.f6 Rows.tallyMaysRow.domain false) (Rows.tallyMaysSpec.post enc Try.prog Try.f6 false true false false) := by
  refine returnsInHanded_of_change (C := Try.checked) own started (by kernel_rfl) Try.func6
    (ChangeSpec.witness6 (enc := enc) (C := Try.checked) false ⟨#[], #[.agg #[.slice none 0 0, .slice none 0 0]], []⟩ 8 (by kernel_rfl) (by kernel_rfl) (by kernel_rfl) (by kernel_rfl)) ?_
  intro W base args ds gs before hval0 hW hcnd _
  have hval : ∀ (j : Nat) t v, Try.f6.params[j]? = some t → args[j]? = some v → Value.okWide Try.prog W .any base t v := hval0
  have hW' := hW
  obtain ⟨p, q, hA0, hV, rfl, hfz, hnd⟩ := hW
  have hA : DataW.TrodAll enc Try.prog W 0 (fun _ => true) true Try.f6.params.toList args.toList ds p := hA0
  rw [Try.params6] at hA hval
  obtain ⟨v0, vs0, d0, ds0, p0, q0, hargs, rfl, rfl, h0, r0⟩ := trodAll_cons hA
  obtain ⟨rfl, rfl, rfl⟩ := trodAll_nil r0
  obtain rfl : args = #[v0] := by cases args; simp_all
  obtain ⟨rfl, rfl⟩ := trodVars_none hV
  have k0 := h0
  have lt0 : ∀ x ∈ p0, x.block < W.heap.size := by obtain ⟨m, hm⟩ := k0; exact DataW.trod_lt m _ _ _ hm
  obtain ⟨m0, u0, t0, rfl, s0⟩ := ta_open Try.underlying41 (by kernel_rfl) rfl rfl rfl rfl Try.underlying38 (by kernel_rfl) Try.underlying39 Try.underlying3 (by kernel_rfl) (by kernel_rfl) (hval 0 41 v0 rfl rfl) h0
  clear hA0 hval0
  refine (walk W m0 u0 t0 s0).mono fun e W' ⟨he, bel⟩ => ?_
  subst he
  exact ⟨_, rfl, _, _, _, [], _, [], hW', trodAll_mk1 (shut_bool Try.underlying4 _), (trodAll_cons_mk (Below.trod laidOut (by kernel_rfl) (of_decide_eq_true (by kernel_rfl)) k0 bel lt0) trodAll_mk0), rfl, bel.frame _, fun h => by cases h⟩

theorem over : Rows.tallyMaysRow.holds Try.pinned (OpenSpec.ofChange Rows.tallyMaysSpec) :=
  OpenClaim.holds_of_wide 6 Try.f6 rfl rfl rfl rfl rfl rfl rfl ⟨rfl, rfl, rfl, rfl, rfl⟩ rfl rfl rfl rfl rfl (by kernel_rfl) Try.func6 (by kernel_rfl)
    (of_decide_eq_true (by kernel_rfl)) (by unfold Func.isWrapper; first | (rw [if_pos (by decide +kernel)]; kernel_rfl) | (rw [if_neg (by decide +kernel)]; exact ⟨rfl, rfl⟩))
    (fun os started H enc _ => lifted os started H enc)

end tallyMays

theorem tallyMays_holds : Rows.TallyMaysSaid := tallyMays.over
#print axioms tallyMays_holds
end Go.Proofs.Ytcdlgpickjiikaf

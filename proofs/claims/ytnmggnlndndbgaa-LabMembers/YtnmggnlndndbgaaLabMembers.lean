/- Proved: for every 64-bit integer the law LabMembers returns true: lab.Members answers what promise P1.3 says (the branches of a label, ascending; ErrRange where the number is no label). Conditions: none. -/
import Derived.Test.YtnmggnlndndbgaaRows
import Derived.WalkKit
import Derived.ProofKit
import Derived.OpenShut
import Derived.WalkSmall
import Derived.Test.YtnmggnlndndbgaaPlain
import Derived.Test.YtnmggnlndndbgaaCalls
import Derived.Test.YtnmggnlndndbgaaMem
import Derived.Test.YtnmggnlndndbgaaSame
import Derived.ShutString
namespace Go.Proofs.Ytnmggnlndndbgaa
namespace labMembers
open Go.ChangeShapes Go.WideShapes Go.ChangeAt Go.RowKit
open Go.ChangeMaps (open_string shut_string)
set_option linter.unusedVariables false      -- a walk need not use every 'w<i>' (that an integer argument fits its kind)

theorem own : ownKnob Try.prog.godebug = none := by kernel_rfl

theorem walk (a0 : Int) (w0 : (Lit.int .i64 a0).wf = true) (w : World) :
    Calls Try.prog 7 #[.int .i64 a0] w fun e w' => e = .returned (.bool true) ∧ Below w.heap.size w w' := by
  have hb0 := bounds_i64 w0
  clear w0
  by_cases h : 0 ≤ a0 ∧ a0 ≤ 255
  · obtain ⟨n, rfl⟩ := Int.eq_ofNat_of_zero_le h.1
    have hn : n < 256 := by omega
    clear h hb0
    have hlen : ((Plain.mem n 8).map (fun j : Nat => (j : Int))).length ≤ 1000000 := by
      have := Plain.mem_le n 8
      rw [List.length_map]; omega
    have HL : Hid _ := hlen
    clear hlen
    go_enter Try.func7, Try.ntmps7
    go_wp2_with fail
    refine (members_yes n hn _).mono ?_
    rintro e w1 ⟨v1, rfl, own1, bel1⟩
    have OWN1 : Hid _ := own1
    have BEL1 : Hid _ := bel1
    clear own1 bel1
    go_wp2_with fail
    refine (refMembers_yes n hn _).mono ?_
    rintro e w2 ⟨v2, rfl, own2, bel2⟩
    have OWN2 : Hid _ := own2
    have BEL2 : Hid _ := bel2
    clear own2 bel2
    go_wp2_with fail
    refine (same_any v1 v2 ((Plain.mem n 8).map (fun j : Nat => (j : Int))) HL.out _ ?_ ?_).mono ?_
    · exact (seg_of_owns OWN1.out (by simp) (by simp)).below BEL2.out (fun k hk => (World.ownsRow.lt OWN1.out k hk).2)
    · exact seg_of_owns OWN2.out (by simp) (by simp)
    rintro e w' ⟨rfl, q, rfl⟩
    go_wp2
    go_ret
    exact ⟨rfl, below_drewN (Below.trans BEL1.out (Below.mono BEL2.out (Below.size BEL1.out))) q⟩
  · obtain ⟨l0, u0⟩ := hb0
    have H : Hid _ := h
    clear h
    go_enter Try.func7, Try.ntmps7
    go_wp2_with fail
    refine (members_no a0 l0 u0 H.out _).mono ?_
    rintro e w' ⟨rfl, rfl⟩
    go_wp2_with fail
    refine (refMembers_no a0 H.out _).mono ?_
    rintro e w' ⟨rfl, rfl⟩
    go_wp2_with fail
    refine (same_nil none none 0 0 _).mono ?_
    rintro e w' ⟨rfl, q, rfl⟩
    go_wp2
    go_ret
    exact ⟨rfl, below_drewN (Below.refl _ _) q⟩

set_option maxRecDepth 100000 in
theorem lifted (os : Os) (started : os.Started) (H : Type) (enc : TypeId × Value → H) :
    ReturnsInHanded {} Try.checked os 7 .any (Rows.labMembersSpec.pre6 enc Try.prog Try.f7 Rows.labMembersRow.domain false) (Rows.labMembersSpec.post enc Try.prog Try.f7 false true false false) := by
  refine returnsInHanded_of_change (C := Try.checked) own started (by kernel_rfl) Try.func7
    (ChangeSpec.witness6 (enc := enc) (C := Try.checked) false ⟨#[], #[.int .i64 0], []⟩ 8 (by kernel_rfl) (by kernel_rfl) (by kernel_rfl) (by kernel_rfl)) ?_
  intro W base args ds gs before hval0 hW hcnd _
  have hval : ∀ (j : Nat) t v, Try.f7.params[j]? = some t → args[j]? = some v → Value.okWide Try.prog W .any base t v := hval0
  have hW' := hW
  obtain ⟨p, q, hA0, hV, rfl, hfz, hnd⟩ := hW
  have hA : DataW.TrodAll enc Try.prog W 0 (fun _ => true) true Try.f7.params.toList args.toList ds p := hA0
  rw [Try.params7] at hA hval
  obtain ⟨v0, vs0, d0, ds0, p0, q0, hargs, rfl, rfl, h0, r0⟩ := trodAll_cons hA
  obtain ⟨rfl, rfl, rfl⟩ := trodAll_nil r0
  obtain rfl : args = #[v0] := by cases args; simp_all
  obtain ⟨rfl, rfl⟩ := trodVars_none hV
  obtain ⟨a0, rfl, rfl, rfl, w0⟩ := open_int Try.underlying3 (hval 0 3 v0 rfl rfl) h0
  clear hA0 hval0
  refine (walk a0 w0 W).mono fun e W' ⟨he, bel⟩ => ?_
  subst he
  exact ⟨_, rfl, _, _, _, [], _, [], hW', trodAll_mk1 (shut_bool Try.underlying4 _), (trodAll_cons_mk (shut_int Try.underlying3 w0) trodAll_mk0), rfl, bel.frame _, fun h => by cases h⟩

theorem over : Rows.labMembersRow.holds Try.pinned (OpenSpec.ofChange Rows.labMembersSpec) :=
  OpenClaim.holds_of_wide 7 Try.f7 rfl rfl rfl rfl rfl rfl rfl ⟨rfl, rfl, rfl, rfl, rfl⟩ rfl rfl rfl rfl rfl (by kernel_rfl) Try.func7 (by kernel_rfl)
    (of_decide_eq_true (by kernel_rfl)) (by unfold Func.isWrapper; first | (rw [if_pos (by decide +kernel)]; kernel_rfl) | (rw [if_neg (by decide +kernel)]; exact ⟨rfl, rfl⟩))
    (fun os started H enc _ => lifted os started H enc)

end labMembers

theorem labMembers_holds : Rows.LabMembersSaid := labMembers.over
#print axioms labMembers_holds
end Go.Proofs.Ytnmggnlndndbgaa

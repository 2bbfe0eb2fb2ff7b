/- Proved: at every two lists of entries the law RegMerges returns true: reg.Merge answers what the document's P4.3 says. Conditions: none. -/
import Derived.Test.YthdhcnjebigdfaeRows
import Derived.WalkKit
import Derived.ProofKit
import Derived.OpenShut
import Derived.WalkSmall
import Derived.ShutString
import Derived.ChangeOld
import Derived.Below
import Derived.Test.YthdhcnjebigdfaeMg
import Derived.Test.YthdhcnjebigdfaeRg
import Derived.Test.YthdhcnjebigdfaeSel
import Derived.Test.YthdhcnjebigdfaeEno
namespace Go.Proofs.Ythdhcnjebigdfae
namespace regMerges
open Go.ChangeShapes Go.WideShapes Go.ChangeAt Go.RowKit
set_option linter.unusedVariables false

theorem own : ownKnob Try.prog.godebug = none := by kernel_rfl
theorem laidOut : laidOutB Try.prog = true := by kernel_rfl

set_option maxHeartbeats 4000000 in
set_option maxRecDepth 100000 in
theorem walk (w : World) (v0 : Value) (l0 : List Plain.En) (hm0 : l0.length ≤ 9223372036854775807) (hr0 : ∀ j, j < l0.length → InE (Plain.en l0 j)) (s0 : SegN w v0 l0) (y0 : Lies w.heap.size v0) (v1 : Value) (l1 : List Plain.En) (hm1 : l1.length ≤ 9223372036854775807) (hr1 : ∀ j, j < l1.length → InE (Plain.en l1 j)) (s1 : SegN w v1 l1) (y1 : Lies w.heap.size v1) :
    Calls Try.prog 7 #[v0, v1] w fun e w' => e = .returned (.bool true) ∧ Below w.heap.size w w' := by
  have S0 := hid s0
  have Y0 := hid y0
  have S1 := hid s1
  have Y1 := hid y1
  clear s0 y0 hr0 s1 y1 hr1
  have hlen : (Plain.mergeR l0 l1).length ≤ 1000 := by
    unfold Plain.mergeR
    split
    · rename_i h
      unfold Plain.mergeE at h
      split at h
      · split at h
        · omega
        · omega
      · omega
    · simp
  go_enter Try.func7, Try.ntmps7
  go_wp2_with fail
  refine (merge_any v0 v1 l0 l1 hm0 hm1 _ S0.out Y0.out S1.out Y1.out).mono ?_
  rintro e w1 ⟨r1, rfl, t1, z1, b1⟩
  go_wp2_with fail
  refine (rmerge_any v0 v1 l0 l1 _ (S0.out.below b1 Y0.out) (Y0.out.mono b1.size) (S1.out.below b1 Y1.out) (Y1.out.mono b1.size)).mono ?_
  rintro e w2 ⟨r2, rfl, t2, z2, b2⟩
  have T1 := hid (t1.below b2 z1)
  have T2 := hid t2
  have HL := hid hlen
  have B := hid (b1.trans (b2.mono b1.size))
  clear b1 b2 t1 t2 z1 z2 hlen
  generalize Plain.mergeE l0 l1 = r
  go_wp2_with fail
  refine (law.same_any r1 r2 _ HL.out _ T1.out T2.out).mono ?_
  rintro e w3 ⟨rfl, q, hq⟩
  have B3 := hid (show Below w.heap.size w w3 by rw [hq]; exact below_drewN B.out q)
  clear hq
  go_wp2
  go_ret
  exact ⟨rfl, B3.out⟩

set_option maxRecDepth 100000 in
theorem lifted (os : Os) (started : os.Started) (H : Type) (enc : TypeId × Value → H) :
    ReturnsInHanded {} Try.checked os 7 .any (Rows.regMergesSpec.pre6 enc Try.prog Try.f7 Rows.regMergesRow.domain false) (Rows.regMergesSpec.post enc Try.prog Try.f7 false true false false) := by
  refine returnsInHanded_of_change (C := Try.checked) own started (by kernel_rfl) Try.func7
    (ChangeSpec.witness6 (enc := enc) (C := Try.checked) false ⟨#[], #[.slice none 0 0, .slice none 0 0], []⟩ 8 (by kernel_rfl) (by kernel_rfl) (by kernel_rfl) (by kernel_rfl)) ?_
  intro W base args ds gs before hval0 hW hcnd _
  have hval : ∀ (j : Nat) t v, Try.f7.params[j]? = some t → args[j]? = some v → Value.okWide Try.prog W .any base t v := hval0
  have hW' := hW
  obtain ⟨p, q, hA0, hV, rfl, hfz, hnd⟩ := hW
  have hA : DataW.TrodAll enc Try.prog W 0 (fun _ => true) true Try.f7.params.toList args.toList ds p := hA0
  rw [Try.params7] at hA hval
  obtain ⟨v0, vs0, d0, ds0, p0, q0, hargs, rfl, rfl, h0, r0⟩ := trodAll_cons hA
  obtain ⟨v1, vs1, d1, ds1, p1, q1, rfl, rfl, rfl, h1, r1⟩ := trodAll_cons r0
  obtain ⟨rfl, rfl, rfl⟩ := trodAll_nil r1
  obtain rfl : args = #[v0, v1] := by cases args; simp_all
  obtain ⟨rfl, rfl⟩ := trodVars_none hV
  obtain ⟨a0, len0, cap0, rfl⟩ := okWide_slice Try.underlying37 (hval 0 37 v0 rfl rfl)
  have k0 := h0
  have lt0 : ∀ x ∈ p0, x.block < W.heap.size := by obtain ⟨m, hm⟩ := k0; exact DataW.trod_lt m _ _ _ hm
  obtain ⟨l0, hl0, hm0, s0, y0, hr0⟩ := ens_open Try.underlying37 Try.underlying40 (by kernel_rfl) ⟨rfl, by intro j f hj; rcases j with _ | _ | _ | _ | _ | j <;> simp at hj <;> subst hj <;> first | exact ⟨rfl, by kernel_rfl, Try.underlying3⟩ | exact ⟨rfl, by kernel_rfl, Try.underlying4⟩⟩ h0
  obtain ⟨a1, len1, cap1, rfl⟩ := okWide_slice Try.underlying37 (hval 1 37 v1 rfl rfl)
  have k1 := h1
  have lt1 : ∀ x ∈ p1, x.block < W.heap.size := by obtain ⟨m, hm⟩ := k1; exact DataW.trod_lt m _ _ _ hm
  obtain ⟨l1, hl1, hm1, s1, y1, hr1⟩ := ens_open Try.underlying37 Try.underlying40 (by kernel_rfl) ⟨rfl, by intro j f hj; rcases j with _ | _ | _ | _ | _ | j <;> simp at hj <;> subst hj <;> first | exact ⟨rfl, by kernel_rfl, Try.underlying3⟩ | exact ⟨rfl, by kernel_rfl, Try.underlying4⟩⟩ h1
  clear hA0 hval0
  refine (walk W _ l0 (by omega) hr0 s0 y0 _ l1 (by omega) hr1 s1 y1).mono fun e W' ⟨he, bel⟩ => ?_
  subst he
  exact ⟨_, rfl, _, _, _, [], _, [], hW', trodAll_mk1 (shut_bool Try.underlying4 _), (trodAll_cons_mk (Below.trod laidOut (by kernel_rfl) (of_decide_eq_true (by kernel_rfl)) k0 bel lt0) (trodAll_cons_mk (Below.trod laidOut (by kernel_rfl) (of_decide_eq_true (by kernel_rfl)) k1 bel lt1) trodAll_mk0)), rfl, bel.frame _, fun h => by cases h⟩

theorem over : Rows.regMergesRow.holds Try.pinned (OpenSpec.ofChange Rows.regMergesSpec) :=
  OpenClaim.holds_of_wide 7 Try.f7 rfl rfl rfl rfl rfl rfl rfl ⟨rfl, rfl, rfl, rfl, rfl⟩ rfl rfl rfl rfl rfl (by kernel_rfl) Try.func7 (by kernel_rfl)
    (of_decide_eq_true (by kernel_rfl)) (by unfold Func.isWrapper; first | (rw [if_pos (by decide +kernel)]; kernel_rfl) | (rw [if_neg (by decide +kernel)]; exact ⟨rfl, rfl⟩))
    (fun os started H enc _ => lifted os started H enc)

end regMerges

theorem regMerges_holds : Rows.RegMergesSaid := regMerges.over
#print axioms regMerges_holds
end Go.Proofs.Ythdhcnjebigdfae

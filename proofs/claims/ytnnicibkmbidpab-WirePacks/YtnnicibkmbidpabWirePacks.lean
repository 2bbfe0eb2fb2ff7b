/- Proved: at every list of fields the law WirePacks returns true: wire.Pack answers what promise P2.2 says. Conditions: none. -/
import Derived.Test.YtnnicibkmbidpabRows
import Derived.WalkKit
import Derived.ProofKit
import Derived.OpenShut
import Derived.WalkSmall
import Derived.ShutString
import Derived.ChangeOld
import Derived.Below
import Derived.Test.YtnnicibkmbidpabRPack
import Derived.Test.YtnnicibkmbidpabSameBl
import Derived.Test.YtnnicibkmbidpabFields
namespace Go.Proofs.Ytnnicibkmbidpab
namespace wirePacks
open Go.ChangeShapes Go.WideShapes Go.ChangeAt Go.RowKit
set_option linter.unusedVariables false

theorem own : ownKnob Try.prog.godebug = none := by kernel_rfl
theorem laidOut : laidOutB Try.prog = true := by kernel_rfl

theorem bytes_le (l : List (Int × Int)) : (Plain.packB l).length ≤ 1000000 := by
  unfold Plain.packB
  split
  · rw [Plain.bytesOf_len]; have := Plain.szN_le (l.map Prod.fst); omega
  · simp

set_option maxHeartbeats 1000000 in
theorem walk (v : Value) (l : List (Int × Int)) (hm : l.length * 16 ≤ 140737488351232) (w : World) (h : SegF w v l) (hv : Lies w.heap.size v) :
    Calls Try.prog 8 #[v] w fun e w' => e = .returned (.bool true) ∧ Below w.heap.size w w' := by
  have H := hid h
  have HV := hid hv
  have HM := hid hm
  clear h hv hm
  go_enter Try.func8, Try.ntmps8
  go_wp2_with fail
  refine (pack_any v l HM.out _ H.out HV.out).mono ?_
  rintro e w1 ⟨u1, rfl, s1, l1, b1⟩
  have S1 := hid s1
  have L1 := hid l1
  have B1 := hid b1
  clear s1 l1 b1
  go_wp2_with fail
  refine (rpack_any v l HM.out _ (SegF.below H.out B1.out HV.out) (Lies.mono HV.out (Below.size B1.out))).mono ?_
  rintro e w2 ⟨u2, rfl, s2, l2, b2⟩
  have S2 := hid s2
  have B2 := hid b2
  clear s2 l2 b2
  go_wp2_with fail
  refine (sameB_any u1 u2 _ (bytes_le l) _ (SegB.below S1.out B2.out L1.out) S2.out).mono ?_
  rintro e w3 ⟨rfl, q, rfl⟩
  generalize Plain.packE l = z at *
  go_wp2
  go_ret
  exact ⟨rfl, below_drewN (Below.trans B1.out (Below.mono B2.out (Below.size B1.out))) q⟩

set_option maxRecDepth 100000 in
theorem lifted (os : Os) (started : os.Started) (H : Type) (enc : TypeId × Value → H) :
    ReturnsInHanded {} Try.checked os 8 .any (Rows.wirePacksSpec.pre6 enc Try.prog Try.f8 Rows.wirePacksRow.domain false) (Rows.wirePacksSpec.post enc Try.prog Try.f8 false true false false) := by
  refine returnsInHanded_of_change_sized (C := Try.checked) own started (by kernel_rfl) Try.func8
    (ChangeSpec.witness6 (enc := enc) (C := Try.checked) false ⟨#[], #[.slice none 0 0], []⟩ 8 (by kernel_rfl) (by kernel_rfl) (by kernel_rfl) (by kernel_rfl)) ?_
  intro W base args ds gs before hval0 hW hcnd hsz0 _
  have hval : ∀ (j : Nat) t v, Try.f8.params[j]? = some t → args[j]? = some v → Value.okWide Try.prog W .any base t v := hval0
  have hsz : (DataW.weightsEach Try.prog (Try.f8.params.toList ++ Rows.wirePacksSpec.plain.varTypes Try.prog) (ds ++ gs)).all (· ≤ reachBytes) = true := hsz0
  have hW' := hW
  obtain ⟨p, q, hA0, hV, rfl, hfz, hnd⟩ := hW
  have hA : DataW.TrodAll enc Try.prog W 0 (fun _ => true) true Try.f8.params.toList args.toList ds p := hA0
  rw [Try.params8] at hA hval hsz
  obtain ⟨v0, vs0, d0, ds0, p0, q0, hargs, rfl, rfl, h0, r0⟩ := trodAll_cons hA
  obtain ⟨rfl, rfl, rfl⟩ := trodAll_nil r0
  obtain rfl : args = #[v0] := by cases args; simp_all
  obtain ⟨rfl, rfl⟩ := trodVars_none hV
  obtain ⟨a0, len0, cap0, rfl⟩ := okWide_slice Try.underlying34 (hval 0 34 v0 rfl rfl)
  have k0 := h0
  have lt0 : ∀ x ∈ p0, x.block < W.heap.size := by obtain ⟨m, hm⟩ := k0; exact DataW.trod_lt m _ _ _ hm
  obtain ⟨l, hl, hs, hli, hd⟩ := fields_open h0
  have hm : l.length * 16 ≤ 140737488351232 := by
    rcases hd with h | ⟨es, sp, rfl, he⟩
    · omega
    · have := sized_slice hsz (j := 0) (t := 34) (e := 46) rfl rfl Try.underlying34
      rw [Try.bytesField] at this
      simp only [reachBytes] at this
      omega
  clear hA0 hval0 hsz hsz0
  refine (walk _ l hm W hs hli).mono fun e W' ⟨he, bel⟩ => ?_
  subst he
  exact ⟨_, rfl, _, _, _, [], _, [], hW', trodAll_mk1 (shut_bool Try.underlying4 _), (trodAll_cons_mk (Below.trod laidOut (by kernel_rfl) (of_decide_eq_true (by kernel_rfl)) k0 bel lt0) trodAll_mk0), rfl, bel.frame _, fun h => by cases h⟩

theorem over : Rows.wirePacksRow.holds Try.pinned (OpenSpec.ofChange Rows.wirePacksSpec) :=
  OpenClaim.holds_of_wide 8 Try.f8 rfl rfl rfl rfl rfl rfl rfl ⟨rfl, rfl, rfl, rfl, rfl⟩ rfl rfl rfl rfl rfl (by kernel_rfl) Try.func8 (by kernel_rfl)
    (of_decide_eq_true (by kernel_rfl)) (by unfold Func.isWrapper; first | (rw [if_pos (by decide +kernel)]; kernel_rfl) | (rw [if_neg (by decide +kernel)]; exact ⟨rfl, rfl⟩))
    (fun os started H enc _ => lifted os started H enc)

end wirePacks

theorem wirePacks_holds : Rows.WirePacksSaid := wirePacks.over
#print axioms wirePacks_holds
end Go.Proofs.Ytnnicibkmbidpab

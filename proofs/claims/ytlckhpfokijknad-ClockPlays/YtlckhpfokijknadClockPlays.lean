/- Proved: for every number of sites and every list of events the law ClockPlays returns true: clock.Play answers what promise P3.2 says. Conditions: none. -/
import Derived.Test.YtlckhpfokijknadRows
import Derived.WalkKit
import Derived.ProofKit
import Derived.OpenShut
import Derived.WalkSmall
import Derived.ShutString
import Derived.ChangeOld
import Derived.Below
import Derived.Test.YtlckhpfokijknadPv
import Derived.Test.YtlckhpfokijknadEvo
namespace Go.Proofs.Ytlckhpfokijknad
namespace clockPlays
open Go.ChangeShapes Go.WideShapes Go.ChangeAt Go.RowKit
set_option linter.unusedVariables false

theorem own : ownKnob Try.prog.godebug = none := by kernel_rfl
theorem laidOut : laidOutB Try.prog = true := by kernel_rfl

set_option maxHeartbeats 4000000 in
set_option maxRecDepth 100000 in
theorem walk (w : World) (a0 : Int) (w0 : -9223372036854775808 ≤ a0 ∧ a0 ≤ 9223372036854775807) (v1 : Value) (l1 : List Plain.Ev) (hm1 : l1.length ≤ 9223372036854775807) (hr1 : ∀ j, j < l1.length → (-9223372036854775808 ≤ (Plain.ev l1 j).1 ∧ (Plain.ev l1 j).1 ≤ 9223372036854775807) ∧ (-9223372036854775808 ≤ (Plain.ev l1 j).2.1 ∧ (Plain.ev l1 j).2.1 ≤ 9223372036854775807) ∧ (-9223372036854775808 ≤ (Plain.ev l1 j).2.2 ∧ (Plain.ev l1 j).2.2 ≤ 9223372036854775807)) (s1 : SegE w v1 l1) (y1 : Lies w.heap.size v1) :
    Calls Try.prog 6 #[.int .i64 a0, v1] w fun e w' => e = .returned (.bool true) ∧ Below w.heap.size w w' := by
  have S1 := hid s1
  have Y1 := hid y1
  have HM := hid hm1
  clear s1 y1 hm1 hr1 w0
  go_enter Try.func6, Try.ntmps6
  go_wp2_with fail
  refine (play_any a0 v1 l1 HM.out _ S1.out Y1.out).mono ?_
  rintro e w1 ⟨r1, rfl, t1, b1⟩
  have T1 := hid t1
  have B1 := hid b1
  clear t1 b1
  go_wp2_with fail
  refine (rplay_any a0 v1 l1 HM.out _ (S1.out.below B1.out Y1.out) (Y1.out.mono B1.out.size)).mono ?_
  rintro e w2 ⟨r2, rfl, t2, b2⟩
  have T2 := hid t2
  have B2 := hid b2
  clear t2 b2
  go_wp2_with fail
  refine (law.table_any r1 r2 a0.toNat _ (Plain.playV_len a0 l1) Plain.playV_some _ (T1.out.below B2.out) T2.out).mono ?_
  rintro e w3 ⟨rfl, q, rfl⟩
  generalize Plain.playE a0 l1 = z at *
  go_wp2
  go_ret
  exact ⟨rfl, below_drewN (Below.trans B1.out (Below.mono B2.out (Below.size B1.out))) q⟩

set_option maxRecDepth 100000 in
theorem lifted (os : Os) (started : os.Started) (H : Type) (enc : TypeId × Value → H) :
    ReturnsInHanded {} Try.checked os 6 .any (Rows.clockPlaysSpec.pre6 enc Try.prog Try.f6 Rows.clockPlaysRow.domain false) (Rows.clockPlaysSpec.post enc Try.prog Try.f6 false true false false) := by
  refine returnsInHanded_of_change (C := Try.checked) own started (by kernel_rfl) Try.func6
    (ChangeSpec.witness6 (enc := enc) (C := Try.checked) false ⟨#[], #[.int .i64 0, .slice none 0 0], []⟩ 8 (by kernel_rfl) (by kernel_rfl) (by kernel_rfl) (by kernel_rfl)) ?_
  intro W base args ds gs before hval0 hW hcnd _
  have hval : ∀ (j : Nat) t v, Try.f6.params[j]? = some t → args[j]? = some v → Value.okWide Try.prog W .any base t v := hval0
  have hW' := hW
  obtain ⟨p, q, hA0, hV, rfl, hfz, hnd⟩ := hW
  have hA : DataW.TrodAll enc Try.prog W 0 (fun _ => true) true Try.f6.params.toList args.toList ds p := hA0
  rw [Try.params6] at hA hval
  obtain ⟨v0, vs0, d0, ds0, p0, q0, hargs, rfl, rfl, h0, r0⟩ := trodAll_cons hA
  obtain ⟨v1, vs1, d1, ds1, p1, q1, rfl, rfl, rfl, h1, r1⟩ := trodAll_cons r0
  obtain ⟨rfl, rfl, rfl⟩ := trodAll_nil r1
  obtain rfl : args = #[v0, v1] := by cases args; simp_all
  obtain ⟨rfl, rfl⟩ := trodVars_none hV
  have k0 := h0
  have lt0 : ∀ x ∈ p0, x.block < W.heap.size := by obtain ⟨m, hm⟩ := k0; exact DataW.trod_lt m _ _ _ hm
  obtain ⟨a0, rfl, _, _, w0⟩ := open_int Try.underlying3 (hval 0 3 v0 rfl rfl) h0
  obtain ⟨a1, len1, cap1, rfl⟩ := okWide_slice Try.underlying30 (hval 1 30 v1 rfl rfl)
  have k1 := h1
  have lt1 : ∀ x ∈ p1, x.block < W.heap.size := by obtain ⟨m, hm⟩ := k1; exact DataW.trod_lt m _ _ _ hm
  obtain ⟨l1, hl1, hm1, s1, y1, hr1⟩ := trips_open Try.underlying30 Try.underlying45 (by kernel_rfl) rfl (by intro j f hj; rcases j with _ | _ | _ | j <;> simp at hj <;> subst hj <;> exact ⟨rfl, by kernel_rfl, Try.underlying3⟩) h1
  clear hA0 hval0
  refine (walk W a0 (bounds_i64 w0) _ l1 (by omega) hr1 s1 y1).mono fun e W' ⟨he, bel⟩ => ?_
  subst he
  exact ⟨_, rfl, _, _, _, [], _, [], hW', trodAll_mk1 (shut_bool Try.underlying4 _), (trodAll_cons_mk (Below.trod laidOut (by kernel_rfl) (of_decide_eq_true (by kernel_rfl)) k0 bel lt0) (trodAll_cons_mk (Below.trod laidOut (by kernel_rfl) (of_decide_eq_true (by kernel_rfl)) k1 bel lt1) trodAll_mk0)), rfl, bel.frame _, fun h => by cases h⟩

theorem over : Rows.clockPlaysRow.holds Try.pinned (OpenSpec.ofChange Rows.clockPlaysSpec) :=
  OpenClaim.holds_of_wide 6 Try.f6 rfl rfl rfl rfl rfl rfl rfl ⟨rfl, rfl, rfl, rfl, rfl⟩ rfl rfl rfl rfl rfl (by kernel_rfl) Try.func6 (by kernel_rfl)
    (of_decide_eq_true (by kernel_rfl)) (by unfold Func.isWrapper; first | (rw [if_pos (by decide +kernel)]; kernel_rfl) | (rw [if_neg (by decide +kernel)]; exact ⟨rfl, rfl⟩))
    (fun os started H enc _ => lifted os started H enc)

end clockPlays

theorem clockPlays_holds : Rows.ClockPlaysSaid := clockPlays.over
#print axioms clockPlays_holds
end Go.Proofs.Ytlckhpfokijknad

/- Proved: for every list of affairs and every first number the law TallySafe returns true: never more is used than was given, however late branches learn of each other. Conditions: none. -/
import Derived.Test.YtcdlgpickjiikagRows
import Derived.WalkKit
import Derived.ProofKit
import Derived.OpenShut
import Derived.WalkSmall
import Derived.ShutString
import Derived.ChangeOld
import Derived.Below
import Derived.Test.YtcdlgpickjiikagTkn
import Derived.Test.YtcdlgpickjiikagTsi
import Derived.Test.YtcdlgpickjiikagTlf
import Derived.Test.YtcdlgpickjiikagTo
import Derived.Deep.RegionHeld3
import Derived.Deep.Cut
import Derived.Deep.CutRange
namespace Go.Proofs.Ytcdlgpickjiikag
namespace tallySafe
open Go.ChangeShapes Go.WideShapes Go.ChangeAt Go.RowKit
set_option linter.unusedVariables false

theorem own : ownKnob Try.prog.godebug = none := by kernel_rfl
theorem laidOut : laidOutB Try.prog = true := by kernel_rfl

set_option maxHeartbeats 16000000 in
set_option maxRecDepth 100000 in
theorem walk (w : World) (v0 : Value) (l0 : List Plain.De) (s0 : SegD w v0 l0) (r0 : ∀ j, j < l0.length → InD (l0.getD j default)) (a1 : Int) (w1 : -9223372036854775808 ≤ a1 ∧ a1 ≤ 9223372036854775807) :
    Calls Try.prog 4 #[v0, .int .i64 a1] w fun e w' => e = .returned (.bool true) ∧ Below w.heap.size w w' := by
  obtain ⟨v1, v2⟩ := w1
  have K0 := known_c v0 l0 60 (by omega) a1 v1 v2 w s0 r0
  rw [show ((60 : Nat) : Int) = 60 from rfl] at K0
  have INV := hid (Plain.inv_known (1 + a1 % 50) (by omega) l0 (min l0.length 60) (by omega))
  have SQ := hid INV.out.sq
  generalize min l0.length 60 = kn at *
  generalize Plain.knownT (1 + a1 % 50) l0 kn = T at *
  clear s0 r0
  go_enter Try.func4, Try.ntmps4
  go_wp2_with fail
  refine K0.mono ?_
  rintro e W0 ⟨g, VM, VU, rfl, ki⟩
  have I0 := hid ki
  clear ki K0
  go_wp2_with fail
  refine (blank_c 3 (by omega) (by omega) _).mono ?_
  rintro e W1 ⟨x, y, rfl, hb, b1⟩
  obtain ⟨pm, nm, cm, pu, nu, cu, rfl, rfl⟩ := hb.forms
  have I1 := hid (show SI w (W1.alloc (boxT (.slice pm nm cm) (.slice pu nu cu))) g W1.heap.size VM VU (.slice pm nm cm) (.slice pu nu cu) T (Plain.allT T 0) from SI.start (I0.out.step b1) hb)
  clear hb b1 I0
  go_wp2
  generalize hab : W1.heap.size = ab at *
  clear hab
  go_loopw [7, 9] (fun s7 i wr => ∃ k : Nat, k ≤ 3 ∧ i = .int .i64 k ∧ s7 = .int .i64 (Plain.sumTo (fun i => Plain.us (T i) i) k) ∧ ∃ pm nm cm pu nu cu, SI w wr g ab VM VU (.slice pm nm cm) (.slice pu nu cu) T (Plain.allT T k)) (fun _ i _ => 3 - (intOf i).toNat)
  case atStart => exact ⟨0, by omega, rfl, rfl, _, _, _, _, _, _, I1.out⟩
  case round =>
    obtain ⟨k, hk, rfl, rfl, xm, xn, xc, ym, yn, yc, ai⟩ := hrel
    have I := hid ai
    clear ai I1
    have SE := hid (show Plain.sumTo (fun i => Plain.us (T i) i) (k + 1) = Plain.sumTo (fun i => Plain.us (T i) i) k + Plain.us (T k) k from rfl)
    have bd := Plain.sumTo_bd (fun i => Plain.us (T i) i) 1048576 3 k (fun j hj => by have := (SQ.out j hj).bu j hj; omega) hk
    have FIN := hid (fun h : k = 3 => show Plain.sumTo (fun i => Plain.us (T i) i) k ≤ 1 + a1 % 50 by rw [h]; exact Plain.used_le INV.out)
    have AS := hid (Plain.allT_sq SQ.out k hk)
    have AE := hid (show Plain.allT T (k + 1) = Plain.mergeT (Plain.allT T k) (T k) from rfl)
    generalize Plain.sumTo (fun i => Plain.us (T i) i) k = z at *
    have bz : -3145728 ≤ z ∧ z ≤ 3145728 := by omega
    clear bd
    by_cases hlt : k < 3
    · have hlt' : (k : Int) < 3 := by omega
      clear FIN
      have c0 := I.out.tri.c0 k hlt
      have c1 := I.out.tri.c1 k hlt
      have SK := hid (SQ.out k hlt)
      have LE := INV.out.le k hlt
      have K2 := left_ok (VM k) (VU k) (T k) 3 SK.out k hlt wr (I.out.has k hlt).has
      have bu := SK.out.bu k hlt
      generalize Plain.leftT (T k) k = zl at *
      go_wp2_with fail
      refine K2.mono ?_
      rintro e W ⟨rfl, b2⟩
      have IX := hid (I.out.step b2)
      clear b2 K2 c0 c1 I
      have c0 := IX.out.tri.c0 k hlt
      have c1 := IX.out.tri.c1 k hlt
      have c2 := IX.out.box.c0
      have c3 := IX.out.box.c1
      have glt := IX.out.tri.lt
      have alt := IX.out.box.lt
      have ne1 : ¬ W.heap.size = g := by omega
      have ne4 : ¬ W.heap.size = ab := by omega
      have bA := hid (show Below W.heap.size W W.drew from (Below.refl _ _).drew)
      have bB := hid (show Below W.heap.size W (W.alloc (.cells #[.slice none 0 0, .slice none 0 0] 25)).drew from ((Below.refl _ _).alloc (Nat.le_refl _) _).drew)
      have K := fun X (b : Below W.heap.size W X) => merge_ok (.slice xm xn xc) (.slice ym yn yc) (VM k) (VU k) (Plain.allT T k) (T k) 3 X (IX.out.all.grow b).has ((IX.out.has k hlt).grow b).has AS.out SK.out
      go_wp2
      go_cut [12, 13] from 34 to 85 (fun sa sb wx => ∃ mb x y, sa = .pointer (some ⟨mb, 0, none⟩) ∧ sb = .int .i64 0 ∧ Res wx mb x y ∧ HasP (W.heap.size ≤ ·) wx x y (Plain.mergeT (Plain.allT T k) (T k)) ∧ Below W.heap.size W wx)
      case first =>
        go_region_held3 (fun w' => w'.cell? ⟨g, k * 2, none⟩ = some (VM k) ∧ w'.cell? ⟨g, k * 2 + 1, none⟩ = some (VU k) ∧ w'.cell? ⟨ab, 0, none⟩ = some (.slice xm xn xc) ∧ w'.cell? ⟨ab, 1, none⟩ = some (.slice ym yn yc)) (go_keep)
          ((go_at_call 7; first
          | (refine (K _ bA.out).mono ?_; rintro e w' ⟨x, y, rfl, hp, b⟩; have HP := hid hp; have BB := hid (bA.out.trans b); obtain ⟨qm, rm, dm, qu, ru, du, rfl, rfl⟩ := hp.has.forms; have IC := hid (IX.out.step BB.out); have f0 := IC.out.tri.c0 k hlt; have f1 := IC.out.tri.c1 k hlt; have f2 := IC.out.box.c0; have f3 := IC.out.box.c1; have ne2 : ¬ w'.heap.size = g := (by have := IC.out.tri.lt; omega); have ne3 : ¬ w'.heap.size = ab := (by have := IC.out.box.lt; omega); clear hp b)
          | (refine (K _ bB.out).mono ?_; rintro e w' ⟨x, y, rfl, hp, b⟩; have HP := hid hp; have BB := hid (bB.out.trans (b.mono bB.out.size)); obtain ⟨qm, rm, dm, qu, ru, du, rfl, rfl⟩ := hp.has.forms; have IC := hid (IX.out.step BB.out); have f0 := IC.out.tri.c0 k hlt; have f1 := IC.out.tri.c1 k hlt; have f2 := IC.out.box.c0; have f3 := IC.out.box.c1; have ne2 : ¬ w'.heap.size = g := (by have := IC.out.tri.lt; omega); have ne3 : ¬ w'.heap.size = ab := (by have := IC.out.box.lt; omega); have RZ := hid (show Res w' W.heap.size (.slice none 0 0) (.slice none 0 0) from (b.block _ (by simp)).trans (Deep.blk_alloc_new W _)); have z0 := RZ.out.c0; have z1 := RZ.out.c1; have z2 := RZ.out.frozen 0; have z3 := RZ.out.frozen 1; have z4 := RZ.out.lt; clear hp b)))
        all_goals (try go_wp2_with fail)
        all_goals go_meet
        all_goals first
          | exact ⟨_, _, _, rfl, rfl, Deep.blk_alloc_new _ _, HP.out.grow ((Below.refl _ _).alloc (Nat.le_refl _) _), BB.out.alloc BB.out.size _⟩
          | exact ⟨_, _, _, rfl, rfl, RZ.out.set _ _, ((HP.out.apart (fun b hb => by simp at hb; omega)).apart (fun b hb => by simp at hb; omega)).mono (fun b hb => by simp at hb; omega), below_res BB.out (Nat.le_refl _)⟩
      case rest =>
        obtain ⟨mb, x, y, rfl, rfl, hres, hhas, hbel⟩ := hcut
        have IC := hid (IX.out.step hbel)
        have HH := hid (hhas.mono (fun b hb => show b ≠ ab by have : W.heap.size ≤ b := hb; omega))
        obtain ⟨qm, rm, dm, qu, ru, du, rfl, rfl⟩ := hhas.has.forms
        have RS := hid hres
        have MA := hid (show mb ≠ ab ∨ mb = ab by omega)
        have NX := hid (IC.out.set HH.out)
        rw [← AE.out] at NX
        obtain ⟨ub, uo, uc, eV, hu⟩ := (NX.out.has k hlt).has.usedAt SK.out
        have HU := hid (hu k hlt)
        have n1 := NX.out.tri.c1 k hlt
        have e1 := IC.out.tri.c1 k hlt
        rw [eV] at n1 e1
        have z0 := RS.out.c0
        have z1 := RS.out.c1
        have z2 := IC.out.box.c0
        have z3 := IC.out.box.c1
        have z4 := IC.out.box.frozen 0
        have z5 := IC.out.box.frozen 1
        have z6 := IC.out.box.lt
        have h9 := HU.out
        clear c0 c1 c2 c3 glt alt ne1 ne4 K hres hhas hbel hu MA
        generalize Plain.us (T k) k = uk at *
        go_wp2
        go_roundw
        case rel => exact ⟨k + 1, by omega, by go_num, by rw [SE.out], _, _, _, _, _, _, NX.out⟩
        case measure => simp [intOf]; omega
    · have ek : k = 3 := by omega
      have hnlt : ¬ (k : Int) < 3 := by omega
      have fin := FIN.out ek
      have hp0 : 0 ≤ a1 % 50 ∧ a1 % 50 < 50 := by omega
      subst ek
      clear FIN SE
      have SA := hid (Plain.allT_sq SQ.out 3 (by omega))
      have US := hid (fun i hi => Plain.us_all INV.out i hi)
      have LA := hid (fun i hi => Plain.left_all INV.out i hi)
      have SUM := hid (Plain.all_sum INV.out)
      generalize Plain.allT T 3 = A at *
      obtain ⟨yb, yo, yc2, eY, hy⟩ := I.out.all.has.usedAt SA.out
      simp only [Value.slice.injEq] at eY
      obtain ⟨rfl, rfl, rfl⟩ := eY
      have z1 := I.out.box.c1
      clear hy
      go_wp2_with fail
      refine (picked_any a1 50 v1 v2 (by omega) (by omega) _).mono ?_
      rintro e w4 ⟨rfl, hw4⟩
      have hy0 := hw4.symm; clear hw4; subst hy0
      generalize hpp : a1 % 50 = p at *
      have HPP := hid hpp
      clear hpp
      go_wp2
      clear z1
      go_loopw [14, 15] (fun s14 i wr => ∃ k : Nat, k ≤ 3 ∧ i = .int .i64 k ∧ s14 = .int .i64 (Plain.sumTo (fun i => Plain.leftT A i + Plain.us A i) k) ∧ SI w wr g ab VM VU (.slice xm xn xc) (.slice (some ⟨yb, yo, none⟩) 3 yc) T A) (fun _ i _ => 3 - (intOf i).toNat)
      case atStart => exact ⟨0, by omega, rfl, rfl, I.out⟩
      case round =>
        obtain ⟨k, hk, rfl, rfl, ai⟩ := hrel
        have J := hid ai
        clear ai I
        have SE := hid (show Plain.sumTo (fun i => Plain.leftT A i + Plain.us A i) (k + 1) = Plain.sumTo (fun i => Plain.leftT A i + Plain.us A i) k + (Plain.leftT A k + Plain.us A k) from rfl)
        have bd := Plain.sumTo_bd (fun i => Plain.leftT A i + Plain.us A i) 9437184 3 k (fun j hj => by have := SA.out.bu j hj; have := Plain.left_bd SA.out j hj; omega) hk
        have FIN := hid (fun h : k = 3 => show Plain.sumTo (fun i => Plain.leftT A i + Plain.us A i) k = 1 + p by rw [h]; exact SUM.out)
        generalize Plain.sumTo (fun i => Plain.leftT A i + Plain.us A i) k = zz at *
        have bz2 : -33554432 ≤ zz ∧ zz ≤ 33554432 := by omega
        clear bd
        by_cases hlt : k < 3
        · have hlt' : (k : Int) < 3 := by omega
          clear FIN
          have bl := Plain.left_bd SA.out k hlt
          have bu := SA.out.bu k hlt
          have la := LA.out k hlt
          have ue := US.out k hlt
          have K2 := left_ok (.slice xm xn xc) (.slice (some ⟨yb, yo, none⟩) 3 yc) A 3 SA.out k hlt wr J.out.all.has
          have SK := hid (SQ.out k hlt)
          generalize Plain.leftT A k = zl at *
          have c0 := J.out.box.c0
          have c1 := J.out.box.c1
          go_wp2_with fail
          refine K2.mono ?_
          rintro e W2 ⟨rfl, b2⟩
          have J2 := hid (J.out.step b2)
          clear b2 K2 c0 c1 J
          have c0 := J2.out.tri.c0 k hlt
          have c1 := J2.out.tri.c1 k hlt
          have K3 := left_ok (VM k) (VU k) (T k) 3 SK.out k hlt W2 (J2.out.has k hlt).has
          generalize Plain.leftT (T k) k = zm at *
          go_wp2_with fail
          refine K3.mono ?_
          rintro e W3 ⟨rfl, b3⟩
          have J3 := hid (J2.out.step b3)
          clear b3 K3 c0 c1 J2
          have t1 : decide (zl < zm) = false := by rw [decide_eq_false_iff_not]; omega
          obtain ⟨ub, uo, uc, eV, hu⟩ := (J3.out.has k hlt).has.usedAt SK.out
          obtain ⟨yb2, yo2, yc2, eY, hy⟩ := J3.out.all.has.usedAt SA.out
          simp only [Value.slice.injEq, Option.some.injEq, Addr.mk.injEq, true_and, and_true] at eY
          obtain ⟨⟨rfl, rfl⟩, rfl⟩ := eY
          have h1 := hu k hlt
          have h2 := hy k hlt
          rw [ue] at h2 bu
          have UE := hid ue
          have c1 := J3.out.tri.c1 k hlt
          rw [eV] at c1
          have c2 := J3.out.box.c1
          clear hu hy eV ue
          generalize hku : Plain.us (T k) k = uk at *
          clear hku
          go_wp2
          go_quiet (fail)
          obtain ⟨W4, hW4⟩ : ∃ W4, W4 = W3.drewN nq := ⟨_, rfl⟩
          have J4 := hid (J3.out.step (w' := W4) (by rw [hW4]; exact grow_below W3 nq #[]))
          have c2' : W4.cell? ⟨ab, 1, none⟩ = some (.slice (some ⟨yb, yo, none⟩) 3 yc) := J4.out.box.c1
          have h2' : W4.cell? ⟨yb, yo + k, none⟩ = some (.int .i64 uk) := by rw [hW4]; exact h2
          rw [← hW4]
          clear hW4 c1 c2 h1 h2 J3
          go_wp2
          go_roundw
          case rel => exact ⟨k + 1, by omega, by go_num, by rw [SE.out, UE.out], J4.out⟩
          case measure => simp [intOf]; omega
        · have ek : k = 3 := by omega
          have hnl2 : ¬ (k : Int) < 3 := by omega
          have fin2 := FIN.out ek
          clear FIN SE ek
          go_wp2_with fail
          refine (picked_any a1 50 v1 v2 (by omega) (by omega) _).mono ?_
          rw [HPP.out]
          rintro e w4 ⟨rfl, hw4⟩
          have hy0 := hw4.symm; clear hw4; subst hy0
          have t5 : (zz == 1 + p) = true := beq_iff_eq.2 fin2
          go_wp2
          go_ret
          exact ⟨rfl, J.out.bel⟩

set_option maxRecDepth 100000 in
theorem lifted (os : Os) (started : os.Started) (H : Type) (enc : TypeId × Value → H) :
    ReturnsInHanded {} Try.checked os 4 .any (Rows.tallySafeSpec.pre6 enc Try.prog Try.f4 Rows.tallySafeRow.domain false) (Rows.tallySafeSpec.post enc Try.prog Try.f4 false true false false) := by
  refine returnsInHanded_of_change (C := Try.checked) own started (by kernel_rfl) Try.func4
    (ChangeSpec.witness6 (enc := enc) (C := Try.checked) false ⟨#[], #[.slice none 0 0, .int .i64 0], []⟩ 8 (by kernel_rfl) (by kernel_rfl) (by kernel_rfl) (by kernel_rfl)) ?_
  intro W base args ds gs before hval0 hW hcnd _
  have hval : ∀ (j : Nat) t v, Try.f4.params[j]? = some t → args[j]? = some v → Value.okWide Try.prog W .any base t v := hval0
  have hW' := hW
  obtain ⟨p, q, hA0, hV, rfl, hfz, hnd⟩ := hW
  have hA : DataW.TrodAll enc Try.prog W 0 (fun _ => true) true Try.f4.params.toList args.toList ds p := hA0
  rw [Try.params4] at hA hval
  obtain ⟨v0, vs0, d0, ds0, p0, q0, hargs, rfl, rfl, h0, r0⟩ := trodAll_cons hA
  obtain ⟨v1, vs1, d1, ds1, p1, q1, rfl, rfl, rfl, h1, r1⟩ := trodAll_cons r0
  obtain ⟨rfl, rfl, rfl⟩ := trodAll_nil r1
  obtain rfl : args = #[v0, v1] := by cases args; simp_all
  obtain ⟨rfl, rfl⟩ := trodVars_none hV
  obtain ⟨a0, len0, cap0, rfl⟩ := okWide_slice Try.underlying30 (hval 0 30 v0 rfl rfl)
  have k0 := h0
  have lt0 : ∀ x ∈ p0, x.block < W.heap.size := by obtain ⟨m, hm⟩ := k0; exact DataW.trod_lt m _ _ _ hm
  obtain ⟨l0, s0, ri0⟩ := des_open Try.underlying30 Try.underlying48 (by kernel_rfl) ⟨rfl, by intro j f hj; rcases j with _ | _ | _ | _ | j <;> simp at hj <;> subst hj <;> exact ⟨rfl, by kernel_rfl, Try.underlying3⟩⟩ h0
  have k1 := h1
  have lt1 : ∀ x ∈ p1, x.block < W.heap.size := by obtain ⟨m, hm⟩ := k1; exact DataW.trod_lt m _ _ _ hm
  obtain ⟨a1, rfl, _, _, w1⟩ := open_int Try.underlying3 (hval 1 3 v1 rfl rfl) h1
  clear hA0 hval0
  refine (walk W _ l0 s0 ri0 a1 (bounds_i64 w1)).mono fun e W' ⟨he, bel⟩ => ?_
  subst he
  exact ⟨_, rfl, _, _, _, [], _, [], hW', trodAll_mk1 (shut_bool Try.underlying4 _), (trodAll_cons_mk (Below.trod laidOut (by kernel_rfl) (of_decide_eq_true (by kernel_rfl)) k0 bel lt0) (trodAll_cons_mk (Below.trod laidOut (by kernel_rfl) (of_decide_eq_true (by kernel_rfl)) k1 bel lt1) trodAll_mk0)), rfl, bel.frame _, fun h => by cases h⟩

theorem over : Rows.tallySafeRow.holds Try.pinned (OpenSpec.ofChange Rows.tallySafeSpec) :=
  OpenClaim.holds_of_wide 4 Try.f4 rfl rfl rfl rfl rfl rfl rfl ⟨rfl, rfl, rfl, rfl, rfl⟩ rfl rfl rfl rfl rfl (by kernel_rfl) Try.func4 (by kernel_rfl)
    (of_decide_eq_true (by kernel_rfl)) (by unfold Func.isWrapper; first | (rw [if_pos (by decide +kernel)]; kernel_rfl) | (rw [if_neg (by decide +kernel)]; exact ⟨rfl, rfl⟩))
    (fun os started H enc _ => lifted os started H enc)

end tallySafe

theorem tallySafe_holds : Rows.TallySafeSaid := tallySafe.over
#print axioms tallySafe_holds
end Go.Proofs.Ytcdlgpickjiikag

/- Proved: for every list of affairs and every four numbers the law TallyMoves returns true: what one gives another one gets, and nobody else has more or less. Conditions: none. -/
import Derived.Test.YtcdlgpickjiikagRows
import Derived.WalkKit
import Derived.ProofKit
import Derived.OpenShut
import Derived.WalkSmall
import Derived.ShutString
import Derived.ChangeOld
import Derived.Below
import Derived.Test.YtcdlgpickjiikagTkn
import Derived.Test.YtcdlgpickjiikagTai
import Derived.Test.YtcdlgpickjiikagTlf
import Derived.Test.YtcdlgpickjiikagTo
namespace Go.Proofs.Ytcdlgpickjiikag
namespace tallyMoves
open Go.ChangeShapes Go.WideShapes Go.ChangeAt Go.RowKit
set_option linter.unusedVariables false

theorem own : ownKnob Try.prog.godebug = none := by kernel_rfl
theorem laidOut : laidOutB Try.prog = true := by kernel_rfl

set_option maxHeartbeats 16000000 in
set_option maxRecDepth 100000 in
theorem walk (w : World) (v0 : Value) (l0 : List Plain.De) (s0 : SegD w v0 l0) (r0 : ∀ j, j < l0.length → InD (l0.getD j default)) (a1 : Int) (w1 : -9223372036854775808 ≤ a1 ∧ a1 ≤ 9223372036854775807) (a2 : Int) (w2 : -9223372036854775808 ≤ a2 ∧ a2 ≤ 9223372036854775807) (a3 : Int) (w3 : -9223372036854775808 ≤ a3 ∧ a3 ≤ 9223372036854775807) (a4 : Int) (w4 : -9223372036854775808 ≤ a4 ∧ a4 ≤ 9223372036854775807) :
    Calls Try.prog 6 #[v0, .int .i64 a1, .int .i64 a2, .int .i64 a3, .int .i64 a4] w fun e w' => e = .returned (.bool true) ∧ Below w.heap.size w w' := by
  obtain ⟨v1, v2⟩ := w1
  obtain ⟨c1, c2⟩ := w2
  obtain ⟨d1, d2⟩ := w3
  obtain ⟨e1, e2⟩ := w4
  have K0 := known_c v0 l0 40 (by omega) a1 v1 v2 w s0 r0
  rw [show ((40 : Nat) : Int) = 40 from rfl] at K0
  have INV := hid (Plain.inv_known (1 + a1 % 50) (by omega) l0 (min l0.length 40) (by omega))
  have KN := hid (show min l0.length 40 ≤ 40 by omega)
  generalize min l0.length 40 = kn at *
  generalize Plain.knownT (1 + a1 % 50) l0 kn = T at *
  clear s0 r0
  obtain ⟨a, ha⟩ : ∃ a : Plain.De, a = ⟨0, a2, a3, a4⟩ := ⟨_, rfl⟩
  obtain ⟨wi, hwi⟩ : ∃ wi : Nat, wi = Plain.wA a := ⟨_, rfl⟩
  obtain ⟨ti, hti⟩ : ∃ ti : Nat, ti = Plain.toA a := ⟨_, rfl⟩
  obtain ⟨qi, hqi⟩ : ∃ qi : Nat, qi = (a3 % 2).toNat := ⟨_, rfl⟩
  obtain ⟨cq, hcq⟩ : ∃ cq : Int, cq = a4 % 9 := ⟨_, rfl⟩
  have wi3 : wi < 3 := hwi ▸ Plain.wA_lt a
  have ti3 : ti < 3 := hti ▸ Plain.toA_lt a
  have hne : ti ≠ wi := by rw [hti, hwi]; exact Plain.toA_ne a
  have cq1 : 0 ≤ cq ∧ cq < 9 := by omega
  have EW := hid (show a2 % 3 = (wi : Int) by rw [hwi, ha]; unfold Plain.wA; simp only []; omega)
  have EQ := hid (show a3 % 2 = (qi : Int) ∧ qi < 2 by rw [hqi]; omega)
  have ET := hid (show ((wi : Int) + 1 + (qi : Int)).tmod 3 = (ti : Int) by
    rw [hti]; unfold Plain.toA; rw [← hwi, ha, ← hqi, Int.tmod_eq_emod_of_nonneg (by omega)]; omega)
  have EC := hid (show a4 % 9 = cq from hcq.symm)
  have hq2 : qi < 2 := EQ.out.2
  clear hwi hti hqi hcq ha
  go_enter Try.func6, Try.ntmps6
  go_wp2_with fail
  refine K0.mono ?_
  rintro e W0 ⟨g, VM, VU, rfl, ki⟩
  have I0 := hid ki
  clear ki K0
  go_wp2_with fail
  refine (picked_any a2 3 c1 c2 (by omega) (by omega) _).mono ?_
  rw [EW.out]
  rintro e w4 ⟨rfl, hw4⟩
  have hy0 := hw4.symm; clear hw4; subst hy0
  go_wp2_with fail
  refine (picked_any a3 2 d1 d2 (by omega) (by omega) _).mono ?_
  rw [EQ.out.1]
  rintro e w4 ⟨rfl, hw4⟩
  have hy0 := hw4.symm; clear hw4; subst hy0
  have et := ET.out
  go_wp2_with fail
  refine (picked_any a4 9 e1 e2 (by omega) (by omega) _).mono ?_
  rw [EC.out]
  rintro e w4 ⟨rfl, hw4⟩
  have hy0 := hw4.symm; clear hw4; subst hy0
  clear et
  have c0 := I0.out.tri.c0 wi wi3
  have c3 := I0.out.tri.c1 wi wi3
  have w3z : (wi : Int) < 3 := by omega
  have SW := hid (INV.out.sq wi wi3)
  have BM := hid (show Plain.mv (T wi) wi ti ≤ 1000000 by have := INV.out.bm wi ti wi3 ti3; have := KN.out; omega)
  have HDE := hid (Plain.doE_mv SW.out wi ti (1 + cq) wi3 ti3 hne (by omega) BM.out)
  have K1 := do_any (VM wi) (VU wi) (T wi) ⟨2, wi, ti, 1 + cq⟩ W0 (I0.out.has wi wi3).has
  have MV := hid (fun h => Plain.move_left SW.out wi ti (1 + cq) wi3 ti3 hne (by omega) BM.out h)
  have DV := hid (fun h : Plain.doE (T wi) ⟨2, wi, ti, 1 + cq⟩ = 0 => show Plain.doV (T wi) ⟨2, wi, ti, 1 + cq⟩ = Plain.doT (T wi) ⟨2, wi, ti, 1 + cq⟩ by unfold Plain.doV; rw [if_pos h])
  generalize Plain.doE (T wi) ⟨2, wi, ti, 1 + cq⟩ = E at *
  generalize Plain.doV (T wi) ⟨2, wi, ti, 1 + cq⟩ = V at *
  generalize Plain.doT (T wi) ⟨2, wi, ti, 1 + cq⟩ = D at *
  by_cases hl : Plain.leftT (T wi) wi < 1 + cq
  · have hE : E = 9 := by rw [HDE.out, if_pos hl]
    subst hE
    go_wp2_with fail
    refine K1.mono ?_
    rintro e W1 ⟨x, y, rfl, hp, b1⟩
    obtain ⟨pm, nm, cm, pu, nu, cu, rfl, rfl⟩ := hp.has.forms
    have I1 := hid ((I0.out.step b1).step ((Below.refl _ _).alloc (Nat.le_refl _) (boxT (.slice pm nm cm) (.slice pu nu cu))))
    clear hp b1 K1 c0 c3 MV DV
    have c0 := I1.out.tri.c0 wi wi3
    have c3 := I1.out.tri.c1 wi wi3
    go_wp2_with fail
    refine (left_ok (VM wi) (VU wi) (T wi) 3 SW.out wi wi3 _ (I1.out.has wi wi3).has).mono ?_
    rintro e W2 ⟨rfl, b2⟩
    have I2 := hid (I1.out.step b2)
    clear b2 c0 c3 I1
    generalize Plain.leftT (T wi) wi = z at *
    go_wp2
    go_ret
    exact ⟨rfl, I2.out.bel⟩
  · have hE : E = 0 := by rw [HDE.out, if_neg hl]
    subst hE
    have hV : V = D := DV.out rfl
    subst hV
    have MS := hid (MV.out hl).1
    have ML := hid (MV.out hl).2
    clear MV DV hl HDE
    go_wp2_with fail
    refine K1.mono ?_
    rintro e W1 ⟨x, y, rfl, hp, b1⟩
    obtain ⟨pm, nm, cm, pu, nu, cu, rfl, rfl⟩ := hp.has.forms
    have I1 := hid (show AI w (W1.alloc (boxT (.slice pm nm cm) (.slice pu nu cu))) g VM VU T [(W1.heap.size, .slice pm nm cm, .slice pu nu cu, V)] from
      AI.push ⟨(I0.out.step b1).step ((Below.refl _ _).alloc (Nat.le_refl _) _), fun e he => by cases he⟩ (Deep.blk_alloc_new _ _) (hp.has.grow ((Below.refl _ _).alloc (Nat.le_refl _) _)))
    clear hp b1 K1 c0 c3
    go_wp2
    go_loopw [18, 21] (fun s18 i wr => ∃ k : Nat, k ≤ 3 ∧ i = .int .i64 k ∧ s18 = .int .i64 (Plain.sumTo (fun i => Plain.leftT (T wi) i) k) ∧ AI w wr g VM VU T [(W1.heap.size, .slice pm nm cm, .slice pu nu cu, V)]) (fun _ i _ => 3 - (intOf i).toNat)
    case atStart => exact ⟨0, by omega, rfl, rfl, I1.out⟩
    case round =>
      obtain ⟨k, hk, rfl, rfl, ai⟩ := hrel
      have I := hid ai
      clear ai I1
      have SE := hid (show Plain.sumTo (fun i => Plain.leftT (T wi) i) (k + 1) = Plain.sumTo (fun i => Plain.leftT (T wi) i) k + Plain.leftT (T wi) k from rfl)
      have bd := Plain.sumTo_bd (fun i => Plain.leftT (T wi) i) 8388608 3 k (fun j hj => Plain.left_bd SW.out j hj) hk
      have FIN := hid (fun h : k = 3 => show Plain.sumTo (fun i => Plain.leftT (T wi) i) k ≤ 1 + a1 % 50 by rw [h]; exact Plain.before_le INV.out wi wi3)
      generalize Plain.sumTo (fun i => Plain.leftT (T wi) i) k = z at *
      have bz : -33554432 ≤ z ∧ z ≤ 33554432 := by omega
      clear bd
      by_cases hlt : k < 3
      · have hlt' : (k : Int) < 3 := by omega
        have c0 := I.out.ki.tri.c0 wi wi3
        have c3 := I.out.ki.tri.c1 wi wi3
        have bl := Plain.left_bd SW.out k hlt
        have bl2 := Plain.left_bd MS.out k hlt
        have ml := ML.out k hlt
        have K2 := left_ok (VM wi) (VU wi) (T wi) 3 SW.out k hlt wr (I.out.ki.has wi wi3).has
        generalize hz1 : Plain.leftT (T wi) k = z1 at *
        clear hz1 FIN
        go_wp2_with fail
        refine K2.mono ?_
        rintro e W2 ⟨rfl, b2⟩
        have I2 := hid (I.out.step b2)
        clear b2 K2 c0 c3 I
        have p0 := (I2.out.bx (W1.heap.size, .slice pm nm cm, .slice pu nu cu, V) (.head _)).1.c0
        have p1 := (I2.out.bx (W1.heap.size, .slice pm nm cm, .slice pu nu cu, V) (.head _)).1.c1
        have K3 := left_ok (.slice pm nm cm) (.slice pu nu cu) V 3 MS.out k hlt W2 (I2.out.bx (W1.heap.size, .slice pm nm cm, .slice pu nu cu, V) (.head _)).2
        generalize hz2 : Plain.leftT V k = z2 at *
        clear hz2
        go_wp2_with fail
        refine K3.mono ?_
        rintro e W3 ⟨rfl, b3⟩
        have I3 := hid (I2.out.step b3)
        clear b3 K3 p0 p1 I2
        by_cases h1 : k = wi
        · have t1 : ((k : Int) == (wi : Int)) = true := beq_iff_eq.2 (by omega)
          have t2 : ((k : Int) == (ti : Int)) = false := beq_eq_false_iff_ne.2 (by omega)
          rw [if_neg (by omega), if_pos h1] at ml
          have t3 : (z2 - z1 != -(1 + cq)) = false := by rw [bne_eq_false_iff_eq]; exact ml
          clear h1 ml
          go_wp2
          go_roundw
          case rel => exact ⟨k + 1, by omega, by go_num, by rw [SE.out], I3.out⟩
          case measure => simp [intOf]; omega
        · have t1 : ((k : Int) == (wi : Int)) = false := beq_eq_false_iff_ne.2 (by omega)
          by_cases h2 : k = ti
          · have t2 : ((k : Int) == (ti : Int)) = true := beq_iff_eq.2 (by omega)
            rw [if_pos h2] at ml
            have t3 : (z2 - z1 != 1 + cq) = false := by rw [bne_eq_false_iff_eq]; exact ml
            clear h1 h2 ml
            go_wp2
            go_roundw
            case rel => exact ⟨k + 1, by omega, by go_num, by rw [SE.out], I3.out⟩
            case measure => simp [intOf]; omega
          · have t2 : ((k : Int) == (ti : Int)) = false := beq_eq_false_iff_ne.2 (by omega)
            rw [if_neg h2, if_neg h1] at ml
            have t3 : (z2 - z1 != 0) = false := by rw [bne_eq_false_iff_eq]; exact ml
            clear h1 h2 ml
            go_wp2
            go_roundw
            case rel => exact ⟨k + 1, by omega, by go_num, by rw [SE.out], I3.out⟩
            case measure => simp [intOf]; omega
      · have ek : k = 3 := by omega
        have hnlt : ¬ (k : Int) < 3 := by omega
        have fin := FIN.out ek
        clear FIN SE ek
        have hp0 : 0 ≤ a1 % 50 ∧ a1 % 50 < 50 := by omega
        go_wp2_with fail
        refine (picked_any a1 50 v1 v2 (by omega) (by omega) _).mono ?_
        rintro e w4 ⟨rfl, hw4⟩
        have hy0 := hw4.symm; clear hw4; subst hy0
        generalize a1 % 50 = p at *
        go_wp2
        go_ret
        exact ⟨rfl, I.out.ki.bel⟩

set_option maxRecDepth 100000 in
theorem lifted (os : Os) (started : os.Started) (H : Type) (enc : TypeId × Value → H) :
    ReturnsInHanded {} Try.checked os 6 .any (Rows.tallyMovesSpec.pre6 enc Try.prog Try.f6 Rows.tallyMovesRow.domain false) (Rows.tallyMovesSpec.post enc Try.prog Try.f6 false true false false) := by
  refine returnsInHanded_of_change (C := Try.checked) own started (by kernel_rfl) Try.func6
    (ChangeSpec.witness6 (enc := enc) (C := Try.checked) false ⟨#[], #[.slice none 0 0, .int .i64 0, .int .i64 0, .int .i64 0, .int .i64 0], []⟩ 8 (by kernel_rfl) (by kernel_rfl) (by kernel_rfl) (by kernel_rfl)) ?_
  intro W base args ds gs before hval0 hW hcnd _
  have hval : ∀ (j : Nat) t v, Try.f6.params[j]? = some t → args[j]? = some v → Value.okWide Try.prog W .any base t v := hval0
  have hW' := hW
  obtain ⟨p, q, hA0, hV, rfl, hfz, hnd⟩ := hW
  have hA : DataW.TrodAll enc Try.prog W 0 (fun _ => true) true Try.f6.params.toList args.toList ds p := hA0
  rw [Try.params6] at hA hval
  obtain ⟨v0, vs0, d0, ds0, p0, q0, hargs, rfl, rfl, h0, r0⟩ := trodAll_cons hA
  obtain ⟨v1, vs1, d1, ds1, p1, q1, rfl, rfl, rfl, h1, r1⟩ := trodAll_cons r0
  obtain ⟨v2, vs2, d2, ds2, p2, q2, rfl, rfl, rfl, h2, r2⟩ := trodAll_cons r1
  obtain ⟨v3, vs3, d3, ds3, p3, q3, rfl, rfl, rfl, h3, r3⟩ := trodAll_cons r2
  obtain ⟨v4, vs4, d4, ds4, p4, q4, rfl, rfl, rfl, h4, r4⟩ := trodAll_cons r3
  obtain ⟨rfl, rfl, rfl⟩ := trodAll_nil r4
  obtain rfl : args = #[v0, v1, v2, v3, v4] := by cases args; simp_all
  obtain ⟨rfl, rfl⟩ := trodVars_none hV
  obtain ⟨a0, len0, cap0, rfl⟩ := okWide_slice Try.underlying30 (hval 0 30 v0 rfl rfl)
  have k0 := h0
  have lt0 : ∀ x ∈ p0, x.block < W.heap.size := by obtain ⟨m, hm⟩ := k0; exact DataW.trod_lt m _ _ _ hm
  obtain ⟨l0, s0, ri0⟩ := des_open Try.underlying30 Try.underlying48 (by kernel_rfl) ⟨rfl, by intro j f hj; rcases j with _ | _ | _ | _ | j <;> simp at hj <;> subst hj <;> exact ⟨rfl, by kernel_rfl, Try.underlying3⟩⟩ h0
  have k1 := h1
  have lt1 : ∀ x ∈ p1, x.block < W.heap.size := by obtain ⟨m, hm⟩ := k1; exact DataW.trod_lt m _ _ _ hm
  obtain ⟨a1, rfl, _, _, w1⟩ := open_int Try.underlying3 (hval 1 3 v1 rfl rfl) h1
  have k2 := h2
  have lt2 : ∀ x ∈ p2, x.block < W.heap.size := by obtain ⟨m, hm⟩ := k2; exact DataW.trod_lt m _ _ _ hm
  obtain ⟨a2, rfl, _, _, w2⟩ := open_int Try.underlying3 (hval 2 3 v2 rfl rfl) h2
  have k3 := h3
  have lt3 : ∀ x ∈ p3, x.block < W.heap.size := by obtain ⟨m, hm⟩ := k3; exact DataW.trod_lt m _ _ _ hm
  obtain ⟨a3, rfl, _, _, w3⟩ := open_int Try.underlying3 (hval 3 3 v3 rfl rfl) h3
  have k4 := h4
  have lt4 : ∀ x ∈ p4, x.block < W.heap.size := by obtain ⟨m, hm⟩ := k4; exact DataW.trod_lt m _ _ _ hm
  obtain ⟨a4, rfl, _, _, w4⟩ := open_int Try.underlying3 (hval 4 3 v4 rfl rfl) h4
  clear hA0 hval0
  refine (walk W _ l0 s0 ri0 a1 (bounds_i64 w1) a2 (bounds_i64 w2) a3 (bounds_i64 w3) a4 (bounds_i64 w4)).mono fun e W' ⟨he, bel⟩ => ?_
  subst he
  exact ⟨_, rfl, _, _, _, [], _, [], hW', trodAll_mk1 (shut_bool Try.underlying4 _), (trodAll_cons_mk (Below.trod laidOut (by kernel_rfl) (of_decide_eq_true (by kernel_rfl)) k0 bel lt0) (trodAll_cons_mk (Below.trod laidOut (by kernel_rfl) (of_decide_eq_true (by kernel_rfl)) k1 bel lt1) (trodAll_cons_mk (Below.trod laidOut (by kernel_rfl) (of_decide_eq_true (by kernel_rfl)) k2 bel lt2) (trodAll_cons_mk (Below.trod laidOut (by kernel_rfl) (of_decide_eq_true (by kernel_rfl)) k3 bel lt3) (trodAll_cons_mk (Below.trod laidOut (by kernel_rfl) (of_decide_eq_true (by kernel_rfl)) k4 bel lt4) trodAll_mk0))))), rfl, bel.frame _, fun h => by cases h⟩

theorem over : Rows.tallyMovesRow.holds Try.pinned (OpenSpec.ofChange Rows.tallyMovesSpec) :=
  OpenClaim.holds_of_wide 6 Try.f6 rfl rfl rfl rfl rfl rfl rfl ⟨rfl, rfl, rfl, rfl, rfl⟩ rfl rfl rfl rfl rfl (by kernel_rfl) Try.func6 (by kernel_rfl)
    (of_decide_eq_true (by kernel_rfl)) (by unfold Func.isWrapper; first | (rw [if_pos (by decide +kernel)]; kernel_rfl) | (rw [if_neg (by decide +kernel)]; exact ⟨rfl, rfl⟩))
    (fun os started H enc _ => lifted os started H enc)

end tallyMoves

theorem tallyMoves_holds : Rows.TallyMovesSaid := tallyMoves.over
#print axioms tallyMoves_holds
end Go.Proofs.Ytcdlgpickjiikag

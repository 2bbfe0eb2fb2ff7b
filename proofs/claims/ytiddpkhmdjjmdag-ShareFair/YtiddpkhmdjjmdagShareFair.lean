/- Proved: at every 64-bit integer and every list of 64-bit integers the law ShareFair returns true: the shares are fair. Conditions: none. -/
import Derived.Test.YtiddpkhmdjjmdagRows
import Derived.WalkKit
import Derived.ProofKit
import Derived.OpenShut
import Derived.WalkSmall
import Derived.ShutString
import Derived.ChangeOld
import Derived.Below
import Derived.Test.YtiddpkhmdjjmdagHg
namespace Go.Proofs.Ytiddpkhmdjjmdag
namespace shareFair
open Go.ChangeShapes Go.WideShapes Go.ChangeAt Go.RowKit
set_option linter.unusedVariables false

theorem own : ownKnob Try.prog.godebug = none := by kernel_rfl
theorem laidOut : laidOutB Try.prog = true := by kernel_rfl

theorem ints_seg {H : Type} {enc : TypeId × Value → H} {W : World} {d : DataW H} {p : List MemPlace} {a : Option Addr} {len cap : Nat} (h : DataW.Trod enc Try.prog W 0 (fun _ => true) true 23 (.slice a len cap) d p) :
    ∃ l : List Int, l.length = len ∧ len ≤ cap ∧ cap ≤ 9223372036854775807 ∧ (∀ n ∈ l, (Lit.int .i64 n).wf = true) ∧ Lies W.heap.size (.slice a len cap) ∧ Seg W (.slice a len cap) l := by
  obtain ⟨fuel, hf⟩ := h
  rcases open_ints Try.underlying23 Try.underlying3 (by kernel_rfl) hf with ⟨hcs, _⟩ | ⟨x, l, c, zs, hcs, _, hl, hm, hz, _, hcell, hwz⟩
  · simp [Value.cells] at hcs
    obtain ⟨rfl, rfl, rfl⟩ := hcs
    exact row_seg (zs := []) (.inl ⟨rfl, rfl, rfl, rfl⟩)
  · simp [Value.cells] at hcs
    obtain ⟨rfl, rfl, rfl⟩ := hcs
    exact row_seg (.inr ⟨_, rfl, hl, hm, by simpa using hz, hcell, hwz⟩)

set_option maxHeartbeats 4000000 in
set_option maxRecDepth 100000 in
theorem walk (w : World) (a0 : Int) (w0 : -9223372036854775808 ≤ a0 ∧ a0 ≤ 9223372036854775807) (v1 : Value) (l1 : List Int) (hm1 : l1.length ≤ 9223372036854775807) (hr1 : ∀ n ∈ l1, (Lit.int .i64 n).wf = true) (s1 : Seg w v1 l1) (y1 : Lies w.heap.size v1) :
    Calls Try.prog 8 #[.int .i64 a0, v1] w fun e w' => e = .returned (.bool true) ∧ Below w.heap.size w w' := by
  obtain ⟨p1, c1, rfl, hp1⟩ := seg_wants s1 y1
  have K0 := wantsOf_c p1 l1.length c1 l1 hr1 hm1 w rfl hp1
  clear s1 y1 hp1 hr1
  obtain ⟨v1, v2⟩ := w0
  go_enter Try.func8, Try.ntmps8
  go_wp2_with fail
  refine K0.mono ?_
  rintro e W1 ⟨r, rfl, hown, hb1⟩
  clear K0
  obtain ⟨pr, cr, rfl, hpr, hnil⟩ := owns_wants hown rfl
  have hwl := Plain.wantL_len l1
  have SM := hid (Plain.small_want l1)
  generalize hlen : Plain.wantL l1 = ws at *
  clear hlen
  generalize hn : ws.length = n at *
  have HL := hid hn
  have HP := hid hpr
  have HB := hid hb1
  have HNIL := hid hnil
  clear hn hpr hb1 hown hnil
  go_wp2_with fail
  refine (picked_any a0 200 v1 v2 (by omega) (by omega) _).mono ?_
  rintro e wx ⟨rfl, hx⟩
  have hy0 := hx.symm; clear hx; subst hy0
  have ht : 0 ≤ a0 % 200 ∧ a0 % 200 < 200 := by omega
  generalize a0 % 200 = t at ht
  obtain ⟨t1, t2⟩ := ht
  go_wp2_with fail
  refine (shares_c pr n cr ws t (Plain.splitE_small SM.out (by rw [HL.out]; omega) t1 (by omega)) W1 HL.out HP.out HNIL.out).mono ?_
  rintro e W2 ⟨ga, rfl, ra, gea, ba⟩
  have RA := hid ra
  have BA := hid ba
  have HP2 := hid (HP.out.grow ba)
  clear ra gea ba HNIL
  have hrow : RowI (W2.alloc (.cells #[.int .i64 5] 3)) W2.heap.size [5] :=
    ⟨#[.int .i64 5], Deep.blk_alloc_new _ _, by simp, fun i hi => by
      have : i = 0 := by simpa using hi
      subst this; rfl⟩
  have KS := shares_c (some ⟨W2.heap.size, 0, none⟩) 1 1 [5] 1 (by rfl) (W2.alloc (.cells #[.int .i64 5] 3)) rfl hrow.wants (fun e => by cases e)
  rw [Plain.split_15] at KS
  clear hrow
  go_wp2_with fail
  refine KS.mono ?_
  clear KS
  rintro e W3 ⟨g5, rfl, r5, ge5, b5⟩
  have bel : Below W2.heap.size W2 W3 := ((Below.refl _ _).alloc (Nat.le_refl _) _).trans (b5.mono (by simp))
  have RA3 := hid (RA.out.below bel RA.out.lt)
  have HP3 := hid (HP2.out.grow bel)
  have B3 := hid (HB.out.trans ((BA.out.trans (bel.mono BA.out.size)).mono HB.out.size))
  have c5 : W3.cell? ⟨g5, 0, none⟩ = some (.int .i64 1) := r5.cell (i := 0) (by simp)
  clear r5 ge5 b5 bel RA HP2 HP HB BA
  have BD := hid (fun (i : Nat) (hi : i < n) => Plain.split_bd SM.out.wm t1 i (by rw [HL.out]; exact hi))
  have FAIR := hid (fun (i j : Nat) (hi : i < n) (hj : j < n) => Plain.split_fair SM.out.wm t1 i j (by rw [HL.out]; exact hi) (by rw [HL.out]; exact hj))
  have LA := hid (show (Plain.splitL t ws).length = n by rw [Plain.split_len, HL.out])
  have SA := hid (Plain.small_split SM.out t1)
  have TOT := hid (Plain.split_sum SM.out.wm t1)
  generalize Plain.splitL t ws = A at *
  go_wp2
  clear c5
  go_loopg [11, 12, 13] n (fun gg s11 s12 s13 wx => ∃ (k : Nat) (S V : Int), k ≤ n ∧ n - k ≤ gg ∧ s13 = .int .i64 k ∧ s11 = .int .i64 S ∧ s12 = .int .i64 V ∧ Aside (S = Plain.sumL (A.take k) ∧ V = Plain.sumL (ws.take k) ∧ ∃ q, wx = W3.drewN q))
  case atStart => exact ⟨0, 0, 0, Nat.zero_le _, by omega, rfl, rfl, rfl, (show Aside _ from ⟨rfl, rfl, 0, rfl⟩)⟩
  case round =>
    obtain ⟨k, S, V, hkk, hg, rfl, rfl, rfl, I⟩ := hrel
    obtain ⟨wo, hwo⟩ : ∃ wo, wo = wr := ⟨_, rfl⟩
    subst hwo
    have hS := Plain.sumL_tk SA.out k
    rw [← I.out.1, LA.out] at hS
    have hV := Plain.sumL_tk SM.out k
    rw [← I.out.2.1, HL.out] at hV
    obtain ⟨hS1, hS2⟩ := hS
    obtain ⟨hV1, hV2⟩ := hV
    by_cases hlt : k < n
    · have hltz : (k : Int) < (n : Int) := by omega
      obtain ⟨q, hq⟩ := I.out.2.2
      obtain ⟨b, off, rfl, hb, hc⟩ := HP3.out (by rw [HL.out]; omega)
      have cA : wo.cell? ⟨ga, k, none⟩ = some (.int .i64 (A.getD k 0)) := by
        rw [hq]; exact (RA3.out.drewN q).cell (by rw [LA.out]; exact hlt)
      have cW : wo.cell? ⟨b, off + k, none⟩ = some (.int .i64 (ws.getD k 0)) := by
        rw [hq]; simpa using hc k (by rw [HL.out]; exact hlt)
      have HC := hid hc
      have HQ := hid hq
      clear hc hq
      have hbd := BD.out k hlt
      have hsw := SM.out _ (Plain.mem_getD (show k < ws.length by rw [HL.out]; exact hlt))
      have st1 := hid (show Plain.sumL (A.take (k + 1)) = S + A.getD k 0 by rw [Plain.sumL_next A k (by rw [LA.out]; exact hlt), I.out.1])
      have st2 := hid (show Plain.sumL (ws.take (k + 1)) = V + ws.getD k 0 by rw [Plain.sumL_next ws k (by rw [HL.out]; exact hlt), I.out.2.1])
      have FK := hid (fun (j : Nat) (hj : j < n) => FAIR.out k j hlt hj)
      generalize hxx : A.getD k 0 = x at cA hbd st1 FK
      generalize hyy : ws.getD k 0 = y at cW hbd hsw st2 FK
      have HXX := hid hxx
      have HYY := hid hyy
      clear hxx hyy
      obtain ⟨h1, h2⟩ := hbd
      obtain ⟨h3, h4⟩ := hsw
      have no1 : decide (x < 0) = false := by rw [decide_eq_false_iff_not]; omega
      have no2 : decide (y < x) = false := by rw [decide_eq_false_iff_not]; omega
      go_wp2
      go_quiet (fail)
      have HQ2 := hid (show wo.drewN nq = W3.drewN (q + nq) by rw [HQ.out, drewN_add])
      obtain ⟨wq, hwq⟩ : ∃ wq, wq = wo.drewN nq := ⟨_, rfl⟩
      rw [← hwq] at HQ2 ⊢
      have cA2 : wq.cell? ⟨ga, k, none⟩ = some (.int .i64 x) := by rw [hwq]; simpa using cA
      have cW2 : wq.cell? ⟨b, off + k, none⟩ = some (.int .i64 y) := by rw [hwq]; simpa using cW
      clear hwq no1 no2
      go_wp2
      clear cA2 cW2 cA cW
      go_loopg [14] n (fun gg s14 wx => ∃ j : Nat, j ≤ n ∧ n - j ≤ gg ∧ s14 = .int .i64 j ∧ Aside (∃ q, wx = W3.drewN q))
      case atStart => exact ⟨0, Nat.zero_le _, by omega, rfl, (show Aside _ from ⟨_, HQ2.out⟩)⟩
      case round =>
        obtain ⟨j, hjj, hg2, rfl, J⟩ := hrel
        by_cases hlj : j < n
        · have hljz : (j : Int) < (n : Int) := by omega
          obtain ⟨q2, hq2⟩ := J.out
          have cA : wr.cell? ⟨ga, k, none⟩ = some (.int .i64 x) := by
            rw [hq2, ← HXX.out]; exact (RA3.out.drewN q2).cell (by rw [LA.out]; exact hlt)
          have cW : wr.cell? ⟨b, off + k, none⟩ = some (.int .i64 y) := by
            rw [hq2, ← HYY.out]; simpa using HC.out k (by rw [HL.out]; exact hlt)
          have cZ : wr.cell? ⟨ga, j, none⟩ = some (.int .i64 (A.getD j 0)) := by
            rw [hq2]; exact (RA3.out.drewN q2).cell (by rw [LA.out]; exact hlj)
          have HJ := hid hq2
          clear hq2
          have hf := FK.out j hlj
          have hz := BD.out j hlj
          have hz2 := SM.out _ (Plain.mem_getD (show j < ws.length by rw [HL.out]; exact hlj))
          have hz3 : 0 ≤ A.getD j 0 ∧ A.getD j 0 ≤ 1000 := by omega
          clear hz hz2
          generalize A.getD j 0 = z at cZ hf hz3
          obtain ⟨z1, z2⟩ := hz3
          by_cases hxy : x < y
          · have yes : decide (x < y) = true := by rw [decide_eq_true_iff]; exact hxy
            have no : decide (x + 1 < z) = false := by rw [decide_eq_false_iff_not]; have := hf hxy; omega
            clear hf
            go_wp2
            go_quiet (fail)
            go_wp2
            go_roundg (n - (j + 1))
            case measure => omega
            case rel => exact ⟨j + 1, by omega, by omega, by go_num, (show Aside _ from ⟨_, by rw [HJ.out, drewN_add]⟩)⟩
          · have no : decide (x < y) = false := by rw [decide_eq_false_iff_not]; exact hxy
            clear hf
            go_wp2
            go_quiet (fail)
            go_wp2
            go_roundg (n - (j + 1))
            case measure => omega
            case rel => exact ⟨j + 1, by omega, by omega, by go_num, (show Aside _ from ⟨_, by rw [HJ.out, drewN_add]⟩)⟩
        · have hljz : ¬ (j : Int) < (n : Int) := by omega
          go_wp2
          go_roundg (n - (k + 1))
          case measure => omega
          case rel => first | exact ⟨k + 1, S + x, V + y, by omega, by omega, by go_num, rfl, rfl, (show Aside _ from ⟨st1.out.symm, st2.out.symm, J.out⟩)⟩ | ((repeat apply Exists.intro); refine ⟨⟨k + 1, S + x, V + y, by omega, by omega, ?_, rfl, rfl, (show Aside _ from ⟨st1.out.symm, st2.out.symm, J.out⟩)⟩, rfl⟩; go_num)
    · have hltz : ¬ (k : Int) < (n : Int) := by omega
      have hSV : S = min t V := by
        have e1 := I.out.1
        have e2 := I.out.2.1
        rw [List.take_of_length_le (by rw [LA.out]; omega)] at e1
        rw [List.take_of_length_le (by rw [HL.out]; omega)] at e2
        rw [e1, e2]; exact TOT.out
      have HBF := hid (show Below w.heap.size w wo by
        obtain ⟨q, hq⟩ := I.out.2.2
        rw [hq]; exact below_drewN B3.out q)
      clear I
      by_cases hv : V < t
      · obtain rfl : S = V := by omega
        clear hSV
        go_wp2
        go_ret
        exact ⟨by first | rfl | simp, HBF.out⟩
      · obtain rfl : S = t := by omega
        clear hSV
        go_wp2
        go_ret
        exact ⟨by first | rfl | simp, HBF.out⟩

set_option maxRecDepth 100000 in
theorem lifted (os : Os) (started : os.Started) (H : Type) (enc : TypeId × Value → H) :
    ReturnsInHanded {} Try.checked os 8 .any (Rows.shareFairSpec.pre6 enc Try.prog Try.f8 Rows.shareFairRow.domain false) (Rows.shareFairSpec.post enc Try.prog Try.f8 false true false false) := by
  refine returnsInHanded_of_change (C := Try.checked) own started (by kernel_rfl) Try.func8
    (ChangeSpec.witness6 (enc := enc) (C := Try.checked) false ⟨#[], #[.int .i64 0, .slice none 0 0], []⟩ 8 (by kernel_rfl) (by kernel_rfl) (by kernel_rfl) (by kernel_rfl)) ?_
  intro W base args ds gs before hval0 hW hcnd _
  have hval : ∀ (j : Nat) t v, Try.f8.params[j]? = some t → args[j]? = some v → Value.okWide Try.prog W .any base t v := hval0
  have hW' := hW
  obtain ⟨p, q, hA0, hV, rfl, hfz, hnd⟩ := hW
  have hA : DataW.TrodAll enc Try.prog W 0 (fun _ => true) true Try.f8.params.toList args.toList ds p := hA0
  rw [Try.params8] at hA hval
  obtain ⟨v0, vs0, d0, ds0, p0, q0, hargs, rfl, rfl, h0, r0⟩ := trodAll_cons hA
  obtain ⟨v1, vs1, d1, ds1, p1, q1, rfl, rfl, rfl, h1, r1⟩ := trodAll_cons r0
  obtain ⟨rfl, rfl, rfl⟩ := trodAll_nil r1
  obtain rfl : args = #[v0, v1] := by cases args; simp_all
  obtain ⟨rfl, rfl⟩ := trodVars_none hV
  have k0 := h0
  have lt0 : ∀ x ∈ p0, x.block < W.heap.size := by obtain ⟨m, hm⟩ := k0; exact DataW.trod_lt m _ _ _ hm
  obtain ⟨a0, rfl, _, _, w0⟩ := open_int Try.underlying3 (hval 0 3 v0 rfl rfl) h0
  obtain ⟨a1, len1, cap1, rfl⟩ := okWide_slice Try.underlying23 (hval 1 23 v1 rfl rfl)
  have k1 := h1
  have lt1 : ∀ x ∈ p1, x.block < W.heap.size := by obtain ⟨m, hm⟩ := k1; exact DataW.trod_lt m _ _ _ hm
  obtain ⟨l1, hl1, hc1, hm1, hr1, y1, s1⟩ := ints_seg h1
  clear hA0 hval0
  refine (walk W a0 (bounds_i64 w0) _ l1 (by omega) hr1 s1 y1).mono fun e W' ⟨he, bel⟩ => ?_
  subst he
  exact ⟨_, rfl, _, _, _, [], _, [], hW', trodAll_mk1 (shut_bool Try.underlying4 _), (trodAll_cons_mk (Below.trod laidOut (by kernel_rfl) (of_decide_eq_true (by kernel_rfl)) k0 bel lt0) (trodAll_cons_mk (Below.trod laidOut (by kernel_rfl) (of_decide_eq_true (by kernel_rfl)) k1 bel lt1) trodAll_mk0)), rfl, bel.frame _, fun h => by cases h⟩

theorem over : Rows.shareFairRow.holds Try.pinned (OpenSpec.ofChange Rows.shareFairSpec) :=
  OpenClaim.holds_of_wide 8 Try.f8 rfl rfl rfl rfl rfl rfl rfl ⟨rfl, rfl, rfl, rfl, rfl⟩ rfl rfl rfl rfl rfl (by kernel_rfl) Try.func8 (by kernel_rfl)
    (of_decide_eq_true (by kernel_rfl)) (by unfold Func.isWrapper; first | (rw [if_pos (by decide +kernel)]; kernel_rfl) | (rw [if_neg (by decide +kernel)]; exact ⟨rfl, rfl⟩))
    (fun os started H enc _ => lifted os started H enc)

end shareFair

theorem shareFair_holds : Rows.ShareFairSaid := shareFair.over
#print axioms shareFair_holds
end Go.Proofs.Ytiddpkhmdjjmdag

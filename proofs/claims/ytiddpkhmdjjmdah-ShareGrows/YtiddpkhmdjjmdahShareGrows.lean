/- Proved: at every two 64-bit integers and every list of 64-bit integers the law ShareGrows returns true: of more nobody gets less. Conditions: none. -/
import Derived.Test.YtiddpkhmdjjmdahRows
import Derived.WalkKit
import Derived.ProofKit
import Derived.OpenShut
import Derived.WalkSmall
import Derived.ShutString
import Derived.ChangeOld
import Derived.Below
import Derived.Test.YtiddpkhmdjjmdahHg
namespace Go.Proofs.Ytiddpkhmdjjmdah
namespace shareGrows
open Go.ChangeShapes Go.WideShapes Go.ChangeAt Go.RowKit
set_option linter.unusedVariables false

theorem own : ownKnob Try.prog.godebug = none := by kernel_rfl
theorem laidOut : laidOutB Try.prog = true := by kernel_rfl

theorem ints_seg {H : Type} {enc : TypeId × Value → H} {W : World} {d : DataW H} {p : List MemPlace} {a : Option Addr} {len cap : Nat} (h : DataW.Trod enc Try.prog W 0 (fun _ => true) true 22 (.slice a len cap) d p) :
    ∃ l : List Int, l.length = len ∧ len ≤ cap ∧ cap ≤ 9223372036854775807 ∧ (∀ n ∈ l, (Lit.int .i64 n).wf = true) ∧ Lies W.heap.size (.slice a len cap) ∧ Seg W (.slice a len cap) l := by
  obtain ⟨fuel, hf⟩ := h
  rcases open_ints Try.underlying22 Try.underlying3 (by kernel_rfl) hf with ⟨hcs, _⟩ | ⟨x, l, c, zs, hcs, _, hl, hm, hz, _, hcell, hwz⟩
  · simp [Value.cells] at hcs
    obtain ⟨rfl, rfl, rfl⟩ := hcs
    exact row_seg (zs := []) (.inl ⟨rfl, rfl, rfl, rfl⟩)
  · simp [Value.cells] at hcs
    obtain ⟨rfl, rfl, rfl⟩ := hcs
    exact row_seg (.inr ⟨_, rfl, hl, hm, by simpa using hz, hcell, hwz⟩)

set_option maxHeartbeats 4000000 in
set_option maxRecDepth 100000 in
theorem walk (w : World) (a0 : Int) (w0 : -9223372036854775808 ≤ a0 ∧ a0 ≤ 9223372036854775807) (v1 : Value) (l1 : List Int) (hm1 : l1.length ≤ 9223372036854775807) (hr1 : ∀ n ∈ l1, (Lit.int .i64 n).wf = true) (s1 : Seg w v1 l1) (y1 : Lies w.heap.size v1) (a2 : Int) (w2 : -9223372036854775808 ≤ a2 ∧ a2 ≤ 9223372036854775807) :
    Calls Try.prog 4 #[.int .i64 a0, v1, .int .i64 a2] w fun e w' => e = .returned (.bool true) ∧ Below w.heap.size w w' := by
  obtain ⟨p1, c1, rfl, hp1⟩ := seg_wants s1 y1
  have K0 := wantsOf_c p1 l1.length c1 l1 hr1 hm1 w rfl hp1
  clear s1 y1 hp1 hr1
  obtain ⟨v1, v2⟩ := w0
  obtain ⟨z2, y2⟩ := w2
  go_enter Try.func4, Try.ntmps4
  go_wp2_with fail
  refine K0.mono ?_
  rintro e W1 ⟨r, rfl, hown, hb1⟩
  clear K0
  obtain ⟨g, c, W2, hrun, hR, hg, hc, hb2⟩ := plus_c 9 hown rfl (by have := Plain.wantL_len l1; omega) hb1
  obtain ⟨pr, cr, rfl, _, _⟩ := owns_wants hown rfl
  have hlen : (Plain.wantL l1 ++ [9]).length = (Plain.wantL l1).length + 1 := by simp
  have hwl := Plain.wantL_len l1
  have SM := hid (Plain.small_plus l1 9 (by omega) (by omega))
  have S9 := hid (show 9 ≤ Plain.sumL (Plain.wantL l1 ++ [9]) by
    rw [Plain.sumL_app]; have := (Plain.sumL_bd (Plain.small_want l1)).1; simp [Plain.sumL]; omega)
  generalize Plain.wantL l1 ++ [9] = ws at hR hlen SM S9
  generalize (Plain.wantL l1).length = n0 at hrun hlen hwl hc
  have HRUN := hid hrun
  have HR := hid hR
  have HG := hid hg
  have HB := hid hb2
  clear hrun hR hg hb2 hown hb1
  go_wp2_with (first | (at_builtin; refine wpList_app _ _ 22 HRUN.out (by rfl) (by rfl) (by rfl) (by rfl) (by rfl) ?_) | fail)
  clear HRUN
  obtain ⟨n, hn⟩ : ∃ n, n = n0 + 1 := ⟨_, rfl⟩
  rw [← hn] at hlen hc ⊢
  have hn11 : 1 ≤ n ∧ n ≤ 11 := by omega
  clear hn hwl
  have HL := hid hlen
  clear hlen
  obtain ⟨na, nb⟩ := hn11
  go_wp2_with fail
  refine (picked_any a0 200 v1 v2 (by omega) (by omega) _).mono ?_
  rintro e wx ⟨rfl, hx⟩
  have hy0 := hx.symm; clear hx; subst hy0
  have ht : 0 ≤ a0 % 200 ∧ a0 % 200 < 200 := by omega
  generalize a0 % 200 = t at ht
  obtain ⟨t1, t2⟩ := ht
  go_wp2_with fail
  refine (shares_c (some ⟨g, 0, none⟩) n c ws t (Plain.splitE_small SM.out (by rw [HL.out]; omega) t1 (by omega)) W2 HL.out HR.out.wants (fun e => by cases e)).mono ?_
  rintro e W3 ⟨ga, rfl, ra, gea, ba⟩
  have RA := hid ra
  have GA := hid gea
  have BA := hid ba
  clear ra gea ba
  go_wp2_with fail
  refine (picked_any a2 30 z2 y2 (by omega) (by omega) _).mono ?_
  rintro e wx ⟨rfl, hx⟩
  have hy0 := hx.symm; clear hx; subst hy0
  have hm : 0 ≤ a2 % 30 ∧ a2 % 30 < 30 := by omega
  generalize a2 % 30 = m at hm
  obtain ⟨m1, m2⟩ := hm
  obtain ⟨T, hT⟩ : ∃ T, T = t + 1 + m := ⟨_, rfl⟩
  have KS := shares_c (some ⟨g, 0, none⟩) n c ws T (Plain.splitE_small SM.out (by rw [HL.out]; omega) (by omega) (by omega)) W3 HL.out (HR.out.below BA.out HR.out.lt).wants (fun e => by cases e)
  rw [hT] at KS
  go_wp2_with fail
  refine KS.mono ?_
  clear KS
  rw [← hT]
  rintro e W4 ⟨gb, rfl, rb, geb, bb⟩
  have RB := hid rb
  have RA4 := hid (RA.out.below bb RA.out.lt)
  have B4 := hid (HB.out.trans ((BA.out.trans (bb.mono BA.out.size)).mono HB.out.size))
  clear rb geb bb
  have LEA := hid (fun (i : Nat) (hi : i < n) => Plain.split_grows SM.out.wm t1 (show t ≤ T by omega) i (by rw [HL.out]; exact hi))
  have LB := hid (show (Plain.splitL T ws).length = n by rw [Plain.split_len, HL.out])
  have LA := hid (show (Plain.splitL t ws).length = n by rw [Plain.split_len, HL.out])
  have SB := hid (Plain.small_split SM.out (show 0 ≤ T by omega))
  have SA := hid (Plain.small_split SM.out t1)
  have TOT := hid (show 0 < Plain.sumL (Plain.splitL T ws) by
    rw [Plain.split_sum SM.out.wm (by omega)]; have := S9.out; omega)
  generalize Plain.splitL T ws = B at *
  generalize Plain.splitL t ws = A at *
  clear hT RA
  go_wp2
  go_loopg [13, 14] n (fun gg s13 s14 wx => ∃ (k : Nat) (S : Int), k ≤ n ∧ n - k ≤ gg ∧ s14 = .int .i64 k ∧ s13 = .int .i64 S ∧ Aside (S = Plain.sumL (B.take k) ∧ ∃ q, wx = W4.drewN q))
  case atStart => exact ⟨0, 0, Nat.zero_le _, by omega, rfl, rfl, (show Aside _ from ⟨rfl, 0, rfl⟩)⟩
  case round =>
    obtain ⟨k, S, hkk, hg, rfl, rfl, I⟩ := hrel
    by_cases hlt : k < n
    · have hltz : (k : Int) < (n : Int) := by omega
      have cA : wr.cell? ⟨ga, k, none⟩ = some (.int .i64 (A.getD k 0)) := by
        obtain ⟨q, hq⟩ := I.out.2
        rw [hq]; exact (RA4.out.drewN q).cell (by rw [LA.out]; exact hlt)
      have cB : wr.cell? ⟨gb, k, none⟩ = some (.int .i64 (B.getD k 0)) := by
        obtain ⟨q, hq⟩ := I.out.2
        rw [hq]; exact (RB.out.drewN q).cell (by rw [LB.out]; exact hlt)
      have hS := Plain.sumL_tk SB.out k
      rw [← I.out.1, LB.out] at hS
      have hb0 := SB.out _ (Plain.mem_getD (show k < B.length by rw [LB.out]; exact hlt))
      have hle := LEA.out k hlt
      have hst := hid (show Plain.sumL (B.take (k + 1)) = S + B.getD k 0 by rw [Plain.sumL_next B k (by rw [LB.out]; exact hlt), I.out.1])
      have HQ := hid I.out.2
      generalize B.getD k 0 = y at cB hb0 hle hst
      generalize A.getD k 0 = x at cA hle
      have hno : decide (y < x) = false := by rw [decide_eq_false_iff_not]; omega
      obtain ⟨h1, h2⟩ := hS
      obtain ⟨h3, h4⟩ := hb0
      go_wp2
      go_quiet (fail)
      have cB2 : (wr.drewN nq).cell? ⟨gb, k, none⟩ = some (.int .i64 y) := by simpa using cB
      go_wp2
      go_roundg (n - (k + 1))
      case measure => omega
      case rel =>
        refine ⟨k + 1, S + y, by omega, by omega, by go_num, rfl, (show Aside _ from ⟨hst.out.symm, ?_⟩)⟩
        obtain ⟨q, hq⟩ := HQ.out
        exact ⟨_, by rw [hq, drewN_add]⟩
    · have hltz : ¬ (k : Int) < (n : Int) := by omega
      have hS : 0 < S := by
        rw [I.out.1, List.take_of_length_le (by rw [LB.out]; omega)]; exact TOT.out
      go_wp2
      go_ret
      refine ⟨by first | rfl | (rw [decide_eq_true hS]), ?_⟩
      obtain ⟨q, hq⟩ := I.out.2
      rw [hq]; exact below_drewN B4.out q

set_option maxRecDepth 100000 in
theorem lifted (os : Os) (started : os.Started) (H : Type) (enc : TypeId × Value → H) :
    ReturnsInHanded {} Try.checked os 4 .any (Rows.shareGrowsSpec.pre6 enc Try.prog Try.f4 Rows.shareGrowsRow.domain false) (Rows.shareGrowsSpec.post enc Try.prog Try.f4 false true false false) := by
  refine returnsInHanded_of_change (C := Try.checked) own started (by kernel_rfl) Try.func4
    (ChangeSpec.witness6 (enc := enc) (C := Try.checked) false ⟨#[], #[.int .i64 0, .slice none 0 0, .int .i64 0], []⟩ 8 (by kernel_rfl) (by kernel_rfl) (by kernel_rfl) (by kernel_rfl)) ?_
  intro W base args ds gs before hval0 hW hcnd _
  have hval : ∀ (j : Nat) t v, Try.f4.params[j]? = some t → args[j]? = some v → Value.okWide Try.prog W .any base t v := hval0
  have hW' := hW
  obtain ⟨p, q, hA0, hV, rfl, hfz, hnd⟩ := hW
  have hA : DataW.TrodAll enc Try.prog W 0 (fun _ => true) true Try.f4.params.toList args.toList ds p := hA0
  rw [Try.params4] at hA hval
  obtain ⟨v0, vs0, d0, ds0, p0, q0, hargs, rfl, rfl, h0, r0⟩ := trodAll_cons hA
  obtain ⟨v1, vs1, d1, ds1, p1, q1, rfl, rfl, rfl, h1, r1⟩ := trodAll_cons r0
  obtain ⟨v2, vs2, d2, ds2, p2, q2, rfl, rfl, rfl, h2, r2⟩ := trodAll_cons r1
  obtain ⟨rfl, rfl, rfl⟩ := trodAll_nil r2
  obtain rfl : args = #[v0, v1, v2] := by cases args; simp_all
  obtain ⟨rfl, rfl⟩ := trodVars_none hV
  have k0 := h0
  have lt0 : ∀ x ∈ p0, x.block < W.heap.size := by obtain ⟨m, hm⟩ := k0; exact DataW.trod_lt m _ _ _ hm
  obtain ⟨a0, rfl, _, _, w0⟩ := open_int Try.underlying3 (hval 0 3 v0 rfl rfl) h0
  obtain ⟨a1, len1, cap1, rfl⟩ := okWide_slice Try.underlying22 (hval 1 22 v1 rfl rfl)
  have k1 := h1
  have lt1 : ∀ x ∈ p1, x.block < W.heap.size := by obtain ⟨m, hm⟩ := k1; exact DataW.trod_lt m _ _ _ hm
  obtain ⟨l1, hl1, hc1, hm1, hr1, y1, s1⟩ := ints_seg h1
  have k2 := h2
  have lt2 : ∀ x ∈ p2, x.block < W.heap.size := by obtain ⟨m, hm⟩ := k2; exact DataW.trod_lt m _ _ _ hm
  obtain ⟨a2, rfl, _, _, w2⟩ := open_int Try.underlying3 (hval 2 3 v2 rfl rfl) h2
  clear hA0 hval0
  refine (walk W a0 (bounds_i64 w0) _ l1 (by omega) hr1 s1 y1 a2 (bounds_i64 w2)).mono fun e W' ⟨he, bel⟩ => ?_
  subst he
  exact ⟨_, rfl, _, _, _, [], _, [], hW', trodAll_mk1 (shut_bool Try.underlying4 _), (trodAll_cons_mk (Below.trod laidOut (by kernel_rfl) (of_decide_eq_true (by kernel_rfl)) k0 bel lt0) (trodAll_cons_mk (Below.trod laidOut (by kernel_rfl) (of_decide_eq_true (by kernel_rfl)) k1 bel lt1) (trodAll_cons_mk (Below.trod laidOut (by kernel_rfl) (of_decide_eq_true (by kernel_rfl)) k2 bel lt2) trodAll_mk0))), rfl, bel.frame _, fun h => by cases h⟩

theorem over : Rows.shareGrowsRow.holds Try.pinned (OpenSpec.ofChange Rows.shareGrowsSpec) :=
  OpenClaim.holds_of_wide 4 Try.f4 rfl rfl rfl rfl rfl rfl rfl ⟨rfl, rfl, rfl, rfl, rfl⟩ rfl rfl rfl rfl rfl (by kernel_rfl) Try.func4 (by kernel_rfl)
    (of_decide_eq_true (by kernel_rfl)) (by unfold Func.isWrapper; first | (rw [if_pos (by decide +kernel)]; kernel_rfl) | (rw [if_neg (by decide +kernel)]; exact ⟨rfl, rfl⟩))
    (fun os started H enc _ => lifted os started H enc)

end shareGrows

theorem shareGrows_holds : Rows.ShareGrowsSaid := shareGrows.over
#print axioms shareGrows_holds
end Go.Proofs.Ytiddpkhmdjjmdah

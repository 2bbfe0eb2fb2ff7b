/- Proved: at every three 64-bit integers and every list of 64-bit integers the law ShareTurn returns true: where one stands is worth no more than one. Conditions: none. -/
import Derived.Test.YtiddpkhmdjjmdahRows
import Derived.WalkKit
import Derived.ProofKit
import Derived.OpenShut
import Derived.WalkSmall
import Derived.ShutString
import Derived.ChangeOld
import Derived.Below
import Derived.Test.YtiddpkhmdjjmdahHg
import Derived.Test.YtiddpkhmdjjmdahHk
import Derived.Deep.RegionWith
namespace Go.Proofs.Ytiddpkhmdjjmdah
namespace shareTurn
open Go.ChangeShapes Go.WideShapes Go.ChangeAt Go.RowKit
set_option linter.unusedVariables false

theorem own : ownKnob Try.prog.godebug = none := by kernel_rfl
theorem laidOut : laidOutB Try.prog = true := by kernel_rfl

theorem ints_seg {H : Type} {enc : TypeId × Value → H} {W : World} {d : DataW H} {p : List MemPlace} {a : Option Addr} {len cap : Nat} (h : DataW.Trod enc Try.prog W 0 (fun _ => true) true 22 (.slice a len cap) d p) :
    ∃ l : List Int, l.length = len ∧ len ≤ cap ∧ cap ≤ 9223372036854775807 ∧ (∀ n ∈ l, (Lit.int .i64 n).wf = true) ∧ Lies W.heap.size (.slice a len cap) ∧ Seg W (.slice a len cap) l := by
  obtain ⟨fuel, hf⟩ := h
  rcases open_ints Try.underlying22 Try.underlying3 (by kernel_rfl) hf with ⟨hcs, _⟩ | ⟨x, l, c, zs, hcs, _, hl, hm, hz, _, hcell, hwz⟩
  · simp [Value.cells] at hcs
    obtain ⟨rfl, rfl, rfl⟩ := hcs
    exact row_seg (zs := []) (.inl ⟨rfl, rfl, rfl, rfl⟩)
  · simp [Value.cells] at hcs
    obtain ⟨rfl, rfl, rfl⟩ := hcs
    exact row_seg (.inr ⟨_, rfl, hl, hm, by simpa using hz, hcell, hwz⟩)

set_option maxHeartbeats 4000000 in
set_option maxRecDepth 100000 in
theorem walk (w : World) (a0 : Int) (w0 : -9223372036854775808 ≤ a0 ∧ a0 ≤ 9223372036854775807) (v1 : Value) (l1 : List Int) (hm1 : l1.length ≤ 9223372036854775807) (hr1 : ∀ n ∈ l1, (Lit.int .i64 n).wf = true) (s1 : Seg w v1 l1) (y1 : Lies w.heap.size v1) (a2 : Int) (w2 : -9223372036854775808 ≤ a2 ∧ a2 ≤ 9223372036854775807) (a3 : Int) (w3 : -9223372036854775808 ≤ a3 ∧ a3 ≤ 9223372036854775807) :
    Calls Try.prog 5 #[.int .i64 a0, v1, .int .i64 a2, .int .i64 a3] w fun e w' => e = .returned (.bool true) ∧ Below w.heap.size w w' := by
  obtain ⟨p1, c1, rfl, hp1⟩ := seg_wants s1 y1
  have K0 := wantsOf_c p1 l1.length c1 l1 hr1 hm1 w rfl hp1
  clear s1 y1 hp1 hr1
  obtain ⟨v1, v2⟩ := w0
  obtain ⟨z2, y2⟩ := w2
  obtain ⟨z3, y3⟩ := w3
  go_enter Try.func5, Try.ntmps5
  go_wp2_with fail
  refine K0.mono ?_
  rintro e W1 ⟨r, rfl, hown, hb1⟩
  clear K0
  obtain ⟨g, c, W2, hrun, hR, hg, hc, hb2⟩ := plus_c 6 hown rfl (by have := Plain.wantL_len l1; omega) hb1
  obtain ⟨pr, cr, rfl, _, _⟩ := owns_wants hown rfl
  have hlen : (Plain.wantL l1 ++ [6]).length = (Plain.wantL l1).length + 1 := by simp
  have hwl := Plain.wantL_len l1
  have SM := hid (Plain.small_plus l1 6 (by omega) (by omega))
  have S9 := hid (show 6 ≤ Plain.sumL (Plain.wantL l1 ++ [6]) by
    rw [Plain.sumL_app]; have := (Plain.sumL_bd (Plain.small_want l1)).1; simp [Plain.sumL]; omega)
  have S40 := hid (show ∀ w, w ∈ Plain.wantL l1 ++ [6] → w ≤ 40 from fun w hw => by
    rcases List.mem_append.1 hw with h | h
    · exact (Plain.wantL_bd l1 w h).2
    · have : w = 6 := by simpa using h
      omega)
  generalize Plain.wantL l1 ++ [6] = ws at hR hlen SM S9 S40
  generalize (Plain.wantL l1).length = n0 at hrun hlen hwl hc
  have HRUN := hid hrun
  have HR := hid hR
  have HG := hid hg
  have HB := hid hb2
  clear hrun hR hg hb2 hown hb1
  go_wp2_with (first | (at_builtin; refine wpList_app _ _ 22 HRUN.out (by rfl) (by rfl) (by rfl) (by rfl) (by rfl) ?_) | fail)
  clear HRUN
  obtain ⟨n, hn⟩ : ∃ n, n = n0 + 1 := ⟨_, rfl⟩
  rw [← hn] at hlen hc ⊢
  have hn11 : 1 ≤ n ∧ n ≤ 11 := by omega
  clear hn hwl
  have HL := hid hlen
  clear hlen
  obtain ⟨na, nb⟩ := hn11
  go_wp2_with fail
  refine (picked_any a0 200 v1 v2 (by omega) (by omega) _).mono ?_
  rintro e wx ⟨rfl, hx⟩
  have hy0 := hx.symm; clear hx; subst hy0
  have ht : 0 ≤ a0 % 200 ∧ a0 % 200 < 200 := by omega
  generalize a0 % 200 = t at ht
  obtain ⟨t1, t2⟩ := ht
  go_wp2_with fail
  refine (picked_any a2 n z2 y2 (by omega) (by omega) _).mono ?_
  rintro e wx ⟨rfl, hx⟩
  have hy0 := hx.symm; clear hx; subst hy0
  obtain ⟨i, hii⟩ : ∃ i : Nat, i = (a2 % (n : Int)).toNat := ⟨_, rfl⟩
  have hi0 := Int.emod_nonneg a2 (show (n : Int) ≠ 0 by omega)
  have hi1 := Int.emod_lt_of_pos a2 (show (0 : Int) < (n : Int) by omega)
  have ei : a2 % (n : Int) = (i : Int) := by omega
  have hin : i < n := by omega
  have hiz : (i : Int) < (n : Int) := by omega
  rw [ei]
  clear hii hi0 hi1 ei
  go_wp2_with fail
  refine (picked_any a3 n z3 y3 (by omega) (by omega) _).mono ?_
  rintro e wx ⟨rfl, hx⟩
  have hy0 := hx.symm; clear hx; subst hy0
  obtain ⟨k, hik⟩ : ∃ k : Nat, k = (a3 % (n : Int)).toNat := ⟨_, rfl⟩
  have hi0 := Int.emod_nonneg a3 (show (n : Int) ≠ 0 by omega)
  have hi1 := Int.emod_lt_of_pos a3 (show (0 : Int) < (n : Int) by omega)
  have ei : a3 % (n : Int) = (k : Int) := by omega
  have hkn : k < n := by omega
  have hkz : (k : Int) < (n : Int) := by omega
  rw [ei]
  clear hik hi0 hi1 ei
  go_wp2_with fail
  refine (shares_c (some ⟨g, 0, none⟩) n c ws t (Plain.splitE_small SM.out (by rw [HL.out]; omega) t1 (by omega)) W2 HL.out HR.out.wants (fun e => by cases e)).mono ?_
  rintro e W3 ⟨ga, rfl, ra, gea, ba⟩
  have RA := hid ra
  have BA := hid ba
  have HR3 := hid (HR.out.below ba HR.out.lt)
  have hne : ga ≠ g := by have := HR.out.lt; omega
  clear ra gea ba
  have cI := HR3.out.cell (show i < ws.length by rw [HL.out]; exact hin)
  have cK := HR3.out.cell (show k < ws.length by rw [HL.out]; exact hkn)
  have fI := HR3.out.frozen i
  have fK := HR3.out.frozen k
  have lW := HR3.out.lt
  obtain ⟨yi, hyi⟩ : ∃ y, y = ws.getD i 0 := ⟨_, rfl⟩
  obtain ⟨yk, hyk⟩ : ∃ y, y = ws.getD k 0 := ⟨_, rfl⟩
  rw [← hyi] at cI
  rw [← hyk] at cK
  have HYI := hid hyi
  have HYK := hid hyk
  clear hyi hyk
  have cK2 : (W3.setCell ⟨g, i, none⟩ (.int .i64 yk)).cell? ⟨g, k, none⟩ = some (.int .i64 yk) := by
    have h := (HR3.out.set i (by rw [HL.out]; exact hin) yk).cell (i := k) (by rw [List.length_set, HL.out]; exact hkn)
    rw [Plain.getD_set _ _ _ _ (by rw [HL.out]; exact hin), ← HYK.out] at h
    rw [h]; split <;> rfl
  have fK2 : (W3.setCell ⟨g, i, none⟩ (.int .i64 yk)).frozen? ⟨g, k, none⟩ = false := (HR3.out.set i (by rw [HL.out]; exact hin) yk).frozen k
  go_wp2
  go_region
  all_goals
    obtain ⟨W4, hW4⟩ : ∃ W4, W4 = ((W3.setCell ⟨g, i, none⟩ (.int .i64 yk)).setCell ⟨g, k, none⟩ (.int .i64 yi)).drew := ⟨_, rfl⟩
    rw [← hW4]
    have RW4 := hid (show RowI W4 g (Plain.swp ws i k) by
      rw [hW4, HYI.out, HYK.out]; exact ((HR3.out.set i (by rw [HL.out]; exact hin) _).set k (by rw [List.length_set, HL.out]; exact hkn) _).drewN 1)
    have RA4 := hid (show RowI W4 ga (Plain.splitL t ws) by rw [hW4]; exact ((RA.out.other (a := ⟨g, i, none⟩) hne _).other (a := ⟨g, k, none⟩) hne _).drewN 1)
    have B4 := hid (show Below w.heap.size w W4 by rw [hW4]; exact (((HB.out.trans (BA.out.mono HB.out.size)).setCell (p := ⟨g, i, none⟩) HG.out _).setCell (p := ⟨g, k, none⟩) HG.out _).drew)
    clear hW4 RA BA HR3 HR HB cI cK fI fK lW cK2 fK2 HYI HYK
    have SM2 := hid (Plain.swp_small SM.out i k (by rw [HL.out]; exact hin) (by rw [HL.out]; exact hkn))
    have HL2 := hid (show (Plain.swp ws i k).length = n by rw [Plain.swp_len]; exact HL.out)
    have WT := hid (fun (j : Nat) (hj : j < n) => Plain.split_swp SM.out t1 i k j (by rw [HL.out]; exact hin) (by rw [HL.out]; exact hkn) (by rw [HL.out]; exact hj))
    have SA := hid (Plain.small_split SM.out t1)
    have SB := hid (Plain.small_split SM2.out t1)
    have TOT := hid (show t = 0 ∨ 0 < Plain.sumL (Plain.splitL t ws) by
      rw [Plain.split_sum SM.out.wm t1]; have := S9.out; omega)
    go_wp2_with fail
    refine (shares_c (some ⟨g, 0, none⟩) n c (Plain.swp ws i k) t (Plain.splitE_small SM2.out (by rw [HL2.out]; omega) t1 (by omega)) W4 HL2.out RW4.out.wants (fun e => by cases e)).mono ?_
    rintro e W5 ⟨gb, rfl, rb, geb, bb⟩
    have LA := hid (show (Plain.splitL t ws).length = n by rw [Plain.split_len, HL.out])
    have LB := hid (show (Plain.splitL t (Plain.swp ws i k)).length = n by rw [Plain.split_len, HL2.out])
    have RA5 := hid (RA4.out.below bb RA4.out.lt)
    have RB5 := hid rb
    have B5 := hid (B4.out.trans (bb.mono B4.out.size))
    clear rb geb bb RA4 RW4 B4
    generalize Plain.splitL t (Plain.swp ws i k) = B at *
    generalize Plain.splitL t ws = A at *
    go_wp2
    go_loopg [17] n (fun gg s17 wx => ∃ j : Nat, j ≤ n ∧ n - j ≤ gg ∧ s17 = .int .i64 j ∧ Aside (∃ q, wx = W5.drewN q))
    case atStart => exact ⟨0, Nat.zero_le _, by omega, rfl, (show Aside _ from ⟨0, rfl⟩)⟩
    case round =>
      obtain ⟨j, hjj, hg, rfl, I⟩ := hrel
      by_cases hlt : j < n
      · have hltz : (j : Int) < (n : Int) := by omega
        obtain ⟨q, hq⟩ := I.out
        have htl := Plain.trn_lt hin hkn hlt
        have cA : wr.cell? ⟨ga, j, none⟩ = some (.int .i64 (A.getD j 0)) := by
          rw [hq]; exact (RA5.out.drewN q).cell (by rw [LA.out]; exact hlt)
        have cB : wr.cell? ⟨gb, Plain.trn i k j, none⟩ = some (.int .i64 (B.getD (Plain.trn i k j) 0)) := by
          rw [hq]; exact (RB5.out.drewN q).cell (by rw [LB.out]; exact htl)
        have hab := WT.out j hlt
        have ha := SA.out _ (Plain.mem_getD (show j < A.length by rw [LA.out]; exact hlt))
        have hb := SB.out _ (Plain.mem_getD (show Plain.trn i k j < B.length by rw [LB.out]; exact htl))
        have HQ := hid hq
        clear hq
        generalize A.getD j 0 = x at cA hab ha
        generalize B.getD (Plain.trn i k j) 0 = y at cB hab hb
        have no1 : decide (1 < x - y) = false := by rw [decide_eq_false_iff_not]; omega
        have no2 : decide (1 < y - x) = false := by rw [decide_eq_false_iff_not]; omega
        obtain ⟨ha1, ha2⟩ := ha
        obtain ⟨hb1, hb2⟩ := hb
        clear hab
        by_cases h1 : j = i
        · have e1 : Plain.trn i k j = k := by unfold Plain.trn; rw [if_pos h1]
          rw [e1] at cB
          subst h1
          clear e1 htl
          go_wp2
          go_quiet (fail)
          go_wp2
          go_roundg (n - (j + 1))
          case measure => omega
          case rel => exact ⟨j + 1, by omega, by omega, by go_num, (show Aside _ from ⟨_, by rw [HQ.out, drewN_add]⟩)⟩
        · have h1z : ((j : Int) == (i : Int)) = false := by rw [beq_eq_false_iff_ne]; omega
          by_cases h2 : j = k
          · have e1 : Plain.trn i k j = i := by unfold Plain.trn; rw [if_neg h1, if_pos h2]
            rw [e1] at cB
            subst h2
            clear e1 htl
            go_wp2
            go_quiet (fail)
            go_wp2
            go_roundg (n - (j + 1))
            case measure => omega
            case rel => exact ⟨j + 1, by omega, by omega, by go_num, (show Aside _ from ⟨_, by rw [HQ.out, drewN_add]⟩)⟩
          · have h2z : ((j : Int) == (k : Int)) = false := by rw [beq_eq_false_iff_ne]; omega
            have e1 : Plain.trn i k j = j := by unfold Plain.trn; rw [if_neg h1, if_neg h2]
            rw [e1] at cB
            clear e1 htl h1 h2
            go_wp2
            go_quiet (fail)
            go_wp2
            go_roundg (n - (j + 1))
            case measure => omega
            case rel => exact ⟨j + 1, by omega, by omega, by go_num, (show Aside _ from ⟨_, by rw [HQ.out, drewN_add]⟩)⟩
      · have hltz : ¬ (j : Int) < (n : Int) := by omega
        obtain ⟨wo, hwo⟩ : ∃ wo, wo = wr := ⟨_, rfl⟩
        subst hwo
        go_wp2
        clear hltz hlt hjj hg
        go_loopg [19, 20] n (fun gg s19 s20 wx => ∃ (k2 : Nat) (S : Int), k2 ≤ n ∧ n - k2 ≤ gg ∧ s20 = .int .i64 k2 ∧ s19 = .int .i64 S ∧ wx = wo ∧ Aside (S = Plain.sumL (A.take k2)))
        case atStart => exact ⟨0, 0, Nat.zero_le _, by omega, rfl, rfl, rfl, rfl⟩
        case round =>
          obtain ⟨k2, S, hkk, hg2, rfl, rfl, hwr, J⟩ := hrel
          have hy0 := hwr.symm; clear hwr; subst hy0
          have hS := Plain.sumL_tk SA.out k2
          rw [← J.out, LA.out] at hS
          obtain ⟨hS1, hS2⟩ := hS
          by_cases hlt : k2 < n
          · have hltz : (k2 : Int) < (n : Int) := by omega
            have cA : wo.cell? ⟨ga, k2, none⟩ = some (.int .i64 (A.getD k2 0)) := by
              obtain ⟨q, hq⟩ := I.out
              rw [hq]; exact (RA5.out.drewN q).cell (by rw [LA.out]; exact hlt)
            have ha := SA.out _ (Plain.mem_getD (show k2 < A.length by rw [LA.out]; exact hlt))
            have hst := hid (show Plain.sumL (A.take (k2 + 1)) = S + A.getD k2 0 by rw [Plain.sumL_next A k2 (by rw [LA.out]; exact hlt), J.out])
            generalize A.getD k2 0 = x at cA ha hst
            obtain ⟨ha1, ha2⟩ := ha
            go_wp2
            go_roundg (n - (k2 + 1))
            case measure => omega
            case rel => exact ⟨k2 + 1, S + x, by omega, by omega, by go_num, rfl, rfl, hst.out.symm⟩
          · have hltz : ¬ (k2 : Int) < (n : Int) := by omega
            have HBF := hid (show Below w.heap.size w wo by
              obtain ⟨q, hq⟩ := I.out
              rw [hq]; exact below_drewN B5.out q)
            have hfin : t = 0 ∨ 0 < S := by
              rw [J.out, List.take_of_length_le (by rw [LA.out]; omega)]; exact TOT.out
            by_cases ht0 : t = 0
            · subst ht0
              go_wp2
              go_ret
              exact ⟨rfl, HBF.out⟩
            · have hSp : 0 < S := by omega
              have htb : (t == 0) = false := by rw [beq_eq_false_iff_ne]; exact ht0
              clear hfin
              go_wp2
              go_ret
              exact ⟨by first | rfl | simp [hSp], HBF.out⟩

set_option maxRecDepth 100000 in
theorem lifted (os : Os) (started : os.Started) (H : Type) (enc : TypeId × Value → H) :
    ReturnsInHanded {} Try.checked os 5 .any (Rows.shareTurnSpec.pre6 enc Try.prog Try.f5 Rows.shareTurnRow.domain false) (Rows.shareTurnSpec.post enc Try.prog Try.f5 false true false false) := by
  refine returnsInHanded_of_change (C := Try.checked) own started (by kernel_rfl) Try.func5
    (ChangeSpec.witness6 (enc := enc) (C := Try.checked) false ⟨#[], #[.int .i64 0, .slice none 0 0, .int .i64 0, .int .i64 0], []⟩ 8 (by kernel_rfl) (by kernel_rfl) (by kernel_rfl) (by kernel_rfl)) ?_
  intro W base args ds gs before hval0 hW hcnd _
  have hval : ∀ (j : Nat) t v, Try.f5.params[j]? = some t → args[j]? = some v → Value.okWide Try.prog W .any base t v := hval0
  have hW' := hW
  obtain ⟨p, q, hA0, hV, rfl, hfz, hnd⟩ := hW
  have hA : DataW.TrodAll enc Try.prog W 0 (fun _ => true) true Try.f5.params.toList args.toList ds p := hA0
  rw [Try.params5] at hA hval
  obtain ⟨v0, vs0, d0, ds0, p0, q0, hargs, rfl, rfl, h0, r0⟩ := trodAll_cons hA
  obtain ⟨v1, vs1, d1, ds1, p1, q1, rfl, rfl, rfl, h1, r1⟩ := trodAll_cons r0
  obtain ⟨v2, vs2, d2, ds2, p2, q2, rfl, rfl, rfl, h2, r2⟩ := trodAll_cons r1
  obtain ⟨v3, vs3, d3, ds3, p3, q3, rfl, rfl, rfl, h3, r3⟩ := trodAll_cons r2
  obtain ⟨rfl, rfl, rfl⟩ := trodAll_nil r3
  obtain rfl : args = #[v0, v1, v2, v3] := by cases args; simp_all
  obtain ⟨rfl, rfl⟩ := trodVars_none hV
  have k0 := h0
  have lt0 : ∀ x ∈ p0, x.block < W.heap.size := by obtain ⟨m, hm⟩ := k0; exact DataW.trod_lt m _ _ _ hm
  obtain ⟨a0, rfl, _, _, w0⟩ := open_int Try.underlying3 (hval 0 3 v0 rfl rfl) h0
  obtain ⟨a1, len1, cap1, rfl⟩ := okWide_slice Try.underlying22 (hval 1 22 v1 rfl rfl)
  have k1 := h1
  have lt1 : ∀ x ∈ p1, x.block < W.heap.size := by obtain ⟨m, hm⟩ := k1; exact DataW.trod_lt m _ _ _ hm
  obtain ⟨l1, hl1, hc1, hm1, hr1, y1, s1⟩ := ints_seg h1
  have k2 := h2
  have lt2 : ∀ x ∈ p2, x.block < W.heap.size := by obtain ⟨m, hm⟩ := k2; exact DataW.trod_lt m _ _ _ hm
  obtain ⟨a2, rfl, _, _, w2⟩ := open_int Try.underlying3 (hval 2 3 v2 rfl rfl) h2
  have k3 := h3
  have lt3 : ∀ x ∈ p3, x.block < W.heap.size := by obtain ⟨m, hm⟩ := k3; exact DataW.trod_lt m _ _ _ hm
  obtain ⟨a3, rfl, _, _, w3⟩ := open_int Try.underlying3 (hval 3 3 v3 rfl rfl) h3
  clear hA0 hval0
  refine (walk W a0 (bounds_i64 w0) _ l1 (by omega) hr1 s1 y1 a2 (bounds_i64 w2) a3 (bounds_i64 w3)).mono fun e W' ⟨he, bel⟩ => ?_
  subst he
  exact ⟨_, rfl, _, _, _, [], _, [], hW', trodAll_mk1 (shut_bool Try.underlying4 _), (trodAll_cons_mk (Below.trod laidOut (by kernel_rfl) (of_decide_eq_true (by kernel_rfl)) k0 bel lt0) (trodAll_cons_mk (Below.trod laidOut (by kernel_rfl) (of_decide_eq_true (by kernel_rfl)) k1 bel lt1) (trodAll_cons_mk (Below.trod laidOut (by kernel_rfl) (of_decide_eq_true (by kernel_rfl)) k2 bel lt2) (trodAll_cons_mk (Below.trod laidOut (by kernel_rfl) (of_decide_eq_true (by kernel_rfl)) k3 bel lt3) trodAll_mk0)))), rfl, bel.frame _, fun h => by cases h⟩

theorem over : Rows.shareTurnRow.holds Try.pinned (OpenSpec.ofChange Rows.shareTurnSpec) :=
  OpenClaim.holds_of_wide 5 Try.f5 rfl rfl rfl rfl rfl rfl rfl ⟨rfl, rfl, rfl, rfl, rfl⟩ rfl rfl rfl rfl rfl (by kernel_rfl) Try.func5 (by kernel_rfl)
    (of_decide_eq_true (by kernel_rfl)) (by unfold Func.isWrapper; first | (rw [if_pos (by decide +kernel)]; kernel_rfl) | (rw [if_neg (by decide +kernel)]; exact ⟨rfl, rfl⟩))
    (fun os started H enc _ => lifted os started H enc)

end shareTurn

theorem shareTurn_holds : Rows.ShareTurnSaid := shareTurn.over
#print axioms shareTurn_holds
end Go.Proofs.Ytiddpkhmdjjmdah

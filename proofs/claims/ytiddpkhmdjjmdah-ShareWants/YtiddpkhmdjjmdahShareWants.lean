/- Proved: at every three 64-bit integers and every list of 64-bit integers the law ShareWants returns true: nobody gains by wanting more. Conditions: none. -/
import Derived.Test.YtiddpkhmdjjmdahRows
import Derived.WalkKit
import Derived.ProofKit
import Derived.OpenShut
import Derived.WalkSmall
import Derived.ShutString
import Derived.ChangeOld
import Derived.Below
import Derived.Test.YtiddpkhmdjjmdahHg
import Derived.Test.YtiddpkhmdjjmdahHk
import Derived.Deep.RegionWith
namespace Go.Proofs.Ytiddpkhmdjjmdah
namespace shareWants
open Go.ChangeShapes Go.WideShapes Go.ChangeAt Go.RowKit
set_option linter.unusedVariables false

theorem own : ownKnob Try.prog.godebug = none := by kernel_rfl
theorem laidOut : laidOutB Try.prog = true := by kernel_rfl

theorem ints_seg {H : Type} {enc : TypeId × Value → H} {W : World} {d : DataW H} {p : List MemPlace} {a : Option Addr} {len cap : Nat} (h : DataW.Trod enc Try.prog W 0 (fun _ => true) true 22 (.slice a len cap) d p) :
    ∃ l : List Int, l.length = len ∧ len ≤ cap ∧ cap ≤ 9223372036854775807 ∧ (∀ n ∈ l, (Lit.int .i64 n).wf = true) ∧ Lies W.heap.size (.slice a len cap) ∧ Seg W (.slice a len cap) l := by
  obtain ⟨fuel, hf⟩ := h
  rcases open_ints Try.underlying22 Try.underlying3 (by kernel_rfl) hf with ⟨hcs, _⟩ | ⟨x, l, c, zs, hcs, _, hl, hm, hz, _, hcell, hwz⟩
  · simp [Value.cells] at hcs
    obtain ⟨rfl, rfl, rfl⟩ := hcs
    exact row_seg (zs := []) (.inl ⟨rfl, rfl, rfl, rfl⟩)
  · simp [Value.cells] at hcs
    obtain ⟨rfl, rfl, rfl⟩ := hcs
    exact row_seg (.inr ⟨_, rfl, hl, hm, by simpa using hz, hcell, hwz⟩)

set_option maxHeartbeats 4000000 in
set_option maxRecDepth 100000 in
theorem walk (w : World) (a0 : Int) (w0 : -9223372036854775808 ≤ a0 ∧ a0 ≤ 9223372036854775807) (v1 : Value) (l1 : List Int) (hm1 : l1.length ≤ 9223372036854775807) (hr1 : ∀ n ∈ l1, (Lit.int .i64 n).wf = true) (s1 : Seg w v1 l1) (y1 : Lies w.heap.size v1) (a2 : Int) (w2 : -9223372036854775808 ≤ a2 ∧ a2 ≤ 9223372036854775807) (a3 : Int) (w3 : -9223372036854775808 ≤ a3 ∧ a3 ≤ 9223372036854775807) :
    Calls Try.prog 3 #[.int .i64 a0, v1, .int .i64 a2, .int .i64 a3] w fun e w' => e = .returned (.bool true) ∧ Below w.heap.size w w' := by
  obtain ⟨p1, c1, rfl, hp1⟩ := seg_wants s1 y1
  have K0 := wantsOf_c p1 l1.length c1 l1 hr1 hm1 w rfl hp1
  clear s1 y1 hp1 hr1
  obtain ⟨v1, v2⟩ := w0
  obtain ⟨z2, y2⟩ := w2
  obtain ⟨z3, y3⟩ := w3
  go_enter Try.func3, Try.ntmps3
  go_wp2_with fail
  refine K0.mono ?_
  rintro e W1 ⟨r, rfl, hown, hb1⟩
  clear K0
  obtain ⟨g, c, W2, hrun, hR, hg, hc, hb2⟩ := plus_c 7 hown rfl (by have := Plain.wantL_len l1; omega) hb1
  obtain ⟨pr, cr, rfl, _, _⟩ := owns_wants hown rfl
  have hlen : (Plain.wantL l1 ++ [7]).length = (Plain.wantL l1).length + 1 := by simp
  have hwl := Plain.wantL_len l1
  have SM := hid (Plain.small_plus l1 7 (by omega) (by omega))
  have S9 := hid (show 7 ≤ Plain.sumL (Plain.wantL l1 ++ [7]) by
    rw [Plain.sumL_app]; have := (Plain.sumL_bd (Plain.small_want l1)).1; simp [Plain.sumL]; omega)
  have S40 := hid (show ∀ w, w ∈ Plain.wantL l1 ++ [7] → w ≤ 40 from fun w hw => by
    rcases List.mem_append.1 hw with h | h
    · exact (Plain.wantL_bd l1 w h).2
    · have : w = 7 := by simpa using h
      omega)
  generalize Plain.wantL l1 ++ [7] = ws at hR hlen SM S9 S40
  generalize (Plain.wantL l1).length = n0 at hrun hlen hwl hc
  have HRUN := hid hrun
  have HR := hid hR
  have HG := hid hg
  have HB := hid hb2
  clear hrun hR hg hb2 hown hb1
  go_wp2_with (first | (at_builtin; refine wpList_app _ _ 22 HRUN.out (by rfl) (by rfl) (by rfl) (by rfl) (by rfl) ?_) | fail)
  clear HRUN
  obtain ⟨n, hn⟩ : ∃ n, n = n0 + 1 := ⟨_, rfl⟩
  rw [← hn] at hlen hc ⊢
  have hn11 : 1 ≤ n ∧ n ≤ 11 := by omega
  clear hn hwl
  have HL := hid hlen
  clear hlen
  obtain ⟨na, nb⟩ := hn11
  go_wp2_with fail
  refine (picked_any a0 200 v1 v2 (by omega) (by omega) _).mono ?_
  rintro e wx ⟨rfl, hx⟩
  have hy0 := hx.symm; clear hx; subst hy0
  have ht : 0 ≤ a0 % 200 ∧ a0 % 200 < 200 := by omega
  generalize a0 % 200 = t at ht
  obtain ⟨t1, t2⟩ := ht
  go_wp2_with fail
  refine (picked_any a2 n z2 y2 (by omega) (by omega) _).mono ?_
  rintro e wx ⟨rfl, hx⟩
  have hy0 := hx.symm; clear hx; subst hy0
  obtain ⟨i, hi⟩ : ∃ i : Nat, i = (a2 % (n : Int)).toNat := ⟨_, rfl⟩
  have hi0 := Int.emod_nonneg a2 (show (n : Int) ≠ 0 by omega)
  have hi1 := Int.emod_lt_of_pos a2 (show (0 : Int) < (n : Int) by omega)
  have ei : a2 % (n : Int) = (i : Int) := by omega
  have hin : i < n := by omega
  have hinz : (i : Int) < (n : Int) := by omega
  rw [ei]
  clear hi hi0 hi1 ei
  go_wp2_with fail
  refine (shares_c (some ⟨g, 0, none⟩) n c ws t (Plain.splitE_small SM.out (by rw [HL.out]; omega) t1 (by omega)) W2 HL.out HR.out.wants (fun e => by cases e)).mono ?_
  rintro e W3 ⟨ga, rfl, ra, gea, ba⟩
  have RA := hid ra
  have BA := hid ba
  have HR3 := hid (HR.out.below ba HR.out.lt)
  have hne : ga ≠ g := by have := HR.out.lt; omega
  clear ra gea ba
  have hm : 0 ≤ a3 % 50 ∧ a3 % 50 < 50 := by omega
  obtain ⟨y, hy⟩ : ∃ y, y = ws.getD i 0 := ⟨_, rfl⟩
  have hyb := SM.out _ (Plain.mem_getD (show i < ws.length by rw [HL.out]; exact hin))
  have cW := HR3.out.cell (show i < ws.length by rw [HL.out]; exact hin)
  have fW := HR3.out.frozen i
  have lW := HR3.out.lt
  rw [← hy] at hyb cW
  obtain ⟨yb1, yb2⟩ := hyb
  have HY := hid hy
  clear hy
  have yb3 : y ≤ 40 := by rw [HY.out]; exact S40.out _ (Plain.mem_getD (by rw [HL.out]; exact hin))
  have KP := fun W => picked_any a3 50 z3 y3 (by omega) (by omega) W
  generalize a3 % 50 = m at hm KP
  obtain ⟨m1, m2⟩ := hm
  obtain ⟨u, hu⟩ : ∃ u, u = 1 + m := ⟨_, rfl⟩
  obtain ⟨z, hz⟩ : ∃ z, z = y + u := ⟨_, rfl⟩
  have hw1 : IntKind.i64.wrap (1 + m) = u := by rw [hu]; rw [IntKind.wrap_i64]; omega
  have hw2 : IntKind.i64.wrap (y + u) = z := by rw [hz]; rw [IntKind.wrap_i64]; omega
  have hzb : 0 ≤ z ∧ z ≤ 1000 := by omega
  have HZ := hid (show z = ws.getD i 0 + (1 + m) by rw [hz, hu, HY.out])
  have hzy : z - 1 - m = y := by omega
  have HZY := hid hzy
  have hzl : 0 ≤ z - 1 ∧ z - 1 ≤ 1000 := by omega
  obtain ⟨zb1, zb2⟩ := hzb
  clear hu hz hzy
  go_wp2
  go_region_with (go_at_call 8; refine (KP _).mono ?_; rintro e w' ⟨rfl, rfl⟩)
  all_goals
    obtain ⟨W4, hW4⟩ : ∃ W4, W4 = (W3.setCell ⟨g, i, none⟩ (.int .i64 z)).drew := ⟨_, rfl⟩
    rw [← hW4]
    have RW4 := hid (show RowI W4 g (ws.set i z) by rw [hW4]; exact (HR3.out.set i (by rw [HL.out]; exact hin) z).drewN 1)
    have RA4 := hid (show RowI W4 ga (Plain.splitL t ws) by rw [hW4]; exact (RA.out.other (a := ⟨g, i, none⟩) hne (.int .i64 z)).drewN 1)
    have B4 := hid (show Below w.heap.size w W4 by rw [hW4]; exact ((HB.out.trans (BA.out.mono HB.out.size)).setCell (p := ⟨g, i, none⟩) HG.out _).drew)
    clear hW4 RA BA HR3 HR HB cW fW lW hw1 hw2
    have SM2 := hid (Plain.small_set SM.out i z zb1 zb2)
    have HL2 := hid (show (ws.set i z).length = n by rw [List.length_set]; exact HL.out)
    have WT := hid (show (Plain.splitL t ws).getD i 0 ≤ (Plain.splitL t (ws.set i z)).getD i 0 ∧ ((Plain.splitL t ws).getD i 0 ≠ y → Plain.splitL t (ws.set i z) = Plain.splitL t ws) by
      have h := Plain.split_wants SM.out.wm t1 i (by rw [HL.out]; exact hin) (1 + m) (by omega) (by rw [← HZ.out]; exact SM2.out.wm)
      rw [← HZ.out, ← HY.out] at h
      exact h)
    have cWi := hid (show (ws.set i z).getD i 0 = z by rw [List.getD_eq_getElem?_getD, List.getElem?_set, if_pos rfl, if_pos (by rw [HL.out]; exact hin)]; rfl)
    go_wp2_with fail
    refine (shares_c (some ⟨g, 0, none⟩) n c (ws.set i z) t (Plain.splitE_small SM2.out (by rw [HL2.out]; omega) t1 (by omega)) W4 HL2.out RW4.out.wants (fun e => by cases e)).mono ?_
    rintro e W5 ⟨gb, rfl, rb, geb, bb⟩
    have LA := hid (show (Plain.splitL t ws).length = n by rw [Plain.split_len, HL.out])
    have LB := hid (show (Plain.splitL t (ws.set i z)).length = n by rw [Plain.split_len, HL2.out])
    have cW := (RW4.out.below bb RW4.out.lt).cell (i := i) (by rw [HL2.out]; exact hin)
    rw [cWi.out] at cW
    have RA5 := hid (RA4.out.below bb RA4.out.lt)
    have RB5 := hid rb
    have B5 := hid (B4.out.trans (bb.mono B4.out.size))
    clear rb geb bb RA4 RW4 B4 cWi
    generalize Plain.splitL t (ws.set i z) = B at *
    generalize Plain.splitL t ws = A at *
    have cA := RA5.out.cell (i := i) (by rw [LA.out]; exact hin)
    have cB := RB5.out.cell (i := i) (by rw [LB.out]; exact hin)
    have hle := WT.out.1
    have WS := hid WT.out.2
    clear WT
    generalize hxa : A.getD i 0 = xa at cA hle WS
    generalize B.getD i 0 = xb at cB hle
    have no : decide (xb < xa) = false := by rw [decide_eq_false_iff_not]; omega
    clear hle
    go_wp2
    go_quiet (fail)
    obtain ⟨W6, hW6⟩ : ∃ W6, W6 = W5.drewN nq := ⟨_, rfl⟩
    rw [← hW6]
    have cA6 : W6.cell? ⟨ga, i, none⟩ = some (.int .i64 xa) := by rw [hW6]; simpa using cA
    have cW6 : W6.cell? ⟨g, i, none⟩ = some (.int .i64 z) := by rw [hW6]; simpa using cW
    have RA6 := hid (show RowI W6 ga A by rw [hW6]; exact RA5.out.drewN nq)
    have RB6 := hid (show RowI W6 gb B by rw [hW6]; exact RB5.out.drewN nq)
    have B6 := hid (show Below w.heap.size w W6 by rw [hW6]; exact below_drewN B5.out nq)
    clear hW6 cA cB cW RA5 RB5 B5 no hxa
    by_cases heq : xa = y
    · have hb : (xa == z - 1 - m) = true := by rw [HZY.out, heq]; simp
      go_wp2
      go_quiet ((go_at_call 8; exact Calls.quiet_of_same (KP _)))
      go_wp2
      go_ret
      exact ⟨rfl, below_drewN B6.out _⟩
    · have hb : (xa == z - 1 - m) = false := by rw [HZY.out]; simpa using heq
      have KS := fun q => keep.same_any (.slice (some ⟨ga, 0, none⟩) n n) (.slice (some ⟨gb, 0, none⟩) n n) A B (by rw [LA.out]; omega) (W6.drewN q) (by have := (RA6.out.drewN q).seg n; rwa [LA.out] at this) (by have := (RB6.out.drewN q).seg n; rwa [LB.out] at this)
      have hd : decide (A = B) = true := by rw [WS.out heq]; simp
      rw [hd] at KS
      clear hd
      go_wp2
      go_quiet ((go_at_call 8; exact Calls.quiet_of_same (KP _)))
      go_wp2_with fail
      refine (KS _).mono ?_
      rintro e w' ⟨rfl, q, rfl⟩
      rw [drewN_add]
      go_wp2
      go_ret
      exact ⟨rfl, below_drewN B6.out _⟩

set_option maxRecDepth 100000 in
theorem lifted (os : Os) (started : os.Started) (H : Type) (enc : TypeId × Value → H) :
    ReturnsInHanded {} Try.checked os 3 .any (Rows.shareWantsSpec.pre6 enc Try.prog Try.f3 Rows.shareWantsRow.domain false) (Rows.shareWantsSpec.post enc Try.prog Try.f3 false true false false) := by
  refine returnsInHanded_of_change (C := Try.checked) own started (by kernel_rfl) Try.func3
    (ChangeSpec.witness6 (enc := enc) (C := Try.checked) false ⟨#[], #[.int .i64 0, .slice none 0 0, .int .i64 0, .int .i64 0], []⟩ 8 (by kernel_rfl) (by kernel_rfl) (by kernel_rfl) (by kernel_rfl)) ?_
  intro W base args ds gs before hval0 hW hcnd _
  have hval : ∀ (j : Nat) t v, Try.f3.params[j]? = some t → args[j]? = some v → Value.okWide Try.prog W .any base t v := hval0
  have hW' := hW
  obtain ⟨p, q, hA0, hV, rfl, hfz, hnd⟩ := hW
  have hA : DataW.TrodAll enc Try.prog W 0 (fun _ => true) true Try.f3.params.toList args.toList ds p := hA0
  rw [Try.params3] at hA hval
  obtain ⟨v0, vs0, d0, ds0, p0, q0, hargs, rfl, rfl, h0, r0⟩ := trodAll_cons hA
  obtain ⟨v1, vs1, d1, ds1, p1, q1, rfl, rfl, rfl, h1, r1⟩ := trodAll_cons r0
  obtain ⟨v2, vs2, d2, ds2, p2, q2, rfl, rfl, rfl, h2, r2⟩ := trodAll_cons r1
  obtain ⟨v3, vs3, d3, ds3, p3, q3, rfl, rfl, rfl, h3, r3⟩ := trodAll_cons r2
  obtain ⟨rfl, rfl, rfl⟩ := trodAll_nil r3
  obtain rfl : args = #[v0, v1, v2, v3] := by cases args; simp_all
  obtain ⟨rfl, rfl⟩ := trodVars_none hV
  have k0 := h0
  have lt0 : ∀ x ∈ p0, x.block < W.heap.size := by obtain ⟨m, hm⟩ := k0; exact DataW.trod_lt m _ _ _ hm
  obtain ⟨a0, rfl, _, _, w0⟩ := open_int Try.underlying3 (hval 0 3 v0 rfl rfl) h0
  obtain ⟨a1, len1, cap1, rfl⟩ := okWide_slice Try.underlying22 (hval 1 22 v1 rfl rfl)
  have k1 := h1
  have lt1 : ∀ x ∈ p1, x.block < W.heap.size := by obtain ⟨m, hm⟩ := k1; exact DataW.trod_lt m _ _ _ hm
  obtain ⟨l1, hl1, hc1, hm1, hr1, y1, s1⟩ := ints_seg h1
  have k2 := h2
  have lt2 : ∀ x ∈ p2, x.block < W.heap.size := by obtain ⟨m, hm⟩ := k2; exact DataW.trod_lt m _ _ _ hm
  obtain ⟨a2, rfl, _, _, w2⟩ := open_int Try.underlying3 (hval 2 3 v2 rfl rfl) h2
  have k3 := h3
  have lt3 : ∀ x ∈ p3, x.block < W.heap.size := by obtain ⟨m, hm⟩ := k3; exact DataW.trod_lt m _ _ _ hm
  obtain ⟨a3, rfl, _, _, w3⟩ := open_int Try.underlying3 (hval 3 3 v3 rfl rfl) h3
  clear hA0 hval0
  refine (walk W a0 (bounds_i64 w0) _ l1 (by omega) hr1 s1 y1 a2 (bounds_i64 w2) a3 (bounds_i64 w3)).mono fun e W' ⟨he, bel⟩ => ?_
  subst he
  exact ⟨_, rfl, _, _, _, [], _, [], hW', trodAll_mk1 (shut_bool Try.underlying4 _), (trodAll_cons_mk (Below.trod laidOut (by kernel_rfl) (of_decide_eq_true (by kernel_rfl)) k0 bel lt0) (trodAll_cons_mk (Below.trod laidOut (by kernel_rfl) (of_decide_eq_true (by kernel_rfl)) k1 bel lt1) (trodAll_cons_mk (Below.trod laidOut (by kernel_rfl) (of_decide_eq_true (by kernel_rfl)) k2 bel lt2) (trodAll_cons_mk (Below.trod laidOut (by kernel_rfl) (of_decide_eq_true (by kernel_rfl)) k3 bel lt3) trodAll_mk0)))), rfl, bel.frame _, fun h => by cases h⟩

theorem over : Rows.shareWantsRow.holds Try.pinned (OpenSpec.ofChange Rows.shareWantsSpec) :=
  OpenClaim.holds_of_wide 3 Try.f3 rfl rfl rfl rfl rfl rfl rfl ⟨rfl, rfl, rfl, rfl, rfl⟩ rfl rfl rfl rfl rfl (by kernel_rfl) Try.func3 (by kernel_rfl)
    (of_decide_eq_true (by kernel_rfl)) (by unfold Func.isWrapper; first | (rw [if_pos (by decide +kernel)]; kernel_rfl) | (rw [if_neg (by decide +kernel)]; exact ⟨rfl, rfl⟩))
    (fun os started H enc _ => lifted os started H enc)

end shareWants

theorem shareWants_holds : Rows.ShareWantsSaid := shareWants.over
#print axioms shareWants_holds
end Go.Proofs.Ytiddpkhmdjjmdah

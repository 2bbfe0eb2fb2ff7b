/- BookServes: where there is enough for all that three branches want, and each may be given something, all is given in the end: whatever they want, the cap and the ticks. No condition. -/
import Derived.Test.YtiolkeghgodggajRows
import Derived.WalkKit
import Derived.ProofKit
import Derived.OpenShut
import Derived.WalkSmall
import Derived.ShutString
import Derived.ChangeOld
import Derived.Below
import Derived.Test.YtiolkeghgodggajV4
namespace Go.Proofs.Ytiolkeghgodggaj
namespace bookServes
open Go.ChangeShapes Go.WideShapes Go.ChangeAt Go.RowKit Bo
set_option linter.unusedVariables false

theorem own : ownKnob Try.prog.godebug = none := by kernel_rfl
theorem laidOut : laidOutB Try.prog = true := by kernel_rfl

set_option maxHeartbeats 4000000 in
set_option maxRecDepth 100000 in
theorem walk (w : World) (a0 : Int) (w0 : -9223372036854775808 ≤ a0 ∧ a0 ≤ 9223372036854775807) (a1 : Int) (w1 : -9223372036854775808 ≤ a1 ∧ a1 ≤ 9223372036854775807) (a2 : Int) (w2 : -9223372036854775808 ≤ a2 ∧ a2 ≤ 9223372036854775807) (a3 : Int) (w3 : -9223372036854775808 ≤ a3 ∧ a3 ≤ 9223372036854775807) (a4 : Int) (w4 : -9223372036854775808 ≤ a4 ∧ a4 ≤ 9223372036854775807) :
    Calls Try.prog 7 #[.int .i64 a0, .int .i64 a1, .int .i64 a2, .int .i64 a3, .int .i64 a4] w fun e w' => e = .returned (.bool true) ∧ Below w.heap.size w w' := by
  have hq0 : 0 ≤ a0 % 30 ∧ a0 % 30 < 30 := by omega
  have hq1 : 0 ≤ a1 % 4 ∧ a1 % 4 < 4 := by omega
  have hq2 : 0 ≤ a2 % 40 ∧ a2 % 40 < 40 := by omega
  have hq3 : 0 ≤ a3 % 40 ∧ a3 % 40 < 40 := by omega
  have hq4 : 0 ≤ a4 % 40 ∧ a4 % 40 < 40 := by omega
  have K0 := fun W => picked_any a0 30 w0.1 w0.2 (by omega) (by omega) W
  have K1 := fun W => picked_any a1 4 w1.1 w1.2 (by omega) (by omega) W
  have K2 := fun W => picked_any a2 40 w2.1 w2.2 (by omega) (by omega) W
  have K3 := fun W => picked_any a3 40 w3.1 w3.2 (by omega) (by omega) W
  have K4 := fun W => picked_any a4 40 w4.1 w4.2 (by omega) (by omega) W
  generalize a0 % 30 = tp at *
  generalize a1 % 4 = tq at *
  generalize a2 % 40 = x0 at *
  generalize a3 % 40 = x1 at *
  generalize a4 % 40 = x2 at *
  obtain ⟨tk, htk⟩ : ∃ tk : Nat, (tk : Int) = 1 + tq := ⟨(1 + tq).toNat, by omega⟩
  have ht14 : 1 ≤ tk ∧ tk ≤ 4 := by omega
  obtain ⟨m, hm⟩ : ∃ m : Nat, m + 1 = 40 * tk := ⟨40 * tk - 1, by omega⟩
  have LAW := hid (Plain.serve_law (cap := 1 + tp) (tk := tk) (x0 := x0) (x1 := x1) (x2 := x2) (by omega) (by omega) hq2 hq3 hq4 m hm)
  obtain ⟨xs, hxs⟩ : ∃ xs : List Int, xs = [x0, x1, x2] := ⟨_, rfl⟩
  rw [← hxs] at LAW
  obtain ⟨W1, hW1⟩ : ∃ W1, W1 = w.alloc (.cells #[.int .i64 x0, .int .i64 x1, .int .i64 x2] 3) := ⟨_, rfl⟩
  have RX := hid (show RowI W1 w.heap.size xs by
    rw [hW1, hxs]
    refine ⟨_, Deep.blk_alloc_new _ _, Nat.le_refl _, fun i hi => ?_⟩
    have : i = 0 ∨ i = 1 ∨ i = 2 := by simp at hi; omega
    rcases this with rfl | rfl | rfl <;> rfl)
  have B1 := hid (show Below w.heap.size w W1 by rw [hW1]; exact (Below.refl _ _).alloc (Nat.le_refl _) _)
  have HS := hid (show Plain.stockC xs = ⟨1, 0, 1 + 3 * (x0 + x1 + x2)⟩ by rw [hxs]; rfl)
  have HXS := hid hxs
  have HW1 := hid hW1
  clear hxs hW1
  have hs0 : IntKind.i64.wrap (1 + tp) = 1 + tp := by rw [IntKind.wrap_i64]; omega
  have hs1 : IntKind.i64.wrap (1 + tq) = (tk : Int) := by rw [IntKind.wrap_i64]; omega
  have hs2 : IntKind.i64.wrap (x0 + x1) = x0 + x1 := by rw [IntKind.wrap_i64]; omega
  have hs3 : IntKind.i64.wrap (x0 + x1 + x2) = x0 + x1 + x2 := by rw [IntKind.wrap_i64]; omega
  have hs4 : IntKind.i64.wrap (3 * (x0 + x1 + x2)) = 3 * (x0 + x1 + x2) := by rw [IntKind.wrap_i64]; omega
  have hs5 : IntKind.i64.wrap (1 + 3 * (x0 + x1 + x2)) = 1 + 3 * (x0 + x1 + x2) := by rw [IntKind.wrap_i64]; omega
  have HTK := hid htk
  clear htk
  go_enter Try.func7, Try.ntmps7
  go_wp2_with fail
  refine (K0 _).mono ?_
  rintro e wx ⟨rfl, hx⟩
  have hy := hx.symm
  clear hx K0
  subst hy
  go_wp2_with fail
  refine (K1 _).mono ?_
  rintro e wx ⟨rfl, hx⟩
  have hy := hx.symm
  clear hx K1
  subst hy
  go_wp2_with fail
  refine (K2 _).mono ?_
  rintro e wx ⟨rfl, hx⟩
  have hy := hx.symm
  clear hx K2
  subst hy
  go_wp2_with fail
  refine (K3 _).mono ?_
  rintro e wx ⟨rfl, hx⟩
  have hy := hx.symm
  clear hx K3
  subst hy
  go_wp2_with fail
  refine (K4 _).mono ?_
  rintro e wx ⟨rfl, hx⟩
  have hy := hx.symm
  clear hx K4
  subst hy
  go_wp2
  have eW1 : w.alloc (.cells #[.int .i64 x0, .int .i64 x1, .int .i64 x2] 3) = W1 := HW1.out.symm
  rw [eW1]
  clear eW1 hs1
  have v0 : W1.cell? ⟨w.heap.size, 0, none⟩ = some (.int .i64 x0) := by have := RX.out.cell (i := 0) (by rw [HXS.out]; simp); rw [HXS.out] at this; exact this
  have v1 : W1.cell? ⟨w.heap.size, 1, none⟩ = some (.int .i64 x1) := by have := RX.out.cell (i := 1) (by rw [HXS.out]; simp); rw [HXS.out] at this; exact this
  have v2 : W1.cell? ⟨w.heap.size, 2, none⟩ = some (.int .i64 x2) := by have := RX.out.cell (i := 2) (by rw [HXS.out]; simp); rw [HXS.out] at this; exact this
  go_region_held3 (fun w' => w'.cell? ⟨w.heap.size, 0, none⟩ = some (.int .i64 x0) ∧ w'.cell? ⟨w.heap.size, 1, none⟩ = some (.int .i64 x1) ∧ w'.cell? ⟨w.heap.size, 2, none⟩ = some (.int .i64 x2)) (go_keep) (fail)
  obtain ⟨W2, hW2⟩ : ∃ W2, W2 = (W1.alloc (boxC (Plain.stockC xs))).drewN 1 := ⟨_, rfl⟩
  have I2 := hid (show CI W1 W2 (.slice (some ⟨W1.heap.size, 0, none⟩) 1 1) [Plain.stockC xs] by rw [hW2]; exact CI.lit W1 _ 1)
  have eW2 : (W1.alloc (.cells #[.int .i64 1, .int .i64 0, .int .i64 (1 + 3 * (x0 + x1 + x2))] 52)).drew = W2 := by rw [hW2, HS.out]; rfl
  rw [eW2]
  clear eW2 hW2 v0 v1 v2 hs2 hs3 hs4 hs5
  have HXL := hid (show xs.length = 3 by rw [HXS.out]; rfl)
  go_wp2
  go_loopg [14, 15] 3 (fun gg s14 s15 wx => ∃ (k : Nat) (q : Option Addr) (c : Nat), k ≤ 3 ∧ 3 - k ≤ gg ∧ s15 = .int .i64 k ∧ s14 = .slice q (1 + k) c ∧ Aside (CI W1 wx (.slice q (1 + k) c) (Plain.stockC xs :: Plain.wantL xs k)))
  case atStart => exact ⟨0, _, _, Nat.zero_le _, by omega, rfl, rfl, (show Aside _ from I2.out)⟩
  case round =>
    obtain ⟨k, q, c, hk3, hg, rfl, rfl, AA⟩ := hrel
    clear I2
    by_cases hlt : k < 3
    · have hltz : (k : Int) < 3 := by omega
      have hk0 : (0 : Int) ≤ (k : Int) := by omega
      have cx : wr.cell? ⟨w.heap.size, k, none⟩ = some (.int .i64 (xs.getD k 0)) := (AA.out.be.cell (p := ⟨w.heap.size, k, none⟩) RX.out.lt).trans (RX.out.cell (by rw [HXL.out]; exact hlt))
      obtain ⟨pn, cn, U, hrun, hU⟩ := AA.out.snoc (by rw [List.length_cons, Plain.wantL_len]; omega) ⟨2, (k : Int), xs.getD k 0⟩
      rw [List.cons_append, ← Plain.wantL_succ] at hU
      rw [List.length_cons, Plain.wantL_len, show k + 1 + 1 = 1 + (k + 1) by omega] at hrun hU
      have RUN := hid hrun
      have HU := hid hU
      clear hrun hU AA
      generalize xs.getD k 0 = xk at *
      go_wp2_with (first | (at_builtin; refine wpList_app _ _ 39 RUN.out (by rfl) (by rfl) (by rfl) (by rfl) (by rfl) ?_) | fail)
      go_wp2
      go_roundg (3 - (k + 1))
      case measure => omega
      case rel => exact ⟨k + 1, pn, cn, by omega, by omega, by go_num, rfl, (show Aside _ from HU.out)⟩
    · have hltz : ¬ (k : Int) < 3 := by omega
      have ek : k = 3 := by omega
      subst ek
      have I3 := hid AA.out
      clear AA
      obtain ⟨M, hM⟩ : ∃ M, M = m + 1 := ⟨_, rfl⟩
      have hM1 : M ≤ 160 := by omega
      have hs6 : IntKind.i64.wrap (40 * (tk : Int)) = (M : Int) := by rw [IntKind.wrap_i64]; omega
      have HTK8 := hid (show 1 ≤ tk ∧ tk ≤ 8 by omega)
      have HM := hid hM
      clear hM hm ht14 hq1
      go_wp2
      go_loopg [14, 16] M (fun gg s14 s16 wx => ∃ (j : Nat) (q : Option Addr) (c : Nat), j ≤ M ∧ M - j ≤ gg ∧ s16 = .int .i64 j ∧ s14 = .slice q (4 + j) c ∧ Aside (CI W1 wx (.slice q (4 + j) c) (Plain.stockC xs :: Plain.wantL xs 3 ++ List.replicate j Plain.rnd)))
      case atStart => exact ⟨0, _, _, Nat.zero_le _, by omega, rfl, rfl, (show Aside _ from by rw [List.replicate_zero, List.append_nil]; exact I3.out)⟩
      case round =>
        obtain ⟨j, q, c, hjm, hjg, rfl, rfl, AA⟩ := hrel
        clear I3
        by_cases hlj : j < M
        · have hljz : (j : Int) < (M : Int) := by omega
          obtain ⟨pn, cn, U, hrun, hU⟩ := AA.out.snoc (by rw [List.length_append, List.length_cons, Plain.wantL_len, List.length_replicate]; omega) Plain.rnd
          rw [List.append_assoc, ← List.replicate_succ'] at hU
          rw [List.length_append, List.length_cons, Plain.wantL_len, List.length_replicate, show 3 + 1 + j + 1 = 4 + (j + 1) by omega] at hrun hU
          have RUN := hid (show (Builtin.append_ #[39, 39] 39 #[.slice q (4 + j) c, .slice (some ⟨wr.heap.size, 0, none⟩) 1 1]).run Try.prog (wr.alloc (.cells #[.int .i64 3, .int .i64 0, .int .i64 0] 52)) = .ok (.slice pn (4 + (j + 1)) cn) U from hrun)
          have HU := hid hU
          clear hrun hU AA
          go_wp2_with (first | (at_builtin; refine wpList_app _ _ 39 RUN.out (by rfl) (by rfl) (by rfl) (by rfl) (by rfl) ?_) | fail)
          go_wp2
          go_roundg (M - (j + 1))
          case measure => omega
          case rel => exact ⟨j + 1, pn, cn, by omega, by omega, by go_num, rfl, (show Aside _ from HU.out)⟩
        · have hljz : ¬ (j : Int) < (M : Int) := by omega
          have ej : M = j := by omega
          subst ej
          obtain ⟨pf, cf, ef, hnl, hhd⟩ := AA.out.form
          rw [List.length_append, List.length_cons, Plain.wantL_len, List.length_replicate, show 3 + 1 + M = 4 + M by omega] at ef
          injection ef with ef1 _ ef2
          subst ef1 ef2
          have KB := booked_c q (4 + M) c (Plain.stockC xs :: Plain.wantL xs 3 ++ List.replicate M Plain.rnd) (1 + tp) tk (by omega) HTK8.out (by omega) wr (by rw [List.length_append, List.length_cons, Plain.wantL_len, List.length_replicate]) hhd hnl
          have BW := hid (B1.out.trans (AA.out.be.mono B1.out.size))
          have RXw := hid (RX.out.of_block (AA.out.be.block _ RX.out.lt))
          clear AA hhd hnl
          go_wp2_with fail
          refine KB.mono ?_
          rintro e W4 ⟨q4, c4, D4, rfl, hD4, hA4, hb4⟩
          have hl4 : D4.length = 4 + M := by
            have := congrArg List.length hD4
            rw [List.length_map, Plain.bookF_len, List.length_append, List.length_cons, Plain.wantL_len, List.length_replicate] at this
            omega
          have hMm := HM.out
          have hlast : (D4.getD (4 + m) default).d.grants = xs := by
            rw [← getD_map RU.d D4 default default (by omega), hD4, HXS.out, hMm]
            have := LAW.out
            rw [HXS.out] at this
            exact this
          obtain ⟨b4, o4, rfl, _, g4⟩ := holdsU hA4.hd (by omega)
          have y1 := (g4 (4 + m) (by omega)).c1
          have yb := hA4.bs _ (getD_mem D4 default (show 4 + m < D4.length by omega))
          rw [hlast] at y1 yb
          generalize D4.getD (4 + m) default = z at *
          rw [HXL.out] at y1
          have RX4 := RXw.out.of_block (hb4.block _ RXw.out.lt)
          have KS := keep.same_any (.slice z.p 3 z.c) (.slice (some ⟨w.heap.size, 0, none⟩) 3 3) xs xs (by rw [HXL.out]; omega) W4 (by have := (yb.wants.seg z.c).1; rw [HXL.out] at this; exact this) (by have := RX4.seg 3; rw [HXL.out] at this; exact this)
          rw [decide_eq_true rfl] at KS
          have BW4 := hid (BW.out.trans (hb4.mono BW.out.size))
          clear g4 hD4 hA4 hl4 hlast KB yb RX4 hb4
          obtain ⟨⟨zd1, zd2, zd3⟩, zp, zq⟩ := z
          dsimp only at y1 KS
          obtain ⟨l4, hl4⟩ : ∃ l4, l4 = 4 + m := ⟨_, rfl⟩
          rw [← hl4] at y1
          have e45 : 4 + M = l4 + 1 := by omega
          rw [e45]
          have hlen1 : IntKind.i64.wrap (((l4 + 1 : Nat) : Int) - 1) = (l4 : Int) := by rw [IntKind.wrap_i64]; omega
          have hlb : l4 ≤ 200 := by omega
          clear e45 hl4 hMm
          go_wp2_with fail
          refine KS.mono ?_
          rintro e W6 ⟨rfl, q6, hq6⟩
          have F := hid (show Below w.heap.size w W6 by rw [hq6]; exact below_drewN BW4.out q6)
          clear hq6 KS
          go_wp2
          go_ret
          exact ⟨rfl, F.out⟩

set_option maxRecDepth 100000 in
theorem lifted (os : Os) (started : os.Started) (H : Type) (enc : TypeId × Value → H) :
    ReturnsInHanded {} Try.checked os 7 .any (Rows.bookServesSpec.pre6 enc Try.prog Try.f7 Rows.bookServesRow.domain false) (Rows.bookServesSpec.post enc Try.prog Try.f7 false true false false) := by
  refine returnsInHanded_of_change (C := Try.checked) own started (by kernel_rfl) Try.func7
    (ChangeSpec.witness6 (enc := enc) (C := Try.checked) false ⟨#[], #[.int .i64 0, .int .i64 0, .int .i64 0, .int .i64 0, .int .i64 0], []⟩ 8 (by kernel_rfl) (by kernel_rfl) (by kernel_rfl) (by kernel_rfl)) ?_
  intro W base args ds gs before hval0 hW hcnd _
  have hval : ∀ (j : Nat) t v, Try.f7.params[j]? = some t → args[j]? = some v → Value.okWide Try.prog W .any base t v := hval0
  have hW' := hW
  obtain ⟨p, q, hA0, hV, rfl, hfz, hnd⟩ := hW
  have hA : DataW.TrodAll enc Try.prog W 0 (fun _ => true) true Try.f7.params.toList args.toList ds p := hA0
  rw [Try.params7] at hA hval
  obtain ⟨v0, vs0, d0, ds0, p0, q0, hargs, rfl, rfl, h0, r0⟩ := trodAll_cons hA
  obtain ⟨v1, vs1, d1, ds1, p1, q1, rfl, rfl, rfl, h1, r1⟩ := trodAll_cons r0
  obtain ⟨v2, vs2, d2, ds2, p2, q2, rfl, rfl, rfl, h2, r2⟩ := trodAll_cons r1
  obtain ⟨v3, vs3, d3, ds3, p3, q3, rfl, rfl, rfl, h3, r3⟩ := trodAll_cons r2
  obtain ⟨v4, vs4, d4, ds4, p4, q4, rfl, rfl, rfl, h4, r4⟩ := trodAll_cons r3
  obtain ⟨rfl, rfl, rfl⟩ := trodAll_nil r4
  obtain rfl : args = #[v0, v1, v2, v3, v4] := by cases args; simp_all
  obtain ⟨rfl, rfl⟩ := trodVars_none hV
  have k0 := h0
  have lt0 : ∀ x ∈ p0, x.block < W.heap.size := by obtain ⟨m, hm⟩ := k0; exact DataW.trod_lt m _ _ _ hm
  obtain ⟨a0, rfl, _, _, w0⟩ := open_int Try.underlying3 (hval 0 3 v0 rfl rfl) h0
  have k1 := h1
  have lt1 : ∀ x ∈ p1, x.block < W.heap.size := by obtain ⟨m, hm⟩ := k1; exact DataW.trod_lt m _ _ _ hm
  obtain ⟨a1, rfl, _, _, w1⟩ := open_int Try.underlying3 (hval 1 3 v1 rfl rfl) h1
  have k2 := h2
  have lt2 : ∀ x ∈ p2, x.block < W.heap.size := by obtain ⟨m, hm⟩ := k2; exact DataW.trod_lt m _ _ _ hm
  obtain ⟨a2, rfl, _, _, w2⟩ := open_int Try.underlying3 (hval 2 3 v2 rfl rfl) h2
  have k3 := h3
  have lt3 : ∀ x ∈ p3, x.block < W.heap.size := by obtain ⟨m, hm⟩ := k3; exact DataW.trod_lt m _ _ _ hm
  obtain ⟨a3, rfl, _, _, w3⟩ := open_int Try.underlying3 (hval 3 3 v3 rfl rfl) h3
  have k4 := h4
  have lt4 : ∀ x ∈ p4, x.block < W.heap.size := by obtain ⟨m, hm⟩ := k4; exact DataW.trod_lt m _ _ _ hm
  obtain ⟨a4, rfl, _, _, w4⟩ := open_int Try.underlying3 (hval 4 3 v4 rfl rfl) h4
  clear hA0 hval0
  refine (walk W a0 (bounds_i64 w0) a1 (bounds_i64 w1) a2 (bounds_i64 w2) a3 (bounds_i64 w3) a4 (bounds_i64 w4)).mono fun e W' ⟨he, bel⟩ => ?_
  subst he
  exact ⟨_, rfl, _, _, _, [], _, [], hW', trodAll_mk1 (shut_bool Try.underlying4 _), (trodAll_cons_mk (Below.trod laidOut (by kernel_rfl) (of_decide_eq_true (by kernel_rfl)) k0 bel lt0) (trodAll_cons_mk (Below.trod laidOut (by kernel_rfl) (of_decide_eq_true (by kernel_rfl)) k1 bel lt1) (trodAll_cons_mk (Below.trod laidOut (by kernel_rfl) (of_decide_eq_true (by kernel_rfl)) k2 bel lt2) (trodAll_cons_mk (Below.trod laidOut (by kernel_rfl) (of_decide_eq_true (by kernel_rfl)) k3 bel lt3) (trodAll_cons_mk (Below.trod laidOut (by kernel_rfl) (of_decide_eq_true (by kernel_rfl)) k4 bel lt4) trodAll_mk0))))), rfl, bel.frame _, fun h => by cases h⟩

theorem over : Rows.bookServesRow.holds Try.pinned (OpenSpec.ofChange Rows.bookServesSpec) :=
  OpenClaim.holds_of_wide 7 Try.f7 rfl rfl rfl rfl rfl rfl rfl ⟨rfl, rfl, rfl, rfl, rfl⟩ rfl rfl rfl rfl rfl (by kernel_rfl) Try.func7 (by kernel_rfl)
    (of_decide_eq_true (by kernel_rfl)) (by unfold Func.isWrapper; first | (rw [if_pos (by decide +kernel)]; kernel_rfl) | (rw [if_neg (by decide +kernel)]; exact ⟨rfl, rfl⟩))
    (fun os started H enc _ => lifted os started H enc)

end bookServes

theorem bookServes_holds : Rows.BookServesSaid := bookServes.over
#print axioms bookServes_holds
end Go.Proofs.Ytiolkeghgodggaj

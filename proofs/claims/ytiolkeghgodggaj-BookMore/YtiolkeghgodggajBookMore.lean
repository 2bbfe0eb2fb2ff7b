/- BookMore: of a greater reserve nobody gets less, round by round, in the first epoch: whatever the cap, what three branches want, the stock and how much more of it there is. No condition. -/
import Derived.Test.YtiolkeghgodggajRows
import Derived.WalkKit
import Derived.ProofKit
import Derived.OpenShut
import Derived.WalkSmall
import Derived.ShutString
import Derived.ChangeOld
import Derived.Below
import Derived.Test.YtiolkeghgodggajV3
namespace Go.Proofs.Ytiolkeghgodggaj
namespace bookMore
open Go.ChangeShapes Go.WideShapes Go.ChangeAt Go.RowKit Bo
set_option linter.unusedVariables false

theorem own : ownKnob Try.prog.godebug = none := by kernel_rfl
theorem laidOut : laidOutB Try.prog = true := by kernel_rfl

set_option maxHeartbeats 4000000 in
set_option maxRecDepth 100000 in
theorem walk (w : World) (a0 : Int) (w0 : -9223372036854775808 ≤ a0 ∧ a0 ≤ 9223372036854775807) (a1 : Int) (w1 : -9223372036854775808 ≤ a1 ∧ a1 ≤ 9223372036854775807) (a2 : Int) (w2 : -9223372036854775808 ≤ a2 ∧ a2 ≤ 9223372036854775807) (a3 : Int) (w3 : -9223372036854775808 ≤ a3 ∧ a3 ≤ 9223372036854775807) (a4 : Int) (w4 : -9223372036854775808 ≤ a4 ∧ a4 ≤ 9223372036854775807) (a5 : Int) (w5 : -9223372036854775808 ≤ a5 ∧ a5 ≤ 9223372036854775807) :
    Calls Try.prog 8 #[.int .i64 a0, .int .i64 a1, .int .i64 a2, .int .i64 a3, .int .i64 a4, .int .i64 a5] w fun e w' => e = .returned (.bool true) ∧ Below w.heap.size w w' := by
  have hq0 : 0 ≤ a0 % 30 ∧ a0 % 30 < 30 := by omega
  have hq1 : 0 ≤ a1 % 40 ∧ a1 % 40 < 40 := by omega
  have hq2 : 0 ≤ a2 % 40 ∧ a2 % 40 < 40 := by omega
  have hq3 : 0 ≤ a3 % 40 ∧ a3 % 40 < 40 := by omega
  have hq4 : 0 ≤ a4 % 80 ∧ a4 % 80 < 80 := by omega
  have hq5 : 0 ≤ a5 % 40 ∧ a5 % 40 < 40 := by omega
  have K0 := fun W => picked_any a0 30 w0.1 w0.2 (by omega) (by omega) W
  have K1 := fun W => picked_any a1 40 w1.1 w1.2 (by omega) (by omega) W
  have K2 := fun W => picked_any a2 40 w2.1 w2.2 (by omega) (by omega) W
  have K3 := fun W => picked_any a3 40 w3.1 w3.2 (by omega) (by omega) W
  have K4 := fun W => picked_any a4 80 w4.1 w4.2 (by omega) (by omega) W
  have K5 := fun W => picked_any a5 40 w5.1 w5.2 (by omega) (by omega) W
  generalize a0 % 30 = top at *
  generalize a1 % 40 = xa at *
  generalize a2 % 40 = xb at *
  generalize a3 % 40 = xc at *
  generalize a4 % 80 = st at *
  generalize a5 % 40 = mo at *
  obtain ⟨L, hL⟩ : ∃ L : List Plain.Ca, L = [⟨2, 0, xa⟩, ⟨3, 0, 0⟩, ⟨2, 1, xb⟩, ⟨2, 2, xc⟩, ⟨3, 0, 0⟩, ⟨3, 0, 0⟩] := ⟨_, rfl⟩
  have hLl : L.length = 6 := by rw [hL]; rfl
  have LAW := hid (Plain.more_law (cap := top) (n := 1 + st) (m := 1 + st + 1 + mo) (by omega) (by omega) (by omega) L (by rw [hL]; intro x hx; simp at hx; rcases hx with rfl | rfl | rfl | rfl | rfl <;> simp) (by rw [hL]; simp [Plain.cntR]))
  have GL := hid (fun k hk => Plain.grants_len (cap := top) (tk := 4) (by omega) (by omega) (⟨1, 0, 1 + st⟩ :: L) k hk)
  obtain ⟨W1, hW1⟩ : ∃ W1, W1 = w.alloc (.cells #[.int .i64 2, .int .i64 0, .int .i64 xa, .int .i64 3, .int .i64 0, .int .i64 0, .int .i64 2, .int .i64 1, .int .i64 xb, .int .i64 2, .int .i64 2, .int .i64 xc, .int .i64 3, .int .i64 0, .int .i64 0, .int .i64 3, .int .i64 0, .int .i64 0] 52) := ⟨_, rfl⟩
  have HL1 := hid (show encC.Holds W1 (some ⟨w.heap.size, 0, none⟩) L from fun _ => by
    refine ⟨w.heap.size, 0, rfl, by rw [hW1]; simp, fun j u hu => ?_⟩
    rw [hW1, World.cell?_alloc_at _ _ _ _ (by rfl), Nat.zero_add]
    rw [hL, show encC.vals [(⟨2, 0, xa⟩ : Plain.Ca), ⟨3, 0, 0⟩, ⟨2, 1, xb⟩, ⟨2, 2, xc⟩, ⟨3, 0, 0⟩, ⟨3, 0, 0⟩] = [.int .i64 2, .int .i64 0, .int .i64 xa, .int .i64 3, .int .i64 0, .int .i64 0, .int .i64 2, .int .i64 1, .int .i64 xb, .int .i64 2, .int .i64 2, .int .i64 xc, .int .i64 3, .int .i64 0, .int .i64 0, .int .i64 3, .int .i64 0, .int .i64 0] from rfl] at hu
    simpa using hu)
  have B1 := hid (show Below w.heap.size w W1 by rw [hW1]; exact (Below.refl _ _).alloc (Nat.le_refl _) _)
  have HW1 := hid hW1
  have HLL := hid hLl
  clear hL hW1 hLl
  have hs1 : IntKind.i64.wrap (1 + st) = 1 + st := by rw [IntKind.wrap_i64]; omega
  have hs2 : IntKind.i64.wrap (1 + st + 1) = 1 + st + 1 := by rw [IntKind.wrap_i64]; omega
  have hs3 : IntKind.i64.wrap (1 + st + 1 + mo) = 1 + st + 1 + mo := by rw [IntKind.wrap_i64]; omega
  obtain ⟨p1, c1, U1, hr1, hh1, hn1, hb1⟩ := lit_app (c := 6) ⟨1, 0, 1 + st⟩ HL1.out HLL.out (fun e => by cases e) (by omega)
  have RUN1 := hid hr1
  have KB1 := booked_c p1 7 c1 (⟨1, 0, 1 + st⟩ :: L) top 4 (by omega) (by omega) (by omega) U1 (by rw [List.length_cons, HLL.out]) hh1 hn1
  have BU1 := hid (B1.out.trans (hb1.mono B1.out.size))
  have HLU := hid (HL1.out.grow hb1)
  clear hr1 hh1 hn1 hb1
  go_enter Try.func8, Try.ntmps8
  go_wp2_with fail
  refine (K0 _).mono ?_
  rintro e wx ⟨rfl, hx⟩
  have hy := hx.symm
  clear hx K0
  subst hy
  go_wp2_with fail
  refine (K4 _).mono ?_
  rintro e wx ⟨rfl, hx⟩
  have hy := hx.symm
  clear hx K4
  subst hy
  go_wp2_with fail
  refine (K1 _).mono ?_
  rintro e wx ⟨rfl, hx⟩
  have hy := hx.symm
  clear hx K1
  subst hy
  go_wp2_with fail
  refine (K2 _).mono ?_
  rintro e wx ⟨rfl, hx⟩
  have hy := hx.symm
  clear hx K2
  subst hy
  go_wp2_with fail
  refine (K3 _).mono ?_
  rintro e wx ⟨rfl, hx⟩
  have hy := hx.symm
  clear hx K3
  subst hy
  rw [HW1.out] at RUN1
  have hsz : (w.alloc (.cells #[.int .i64 2, .int .i64 0, .int .i64 xa, .int .i64 3, .int .i64 0, .int .i64 0, .int .i64 2, .int .i64 1, .int .i64 xb, .int .i64 2, .int .i64 2, .int .i64 xc, .int .i64 3, .int .i64 0, .int .i64 0, .int .i64 3, .int .i64 0, .int .i64 0] 52)).heap.size = w.heap.size + 1 := by simp
  rw [hsz] at RUN1
  clear hsz
  go_wp2_with (first | (at_builtin; refine wpList_app _ _ 39 RUN1.out (by rfl) (by rfl) (by rfl) (by rfl) (by rfl) ?_) | fail)
  refine KB1.mono ?_
  rintro e W2 ⟨q1, d1, D1, rfl, hD1, hA1, hb1⟩
  have HD1 := hid hD1
  have HA1 := hid hA1
  have BW2 := hid (BU1.out.trans (hb1.mono BU1.out.size))
  obtain ⟨p2, c2, U2, hr2, hh2, hn2, hb2⟩ := lit_app (c := 6) ⟨1, 0, 1 + st + 1 + mo⟩ (HLU.out.grow hb1) HLL.out (fun e => by cases e) (by omega)
  have RUN2 := hid hr2
  have KB2 := booked_c p2 7 c2 (⟨1, 0, 1 + st + 1 + mo⟩ :: L) top 4 (by omega) (by omega) (by omega) U2 (by rw [List.length_cons, HLL.out]) hh2 hn2
  have BU2 := hid (BW2.out.trans (hb2.mono BW2.out.size))
  have HA1b := hid (HA1.out.grow hb2)
  clear hr2 hh2 hn2 hb2 hb1 hD1 hA1 KB1 HA1 RUN1 HL1 B1 HW1 HLU
  go_wp2_with fail
  refine (K5 _).mono ?_
  rintro e wx ⟨rfl, hx⟩
  have hy := hx.symm
  clear hx K5
  subst hy
  go_wp2_with (first | (at_builtin; refine wpList_app _ _ 39 RUN2.out (by rfl) (by rfl) (by rfl) (by rfl) (by rfl) ?_) | fail)
  refine KB2.mono ?_
  rintro e W3 ⟨q2, d2, D2, rfl, hD2, hA2, hb2⟩
  have HD2 := hid hD2
  have HA2 := hid hA2
  have HA12 := hid (HA1b.out.grow hb2)
  have BW3 := hid (BU2.out.trans (hb2.mono BU2.out.size))
  have HDL1 := hid (show D1.length = 7 by
    have := congrArg List.length HD1.out
    rw [List.length_map, Plain.bookF_len, List.length_cons, HLL.out] at this
    exact this)
  have HDL2 := hid (show D2.length = 7 by
    have := congrArg List.length HD2.out
    rw [List.length_map, Plain.bookF_len, List.length_cons, HLL.out] at this
    exact this)
  clear hb2 hD2 hA2 KB2 HA1b RUN2 BU2 BW2
  go_wp2
  go_loopg [20, 21] 7 (fun gg s20 _ wx => ∃ k : Nat, k ≤ 7 ∧ 7 - k ≤ gg ∧ s20 = .int .i64 k ∧ Aside (∃ q, wx = W3.drewN q))
  case atStart => exact ⟨0, Nat.zero_le _, by omega, rfl, (show Aside _ from ⟨0, rfl⟩)⟩
  case round =>
    obtain ⟨k, hkk, hg, rfl, I⟩ := hrel
    by_cases hlt : k < 7
    · have hltz : (k : Int) < 7 := by omega
      have hk1 : k < D1.length := by rw [HDL1.out]; exact hlt
      have hk2 : k < D2.length := by rw [HDL2.out]; exact hlt
      have hkL : k < (⟨1, 0, 1 + st⟩ :: L : List Plain.Ca).length := by rw [List.length_cons, HLL.out]; exact hlt
      have LK := hid (LAW.out k hkL)
      have hg3 := GL.out k hkL
      rw [← HD1.out, ← HD2.out] at LK
      rw [← HD1.out] at hg3
      rw [getD_map RU.d D1 default default hk1, getD_map RU.d D2 default default hk2] at LK
      rw [getD_map RU.d D1 default default hk1] at hg3
      obtain ⟨b1, o1, rfl, _, g1⟩ := holdsU HA12.out.hd (by omega)
      obtain ⟨b2, o2, rfl, _, g2⟩ := holdsU HA2.out.hd (by omega)
      have x1 := (g1 k hk1).c1
      have y1 := (g2 k hk2).c1
      have yb1 := HA12.out.bs _ (getD_mem D1 default hk1)
      have yb2 := HA2.out.bs _ (getD_mem D2 default hk2)
      clear g1 g2
      generalize D1.getD k default = z1 at *
      generalize D2.getD k default = z2 at *
      obtain ⟨⟨za, zb, zc⟩, zp, zq⟩ := z1
      obtain ⟨⟨ya, yb, yc⟩, yp, yq⟩ := z2
      dsimp only at x1 y1 yb1 yb2 LK hg3
      rw [← LK.out.1] at y1
      have HY1 := hid yb1
      have HY2 := hid yb2
      have HZL := hid (show zb.length = yb.length from LK.out.1)
      have LKj := hid LK.out.2
      clear yb1 yb2 LK
      generalize hm : zb.length = m at *
      have HM := hid hm
      clear hm
      obtain ⟨q, hq⟩ := I.out
      have HQ := hid hq
      have xq : wr.cell? ⟨b1, o1 + k * 3 + 1, none⟩ = some (.slice zp m zq) := by rw [hq]; simpa using x1
      have yq1 : wr.cell? ⟨b2, o2 + k * 3 + 1, none⟩ = some (.slice yp m yq) := by rw [hq]; simpa using y1
      clear hq I
      have hmm : ((m : Int) != (m : Int)) = false := by simp
      go_wp2
      go_quiet (fail)
      obtain ⟨wo, hwo⟩ : ∃ wo, wo = wr.drewN nq := ⟨_, rfl⟩
      have HQ0 := hid (show wo = W3.drewN (q + nq) by rw [hwo, HQ.out, drewN_add])
      rw [← hwo]
      clear hwo hmm xq yq1 HQ
      go_wp2
      go_loopg [21] m (fun gg s21 wx => ∃ j : Nat, j ≤ m ∧ m - j ≤ gg ∧ s21 = .int .i64 j ∧ Aside (∃ q, wx = W3.drewN q))
      case atStart => exact ⟨0, Nat.zero_le _, by omega, rfl, (show Aside _ from ⟨_, HQ0.out⟩)⟩
      case round =>
        obtain ⟨j, hjm, hjg, rfl, I⟩ := hrel
        clear HQ0
        obtain ⟨q2, hq2⟩ := I.out
        have xq : wr.cell? ⟨b1, o1 + k * 3 + 1, none⟩ = some (.slice zp m zq) := by rw [hq2]; simpa using x1
        have yq1 : wr.cell? ⟨b2, o2 + k * 3 + 1, none⟩ = some (.slice yp m yq) := by rw [hq2]; simpa using y1
        by_cases hlj : j < m
        · have hljz : (j : Int) < (m : Int) := by omega
          obtain ⟨gb1, go1, rfl, _, _, gc1⟩ := HY1.out.cl (by rw [HM.out]; omega)
          obtain ⟨gb2, go2, rfl, _, _, gc2⟩ := HY2.out.cl (by rw [← HZL.out]; omega)
          have v1 : wr.cell? ⟨gb1, go1 + j, none⟩ = some (.int .i64 (zb.getD j 0)) := by rw [hq2]; simpa using gc1 j (by rw [HM.out]; exact hlj)
          have v2 : wr.cell? ⟨gb2, go2 + j, none⟩ = some (.int .i64 (yb.getD j 0)) := by rw [hq2]; simpa using gc2 j (by rw [← HZL.out]; exact hlj)
          have hle := LKj.out j hlj
          clear gc1 gc2
          have HQ2 := hid hq2
          clear hq2 I
          generalize zb.getD j 0 = e1 at *
          generalize yb.getD j 0 = e2 at *
          have dle : decide (e2 < e1) = false := decide_eq_false (by omega)
          go_wp2
          go_quiet (fail)
          go_wp2
          go_roundg (m - (j + 1))
          case measure => omega
          case rel => exact ⟨j + 1, by omega, by omega, by go_num, (show Aside _ from ⟨_, by rw [HQ2.out, drewN_add]⟩)⟩
        · have hljz : ¬ (j : Int) < (m : Int) := by omega
          have HQ2 := hid hq2
          clear hq2 I
          go_wp2
          go_roundg (7 - (k + 1))
          case measure => omega
          case rel => exact ⟨k + 1, by omega, by omega, by go_num, (show Aside _ from ⟨_, HQ2.out⟩)⟩
    · have hltz : ¬ (k : Int) < 7 := by omega
      obtain ⟨q, hq⟩ := I.out
      have F := hid (show Below w.heap.size w wr by rw [hq]; exact below_drewN BW3.out q)
      clear hq I
      go_wp2
      go_ret
      exact ⟨rfl, F.out⟩

set_option maxRecDepth 100000 in
theorem lifted (os : Os) (started : os.Started) (H : Type) (enc : TypeId × Value → H) :
    ReturnsInHanded {} Try.checked os 8 .any (Rows.bookMoreSpec.pre6 enc Try.prog Try.f8 Rows.bookMoreRow.domain false) (Rows.bookMoreSpec.post enc Try.prog Try.f8 false true false false) := by
  refine returnsInHanded_of_change (C := Try.checked) own started (by kernel_rfl) Try.func8
    (ChangeSpec.witness6 (enc := enc) (C := Try.checked) false ⟨#[], #[.int .i64 0, .int .i64 0, .int .i64 0, .int .i64 0, .int .i64 0, .int .i64 0], []⟩ 8 (by kernel_rfl) (by kernel_rfl) (by kernel_rfl) (by kernel_rfl)) ?_
  intro W base args ds gs before hval0 hW hcnd _
  have hval : ∀ (j : Nat) t v, Try.f8.params[j]? = some t → args[j]? = some v → Value.okWide Try.prog W .any base t v := hval0
  have hW' := hW
  obtain ⟨p, q, hA0, hV, rfl, hfz, hnd⟩ := hW
  have hA : DataW.TrodAll enc Try.prog W 0 (fun _ => true) true Try.f8.params.toList args.toList ds p := hA0
  rw [Try.params8] at hA hval
  obtain ⟨v0, vs0, d0, ds0, p0, q0, hargs, rfl, rfl, h0, r0⟩ := trodAll_cons hA
  obtain ⟨v1, vs1, d1, ds1, p1, q1, rfl, rfl, rfl, h1, r1⟩ := trodAll_cons r0
  obtain ⟨v2, vs2, d2, ds2, p2, q2, rfl, rfl, rfl, h2, r2⟩ := trodAll_cons r1
  obtain ⟨v3, vs3, d3, ds3, p3, q3, rfl, rfl, rfl, h3, r3⟩ := trodAll_cons r2
  obtain ⟨v4, vs4, d4, ds4, p4, q4, rfl, rfl, rfl, h4, r4⟩ := trodAll_cons r3
  obtain ⟨v5, vs5, d5, ds5, p5, q5, rfl, rfl, rfl, h5, r5⟩ := trodAll_cons r4
  obtain ⟨rfl, rfl, rfl⟩ := trodAll_nil r5
  obtain rfl : args = #[v0, v1, v2, v3, v4, v5] := by cases args; simp_all
  obtain ⟨rfl, rfl⟩ := trodVars_none hV
  have k0 := h0
  have lt0 : ∀ x ∈ p0, x.block < W.heap.size := by obtain ⟨m, hm⟩ := k0; exact DataW.trod_lt m _ _ _ hm
  obtain ⟨a0, rfl, _, _, w0⟩ := open_int Try.underlying3 (hval 0 3 v0 rfl rfl) h0
  have k1 := h1
  have lt1 : ∀ x ∈ p1, x.block < W.heap.size := by obtain ⟨m, hm⟩ := k1; exact DataW.trod_lt m _ _ _ hm
  obtain ⟨a1, rfl, _, _, w1⟩ := open_int Try.underlying3 (hval 1 3 v1 rfl rfl) h1
  have k2 := h2
  have lt2 : ∀ x ∈ p2, x.block < W.heap.size := by obtain ⟨m, hm⟩ := k2; exact DataW.trod_lt m _ _ _ hm
  obtain ⟨a2, rfl, _, _, w2⟩ := open_int Try.underlying3 (hval 2 3 v2 rfl rfl) h2
  have k3 := h3
  have lt3 : ∀ x ∈ p3, x.block < W.heap.size := by obtain ⟨m, hm⟩ := k3; exact DataW.trod_lt m _ _ _ hm
  obtain ⟨a3, rfl, _, _, w3⟩ := open_int Try.underlying3 (hval 3 3 v3 rfl rfl) h3
  have k4 := h4
  have lt4 : ∀ x ∈ p4, x.block < W.heap.size := by obtain ⟨m, hm⟩ := k4; exact DataW.trod_lt m _ _ _ hm
  obtain ⟨a4, rfl, _, _, w4⟩ := open_int Try.underlying3 (hval 4 3 v4 rfl rfl) h4
  have k5 := h5
  have lt5 : ∀ x ∈ p5, x.block < W.heap.size := by obtain ⟨m, hm⟩ := k5; exact DataW.trod_lt m _ _ _ hm
  obtain ⟨a5, rfl, _, _, w5⟩ := open_int Try.underlying3 (hval 5 3 v5 rfl rfl) h5
  clear hA0 hval0
  refine (walk W a0 (bounds_i64 w0) a1 (bounds_i64 w1) a2 (bounds_i64 w2) a3 (bounds_i64 w3) a4 (bounds_i64 w4) a5 (bounds_i64 w5)).mono fun e W' ⟨he, bel⟩ => ?_
  subst he
  exact ⟨_, rfl, _, _, _, [], _, [], hW', trodAll_mk1 (shut_bool Try.underlying4 _), (trodAll_cons_mk (Below.trod laidOut (by kernel_rfl) (of_decide_eq_true (by kernel_rfl)) k0 bel lt0) (trodAll_cons_mk (Below.trod laidOut (by kernel_rfl) (of_decide_eq_true (by kernel_rfl)) k1 bel lt1) (trodAll_cons_mk (Below.trod laidOut (by kernel_rfl) (of_decide_eq_true (by kernel_rfl)) k2 bel lt2) (trodAll_cons_mk (Below.trod laidOut (by kernel_rfl) (of_decide_eq_true (by kernel_rfl)) k3 bel lt3) (trodAll_cons_mk (Below.trod laidOut (by kernel_rfl) (of_decide_eq_true (by kernel_rfl)) k4 bel lt4) (trodAll_cons_mk (Below.trod laidOut (by kernel_rfl) (of_decide_eq_true (by kernel_rfl)) k5 bel lt5) trodAll_mk0)))))), rfl, bel.frame _, fun h => by cases h⟩

theorem over : Rows.bookMoreRow.holds Try.pinned (OpenSpec.ofChange Rows.bookMoreSpec) :=
  OpenClaim.holds_of_wide 8 Try.f8 rfl rfl rfl rfl rfl rfl rfl ⟨rfl, rfl, rfl, rfl, rfl⟩ rfl rfl rfl rfl rfl (by kernel_rfl) Try.func8 (by kernel_rfl)
    (of_decide_eq_true (by kernel_rfl)) (by unfold Func.isWrapper; first | (rw [if_pos (by decide +kernel)]; kernel_rfl) | (rw [if_neg (by decide +kernel)]; exact ⟨rfl, rfl⟩))
    (fun os started H enc _ => lifted os started H enc)

end bookMore

theorem bookMore_holds : Rows.BookMoreSaid := bookMore.over
#print axioms bookMore_holds
end Go.Proofs.Ytiolkeghgodggaj

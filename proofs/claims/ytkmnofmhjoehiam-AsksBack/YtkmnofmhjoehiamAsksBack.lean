/- Proved: for all four numbers the law AsksBack returns true: numbers come back from their record, which is as long whatever they are. Conditions: none. -/
import Derived.Test.YtkmnofmhjoehiamRows
import Derived.WalkKit
import Derived.ProofKit
import Derived.OpenShut
import Derived.WalkSmall
import Derived.ShutString
import Derived.ChangeOld
import Derived.Below
import Derived.Test.YtkmnofmhjoehiamQt
import Derived.Test.YtkmnofmhjoehiamQu
import Derived.Test.YtkmnofmhjoehiamQv
import Derived.Deep.Cut
namespace Go.Proofs.Ytkmnofmhjoehiam
namespace asksBack
open Go.ChangeShapes Go.WideShapes Go.ChangeAt Go.RowKit
set_option linter.unusedVariables false

theorem own : ownKnob Try.prog.godebug = none := by kernel_rfl
theorem laidOut : laidOutB Try.prog = true := by kernel_rfl

set_option maxHeartbeats 4000000 in
set_option maxRecDepth 100000 in
theorem walk (w : World) (a0 : Int) (w0 : -9223372036854775808 ≤ a0 ∧ a0 ≤ 9223372036854775807) (a1 : Int) (w1 : -9223372036854775808 ≤ a1 ∧ a1 ≤ 9223372036854775807) (a2 : Int) (w2 : -9223372036854775808 ≤ a2 ∧ a2 ≤ 9223372036854775807) (a3 : Int) (w3 : -9223372036854775808 ≤ a3 ∧ a3 ≤ 9223372036854775807) :
    Calls Try.prog 4 #[.int .i64 a0, .int .i64 a1, .int .i64 a2, .int .i64 a3] w fun e w' => e = .returned (.bool true) ∧ Below w.heap.size w w' := by
  have PK := hid (fun (a : Int) (h : -9223372036854775808 ≤ a ∧ a ≤ 9223372036854775807) W => picked_any a 1048577 h.1 h.2 (by decide) (by decide) W)
  have KC := config_c none 0 0 [] (by decide) rfl (fun x hx => by simp at hx) w (fun h => by simp at h)
  obtain ⟨p0, hp0⟩ : ∃ p0, p0 = a0 % 1048577 := ⟨_, rfl⟩
  obtain ⟨p1, hp1⟩ : ∃ p1, p1 = a1 % 1048577 := ⟨_, rfl⟩
  obtain ⟨p2, hp2⟩ : ∃ p2, p2 = a2 % 1048577 := ⟨_, rfl⟩
  obtain ⟨p3, hp3⟩ : ∃ p3, p3 = a3 % 1048577 := ⟨_, rfl⟩
  have hc : ∀ a b : Int, [a % 1048577, b % 1048577].all Plain.cntB = true := fun a b => by
    simp only [List.all_cons, List.all_nil, Bool.and_true, Bool.and_eq_true]
    exact ⟨(Plain.inR_iff _ _ _).2 (by omega), (Plain.inR_iff _ _ _).2 (by omega)⟩
  have hcx := hc a0 a1
  have hcy := hc a2 a3
  rw [← hp0, ← hp1] at hcx
  rw [← hp2, ← hp3] at hcy
  have K0 := PK.out a0 w0
  have K1 := PK.out a1 w1
  have K2 := PK.out a2 w2
  have K3 := PK.out a3 w3
  simp only [← hp0] at K0
  simp only [← hp1] at K1
  simp only [← hp2] at K2
  simp only [← hp3] at K3
  have HX := hid (Plain.asks_back (c := Plain.cf4 []) (l := [p0, p1]) (Plain.cf4_may []) rfl hcx)
  have HY := hid (Plain.asks_back (c := Plain.cf4 []) (l := [p2, p3]) (Plain.cf4_may []) rfl hcy)
  have HI := hid (Plain.asks_inj (c := Plain.cf4 []) (l := [p0, p1]) (m := [p2, p3]) (Plain.cf4_may []) rfl hcx rfl hcy)
  have Q0 := hid K0
  have Q1 := hid K1
  have Q2 := hid K2
  have Q3 := hid K3
  clear hp0 hp1 hp2 hp3 hc hcx hcy PK K0 K1 K2 K3 w0 w1 w2 w3
  have HM := hid (Plain.cf4_may [])
  have HMS := hid (show (Plain.cf4 []).ms.length = 2 from rfl)
  generalize Plain.cf4 [] = c at *
  go_enter Try.func4, Try.ntmps4
  go_wp2_with fail
  refine KC.mono ?_
  rintro e W1 ⟨lv, mv, rfl, ci, b1⟩
  obtain ⟨lp, lc, rfl⟩ := seg_len ci.sl
  obtain ⟨mp, mc, rfl⟩ := seg_len ci.sm
  have B1 := hid b1
  have C1 := hid (BcI.start ci)
  clear KC b1 ci
  go_upto_region 2 with fail
  obtain ⟨W2, hW2⟩ : ∃ W2, W2 = W1.alloc (boxC c (.slice lp c.ls.length lc) (.slice mp c.ms.length mc)) := ⟨_, rfl⟩
  rw [show W1.alloc (.cells #[(.int .i64 c.n), (.slice lp c.ls.length lc), (.int .i64 c.t), (.slice mp c.ms.length mc), .int .i64 c.cap] 25) = W2 from hW2.symm]
  rw [← hW2] at C1
  clear hW2
  obtain ⟨T, hT⟩ : ∃ T, T = W1.heap.size := ⟨_, rfl⟩
  rw [← hT] at C1 ⊢
  clear hT
  go_wp2_with fail
  refine (Q0.out _).mono ?_
  rintro e w9 ⟨rfl, hx⟩
  have hy := hx.symm
  clear hx Q0
  subst hy
  go_wp2_with fail
  refine (Q1.out _).mono ?_
  rintro e w9 ⟨rfl, hx⟩
  have hy := hx.symm
  clear hx Q1
  subst hy
  go_upto_region 3 with fail
  obtain ⟨W3, hW3⟩ : ∃ W3, W3 = W2.alloc (.cells #[.int .i64 p0, .int .i64 p1] 3) := ⟨_, rfl⟩
  have b3 : Below W2.heap.size W2 W3 := by rw [hW3]; exact (Below.refl _ _).alloc (Nat.le_refl _) _
  have X3 := hid (show Seg W3 (.slice (some ⟨W2.heap.size, 0, none⟩) 2 2) [p0, p1] ∧ Lies W3.heap.size (.slice (some ⟨W2.heap.size, 0, none⟩) 2 2) by
    rw [hW3]
    refine ⟨.inr ⟨W2.heap.size, 0, 2, rfl, fun j hj => ?_⟩, lies_at (by simp)⟩
    have : j = 0 ∨ j = 1 := by have : j < 2 := hj; omega
    rcases this with rfl | rfl <;> (rw [World.cell?_alloc_at _ _ _ _ rfl]; rfl))
  have C3 := hid (C1.out.grow b3)
  rw [← hW3]
  clear hW3 b3 C1
  obtain ⟨X, hX⟩ : ∃ X, X = W2.heap.size := ⟨_, rfl⟩
  rw [← hX] at X3 ⊢
  clear hX
  go_wp2_with fail
  refine (Q2.out _).mono ?_
  rintro e w9 ⟨rfl, hx⟩
  have hy := hx.symm
  clear hx Q2
  subst hy
  go_wp2_with fail
  refine (Q3.out _).mono ?_
  rintro e w9 ⟨rfl, hx⟩
  have hy := hx.symm
  clear hx Q3
  subst hy
  go_upto_region 4 with fail
  obtain ⟨W4, hW4⟩ : ∃ W4, W4 = W3.alloc (.cells #[.int .i64 p2, .int .i64 p3] 3) := ⟨_, rfl⟩
  have b4 : Below W3.heap.size W3 W4 := by rw [hW4]; exact (Below.refl _ _).alloc (Nat.le_refl _) _
  have Y4 := hid (show Seg W4 (.slice (some ⟨W3.heap.size, 0, none⟩) 2 2) [p2, p3] ∧ Lies W4.heap.size (.slice (some ⟨W3.heap.size, 0, none⟩) 2 2) by
    rw [hW4]
    refine ⟨.inr ⟨W3.heap.size, 0, 2, rfl, fun j hj => ?_⟩, lies_at (by simp)⟩
    have : j = 0 ∨ j = 1 := by have : j < 2 := hj; omega
    rcases this with rfl | rfl <;> (rw [World.cell?_alloc_at _ _ _ _ rfl]; rfl))
  have X4 := hid (And.intro (X3.out.1.below b4 X3.out.2) (X3.out.2.mono b4.size))
  have C4 := hid (C3.out.grow b4)
  rw [← hW4]
  clear hW4 b4 C3 X3
  obtain ⟨Y, hY⟩ : ∃ Y, Y = W3.heap.size := ⟨_, rfl⟩
  rw [← hY] at Y4 ⊢
  clear hY
  obtain ⟨c0, c1, c2, c3, c4⟩ := C4.out.cc
  have KA := asks_c c (.slice lp c.ls.length lc) (.slice mp c.ms.length mc) _ [p0, p1] (by show 2 ≤ _; decide) W4 C4.out.ci X4.out.1 X4.out.2
  go_wp2_with fail
  refine KA.mono ?_
  rintro e W5 ⟨v5, rfl, s5, l5, b5⟩
  have X5 := hid (And.intro (X4.out.1.below b5 X4.out.2) (X4.out.2.mono b5.size))
  have Y5 := hid (And.intro (Y4.out.1.below b5 Y4.out.2) (Y4.out.2.mono b5.size))
  have C5 := hid (C4.out.grow b5)
  have P5 := hid (And.intro s5 l5)
  clear KA s5 l5 b5 X4 Y4 C4 c0 c1 c2 c3 c4
  rw [HX.out.1]
  obtain ⟨c0, c1, c2, c3, c4⟩ := C5.out.cc
  have KA := asks_c c (.slice lp c.ls.length lc) (.slice mp c.ms.length mc) _ [p2, p3] (by show 2 ≤ _; decide) W5 C5.out.ci Y5.out.1 Y5.out.2
  go_wp2_with fail
  refine KA.mono ?_
  rintro e W6 ⟨v6, rfl, s6, l6, b6⟩
  have X6 := hid (And.intro (X5.out.1.below b6 X5.out.2) (X5.out.2.mono b6.size))
  have Y6 := hid (And.intro (Y5.out.1.below b6 Y5.out.2) (Y5.out.2.mono b6.size))
  have C6 := hid (C5.out.grow b6)
  have P6 := hid (And.intro (P5.out.1.below b6 P5.out.2) (P5.out.2.mono b6.size))
  have R6 := hid (And.intro s6 l6)
  clear KA s6 l6 b6 X5 Y5 C5 P5 c0 c1 c2 c3 c4
  rw [HY.out.1]
  obtain ⟨c0, c1, c2, c3, c4⟩ := C6.out.cc
  have KA := asked_c c (.slice lp c.ls.length lc) (.slice mp c.ms.length mc) v5 (Plain.asksB c [p0, p1]) (by rw [HX.out.2.2.2]; show (21 * 2 + 7) / 8 ≤ _; decide) (Plain.asksB_lt c _) W6 C6.out.ci P6.out.1 P6.out.2
  go_wp2_with fail
  refine KA.mono ?_
  rintro e W7 ⟨v7, rfl, s7, l7, b7⟩
  have X7 := hid (X6.out.1.below b7 X6.out.2)
  have Y7 := hid (Y6.out.1.below b7 Y6.out.2)
  have P7 := hid (P6.out.1.below b7 P6.out.2)
  have R7 := hid (R6.out.1.below b7 R6.out.2)
  have B7 := hid (B1.out.trans (((C6.out.be.trans (b7.mono C6.out.be.size))).mono B1.out.size))
  rw [HX.out.2.1]
  rw [HX.out.2.2.1] at s7
  have S7 := hid s7
  clear KA s7 l7 b7 X6 Y6 C6 P6 R6 c0 c1 c2 c3 c4
  obtain ⟨pp, pc, rfl⟩ := segB_form P7.out
  obtain ⟨rp, rc, rfl⟩ := segB_form R7.out
  have L1 : (Plain.asksB c [p0, p1]).length = 6 := HX.out.2.2.2.trans (by show (21 * 2 + 7) / 8 = 6; decide)
  have L2 : (Plain.asksB c [p2, p3]).length = 6 := HY.out.2.2.2.trans (by show (21 * 2 + 7) / 8 = 6; decide)
  have KS1 := keep.same_any v7 (.slice (some ⟨X, 0, none⟩) 2 2) [p0, p1] [p0, p1] (by show 2 ≤ _; decide) W7 S7.out X7.out
  rw [decide_eq_true rfl] at KS1
  have KS2 := hid (fun q => keep.same_any (.slice (some ⟨X, 0, none⟩) 2 2) (.slice (some ⟨Y, 0, none⟩) 2 2) [p0, p1] [p2, p3] (by show 2 ≤ _; decide) (W7.drewN q) (X7.out.drew q) (Y7.out.drew q))
  have KS3 := hid (fun q => keep.sameB_any _ _ (Plain.asksB c [p0, p1]) (Plain.asksB c [p2, p3]) (by rw [L1]; decide) (W7.drewN q) (P7.out.drew q) (R7.out.drew q))
  rw [L1, L2] at *
  rw [HI.out] at KS3
  generalize decide ([p0, p1] = [p2, p3]) = r at KS2 KS3
  clear HX HY HI P7 R7 X7 Y7 S7 L1 L2
  go_wp2_with fail
  refine KS1.mono ?_
  rintro e W8 ⟨rfl, q8, h8⟩
  have H8 := hid h8
  have KK := KS2.out q8
  rw [← h8] at KK
  clear h8 KS1 KS2
  go_wp2_with fail
  refine KK.mono ?_
  rintro e W9 ⟨rfl, q9, h9⟩
  have KK2 := KS3.out (q8 + q9)
  rw [← drewN_add, ← H8.out, ← h9] at KK2
  have B9 := hid (show Below w.heap.size w W9 by rw [h9, H8.out]; exact below_drewN (below_drewN B7.out q8) q9)
  clear h9 KK KS3 H8
  go_wp2_with fail
  refine KK2.mono ?_
  rintro e W10 ⟨rfl, q10, h10⟩
  have B10 := hid (show Below w.heap.size w W10 by rw [h10]; exact below_drewN B9.out q10)
  clear h10 KK2
  cases r
  all_goals
    go_wp2
    go_ret
    exact ⟨rfl, B10.out⟩

set_option maxRecDepth 100000 in
theorem lifted (os : Os) (started : os.Started) (H : Type) (enc : TypeId × Value → H) :
    ReturnsInHanded {} Try.checked os 4 .any (Rows.asksBackSpec.pre6 enc Try.prog Try.f4 Rows.asksBackRow.domain false) (Rows.asksBackSpec.post enc Try.prog Try.f4 false true false false) := by
  refine returnsInHanded_of_change (C := Try.checked) own started (by kernel_rfl) Try.func4
    (ChangeSpec.witness6 (enc := enc) (C := Try.checked) false ⟨#[], #[.int .i64 0, .int .i64 0, .int .i64 0, .int .i64 0], []⟩ 8 (by kernel_rfl) (by kernel_rfl) (by kernel_rfl) (by kernel_rfl)) ?_
  intro W base args ds gs before hval0 hW hcnd _
  have hval : ∀ (j : Nat) t v, Try.f4.params[j]? = some t → args[j]? = some v → Value.okWide Try.prog W .any base t v := hval0
  have hW' := hW
  obtain ⟨p, q, hA0, hV, rfl, hfz, hnd⟩ := hW
  have hA : DataW.TrodAll enc Try.prog W 0 (fun _ => true) true Try.f4.params.toList args.toList ds p := hA0
  rw [Try.params4] at hA hval
  obtain ⟨v0, vs0, d0, ds0, p0, q0, hargs, rfl, rfl, h0, r0⟩ := trodAll_cons hA
  obtain ⟨v1, vs1, d1, ds1, p1, q1, rfl, rfl, rfl, h1, r1⟩ := trodAll_cons r0
  obtain ⟨v2, vs2, d2, ds2, p2, q2, rfl, rfl, rfl, h2, r2⟩ := trodAll_cons r1
  obtain ⟨v3, vs3, d3, ds3, p3, q3, rfl, rfl, rfl, h3, r3⟩ := trodAll_cons r2
  obtain ⟨rfl, rfl, rfl⟩ := trodAll_nil r3
  obtain rfl : args = #[v0, v1, v2, v3] := by cases args; simp_all
  obtain ⟨rfl, rfl⟩ := trodVars_none hV
  have k0 := h0
  have lt0 : ∀ x ∈ p0, x.block < W.heap.size := by obtain ⟨m, hm⟩ := k0; exact DataW.trod_lt m _ _ _ hm
  obtain ⟨a0, rfl, _, _, w0⟩ := open_int Try.underlying3 (hval 0 3 v0 rfl rfl) h0
  have k1 := h1
  have lt1 : ∀ x ∈ p1, x.block < W.heap.size := by obtain ⟨m, hm⟩ := k1; exact DataW.trod_lt m _ _ _ hm
  obtain ⟨a1, rfl, _, _, w1⟩ := open_int Try.underlying3 (hval 1 3 v1 rfl rfl) h1
  have k2 := h2
  have lt2 : ∀ x ∈ p2, x.block < W.heap.size := by obtain ⟨m, hm⟩ := k2; exact DataW.trod_lt m _ _ _ hm
  obtain ⟨a2, rfl, _, _, w2⟩ := open_int Try.underlying3 (hval 2 3 v2 rfl rfl) h2
  have k3 := h3
  have lt3 : ∀ x ∈ p3, x.block < W.heap.size := by obtain ⟨m, hm⟩ := k3; exact DataW.trod_lt m _ _ _ hm
  obtain ⟨a3, rfl, _, _, w3⟩ := open_int Try.underlying3 (hval 3 3 v3 rfl rfl) h3
  clear hA0 hval0
  refine (walk W a0 (bounds_i64 w0) a1 (bounds_i64 w1) a2 (bounds_i64 w2) a3 (bounds_i64 w3)).mono fun e W' ⟨he, bel⟩ => ?_
  subst he
  exact ⟨_, rfl, _, _, _, [], _, [], hW', trodAll_mk1 (shut_bool Try.underlying4 _), (trodAll_cons_mk (Below.trod laidOut (by kernel_rfl) (of_decide_eq_true (by kernel_rfl)) k0 bel lt0) (trodAll_cons_mk (Below.trod laidOut (by kernel_rfl) (of_decide_eq_true (by kernel_rfl)) k1 bel lt1) (trodAll_cons_mk (Below.trod laidOut (by kernel_rfl) (of_decide_eq_true (by kernel_rfl)) k2 bel lt2) (trodAll_cons_mk (Below.trod laidOut (by kernel_rfl) (of_decide_eq_true (by kernel_rfl)) k3 bel lt3) trodAll_mk0)))), rfl, bel.frame _, fun h => by cases h⟩

theorem over : Rows.asksBackRow.holds Try.pinned (OpenSpec.ofChange Rows.asksBackSpec) :=
  OpenClaim.holds_of_wide 4 Try.f4 rfl rfl rfl rfl rfl rfl rfl ⟨rfl, rfl, rfl, rfl, rfl⟩ rfl rfl rfl rfl rfl (by kernel_rfl) Try.func4 (by kernel_rfl)
    (of_decide_eq_true (by kernel_rfl)) (by unfold Func.isWrapper; first | (rw [if_pos (by decide +kernel)]; kernel_rfl) | (rw [if_neg (by decide +kernel)]; exact ⟨rfl, rfl⟩))
    (fun os started H enc _ => lifted os started H enc)

end asksBack

theorem asksBack_holds : Rows.AsksBackSaid := asksBack.over
#print axioms asksBack_holds
end Go.Proofs.Ytkmnofmhjoehiam

/- Proved: at every three lists of notes the law MergeAny returns true: in whatever order, and however often, entries are merged, the same comes out. Conditions: none. -/
import Derived.Test.YthdhcnjebigdfafRows
import Derived.WalkKit
import Derived.ProofKit
import Derived.OpenShut
import Derived.WalkSmall
import Derived.ShutString
import Derived.ChangeOld
import Derived.Below
import Derived.Test.YthdhcnjebigdfafMa
namespace Go.Proofs.Ythdhcnjebigdfaf
namespace mergeAny
open Go.ChangeShapes Go.WideShapes Go.ChangeAt Go.RowKit
set_option linter.unusedVariables false

theorem own : ownKnob Try.prog.godebug = none := by kernel_rfl
theorem laidOut : laidOutB Try.prog = true := by kernel_rfl

set_option maxHeartbeats 4000000 in
set_option maxRecDepth 100000 in
theorem walk (w : World) (v0 : Value) (l0 : List Plain.En) (hm0 : l0.length ≤ 9223372036854775807) (hr0 : ∀ j, j < l0.length → InE (Plain.en l0 j)) (s0 : SegN w v0 l0) (y0 : Lies w.heap.size v0) (v1 : Value) (l1 : List Plain.En) (hm1 : l1.length ≤ 9223372036854775807) (hr1 : ∀ j, j < l1.length → InE (Plain.en l1 j)) (s1 : SegN w v1 l1) (y1 : Lies w.heap.size v1) (v2 : Value) (l2 : List Plain.En) (hm2 : l2.length ≤ 9223372036854775807) (hr2 : ∀ j, j < l2.length → InE (Plain.en l2 j)) (s2 : SegN w v2 l2) (y2 : Lies w.heap.size v2) :
    Calls Try.prog 3 #[v0, v1, v2] w fun e w' => e = .returned (.bool true) ∧ Below w.heap.size w w' := by
  have K0 := entriesOf_any v0 l0 hm0 hr0 w s0 y0
  have K1 := fun w1 (b1 : Below w.heap.size w w1) => entriesOf_any v1 l1 hm1 hr1 w1 (s1.below b1 y1) (y1.mono b1.size)
  have K2 := fun w1 (b1 : Below w.heap.size w w1) => entriesOf_any v2 l2 hm2 hr2 w1 (s2.below b1 y2) (y2.mono b1.size)
  have A6 := hid (Plain.eofs_six l0 (Plain.noteN l0) (by unfold Plain.noteN; omega))
  have B6 := hid (Plain.eofs_six l1 (Plain.noteN l1) (by unfold Plain.noteN; omega))
  have C6 := hid (Plain.eofs_six l2 (Plain.noteN l2) (by unfold Plain.noteN; omega))
  clear s0 y0 hr0 s1 y1 hr1 s2 y2 hr2 hm0 hm1 hm2
  generalize Plain.eofs l0 (Plain.noteN l0) = a at K0 A6
  generalize Plain.eofs l1 (Plain.noteN l1) = b at K1 B6
  generalize Plain.eofs l2 (Plain.noteN l2) = c at K2 C6
  have AB6 := hid (A6.out.merge B6.out)
  have BC6 := hid (B6.out.merge C6.out)
  have E1 := hid (Plain.merge_comm A6.out.srt B6.out.srt)
  have E2 := hid (Plain.merge_assoc A6.out.srt B6.out.srt C6.out.srt)
  have E3 := hid (Plain.merge_same A6.out.srt)
  have E4 := hid (Plain.merge_again A6.out.srt B6.out.srt)
  go_enter Try.func3, Try.ntmps3
  go_wp2_with fail
  refine K0.mono ?_
  rintro e w1 ⟨va, rfl, h1, b1⟩
  go_wp2_with fail
  refine (K1 w1 b1).mono ?_
  rintro e w2 ⟨vb, rfl, h2, b2⟩
  go_wp2_with fail
  refine (K2 w2 (b1.trans (b2.mono b1.size))).mono ?_
  rintro e w3 ⟨vc, rfl, h3, b3⟩
  have T3 := hid (show Three w w3 va vb vc a b c from ⟨(h1.grow b2).grow b3, h2.grow b3, h3, (b1.trans (b2.mono b1.size)).trans (b3.mono (Nat.le_trans b1.size b2.size))⟩)
  clear h1 h2 h3 b1 b2 b3 K0 K1 K2
  go_wp2_with fail
  refine (kmerge_c va vb a b A6.out B6.out _ T3.out.a T3.out.b).mono ?_
  rintro e w4 ⟨vab, rfl, h4, b4⟩
  have T4 := hid (T3.out.grow b4)
  have H4 := hid h4
  clear h4 b4 T3
  have KM := may_any vab (Plain.mergeL a b) (by have := AB6.out.len; omega) w4 H4.out.seg H4.out.lies
  rw [AB6.out.mayL] at KM
  go_wp2_with fail
  refine KM.mono ?_
  rintro e w5 ⟨rfl, b5⟩
  have T5 := hid (T4.out.grow b5)
  have H5 := hid (H4.out.grow b5)
  clear b5 T4 H4 KM
  go_wp2_with fail
  refine (kmerge_c vb va b a B6.out A6.out _ T5.out.b T5.out.a).mono ?_
  rintro e w6 ⟨vba, rfl, h6, b6⟩
  rw [← E1.out] at h6
  have T6 := hid (T5.out.grow b6)
  have H6 := hid (H5.out.grow b6)
  have G6 := hid h6
  clear h6 b6 T5 H5
  go_wp2_with fail
  refine (keep.same_any vab vba _ (by have := AB6.out.len; omega) _ H6.out.seg G6.out.seg).mono ?_
  rintro e w7 ⟨rfl, q, hq⟩
  have T7 := hid (show Three w w7 va vb vc a b c by rw [hq]; exact T6.out.grow (below_draw w6 q))
  have H7 := hid (show Held w7 vab (Plain.mergeL a b) by rw [hq]; exact H6.out.grow (below_draw w6 q))
  clear hq T6 H6 G6
  go_wp2_with fail
  refine (kmerge_c vab vc _ c AB6.out C6.out _ H7.out T7.out.c).mono ?_
  rintro e w8 ⟨vabc, rfl, h8, b8⟩
  have T8 := hid (T7.out.grow b8)
  have H8 := hid (H7.out.grow b8)
  have G8 := hid h8
  clear h8 b8 T7 H7
  go_wp2_with fail
  refine (kmerge_c vb vc b c B6.out C6.out _ T8.out.b T8.out.c).mono ?_
  rintro e w9 ⟨vbc, rfl, h9, b9⟩
  have T9 := hid (T8.out.grow b9)
  have H9 := hid (H8.out.grow b9)
  have G9 := hid (G8.out.grow b9)
  have I9 := hid h9
  clear h9 b9 T8 H8 G8
  go_wp2_with fail
  refine (kmerge_c va vbc a _ A6.out BC6.out _ T9.out.a I9.out).mono ?_
  rintro e w10 ⟨vr, rfl, h10, b10⟩
  rw [← E2.out] at h10
  have T10 := hid (T9.out.grow b10)
  have H10 := hid (H9.out.grow b10)
  have G10 := hid (G9.out.grow b10)
  have I10 := hid h10
  clear h10 b10 T9 H9 G9 I9
  go_wp2_with fail
  refine (keep.same_any vabc vr _ (by have := (AB6.out.merge C6.out).len; omega) _ G10.out.seg I10.out.seg).mono ?_
  rintro e w11 ⟨rfl, q, hq⟩
  have T11 := hid (show Three w w11 va vb vc a b c by rw [hq]; exact T10.out.grow (below_draw w10 q))
  have H11 := hid (show Held w11 vab (Plain.mergeL a b) by rw [hq]; exact H10.out.grow (below_draw w10 q))
  clear hq T10 H10 G10 I10
  go_wp2_with fail
  refine (kmerge_c va va a a A6.out A6.out _ T11.out.a T11.out.a).mono ?_
  rintro e w12 ⟨vaa, rfl, h12, b12⟩
  rw [E3.out] at h12
  have T12 := hid (T11.out.grow b12)
  have H12 := hid (H11.out.grow b12)
  have G12 := hid h12
  clear h12 b12 T11 H11
  go_wp2_with fail
  refine (keep.same_any vaa va _ (by have := A6.out.len; omega) _ G12.out.seg T12.out.a.seg).mono ?_
  rintro e w13 ⟨rfl, q, hq⟩
  have T13 := hid (show Three w w13 va vb vc a b c by rw [hq]; exact T12.out.grow (below_draw w12 q))
  have H13 := hid (show Held w13 vab (Plain.mergeL a b) by rw [hq]; exact H12.out.grow (below_draw w12 q))
  clear hq T12 H12 G12
  go_wp2_with fail
  refine (kmerge_c vab vb _ b AB6.out B6.out _ H13.out T13.out.b).mono ?_
  rintro e w14 ⟨vs, rfl, h14, b14⟩
  rw [E4.out] at h14
  have T14 := hid (T13.out.grow b14)
  have H14 := hid (H13.out.grow b14)
  have G14 := hid h14
  clear h14 b14 T13 H13
  go_wp2_with fail
  refine (keep.same_any vs vab _ (by have := AB6.out.len; omega) _ G14.out.seg H14.out.seg).mono ?_
  rintro e w15 ⟨rfl, q, hq⟩
  have B15 := hid (show Below w.heap.size w w15 by rw [hq]; exact below_drewN T14.out.bel q)
  clear hq T14 H14 G14
  go_wp2
  go_ret
  exact ⟨rfl, B15.out⟩

set_option maxRecDepth 100000 in
theorem lifted (os : Os) (started : os.Started) (H : Type) (enc : TypeId × Value → H) :
    ReturnsInHanded {} Try.checked os 3 .any (Rows.mergeAnySpec.pre6 enc Try.prog Try.f3 Rows.mergeAnyRow.domain false) (Rows.mergeAnySpec.post enc Try.prog Try.f3 false true false false) := by
  refine returnsInHanded_of_change (C := Try.checked) own started (by kernel_rfl) Try.func3
    (ChangeSpec.witness6 (enc := enc) (C := Try.checked) false ⟨#[], #[.slice none 0 0, .slice none 0 0, .slice none 0 0], []⟩ 8 (by kernel_rfl) (by kernel_rfl) (by kernel_rfl) (by kernel_rfl)) ?_
  intro W base args ds gs before hval0 hW hcnd _
  have hval : ∀ (j : Nat) t v, Try.f3.params[j]? = some t → args[j]? = some v → Value.okWide Try.prog W .any base t v := hval0
  have hW' := hW
  obtain ⟨p, q, hA0, hV, rfl, hfz, hnd⟩ := hW
  have hA : DataW.TrodAll enc Try.prog W 0 (fun _ => true) true Try.f3.params.toList args.toList ds p := hA0
  rw [Try.params3] at hA hval
  obtain ⟨v0, vs0, d0, ds0, p0, q0, hargs, rfl, rfl, h0, r0⟩ := trodAll_cons hA
  obtain ⟨v1, vs1, d1, ds1, p1, q1, rfl, rfl, rfl, h1, r1⟩ := trodAll_cons r0
  obtain ⟨v2, vs2, d2, ds2, p2, q2, rfl, rfl, rfl, h2, r2⟩ := trodAll_cons r1
  obtain ⟨rfl, rfl, rfl⟩ := trodAll_nil r2
  obtain rfl : args = #[v0, v1, v2] := by cases args; simp_all
  obtain ⟨rfl, rfl⟩ := trodVars_none hV
  obtain ⟨a0, len0, cap0, rfl⟩ := okWide_slice Try.underlying22 (hval 0 22 v0 rfl rfl)
  have k0 := h0
  have lt0 : ∀ x ∈ p0, x.block < W.heap.size := by obtain ⟨m, hm⟩ := k0; exact DataW.trod_lt m _ _ _ hm
  obtain ⟨l0, hl0, hm0, s0, y0, hr0⟩ := ens_open Try.underlying22 Try.underlying33 (by kernel_rfl) ⟨rfl, by intro j f hj; rcases j with _ | _ | _ | _ | _ | j <;> simp at hj <;> subst hj <;> first | exact ⟨rfl, by kernel_rfl, Try.underlying3⟩ | exact ⟨rfl, by kernel_rfl, Try.underlying4⟩⟩ h0
  obtain ⟨a1, len1, cap1, rfl⟩ := okWide_slice Try.underlying22 (hval 1 22 v1 rfl rfl)
  have k1 := h1
  have lt1 : ∀ x ∈ p1, x.block < W.heap.size := by obtain ⟨m, hm⟩ := k1; exact DataW.trod_lt m _ _ _ hm
  obtain ⟨l1, hl1, hm1, s1, y1, hr1⟩ := ens_open Try.underlying22 Try.underlying33 (by kernel_rfl) ⟨rfl, by intro j f hj; rcases j with _ | _ | _ | _ | _ | j <;> simp at hj <;> subst hj <;> first | exact ⟨rfl, by kernel_rfl, Try.underlying3⟩ | exact ⟨rfl, by kernel_rfl, Try.underlying4⟩⟩ h1
  obtain ⟨a2, len2, cap2, rfl⟩ := okWide_slice Try.underlying22 (hval 2 22 v2 rfl rfl)
  have k2 := h2
  have lt2 : ∀ x ∈ p2, x.block < W.heap.size := by obtain ⟨m, hm⟩ := k2; exact DataW.trod_lt m _ _ _ hm
  obtain ⟨l2, hl2, hm2, s2, y2, hr2⟩ := ens_open Try.underlying22 Try.underlying33 (by kernel_rfl) ⟨rfl, by intro j f hj; rcases j with _ | _ | _ | _ | _ | j <;> simp at hj <;> subst hj <;> first | exact ⟨rfl, by kernel_rfl, Try.underlying3⟩ | exact ⟨rfl, by kernel_rfl, Try.underlying4⟩⟩ h2
  clear hA0 hval0
  refine (walk W _ l0 (by omega) hr0 s0 y0 _ l1 (by omega) hr1 s1 y1 _ l2 (by omega) hr2 s2 y2).mono fun e W' ⟨he, bel⟩ => ?_
  subst he
  exact ⟨_, rfl, _, _, _, [], _, [], hW', trodAll_mk1 (shut_bool Try.underlying4 _), (trodAll_cons_mk (Below.trod laidOut (by kernel_rfl) (of_decide_eq_true (by kernel_rfl)) k0 bel lt0) (trodAll_cons_mk (Below.trod laidOut (by kernel_rfl) (of_decide_eq_true (by kernel_rfl)) k1 bel lt1) (trodAll_cons_mk (Below.trod laidOut (by kernel_rfl) (of_decide_eq_true (by kernel_rfl)) k2 bel lt2) trodAll_mk0))), rfl, bel.frame _, fun h => by cases h⟩

theorem over : Rows.mergeAnyRow.holds Try.pinned (OpenSpec.ofChange Rows.mergeAnySpec) :=
  OpenClaim.holds_of_wide 3 Try.f3 rfl rfl rfl rfl rfl rfl rfl ⟨rfl, rfl, rfl, rfl, rfl⟩ rfl rfl rfl rfl rfl (by kernel_rfl) Try.func3 (by kernel_rfl)
    (of_decide_eq_true (by kernel_rfl)) (by unfold Func.isWrapper; first | (rw [if_pos (by decide +kernel)]; kernel_rfl) | (rw [if_neg (by decide +kernel)]; exact ⟨rfl, rfl⟩))
    (fun os started H enc _ => lifted os started H enc)

end mergeAny

theorem mergeAny_holds : Rows.MergeAnySaid := mergeAny.over
#print axioms mergeAny_holds
end Go.Proofs.Ythdhcnjebigdfaf

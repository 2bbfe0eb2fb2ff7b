/- Proved: at every three lists of 64-bit integers the law PackShape returns true: how long a record is tells nothing of what stands in it. Conditions: none. -/
import Derived.Test.YtnnicibkmbidpacRows
import Derived.WalkKit
import Derived.ProofKit
import Derived.OpenShut
import Derived.WalkSmall
import Derived.Test.YtnnicibkmbidpacKp
import Derived.Test.YtnnicibkmbidpacSameI
import Derived.ShutString
import Derived.ChangeOld
import Derived.Below
namespace Go.Proofs.Ytnnicibkmbidpac
namespace packShape
open Go.ChangeShapes Go.WideShapes Go.ChangeAt Go.RowKit
open Go.ChangeMaps (open_string shut_string)
set_option linter.unusedVariables false

theorem own : ownKnob Try.prog.godebug = none := by kernel_rfl
theorem laidOut : laidOutB Try.prog = true := by kernel_rfl

/-- WHAT THE WALK IS TOLD OF A SLICE OF INTEGERS THAT CAME IN: it is nil; or it leads to a row of 'cap' cells, the numbers 'zs' (the first 'len' are its elements, the rest its spare room), each fitting its kind. -/
def IsRow (k : IntKind) (w : World) (a : Option Addr) (len cap : Nat) (zs : List Int) : Prop :=
  (a = none ∧ len = 0 ∧ cap = 0 ∧ zs = []) ∨
  ∃ x, a = some x ∧ len ≤ cap ∧ cap ≤ maxLen ∧ zs.length = cap ∧ (∀ i, i < zs.length → w.cell? (x.add i) = some (.int k (zs.getD i 0))) ∧ ∀ n ∈ zs, (Lit.int k n).wf = true

set_option maxHeartbeats 4000000 in
theorem walk (a0 : Option Addr) (len0 cap0 : Nat) (z0 : List Int) (a1 : Option Addr) (len1 cap1 : Nat) (z1 : List Int) (a2 : Option Addr) (len2 cap2 : Nat) (z2 : List Int) (w : World) (w0 : IsRow .i64 w a0 len0 cap0 z0) (w1 : IsRow .i64 w a1 len1 cap1 z1) (w2 : IsRow .i64 w a2 len2 cap2 z2) :
    Calls Try.prog 6 #[.slice a0 len0 cap0, .slice a1 len1 cap1, .slice a2 len2 cap2] w fun e w' => e = .returned (.bool true) ∧ Below w.heap.size w w' := by
  obtain ⟨l, hl, hc, hm, hr, hv, hs⟩ := row_seg w0
  obtain ⟨xs, hl1, hc1, hm1, hr1, hv1, hs1⟩ := row_seg w1
  obtain ⟨ys, hl2, hc2, hm2, hr2, hv2, hs2⟩ := row_seg w2
  clear w0 w1 w2
  have X := hid (show l.length ≤ 9223372036854775807 ∧ xs.length ≤ 9223372036854775807 ∧ ys.length ≤ 9223372036854775807 by omega)
  have S0 := hid hs
  have V0 := hid hv
  have R0 := hid hr
  have S1 := hid hs1
  have V1 := hid hv1
  have R1 := hid hr1
  have S2 := hid hs2
  have V2 := hid hv2
  have R2 := hid hr2
  clear hs hv hr hs1 hv1 hr1 hs2 hv2 hr2 hl hc hm hl1 hc1 hm1 hl2 hc2 hm2
  have HZ := hid (Plain.wl_sz l)
  have HWL := hid (Plain.wlist_len l)
  have HOK := hid (Plain.wlist_ok l)
  have HSE := hid (shape_eq l)
  go_enter Try.func6, Try.ntmps6
  go_wp2_with fail
  refine (kwidths_any _ l R0.out X.out.1 _ S0.out V0.out).mono ?_
  rintro e w1 ⟨r0, rfl, o0, b0⟩
  obtain ⟨p0, c0, rfl⟩ := own_form o0
  have O0 := hid o0
  have B0 := hid b0
  clear o0 b0
  generalize hws : Plain.wlist l = ws at *
  clear hws
  go_wp2_with fail
  refine (kfields_any _ _ ws xs HOK.out (by have := HWL.out; omega) R1.out X.out.2.1 _ (seg_ivals O0.out) (lies_owns2 O0.out) (Seg.below S1.out B0.out V1.out) (Lies.mono V1.out (Below.size B0.out))).mono ?_
  rintro e w2 ⟨r1, rfl, o1, b1⟩
  have K1 := hid (kf_seg o1)
  have B1 := hid b1
  clear o1 b1
  go_wp2_with fail
  refine (pack_any _ _ (by rw [Plain.flist_len]; have := HWL.out; omega) _ K1.out.1 K1.out.2).mono ?_
  rintro e w3 ⟨u1, rfl, s3, l3, b3⟩
  obtain ⟨p1, c1, rfl⟩ := segB_form s3
  rw [(Plain.fl_pack ws xs HZ.out).1, Plain.fl_len ws xs HZ.out]
  have B3 := hid (Below.trans B0.out (Below.mono (Below.trans B1.out (Below.mono b3 (Below.size B1.out))) (Below.size B0.out)))
  have B3' := hid (Below.trans B1.out (Below.mono b3 (Below.size B1.out)))
  clear s3 l3 b3
  go_wp2_with fail
  refine (kfields_any _ _ ws ys HOK.out (by have := HWL.out; omega) R2.out X.out.2.2 _ (Seg.below (seg_ivals O0.out) B3'.out (lies_owns2 O0.out)) (Lies.mono (lies_owns2 O0.out) (Below.size B3'.out)) (Seg.below S2.out B3.out V2.out) (Lies.mono V2.out (Below.size B3.out))).mono ?_
  rintro e w4 ⟨r2, rfl, o4, b4⟩
  have K4 := hid (kf_seg o4)
  have B4 := hid b4
  clear o4 b4
  go_wp2_with fail
  refine (pack_any _ _ (by rw [Plain.flist_len]; have := HWL.out; omega) _ K4.out.1 K4.out.2).mono ?_
  rintro e w5 ⟨u2, rfl, s5, l5, b5⟩
  obtain ⟨p2, c2, rfl⟩ := segB_form s5
  rw [(Plain.fl_pack ws ys HZ.out).1, Plain.fl_len ws ys HZ.out]
  have B5 := hid (Below.trans B4.out (Below.mono b5 (Below.size B4.out)))
  clear s5 l5 b5
  have B6 := hid (Below.trans B3.out (Below.mono B5.out (Below.size B3.out)))
  have B6' := hid (Below.trans B3'.out (Below.mono B5.out (Below.size B3'.out)))
  go_wp2_with fail
  refine (size_any _ ws (by have := HWL.out; omega) _ (Seg.below (seg_ivals O0.out) B6'.out (lies_owns2 O0.out))).mono ?_
  rintro e wx ⟨rfl, hx⟩
  have hy := hx.symm
  clear hx
  subst hy
  rw [HZ.out]
  have hse := HSE.out
  generalize Plain.szN ws = n at *
  generalize ws.length = m at *
  go_wp2
  go_ret
  exact ⟨rfl, B6.out⟩

set_option maxRecDepth 100000 in
theorem lifted (os : Os) (started : os.Started) (H : Type) (enc : TypeId × Value → H) :
    ReturnsInHanded {} Try.checked os 6 .any (Rows.packShapeSpec.pre6 enc Try.prog Try.f6 Rows.packShapeRow.domain false) (Rows.packShapeSpec.post enc Try.prog Try.f6 false true false false) := by
  refine returnsInHanded_of_change (C := Try.checked) own started (by kernel_rfl) Try.func6
    (ChangeSpec.witness6 (enc := enc) (C := Try.checked) false ⟨#[], #[.slice none 0 0, .slice none 0 0, .slice none 0 0], []⟩ 8 (by kernel_rfl) (by kernel_rfl) (by kernel_rfl) (by kernel_rfl)) ?_
  intro W base args ds gs before hval0 hW hcnd _
  have hval : ∀ (j : Nat) t v, Try.f6.params[j]? = some t → args[j]? = some v → Value.okWide Try.prog W .any base t v := hval0
  have hW' := hW
  obtain ⟨p, q, hA0, hV, rfl, hfz, hnd⟩ := hW
  have hA : DataW.TrodAll enc Try.prog W 0 (fun _ => true) true Try.f6.params.toList args.toList ds p := hA0
  rw [Try.params6] at hA hval
  obtain ⟨v0, vs0, d0, ds0, p0, q0, hargs, rfl, rfl, h0, r0⟩ := trodAll_cons hA
  obtain ⟨v1, vs1, d1, ds1, p1, q1, rfl, rfl, rfl, h1, r1⟩ := trodAll_cons r0
  obtain ⟨v2, vs2, d2, ds2, p2, q2, rfl, rfl, rfl, h2, r2⟩ := trodAll_cons r1
  obtain ⟨rfl, rfl, rfl⟩ := trodAll_nil r2
  obtain rfl : args = #[v0, v1, v2] := by cases args; simp_all
  obtain ⟨rfl, rfl⟩ := trodVars_none hV
  obtain ⟨a0, len0, cap0, rfl⟩ := okWide_slice Try.underlying22 (hval 0 22 v0 rfl rfl)
  have k0 := h0
  have lt0 : ∀ x ∈ p0, x.block < W.heap.size := by obtain ⟨m, hm⟩ := k0; exact DataW.trod_lt m _ _ _ hm
  obtain ⟨z0, w0⟩ : ∃ zs, IsRow .i64 W a0 len0 cap0 zs := by
    obtain ⟨fuel, hf⟩ := h0
    rcases open_ints Try.underlying22 Try.underlying3 (by kernel_rfl) hf with ⟨hcs, _⟩ | ⟨x, l, c, zs, hcs, _, hl, hm, hz, _, hcell, hwz⟩
    · simp [Value.cells] at hcs
      obtain ⟨rfl, rfl, rfl⟩ := hcs
      exact ⟨[], .inl ⟨rfl, rfl, rfl, rfl⟩⟩
    · simp [Value.cells] at hcs
      obtain ⟨rfl, rfl, rfl⟩ := hcs
      exact ⟨zs, .inr ⟨_, rfl, hl, hm, by simpa using hz, hcell, hwz⟩⟩
  obtain ⟨a1, len1, cap1, rfl⟩ := okWide_slice Try.underlying22 (hval 1 22 v1 rfl rfl)
  have k1 := h1
  have lt1 : ∀ x ∈ p1, x.block < W.heap.size := by obtain ⟨m, hm⟩ := k1; exact DataW.trod_lt m _ _ _ hm
  obtain ⟨z1, w1⟩ : ∃ zs, IsRow .i64 W a1 len1 cap1 zs := by
    obtain ⟨fuel, hf⟩ := h1
    rcases open_ints Try.underlying22 Try.underlying3 (by kernel_rfl) hf with ⟨hcs, _⟩ | ⟨x, l, c, zs, hcs, _, hl, hm, hz, _, hcell, hwz⟩
    · simp [Value.cells] at hcs
      obtain ⟨rfl, rfl, rfl⟩ := hcs
      exact ⟨[], .inl ⟨rfl, rfl, rfl, rfl⟩⟩
    · simp [Value.cells] at hcs
      obtain ⟨rfl, rfl, rfl⟩ := hcs
      exact ⟨zs, .inr ⟨_, rfl, hl, hm, by simpa using hz, hcell, hwz⟩⟩
  obtain ⟨a2, len2, cap2, rfl⟩ := okWide_slice Try.underlying22 (hval 2 22 v2 rfl rfl)
  have k2 := h2
  have lt2 : ∀ x ∈ p2, x.block < W.heap.size := by obtain ⟨m, hm⟩ := k2; exact DataW.trod_lt m _ _ _ hm
  obtain ⟨z2, w2⟩ : ∃ zs, IsRow .i64 W a2 len2 cap2 zs := by
    obtain ⟨fuel, hf⟩ := h2
    rcases open_ints Try.underlying22 Try.underlying3 (by kernel_rfl) hf with ⟨hcs, _⟩ | ⟨x, l, c, zs, hcs, _, hl, hm, hz, _, hcell, hwz⟩
    · simp [Value.cells] at hcs
      obtain ⟨rfl, rfl, rfl⟩ := hcs
      exact ⟨[], .inl ⟨rfl, rfl, rfl, rfl⟩⟩
    · simp [Value.cells] at hcs
      obtain ⟨rfl, rfl, rfl⟩ := hcs
      exact ⟨zs, .inr ⟨_, rfl, hl, hm, by simpa using hz, hcell, hwz⟩⟩
  clear hA0 hval0
  refine (walk a0 len0 cap0 z0 a1 len1 cap1 z1 a2 len2 cap2 z2 W w0 w1 w2).mono fun e W' ⟨he, bel⟩ => ?_
  subst he
  exact ⟨_, rfl, _, _, _, [], _, [], hW', trodAll_mk1 (shut_bool Try.underlying4 _), (trodAll_cons_mk (Below.trod laidOut (by kernel_rfl) (of_decide_eq_true (by kernel_rfl)) k0 bel lt0) (trodAll_cons_mk (Below.trod laidOut (by kernel_rfl) (of_decide_eq_true (by kernel_rfl)) k1 bel lt1) (trodAll_cons_mk (Below.trod laidOut (by kernel_rfl) (of_decide_eq_true (by kernel_rfl)) k2 bel lt2) trodAll_mk0))), rfl, bel.frame _, fun h => by cases h⟩

theorem over : Rows.packShapeRow.holds Try.pinned (OpenSpec.ofChange Rows.packShapeSpec) :=
  OpenClaim.holds_of_wide 6 Try.f6 rfl rfl rfl rfl rfl rfl rfl ⟨rfl, rfl, rfl, rfl, rfl⟩ rfl rfl rfl rfl rfl (by kernel_rfl) Try.func6 (by kernel_rfl)
    (of_decide_eq_true (by kernel_rfl)) (by unfold Func.isWrapper; first | (rw [if_pos (by decide +kernel)]; kernel_rfl) | (rw [if_neg (by decide +kernel)]; exact ⟨rfl, rfl⟩))
    (fun os started H enc _ => lifted os started H enc)

end packShape

theorem packShape_holds : Rows.PackShapeSaid := packShape.over
#print axioms packShape_holds
end Go.Proofs.Ytnnicibkmbidpac

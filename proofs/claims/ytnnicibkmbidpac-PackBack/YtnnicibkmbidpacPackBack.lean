/- Proved: at every two lists of 64-bit integers the law PackBack returns true: what is packed comes back. Conditions: none. -/
import Derived.Test.YtnnicibkmbidpacRows
import Derived.WalkKit
import Derived.ProofKit
import Derived.OpenShut
import Derived.WalkSmall
import Derived.Test.YtnnicibkmbidpacKp
import Derived.Test.YtnnicibkmbidpacSameI
import Derived.Deep.QuietTactic
import Derived.BigQuiet
import Derived.ShutString
import Derived.ChangeOld
import Derived.Below
namespace Go.Proofs.Ytnnicibkmbidpac
namespace packBack
open Go.ChangeShapes Go.WideShapes Go.ChangeAt Go.RowKit
open Go.ChangeMaps (open_string shut_string)
set_option linter.unusedVariables false

theorem own : ownKnob Try.prog.godebug = none := by kernel_rfl
theorem laidOut : laidOutB Try.prog = true := by kernel_rfl

/-- WHAT THE WALK IS TOLD OF A SLICE OF INTEGERS THAT CAME IN: it is nil; or it leads to a row of 'cap' cells, the numbers 'zs' (the first 'len' are its elements, the rest its spare room), each fitting its kind. -/
def IsRow (k : IntKind) (w : World) (a : Option Addr) (len cap : Nat) (zs : List Int) : Prop :=
  (a = none ∧ len = 0 ∧ cap = 0 ∧ zs = []) ∨
  ∃ x, a = some x ∧ len ≤ cap ∧ cap ≤ maxLen ∧ zs.length = cap ∧ (∀ i, i < zs.length → w.cell? (x.add i) = some (.int k (zs.getD i 0))) ∧ ∀ n ∈ zs, (Lit.int k n).wf = true

set_option maxHeartbeats 4000000 in
theorem walk (a0 : Option Addr) (len0 cap0 : Nat) (z0 : List Int) (a1 : Option Addr) (len1 cap1 : Nat) (z1 : List Int) (w : World) (w0 : IsRow .i64 w a0 len0 cap0 z0) (w1 : IsRow .i64 w a1 len1 cap1 z1) :
    Calls Try.prog 4 #[.slice a0 len0 cap0, .slice a1 len1 cap1] w fun e w' => e = .returned (.bool true) ∧ Below w.heap.size w w' := by
  obtain ⟨l, hl, hc, hm, hr, hv, hs⟩ := row_seg w0
  obtain ⟨xs, hl1, hc1, hm1, hr1, hv1, hs1⟩ := row_seg w1
  clear w0 w1
  have X := hid (show l.length ≤ 9223372036854775807 ∧ xs.length ≤ 9223372036854775807 by omega)
  have S0 := hid hs
  have V0 := hid hv
  have R0 := hid hr
  have S1 := hid hs1
  have V1 := hid hv1
  have R1 := hid hr1
  clear hs hv hr hs1 hv1 hr1 hl hc hm hl1 hc1 hm1
  have HZ := hid (Plain.wl_sz l)
  have HWL := hid (Plain.wlist_len l)
  have HOK := hid (Plain.wlist_ok l)
  go_enter Try.func4, Try.ntmps4
  go_wp2_with fail
  refine (kwidths_any _ l R0.out X.out.1 _ S0.out V0.out).mono ?_
  rintro e w1 ⟨r0, rfl, o0, b0⟩
  obtain ⟨p0, c0, rfl⟩ := own_form o0
  have O0 := hid o0
  have B0 := hid b0
  clear o0 b0
  generalize hws : Plain.wlist l = ws at *
  clear hws
  go_wp2_with fail
  refine (kfields_any _ _ ws xs HOK.out (by have := HWL.out; omega) R1.out X.out.2 _ (seg_ivals O0.out) (lies_owns2 O0.out) (Seg.below S1.out B0.out V1.out) (Lies.mono V1.out (Below.size B0.out))).mono ?_
  rintro e w2 ⟨r1, rfl, o1, b1⟩
  obtain ⟨pf, cf, rfl⟩ := own_form o1
  have K1 := hid (kf_seg o1)
  have B1 := hid b1
  clear o1 b1
  go_wp2_with fail
  refine (pack_any _ _ (by rw [Plain.flist_len]; have := HWL.out; omega) _ K1.out.1 K1.out.2).mono ?_
  rintro e w3 ⟨u1, rfl, s3, l3, b3⟩
  obtain ⟨p1, c1, rfl⟩ := segB_form s3
  rw [(Plain.fl_pack ws xs HZ.out).1]
  have S3 := hid s3
  have L3 := hid l3
  have B3 := hid b3
  have B03 := hid (Below.trans B0.out (Below.mono (Below.trans B1.out (Below.mono b3 (Below.size B1.out))) (Below.size B0.out)))
  have B13 := hid (Below.trans B1.out (Below.mono b3 (Below.size B1.out)))
  have HLP := hid (Plain.fl_len ws xs HZ.out)
  have HSZ := hid (Plain.szN_le ws)
  clear s3 l3 b3
  go_wp2_with fail
  refine (unpack_any _ _ ws _ (Plain.pack_lt _) (by have := HWL.out; omega) (by have := HLP.out; have := HSZ.out; omega) _ (Seg.below (seg_ivals O0.out) B13.out (lies_owns2 O0.out)) (Lies.mono (lies_owns2 O0.out) (Below.size B13.out)) S3.out L3.out).mono ?_
  rintro e w4 ⟨r4, rfl, s4, l4, b4⟩
  rw [(fl_back ws xs HZ.out).1]
  rw [(fl_back ws xs HZ.out).2] at s4
  obtain ⟨p4, c4, rfl⟩ := seg_form s4
  have HLN := hid (Plain.flist_len ws xs ws.length)
  have B34 := hid (Below.trans B3.out (Below.mono b4 (Below.size B3.out)))
  have F4 := hid (SegF.below K1.out.1 B34.out K1.out.2)
  have B04 := hid (Below.trans B03.out (Below.mono b4 (Below.size B03.out)))
  have S4 := hid s4
  clear s4 l4 b4
  rw [List.length_map, HLN.out]
  have S4' := hid (show Seg w4 (.slice p4 ws.length c4) ((Plain.flist ws xs ws.length).map Prod.snd) by have := S4.out; rw [List.length_map, HLN.out] at this; exact this)
  have hwl := HWL.out
  generalize hm : ws.length = m at *
  clear hm
  go_wp2
  go_loopw [11] (fun i wr => ∃ k q : Nat, k ≤ m ∧ i = .int .i64 k ∧ wr = w4.drewN q) (fun i _ => m - (intOf i).toNat)
  case atStart => exact ⟨0, 0, Nat.zero_le _, rfl, rfl⟩
  case round =>
    obtain ⟨k, q, hk, rfl, hw0⟩ := hrel
    have HW := hid hw0
    clear hw0
    by_cases hlt : k < m
    · obtain ⟨bb, oo, rfl, gb⟩ := seg_at S4'.out (k := k) (by rw [List.length_map, HLN.out]; exact hlt)
      obtain ⟨bf, of, rfl, _, gf⟩ := segF_at F4.out (k := k) (by rw [HLN.out]; exact hlt)
      have e : ((Plain.flist ws xs m).map Prod.snd).getD k 0 = ((Plain.flist ws xs m).getD k (0, 0)).2 := by
        have : k < (Plain.flist ws xs m).length := by rw [HLN.out]; exact hlt
        simp [List.getD_eq_getElem?_getD, List.getElem?_eq_getElem this]
      rw [e] at gb
      have g1 : wr.cell? ⟨bb, oo + k, none⟩ = some (.int .i64 ((Plain.flist ws xs m).getD k (0, 0)).2) := by rw [HW.out]; exact gb
      have g2 : wr.cell? ⟨bf, of + k * 2 + 1, none⟩ = some (.int .i64 ((Plain.flist ws xs m).getD k (0, 0)).2) := by rw [HW.out]; exact gf
      clear gb gf e
      generalize ((Plain.flist ws xs m).getD k (0, 0)).2 = x at g1 g2
      have hlt' : (k : Int) < (m : Int) := by omega
      go_wp2
      go_quiet (fail)
      go_wp2
      go_roundw
      case rel => exact ⟨k + 1, q + nq, by omega, by go_num, by rw [HW.out, drewN_add]⟩
      case measure => simp [intOf]; omega
    · have hbe : Below w.heap.size w wr := by rw [HW.out]; exact below_drewN B04.out q
      have HBE := hid hbe
      have hge := hbe.size
      clear hbe
      go_wp2_with fail
      refine (pack_any (.slice (some ⟨wr.heap.size, 0, none⟩) 1 1) [(3, 5)] (by simp) _ (.inr ⟨wr.heap.size, 0, 1, rfl, fun j hj => ?_⟩) (lies_at (by simp))).mono ?_
      · match j, hj with
        | 0, _ => simp
      rintro e w6 ⟨u6, rfl, s6, l6, b6⟩
      rw [one_pack.1]
      rw [one_pack.2] at s6
      obtain ⟨p6, c6, rfl⟩ := segB_form s6
      obtain ⟨b6', o6, rfl, g6⟩ := segB_at s6 (k := 0) (by simp)
      have B6 := hid (Below.trans (HBE.out.alloc hge _) (Below.mono b6 (by simp; omega)))
      clear s6 l6 b6
      have g6' : w6.cell? ⟨b6', o6, none⟩ = some (.int .u8 160) := g6
      clear g6
      go_wp2
      go_ret
      exact ⟨rfl, B6.out⟩

set_option maxRecDepth 100000 in
theorem lifted (os : Os) (started : os.Started) (H : Type) (enc : TypeId × Value → H) :
    ReturnsInHanded {} Try.checked os 4 .any (Rows.packBackSpec.pre6 enc Try.prog Try.f4 Rows.packBackRow.domain false) (Rows.packBackSpec.post enc Try.prog Try.f4 false true false false) := by
  refine returnsInHanded_of_change (C := Try.checked) own started (by kernel_rfl) Try.func4
    (ChangeSpec.witness6 (enc := enc) (C := Try.checked) false ⟨#[], #[.slice none 0 0, .slice none 0 0], []⟩ 8 (by kernel_rfl) (by kernel_rfl) (by kernel_rfl) (by kernel_rfl)) ?_
  intro W base args ds gs before hval0 hW hcnd _
  have hval : ∀ (j : Nat) t v, Try.f4.params[j]? = some t → args[j]? = some v → Value.okWide Try.prog W .any base t v := hval0
  have hW' := hW
  obtain ⟨p, q, hA0, hV, rfl, hfz, hnd⟩ := hW
  have hA : DataW.TrodAll enc Try.prog W 0 (fun _ => true) true Try.f4.params.toList args.toList ds p := hA0
  rw [Try.params4] at hA hval
  obtain ⟨v0, vs0, d0, ds0, p0, q0, hargs, rfl, rfl, h0, r0⟩ := trodAll_cons hA
  obtain ⟨v1, vs1, d1, ds1, p1, q1, rfl, rfl, rfl, h1, r1⟩ := trodAll_cons r0
  obtain ⟨rfl, rfl, rfl⟩ := trodAll_nil r1
  obtain rfl : args = #[v0, v1] := by cases args; simp_all
  obtain ⟨rfl, rfl⟩ := trodVars_none hV
  obtain ⟨a0, len0, cap0, rfl⟩ := okWide_slice Try.underlying22 (hval 0 22 v0 rfl rfl)
  have k0 := h0
  have lt0 : ∀ x ∈ p0, x.block < W.heap.size := by obtain ⟨m, hm⟩ := k0; exact DataW.trod_lt m _ _ _ hm
  obtain ⟨z0, w0⟩ : ∃ zs, IsRow .i64 W a0 len0 cap0 zs := by
    obtain ⟨fuel, hf⟩ := h0
    rcases open_ints Try.underlying22 Try.underlying3 (by kernel_rfl) hf with ⟨hcs, _⟩ | ⟨x, l, c, zs, hcs, _, hl, hm, hz, _, hcell, hwz⟩
    · simp [Value.cells] at hcs
      obtain ⟨rfl, rfl, rfl⟩ := hcs
      exact ⟨[], .inl ⟨rfl, rfl, rfl, rfl⟩⟩
    · simp [Value.cells] at hcs
      obtain ⟨rfl, rfl, rfl⟩ := hcs
      exact ⟨zs, .inr ⟨_, rfl, hl, hm, by simpa using hz, hcell, hwz⟩⟩
  obtain ⟨a1, len1, cap1, rfl⟩ := okWide_slice Try.underlying22 (hval 1 22 v1 rfl rfl)
  have k1 := h1
  have lt1 : ∀ x ∈ p1, x.block < W.heap.size := by obtain ⟨m, hm⟩ := k1; exact DataW.trod_lt m _ _ _ hm
  obtain ⟨z1, w1⟩ : ∃ zs, IsRow .i64 W a1 len1 cap1 zs := by
    obtain ⟨fuel, hf⟩ := h1
    rcases open_ints Try.underlying22 Try.underlying3 (by kernel_rfl) hf with ⟨hcs, _⟩ | ⟨x, l, c, zs, hcs, _, hl, hm, hz, _, hcell, hwz⟩
    · simp [Value.cells] at hcs
      obtain ⟨rfl, rfl, rfl⟩ := hcs
      exact ⟨[], .inl ⟨rfl, rfl, rfl, rfl⟩⟩
    · simp [Value.cells] at hcs
      obtain ⟨rfl, rfl, rfl⟩ := hcs
      exact ⟨zs, .inr ⟨_, rfl, hl, hm, by simpa using hz, hcell, hwz⟩⟩
  clear hA0 hval0
  refine (walk a0 len0 cap0 z0 a1 len1 cap1 z1 W w0 w1).mono fun e W' ⟨he, bel⟩ => ?_
  subst he
  exact ⟨_, rfl, _, _, _, [], _, [], hW', trodAll_mk1 (shut_bool Try.underlying4 _), (trodAll_cons_mk (Below.trod laidOut (by kernel_rfl) (of_decide_eq_true (by kernel_rfl)) k0 bel lt0) (trodAll_cons_mk (Below.trod laidOut (by kernel_rfl) (of_decide_eq_true (by kernel_rfl)) k1 bel lt1) trodAll_mk0)), rfl, bel.frame _, fun h => by cases h⟩

theorem over : Rows.packBackRow.holds Try.pinned (OpenSpec.ofChange Rows.packBackSpec) :=
  OpenClaim.holds_of_wide 4 Try.f4 rfl rfl rfl rfl rfl rfl rfl ⟨rfl, rfl, rfl, rfl, rfl⟩ rfl rfl rfl rfl rfl (by kernel_rfl) Try.func4 (by kernel_rfl)
    (of_decide_eq_true (by kernel_rfl)) (by unfold Func.isWrapper; first | (rw [if_pos (by decide +kernel)]; kernel_rfl) | (rw [if_neg (by decide +kernel)]; exact ⟨rfl, rfl⟩))
    (fun os started H enc _ => lifted os started H enc)

end packBack

theorem packBack_holds : Rows.PackBackSaid := packBack.over
#print axioms packBack_holds
end Go.Proofs.Ytnnicibkmbidpac

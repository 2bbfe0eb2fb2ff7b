/- Proved: at every list of 64-bit integers and every list of bytes the law PackFixed returns true: what comes back packs to what it came from. Conditions: none. -/
import Derived.Test.YtnnicibkmbidpacRows
import Derived.WalkKit
import Derived.ProofKit
import Derived.OpenShut
import Derived.WalkSmall
import Derived.Test.YtnnicibkmbidpacKx
import Derived.Test.YtnnicibkmbidpacSameI
import Derived.Deep.QuietTactic
import Derived.BigQuiet
import Derived.ShutString
import Derived.ChangeOld
import Derived.Below
namespace Go.Proofs.Ytnnicibkmbidpac
namespace packFixed
open Go.ChangeShapes Go.WideShapes Go.ChangeAt Go.RowKit
open Go.ChangeMaps (open_string shut_string)
set_option linter.unusedVariables false

theorem own : ownKnob Try.prog.godebug = none := by kernel_rfl
theorem laidOut : laidOutB Try.prog = true := by kernel_rfl

/-- WHAT THE WALK IS TOLD OF A SLICE OF INTEGERS THAT CAME IN: it is nil; or it leads to a row of 'cap' cells, the numbers 'zs' (the first 'len' are its elements, the rest its spare room), each fitting its kind. -/
def IsRow (k : IntKind) (w : World) (a : Option Addr) (len cap : Nat) (zs : List Int) : Prop :=
  (a = none ∧ len = 0 ∧ cap = 0 ∧ zs = []) ∨
  ∃ x, a = some x ∧ len ≤ cap ∧ cap ≤ maxLen ∧ zs.length = cap ∧ (∀ i, i < zs.length → w.cell? (x.add i) = some (.int k (zs.getD i 0))) ∧ ∀ n ∈ zs, (Lit.int k n).wf = true

set_option maxHeartbeats 4000000 in
theorem walk (a0 : Option Addr) (len0 cap0 : Nat) (z0 : List Int) (a1 : Option Addr) (len1 cap1 : Nat) (z1 : List Int) (w : World) (w0 : IsRow .i64 w a0 len0 cap0 z0) (w1 : IsRow .u8 w a1 len1 cap1 z1) :
    Calls Try.prog 5 #[.slice a0 len0 cap0, .slice a1 len1 cap1] w fun e w' => e = .returned (.bool true) ∧ Below w.heap.size w w' := by
  obtain ⟨l, hl, hc, hm, hr, hv, hs⟩ := row_seg w0
  obtain ⟨bl, hl1, hc1, hm1, hr1, hv1, hs1⟩ := row_segB w1
  clear w0 w1
  obtain ⟨pa, ca, ea⟩ := segB_form hs1
  injection ea with e1 e2 e3
  subst e1 e2 e3
  have hbl63 : bl.length ≤ 9223372036854775807 := by omega
  have X := hid (show l.length ≤ 9223372036854775807 by omega)
  have S0 := hid hs
  have V0 := hid hv
  have R0 := hid hr
  have S1 := hid hs1
  have V1 := hid hv1
  have R1 := hid hr1
  clear hs hv hr hs1 hv1 hr1 hl hc hm hc1 hm1
  have HZ := hid (Plain.wl_sz l)
  have HWL := hid (Plain.wlist_len l)
  have HOK := hid (Plain.wlist_ok l)
  have HWN := hid (Plain.wl_n l)
  obtain ⟨i1, hi1, hy0, hy1, hy2⟩ := info_parts Try.infoByte
  obtain ⟨j0, ji, jz0, jz1, jz2⟩ := info_parts Try.infoField
  go_enter Try.func5, Try.ntmps5
  go_wp2_with fail
  refine (kwidths_any _ l R0.out X.out _ S0.out V0.out).mono ?_
  rintro e w1 ⟨r0, rfl, o0, b0⟩
  obtain ⟨p0, c0, rfl⟩ := own_form o0
  have O0 := hid o0
  have B0 := hid b0
  have hge0 := b0.size
  clear o0 b0
  generalize hws : Plain.wlist l = ws at *
  clear hws
  go_wp2_with fail
  refine (size_any _ ws (by have := HWL.out; omega) _ (seg_ivals O0.out)).mono ?_
  rintro e wx ⟨rfl, hx⟩
  have hy := hx.symm
  clear hx
  subst hy
  rw [HZ.out]
  have hn := HWN.out
  generalize hnn : Plain.szN ws = n at *
  have HNN := hid hnn
  clear hnn
  have hmk := run_make_row' (P := Try.prog) 23 5 (.int .u8 0) 1 Try.underlying23 Try.infoByte rfl .i64 .i64 n (by omega) (by omega)
  obtain ⟨w2, hcp, hrow2, hb2⟩ := copy_run w1 n a1 cap1 bl (SegB.below S1.out (B0.out.alloc hge0 _) V1.out)
  have HROW := hid hrow2
  have HB2 := hid (Below.trans B0.out (Below.mono hb2 hge0))
  have HB12 := hid hb2
  have hge2 := hb2.size
  have HO := hid (Plain.pad_lt bl n R1.out)
  have HOL := hid (Plain.pad_len bl n)
  clear hrow2 hb2
  generalize hob : Plain.pad bl n = ob at *
  clear hob
  have HSO := hid (show SegB w2 (.slice (some ⟨w1.heap.size, 0, none⟩) ob.length n) ob from .inr ⟨w1.heap.size, 0, n, rfl, fun j hj => by rw [Nat.zero_add]; exact HROW.out.cell (by rw [← HOL.out]; exact hj)⟩)
  go_wp2_with (first
    | (at_builtin; refine wpList_append_own _ rfl _ _ 23 rfl w2.heap.size 5 i1 (.int .u8 0) 1 1 Try.underlying23 hi1 hy0 hy1 hy2 rfl (by decide) _ _ _ rfl (World.ownsRow_nil _ _ _ _) ⟨w1.heap.size, 0, none⟩ n n (zvals ob) rfl ?k0 ?k1 ?k2 ?k3 ?k4 ?k5 ?_)
    | go_in)
  case k0 => rw [zvals_len, HOL.out]; omega
  case k1 => exact segB_src HSO.out
  case k2 => exact zvals_one ob
  case k3 => unfold maxLen; omega
  case k4 => omega
  case k5 => exact Nat.le_refl _
  clear hmk hcp
  intro v3 w3 o3 g3 _
  have b3 : Below w2.heap.size w2 w3 := (Below.refl _ _).grown g3 (Nat.le_refl _) (fun k hk => by simp [Value.ownBlock] at hk)
  have S3 := hid (segB_zvals (by rw [HOL.out]; exact o3))
  have L3 := hid (lies_owns2 o3)
  have B3 := hid b3
  have hge3 := b3.size
  clear o3 g3 b3
  have B13 := hid (Below.trans HB12.out (Below.mono B3.out hge2))
  have B03 := hid (Below.trans B0.out (Below.mono B13.out hge0))
  have HWS := hid (Seg.below (seg_ivals O0.out) B13.out (lies_owns2 O0.out))
  have HWLi := hid (Lies.mono (lies_owns2 O0.out) (Below.size B13.out))
  have HOL' := hid (show ob.length = Plain.szN ws by rw [HOL.out, HNN.out])
  go_wp2_with fail
  refine (unpack_any _ _ ws ob HO.out (by have := HWL.out; omega) (by have := HOL.out; omega) _ HWS.out HWLi.out S3.out L3.out).mono ?_
  rintro e w5 ⟨r5, rfl, s5, l5, b5⟩
  by_cases hE : Plain.unpackE ws ob = 0
  · have HF := hid (fix_yes ws ob HZ.out HOL'.out HO.out hE)
    rw [hE]
    clear hE
    rw [HF.out.2.2] at s5
    obtain ⟨p5, c5, rfl⟩ := seg_form s5
    have S5 := hid s5
    rw [List.length_map, List.length_range]
    have S5' := hid (show Seg w5 (.slice p5 ws.length c5) ((List.range ws.length).map (fun j => (Plain.valAt ws ob j : Int))) by have := S5.out; rw [List.length_map, List.length_range] at this; exact this)
    have L5 := hid (show Lies w5.heap.size (.slice p5 ws.length c5) by rw [List.length_map, List.length_range] at l5; exact l5)
    have B5 := hid b5
    have hge5 := b5.size
    have W5 := hid (Seg.below HWS.out b5 HWLi.out)
    have WL5 := hid (Lies.mono HWLi.out hge5)
    clear s5 l5 b5
    have hwl := HWL.out
    have B05 := hid (Below.trans B03.out (Below.mono B5.out (Below.size B03.out)))
    have B15 := hid (Below.trans B13.out (Below.mono B5.out (Below.size B13.out)))
    have B25 := hid (Below.trans B3.out (Below.mono B5.out hge3))
    generalize hm : ws.length = m at *
    have HMM := hid hm
    clear hm
    go_wp2
    go_loopw [11, 12] (fun f i wr => ∃ k : Nat, k ≤ m ∧ i = .int .i64 k ∧ wr.ownsRow w5.heap.size 35 2 f k (lvals (Plain.flds ws ob k)) ∧ Below w5.heap.size w5 wr) (fun _ i _ => m - (intOf i).toNat)
    case atStart => exact ⟨0, Nat.zero_le _, rfl, World.ownsRow_nil _ _ _ _, Below.refl _ _⟩
    case round =>
      obtain ⟨k, hk, rfl, fown, hbel⟩ := hrel
      have hge6 := hbel.size
      by_cases hlt : k < m
      · obtain ⟨bw, ow, rfl, gw⟩ := seg_at W5.out (k := k) (by rw [HMM.out]; exact hlt)
        obtain ⟨bv, ov, rfl, gv⟩ := seg_at S5'.out (k := k) (by rw [List.length_map, List.length_range]; exact hlt)
        have lw := WL5.out _ _ _ rfl (by omega)
        have lv := L5.out _ _ _ rfl (by omega)
        have e : ((List.range m).map (fun j => (Plain.valAt ws ob j : Int))).getD k 0 = (Plain.valAt ws ob k : Int) := by simp [hlt]
        rw [e] at gv
        have g1 := (hbel.cell (p := ⟨bw, ow + k, none⟩) lw).trans gw
        have g2 := (hbel.cell (p := ⟨bv, ov + k, none⟩) lv).trans gv
        have hfs := hid (Plain.flds_succ ws ob k)
        clear gw gv e
        generalize ws.getD k 0 = x at g1 hfs
        generalize Plain.valAt ws ob k = y at g2 hfs
        have lw' : bw < w5.heap.size := lw
        have lv' : bv < w5.heap.size := lv
        have hlt' : (k : Int) < (m : Int) := by omega
        have hk0 : (0 : Int) ≤ (k : Int) := by omega
        have FO := hid fown
        have HBL := hid hbel
        have HNW := hid (show ∀ b, b < w5.heap.size → u11.ownBlock ≠ some b from fun b hb e => by have := (FO.out.lt b e).1; omega)
        clear fown hbel lw lv
        go_wp2
        go_region_held3 (fun w' => w'.cell? ⟨bw, ow + k, none⟩ = some (.int .i64 x) ∧ w'.cell? ⟨bv, ov + k, none⟩ = some (.int .i64 y))
          (first
            | go_keep
            | (go_split_ands
               refine ⟨?_, ?_⟩
               · (rw [hgrow.cell_far _ (by simp; omega) (fun e => HNW.out bw lw' e.symm)]; assumption)
               · (rw [hgrow.cell_far _ (by simp; omega) (fun e => HNW.out bv lv' e.symm)]; assumption)))
          ((refine step_append_lies _ (by rfl) _ _ _ (by rfl) w5.heap.size 35 j0 _ 2 16 Try.underlying30 ji jz0 jz1 jz2 rfl (by omega) u11 k _ (by rfl) ((FO.out.alloc _).drew)
              ⟨wr.heap.size, 0, none⟩ 1 1 [.int .i64 x, .int .i64 y] (by rfl) (by rfl) (World.news_of_block (cs := #[.int .i64 x, .int .i64 y]) (t := 35) (fr := (0, 0)) (heap_alloc_new wr _)) (by simp [Value.oneCell'])
              (by omega) (by unfold maxLen; omega) (by omega) (by simp; omega) (wr.heap.size + 1) (by simp) ?_; intro g gcap w6 hown1 hgrow hat hltg))
        have R := hid (show w6.ownsRow w5.heap.size 35 2 (.slice (some ⟨g, 0, none⟩) (k + 1) gcap) (k + 1) (lvals (Plain.flds ws ob (k + 1))) ∧ Below w5.heap.size w5 w6 from
          ⟨by rw [hfs.out, lvals_snoc]; exact hown1, below_app2 ((HBL.out.alloc hge6 _).drew) hgrow FO.out⟩)
        clear hown1 hgrow hat
        go_wp2
        go_roundw
        case rel => exact ⟨k + 1, by omega, by go_num, R.out.1, R.out.2⟩
        case measure => simp [intOf]; omega
      · have ek : k = m := by omega
        subst ek
        have hFL := hid (Plain.flds_len ws ob k)
        have SF := hid (segF_of_owns (l := Plain.flds ws ob k) (by rw [hFL.out]; exact fown))
        have LF := hid (lies_owns2 fown)
        have HBL := hid hbel
        clear fown hbel
        go_wp2_with fail
        refine (pack_any _ (Plain.flds ws ob k) (by rw [hFL.out]; omega) _ SF.out LF.out).mono ?_
        rintro e w7 ⟨u7, rfl, s7, l7, b7⟩
        rw [HF.out.1]
        rw [HF.out.2.1] at s7
        have S7 := hid s7
        have B57 := hid (Below.trans HBL.out (Below.mono b7 hge6))
        have B27 := hid (Below.trans B25.out (Below.mono B57.out (Below.size B25.out)))
        have B07 := hid (Below.trans B05.out (Below.mono B57.out (Below.size B05.out)))
        clear s7 l7 b7
        have HSO2 := hid (show SegB w2 (.slice (some ⟨w1.heap.size, 0, none⟩) n n) ob by have := HSO.out; rw [HOL.out] at this; exact this)
        go_wp2_with fail
        refine (sameB_any u7 (.slice (some ⟨w1.heap.size, 0, none⟩) n n) ob (by rw [HOL.out]; omega) _ S7.out (SegB.below HSO2.out B27.out (lies_at HROW.out.lt))).mono ?_
        rintro e w8 ⟨rfl, q, rfl⟩
        go_wp2
        go_ret
        exact ⟨rfl, below_drewN B07.out q⟩
  · have HF := hid (fix_no ws ob HZ.out HOL'.out hE)
    rw [HF.out.1]
    rw [HF.out.2.1] at s5
    obtain ⟨p5, c5, rfl⟩ := seg_form s5
    have B05 := hid (Below.trans B03.out (Below.mono b5 (Below.size B03.out)))
    have hn0 : 0 < n := by have := HF.out.2.2; have := HNN.out; omega
    clear s5 l5 b5 hE
    go_wp2
    go_ret
    exact ⟨rfl, B05.out⟩

set_option maxRecDepth 100000 in
theorem lifted (os : Os) (started : os.Started) (H : Type) (enc : TypeId × Value → H) :
    ReturnsInHanded {} Try.checked os 5 .any (Rows.packFixedSpec.pre6 enc Try.prog Try.f5 Rows.packFixedRow.domain false) (Rows.packFixedSpec.post enc Try.prog Try.f5 false true false false) := by
  refine returnsInHanded_of_change (C := Try.checked) own started (by kernel_rfl) Try.func5
    (ChangeSpec.witness6 (enc := enc) (C := Try.checked) false ⟨#[], #[.slice none 0 0, .slice none 0 0], []⟩ 8 (by kernel_rfl) (by kernel_rfl) (by kernel_rfl) (by kernel_rfl)) ?_
  intro W base args ds gs before hval0 hW hcnd _
  have hval : ∀ (j : Nat) t v, Try.f5.params[j]? = some t → args[j]? = some v → Value.okWide Try.prog W .any base t v := hval0
  have hW' := hW
  obtain ⟨p, q, hA0, hV, rfl, hfz, hnd⟩ := hW
  have hA : DataW.TrodAll enc Try.prog W 0 (fun _ => true) true Try.f5.params.toList args.toList ds p := hA0
  rw [Try.params5] at hA hval
  obtain ⟨v0, vs0, d0, ds0, p0, q0, hargs, rfl, rfl, h0, r0⟩ := trodAll_cons hA
  obtain ⟨v1, vs1, d1, ds1, p1, q1, rfl, rfl, rfl, h1, r1⟩ := trodAll_cons r0
  obtain ⟨rfl, rfl, rfl⟩ := trodAll_nil r1
  obtain rfl : args = #[v0, v1] := by cases args; simp_all
  obtain ⟨rfl, rfl⟩ := trodVars_none hV
  obtain ⟨a0, len0, cap0, rfl⟩ := okWide_slice Try.underlying22 (hval 0 22 v0 rfl rfl)
  have k0 := h0
  have lt0 : ∀ x ∈ p0, x.block < W.heap.size := by obtain ⟨m, hm⟩ := k0; exact DataW.trod_lt m _ _ _ hm
  obtain ⟨z0, w0⟩ : ∃ zs, IsRow .i64 W a0 len0 cap0 zs := by
    obtain ⟨fuel, hf⟩ := h0
    rcases open_ints Try.underlying22 Try.underlying3 (by kernel_rfl) hf with ⟨hcs, _⟩ | ⟨x, l, c, zs, hcs, _, hl, hm, hz, _, hcell, hwz⟩
    · simp [Value.cells] at hcs
      obtain ⟨rfl, rfl, rfl⟩ := hcs
      exact ⟨[], .inl ⟨rfl, rfl, rfl, rfl⟩⟩
    · simp [Value.cells] at hcs
      obtain ⟨rfl, rfl, rfl⟩ := hcs
      exact ⟨zs, .inr ⟨_, rfl, hl, hm, by simpa using hz, hcell, hwz⟩⟩
  obtain ⟨a1, len1, cap1, rfl⟩ := okWide_slice Try.underlying23 (hval 1 23 v1 rfl rfl)
  have k1 := h1
  have lt1 : ∀ x ∈ p1, x.block < W.heap.size := by obtain ⟨m, hm⟩ := k1; exact DataW.trod_lt m _ _ _ hm
  obtain ⟨z1, w1⟩ : ∃ zs, IsRow .u8 W a1 len1 cap1 zs := by
    obtain ⟨fuel, hf⟩ := h1
    rcases open_ints Try.underlying23 Try.underlying5 (by kernel_rfl) hf with ⟨hcs, _⟩ | ⟨x, l, c, zs, hcs, _, hl, hm, hz, _, hcell, hwz⟩
    · simp [Value.cells] at hcs
      obtain ⟨rfl, rfl, rfl⟩ := hcs
      exact ⟨[], .inl ⟨rfl, rfl, rfl, rfl⟩⟩
    · simp [Value.cells] at hcs
      obtain ⟨rfl, rfl, rfl⟩ := hcs
      exact ⟨zs, .inr ⟨_, rfl, hl, hm, by simpa using hz, hcell, hwz⟩⟩
  clear hA0 hval0
  refine (walk a0 len0 cap0 z0 a1 len1 cap1 z1 W w0 w1).mono fun e W' ⟨he, bel⟩ => ?_
  subst he
  exact ⟨_, rfl, _, _, _, [], _, [], hW', trodAll_mk1 (shut_bool Try.underlying4 _), (trodAll_cons_mk (Below.trod laidOut (by kernel_rfl) (of_decide_eq_true (by kernel_rfl)) k0 bel lt0) (trodAll_cons_mk (Below.trod laidOut (by kernel_rfl) (of_decide_eq_true (by kernel_rfl)) k1 bel lt1) trodAll_mk0)), rfl, bel.frame _, fun h => by cases h⟩

theorem over : Rows.packFixedRow.holds Try.pinned (OpenSpec.ofChange Rows.packFixedSpec) :=
  OpenClaim.holds_of_wide 5 Try.f5 rfl rfl rfl rfl rfl rfl rfl ⟨rfl, rfl, rfl, rfl, rfl⟩ rfl rfl rfl rfl rfl (by kernel_rfl) Try.func5 (by kernel_rfl)
    (of_decide_eq_true (by kernel_rfl)) (by unfold Func.isWrapper; first | (rw [if_pos (by decide +kernel)]; kernel_rfl) | (rw [if_neg (by decide +kernel)]; exact ⟨rfl, rfl⟩))
    (fun os started H enc _ => lifted os started H enc)

end packFixed

theorem packFixed_holds : Rows.PackFixedSaid := packFixed.over
#print axioms packFixed_holds
end Go.Proofs.Ytnnicibkmbidpac

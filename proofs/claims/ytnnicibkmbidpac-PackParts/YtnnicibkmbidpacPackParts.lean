/- Proved: at every four lists of 64-bit integers the law PackParts returns true: where fields end at a byte, a record falls into two, each packed by itself. Conditions: none. -/
import Derived.Test.YtnnicibkmbidpacRows
import Derived.WalkKit
import Derived.ProofKit
import Derived.OpenShut
import Derived.WalkSmall
import Derived.Test.YtnnicibkmbidpacKq
import Derived.Test.YtnnicibkmbidpacSameI
import Derived.Deep.QuietTactic
import Derived.BigQuiet
import Derived.ShutString
import Derived.ChangeOld
import Derived.Below
namespace Go.Proofs.Ytnnicibkmbidpac
namespace packParts
open Go.ChangeShapes Go.WideShapes Go.ChangeAt Go.RowKit
open Go.ChangeMaps (open_string shut_string)
set_option linter.unusedVariables false

theorem own : ownKnob Try.prog.godebug = none := by kernel_rfl
theorem laidOut : laidOutB Try.prog = true := by kernel_rfl

/-- WHAT THE WALK IS TOLD OF A SLICE OF INTEGERS THAT CAME IN: it is nil; or it leads to a row of 'cap' cells, the numbers 'zs' (the first 'len' are its elements, the rest its spare room), each fitting its kind. -/
def IsRow (k : IntKind) (w : World) (a : Option Addr) (len cap : Nat) (zs : List Int) : Prop :=
  (a = none ∧ len = 0 ∧ cap = 0 ∧ zs = []) ∨
  ∃ x, a = some x ∧ len ≤ cap ∧ cap ≤ maxLen ∧ zs.length = cap ∧ (∀ i, i < zs.length → w.cell? (x.add i) = some (.int k (zs.getD i 0))) ∧ ∀ n ∈ zs, (Lit.int k n).wf = true

set_option maxHeartbeats 4000000 in
theorem walk (a0 : Option Addr) (len0 cap0 : Nat) (z0 : List Int) (a1 : Option Addr) (len1 cap1 : Nat) (z1 : List Int) (a2 : Option Addr) (len2 cap2 : Nat) (z2 : List Int) (a3 : Option Addr) (len3 cap3 : Nat) (z3 : List Int) (w : World) (w0 : IsRow .i64 w a0 len0 cap0 z0) (w1 : IsRow .i64 w a1 len1 cap1 z1) (w2 : IsRow .i64 w a2 len2 cap2 z2) (w3 : IsRow .i64 w a3 len3 cap3 z3) :
    Calls Try.prog 8 #[.slice a0 len0 cap0, .slice a1 len1 cap1, .slice a2 len2 cap2, .slice a3 len3 cap3] w fun e w' => e = .returned (.bool true) ∧ Below w.heap.size w w' := by
  obtain ⟨l, hl, hc, hm, hr, hv, hs⟩ := row_seg w0
  obtain ⟨xs, hl1, hc1, hm1, hr1, hv1, hs1⟩ := row_seg w1
  obtain ⟨l2, hl2, hc2, hm2, hr2, hv2, hs2⟩ := row_seg w2
  obtain ⟨ys, hl3, hc3, hm3, hr3, hv3, hs3⟩ := row_seg w3
  clear w0 w1 w2 w3
  have X := hid (show l.length ≤ 9223372036854775807 ∧ xs.length ≤ 9223372036854775807 ∧ l2.length ≤ 9223372036854775807 ∧ ys.length ≤ 9223372036854775807 by omega)
  have S0 := hid hs
  have V0 := hid hv
  have R0 := hid hr
  have S1 := hid hs1
  have V1 := hid hv1
  have R1 := hid hr1
  have S2 := hid hs2
  have V2 := hid hv2
  have R2 := hid hr2
  have S3 := hid hs3
  have V3 := hid hv3
  have R3 := hid hr3
  clear hs hv hr hs1 hv1 hr1 hs2 hv2 hr2 hs3 hv3 hr3 hl hc hm hl1 hc1 hm1 hl2 hc2 hm2 hl3 hc3 hm3
  have HWL := hid (Plain.wlist_len l)
  have HOK := hid (Plain.wlist_ok l)
  have HWL2 := hid (Plain.wlist_len l2)
  have HOK2 := hid (Plain.wlist_ok l2)
  obtain ⟨i0, hi, hz0, hz1, hz2⟩ := info_parts Try.infoInt
  go_enter Try.func8, Try.ntmps8
  go_wp2_with fail
  refine (kwidths_any _ l R0.out X.out.1 _ S0.out V0.out).mono ?_
  rintro e w1 ⟨r0, rfl, o0, b0⟩
  obtain ⟨p0, c0, rfl⟩ := own_form o0
  have O0 := hid o0
  have B0 := hid b0
  have hge0 := b0.size
  clear o0 b0
  have hwl := HWL.out
  generalize hws : Plain.wlist l = ws0 at *
  clear hws
  have HSG := hid (seg_ivals O0.out)
  have HIV := hid (ivals_snoc ws0)
  generalize hl0 : ws0.length = k0 at *
  have HL0 := hid hl0
  clear hl0
  go_wp2
  go_loop [10, 11] (fun s i => ∃ k : Nat, k ≤ k0 ∧ i = .int .i64 k ∧ s = .int .i64 (Plain.bitsN (ws0.take k) : Nat)) (fun _ i => k0 - (intOf i).toNat)
  case atStart => exact ⟨0, Nat.zero_le _, rfl, rfl⟩
  case round =>
    obtain ⟨k, hk, rfl, rfl⟩ := hrel
    by_cases hlt : k < k0
    · obtain ⟨bb, oo, rfl, g⟩ := seg_at HSG.out (k := k) (by rw [HL0.out]; exact hlt)
      have hok := Plain.un_okw ws0 k (by rw [HL0.out]; exact hlt) HOK.out
      have hbs := hid (Plain.bitsN_take ws0 k (by rw [HL0.out]; exact hlt))
      have hb60 : Plain.bitsN (ws0.take k) ≤ 60 * 20 := by
        have h1 := Plain.bitsN_mono ws0 k
        have h2 := Plain.bitsN_le ws0 HOK.out
        rw [HL0.out] at h2
        omega
      have hlt' : (k : Int) < (k0 : Int) := by omega
      generalize ws0.getD k 0 = x at g hok hbs
      generalize Plain.bitsN (ws0.take k) = t at hbs hb60
      obtain ⟨hx1, hx2⟩ := hok
      go_wp2
      go_round
      case rel => exact ⟨k + 1, by omega, by go_num, by rw [hbs.out]; have : ((x.toNat : Nat) : Int) = x := Int.toNat_of_nonneg (by omega); go_num⟩
      case measure => simp [intOf]; omega
    · have ek : k = k0 := by omega
      subst ek
      rw [List.take_of_length_le (by rw [HL0.out]; exact Nat.le_refl _)]
      have HLW := hid (Plain.lastW_bd (Plain.bitsN ws0))
      have hb60 : Plain.bitsN ws0 ≤ 60 * 20 := by
        have h2 := Plain.bitsN_le ws0 HOK.out
        rw [HL0.out] at h2
        omega
      have HLWE := hid (show (8 : Int) + -((Plain.bitsN ws0 : Int) % 8) % 8 = (Plain.lastW (Plain.bitsN ws0) : Int) by unfold Plain.lastW; omega)
      have HSN := hid (Plain.snoc_sz ws0 (Plain.lastW (Plain.bitsN ws0) : Int) HOK.out (by rw [HL0.out]; omega) (by have := HLW.out; omega))
      have H8 := hid (show Plain.bitsN (ws0 ++ [(Plain.lastW (Plain.bitsN ws0) : Int)]) % 8 = 0 by rw [Plain.bitsN_append]; have := HLW.out; simp [Plain.bitsN] at this ⊢; exact this.2.2)
      have HIV' := hid (HIV.out (Plain.lastW (Plain.bitsN ws0) : Int))
      generalize ht : Plain.bitsN ws0 = t at *
      generalize hlt8 : Plain.lastW t = t8 at *
      clear ht hlt8
      go_wp2_with (first
        | (at_builtin; refine wpList_append_own _ rfl _ _ 22 rfl w.heap.size 3 i0 (.int .i64 0) 1 8 Try.underlying22 hi hz0 hz1 hz2 rfl (by decide) _ _ _ rfl (O0.out.alloc _) ⟨w1.heap.size, 0, none⟩ 1 1 [.int .i64 t8] rfl rfl ?c1 ?c2 ?c3 ?c4 ?c5 ?_)
        | go_in)
      case c1 => rw [HLWE.out]; exact fun _ _ h => h
      case c2 => rfl
      case c3 => unfold maxLen; omega
      case c4 => omega
      case c5 => omega
      intro v2 w2 o2 g2 _
      have B2 := hid (below_app (B0.out.alloc hge0 _) g2 O0.out)
      have O2 := hid (show w2.ownsRow w.heap.size 3 1 v2 (ws0 ++ [(t8 : Int)]).length (ivals (ws0 ++ [(t8 : Int)])) by rw [HIV'.out, List.length_append, HL0.out]; exact o2)
      clear o2 g2
      have HL1 := hid (show (ws0 ++ [(t8 : Int)]).length ≤ 21 by rw [List.length_append, HL0.out]; simp; omega)
      generalize hws1 : ws0 ++ [(t8 : Int)] = ws at *
      clear hws1 HIV HIV'
      go_wp2_with fail
      refine (kwidths_any _ l2 R2.out X.out.2.2.1 _ (Seg.below S2.out B2.out V2.out) (Lies.mono V2.out (Below.size B2.out))).mono ?_
      rintro e w3 ⟨r3, rfl, o3, b3⟩
      obtain ⟨p3, c3, rfl⟩ := own_form o3
      have hcap3 : (Plain.wlist l2).length ≤ c3 := by
        rcases o3.2 with ⟨e1, e2⟩ | ⟨_, _, _, e1, _, _, e2, _⟩
        · injection e1 with _ e3 e4; omega
        · injection e1 with _ _ e4; omega
      have SG3 := hid (seg_ivals o3)
      have LG3 := hid (lies_owns2 o3)
      have B3 := hid b3
      clear o3 b3
      have B03 := hid (Below.trans B2.out (Below.mono B3.out (Below.size B2.out)))
      have hwl2 := HWL2.out
      generalize hus0 : Plain.wlist l2 = us0 at *
      clear hus0
      obtain ⟨k2, hk2⟩ : ∃ k2, k2 = min us0.length 18 := ⟨_, rfl⟩
      have HUS := hid (show (us0.take k2).length = k2 ∧ (us0.take k2).all Plain.okW = true ∧ Plain.szE (us0.take k2) = 0 from
        ⟨by rw [List.length_take]; omega, Plain.take_ok us0 k2 HOK2.out, (Plain.sz_yes _ (by rw [List.length_take]; omega) (Plain.take_ok us0 k2 HOK2.out)).1⟩)
      have SGU := hid (seg_take SG3.out (k := k2) (by omega))
      have hk18 : k2 ≤ 18 := by omega
      have hmin : min (us0.length : Int) 18 = (k2 : Int) := by omega
      generalize hul : us0.length = m3 at *
      clear hul
      by_cases c18 : m3 ≤ 18
      · have e2 : k2 = m3 := by omega
        subst e2
        clear hmin hk2
        have hK18 : k2 ≤ 18 := by omega
        generalize hus : us0.take k2 = us at *
        clear hus
        go_wp2_with fail
        refine (kfields_any _ _ ws xs HSN.out.1 (by have := HL1.out; omega) R1.out X.out.2.1 _ (Seg.below (seg_ivals O2.out) B3.out (lies_owns2 O2.out)) (Lies.mono (lies_owns2 O2.out) (Below.size B3.out)) (Seg.below S1.out B03.out V1.out) (Lies.mono V1.out (Below.size B03.out))).mono ?_
        rintro e w4 ⟨r4, rfl, o4, b4⟩
        obtain ⟨p4, c4, rfl⟩ := own_form o4
        have O4 := hid (own_nil o4)
        have K4 := hid (kf_seg o4)
        have B4 := hid b4
        have B04 := hid (Below.trans B03.out (Below.mono b4 (Below.size B03.out)))
        clear o4 b4
        go_wp2_with fail
        refine (kfields_any _ _ us ys HUS.out.2.1 (by have := HUS.out.1; omega) R3.out X.out.2.2.2 _ (Seg.below SGU.out B4.out (lies_take LG3.out (by omega))) (Lies.mono (lies_take LG3.out (by omega)) (Below.size B4.out)) (Seg.below S3.out B04.out V3.out) (Lies.mono V3.out (Below.size B04.out))).mono ?_
        rintro e w5 ⟨r5, rfl, o5, b5⟩
        obtain ⟨p5, c5, rfl⟩ := own_form o5
        have O5 := hid (own_nil o5)
        have K5 := hid (kf_seg o5)
        have B5 := hid b5
        have B05 := hid (Below.trans B04.out (Below.mono b5 (Below.size B04.out)))
        clear o5 b5
        go_wp2_with fail
        refine (pack_fl _ ws xs HSN.out.2.1 _ (SegF.below K4.out.1 B5.out K4.out.2) (Lies.mono K4.out.2 (Below.size B5.out))).mono ?_
        rintro e w6 ⟨a6, c6, rfl, s6, l6, b6⟩
        have S6 := hid s6
        have L6 := hid l6
        have B6 := hid b6
        have B06 := hid (Below.trans B05.out (Below.mono b6 (Below.size B05.out)))
        clear s6 l6 b6
        go_wp2_with fail
        refine (pack_fl _ us ys HUS.out.2.2 _ (SegF.below K5.out.1 B6.out K5.out.2) (Lies.mono K5.out.2 (Below.size B6.out))).mono ?_
        rintro e w7 ⟨a7, c7, rfl, s7, l7, b7⟩
        have S7 := hid s7
        have L7 := hid l7
        have B7 := hid b7
        have B07 := hid (Below.trans B06.out (Below.mono b7 (Below.size B06.out)))
        have B57 := hid (Below.trans B6.out (Below.mono b7 (Below.size B6.out)))
        have B47 := hid (Below.trans B5.out (Below.mono B57.out (Below.size B5.out)))
        clear s7 l7 b7
        have F4 := hid (SegF.below K4.out.1 B47.out K4.out.2)
        have HLW1 := HL1.out
        have HLU : us.length ≤ 18 := by have := HUS.out.1; omega
        obtain ⟨v8, w8, hrun8, own8, g8⟩ := app_fields (l := []) (World.ownsRow_nil w7 w7.heap.size 35 2) F4.out ⟨p4, c4, rfl⟩ (Plain.flist_len ws xs ws.length).symm (by omega) (Nat.le_refl _) O4.out
        have B78 := hid (below_grown g8 (fun k hk => by simp [Value.ownBlock] at hk))
        have B58 := hid (Below.trans B57.out (Below.mono B78.out (Below.size B57.out)))
        have F5 := hid (SegF.below K5.out.1 B58.out K5.out.2)
        obtain ⟨v9, w9, hrun9, own9, g9⟩ := app_fields own8 F5.out ⟨p5, c5, rfl⟩ (Plain.flist_len us ys us.length).symm (by omega) (Below.size B78.out) O5.out
        have B79 := hid (Below.trans B78.out (Below.mono ((Below.refl w7.heap.size w8).grown g9 (Below.size B78.out) (fun k hk => (own8.lt k hk).1)) (Nat.le_refl _)))
        have HPP := hid (Plain.pp ws us xs ys HSN.out.2.1 HUS.out.2.2 H8.out (by omega))
        have HLF := hid (show (Plain.flist ws xs ws.length ++ Plain.flist us ys us.length).length = 0 + ws.length + us.length by rw [List.length_append, Plain.flist_len, Plain.flist_len]; omega)
        rw [List.nil_append] at own9
        have SF9 := hid (segF_of_owns (by rw [HLF.out]; exact own9))
        have LF9 := hid (lies_owns2 own9)
        have HN1 := Plain.szN_le ws
        have HN2 := Plain.szN_le us
        have HN0 := HSN.out.2.2
        have HF1 := hid (Plain.fl_len ws xs HSN.out.2.1)
        have HF2 := hid (Plain.fl_len us ys HUS.out.2.2)
        have RUN8 := hid hrun8
        have RUN9 := hid hrun9
        clear own8 own9 g8 g9 hrun8 hrun9
        go_wp2_with (first | (at_builtin; refine wpList_app _ _ 30 RUN8.out (by rfl) (by rfl) (by rfl) (by rfl) (by rfl) ?_) | (at_builtin; refine wpList_app _ _ 30 RUN9.out (by rfl) (by rfl) (by rfl) (by rfl) (by rfl) ?_))
        refine (pack_any _ _ (by rw [HLF.out]; omega) _ SF9.out LF9.out).mono ?_
        rintro e w10 ⟨u10, rfl, s10, l10, b10⟩
        rw [HPP.out.1]
        rw [HPP.out.2] at s10
        have S10 := hid s10
        have L10 := hid l10
        have B10 := hid b10
        have B7a := hid (Below.trans B79.out (Below.mono b10 (Below.size B79.out)))
        have B6a := hid (Below.trans B7.out (Below.mono B7a.out (Below.size B7.out)))
        have B0a := hid (Below.trans B07.out (Below.mono B7a.out (Below.size B07.out)))
        clear s10 l10 b10
        obtain ⟨v11, w11, hrun11, own11, g11⟩ := app_bytes (l := []) (World.ownsRow_nil w10 w10.heap.size 5 1) (SegB.below S6.out B6a.out L6.out) ⟨some a6, c6, rfl⟩ HF1.out.symm (by omega) (Nat.le_refl _) some_nil
        have Bab := hid (below_grown g11 (fun k hk => by simp [Value.ownBlock] at hk))
        have B7b := hid (Below.trans B7a.out (Below.mono Bab.out (Below.size B7a.out)))
        obtain ⟨v12, w12, hrun12, own12, g12⟩ := app_bytes own11 (SegB.below S7.out B7b.out L7.out) ⟨some a7, c7, rfl⟩ HF2.out.symm (by omega) (Below.size Bab.out) some_nil
        have Bac := hid (Below.trans Bab.out (Below.mono ((Below.refl w10.heap.size w11).grown g12 (Below.size Bab.out) (fun k hk => (own11.lt k hk).1)) (Nat.le_refl _)))
        have HLB := hid (show (Plain.packB (Plain.flist ws xs ws.length) ++ Plain.packB (Plain.flist us ys us.length)).length = 0 + Plain.szN ws + Plain.szN us by rw [List.length_append, HF1.out, HF2.out]; omega)
        rw [List.nil_append] at own12
        have S12 := hid (segB_zvals (by rw [HLB.out]; exact own12))
        have B0c := hid (Below.trans B0a.out (Below.mono Bac.out (Below.size B0a.out)))
        have RUN11 := hid hrun11
        have RUN12 := hid hrun12
        clear own11 own12 g11 g12 hrun11 hrun12
        have hnb : decide (0 < (Plain.szN ws : Int)) = true := by simp; omega
        generalize Plain.szN ws = n1 at *
        generalize Plain.szN us = n2 at *
        go_wp2_with (first | (at_builtin; refine wpList_app _ _ 23 RUN11.out (by rfl) (by rfl) (by rfl) (by rfl) (by rfl) ?_) | (at_builtin; refine wpList_app _ _ 23 RUN12.out (by rfl) (by rfl) (by rfl) (by rfl) (by rfl) ?_))
        refine (sameB_any u10 v12 _ (by rw [HLB.out]; omega) _ (SegB.below S10.out Bac.out L10.out) S12.out).mono ?_
        rintro e w13 ⟨rfl, q, rfl⟩
        go_wp2
        go_ret
        exact ⟨rfl, below_drewN B0c.out q⟩
      · have e2 : k2 = 18 := by omega
        subst e2
        clear hmin hk2
        generalize hus : us0.take 18 = us at *
        clear hus
        go_wp2_with fail
        refine (kfields_any _ _ ws xs HSN.out.1 (by have := HL1.out; omega) R1.out X.out.2.1 _ (Seg.below (seg_ivals O2.out) B3.out (lies_owns2 O2.out)) (Lies.mono (lies_owns2 O2.out) (Below.size B3.out)) (Seg.below S1.out B03.out V1.out) (Lies.mono V1.out (Below.size B03.out))).mono ?_
        rintro e w4 ⟨r4, rfl, o4, b4⟩
        obtain ⟨p4, c4, rfl⟩ := own_form o4
        have O4 := hid (own_nil o4)
        have K4 := hid (kf_seg o4)
        have B4 := hid b4
        have B04 := hid (Below.trans B03.out (Below.mono b4 (Below.size B03.out)))
        clear o4 b4
        go_wp2_with fail
        refine (kfields_any _ _ us ys HUS.out.2.1 (by have := HUS.out.1; omega) R3.out X.out.2.2.2 _ (Seg.below SGU.out B4.out (lies_take LG3.out (by omega))) (Lies.mono (lies_take LG3.out (by omega)) (Below.size B4.out)) (Seg.below S3.out B04.out V3.out) (Lies.mono V3.out (Below.size B04.out))).mono ?_
        rintro e w5 ⟨r5, rfl, o5, b5⟩
        obtain ⟨p5, c5, rfl⟩ := own_form o5
        have O5 := hid (own_nil o5)
        have K5 := hid (kf_seg o5)
        have B5 := hid b5
        have B05 := hid (Below.trans B04.out (Below.mono b5 (Below.size B04.out)))
        clear o5 b5
        go_wp2_with fail
        refine (pack_fl _ ws xs HSN.out.2.1 _ (SegF.below K4.out.1 B5.out K4.out.2) (Lies.mono K4.out.2 (Below.size B5.out))).mono ?_
        rintro e w6 ⟨a6, c6, rfl, s6, l6, b6⟩
        have S6 := hid s6
        have L6 := hid l6
        have B6 := hid b6
        have B06 := hid (Below.trans B05.out (Below.mono b6 (Below.size B05.out)))
        clear s6 l6 b6
        go_wp2_with fail
        refine (pack_fl _ us ys HUS.out.2.2 _ (SegF.below K5.out.1 B6.out K5.out.2) (Lies.mono K5.out.2 (Below.size B6.out))).mono ?_
        rintro e w7 ⟨a7, c7, rfl, s7, l7, b7⟩
        have S7 := hid s7
        have L7 := hid l7
        have B7 := hid b7
        have B07 := hid (Below.trans B06.out (Below.mono b7 (Below.size B06.out)))
        have B57 := hid (Below.trans B6.out (Below.mono b7 (Below.size B6.out)))
        have B47 := hid (Below.trans B5.out (Below.mono B57.out (Below.size B5.out)))
        clear s7 l7 b7
        have F4 := hid (SegF.below K4.out.1 B47.out K4.out.2)
        have HLW1 := HL1.out
        have HLU : us.length ≤ 18 := by have := HUS.out.1; omega
        obtain ⟨v8, w8, hrun8, own8, g8⟩ := app_fields (l := []) (World.ownsRow_nil w7 w7.heap.size 35 2) F4.out ⟨p4, c4, rfl⟩ (Plain.flist_len ws xs ws.length).symm (by omega) (Nat.le_refl _) O4.out
        have B78 := hid (below_grown g8 (fun k hk => by simp [Value.ownBlock] at hk))
        have B58 := hid (Below.trans B57.out (Below.mono B78.out (Below.size B57.out)))
        have F5 := hid (SegF.below K5.out.1 B58.out K5.out.2)
        obtain ⟨v9, w9, hrun9, own9, g9⟩ := app_fields own8 F5.out ⟨p5, c5, rfl⟩ (Plain.flist_len us ys us.length).symm (by omega) (Below.size B78.out) O5.out
        have B79 := hid (Below.trans B78.out (Below.mono ((Below.refl w7.heap.size w8).grown g9 (Below.size B78.out) (fun k hk => (own8.lt k hk).1)) (Nat.le_refl _)))
        have HPP := hid (Plain.pp ws us xs ys HSN.out.2.1 HUS.out.2.2 H8.out (by omega))
        have HLF := hid (show (Plain.flist ws xs ws.length ++ Plain.flist us ys us.length).length = 0 + ws.length + us.length by rw [List.length_append, Plain.flist_len, Plain.flist_len]; omega)
        rw [List.nil_append] at own9
        have SF9 := hid (segF_of_owns (by rw [HLF.out]; exact own9))
        have LF9 := hid (lies_owns2 own9)
        have HN1 := Plain.szN_le ws
        have HN2 := Plain.szN_le us
        have HN0 := HSN.out.2.2
        have HF1 := hid (Plain.fl_len ws xs HSN.out.2.1)
        have HF2 := hid (Plain.fl_len us ys HUS.out.2.2)
        have RUN8 := hid hrun8
        have RUN9 := hid hrun9
        clear own8 own9 g8 g9 hrun8 hrun9
        go_wp2_with (first | (at_builtin; refine wpList_app _ _ 30 RUN8.out (by rfl) (by rfl) (by rfl) (by rfl) (by rfl) ?_) | (at_builtin; refine wpList_app _ _ 30 RUN9.out (by rfl) (by rfl) (by rfl) (by rfl) (by rfl) ?_))
        refine (pack_any _ _ (by rw [HLF.out]; omega) _ SF9.out LF9.out).mono ?_
        rintro e w10 ⟨u10, rfl, s10, l10, b10⟩
        rw [HPP.out.1]
        rw [HPP.out.2] at s10
        have S10 := hid s10
        have L10 := hid l10
        have B10 := hid b10
        have B7a := hid (Below.trans B79.out (Below.mono b10 (Below.size B79.out)))
        have B6a := hid (Below.trans B7.out (Below.mono B7a.out (Below.size B7.out)))
        have B0a := hid (Below.trans B07.out (Below.mono B7a.out (Below.size B07.out)))
        clear s10 l10 b10
        obtain ⟨v11, w11, hrun11, own11, g11⟩ := app_bytes (l := []) (World.ownsRow_nil w10 w10.heap.size 5 1) (SegB.below S6.out B6a.out L6.out) ⟨some a6, c6, rfl⟩ HF1.out.symm (by omega) (Nat.le_refl _) some_nil
        have Bab := hid (below_grown g11 (fun k hk => by simp [Value.ownBlock] at hk))
        have B7b := hid (Below.trans B7a.out (Below.mono Bab.out (Below.size B7a.out)))
        obtain ⟨v12, w12, hrun12, own12, g12⟩ := app_bytes own11 (SegB.below S7.out B7b.out L7.out) ⟨some a7, c7, rfl⟩ HF2.out.symm (by omega) (Below.size Bab.out) some_nil
        have Bac := hid (Below.trans Bab.out (Below.mono ((Below.refl w10.heap.size w11).grown g12 (Below.size Bab.out) (fun k hk => (own11.lt k hk).1)) (Nat.le_refl _)))
        have HLB := hid (show (Plain.packB (Plain.flist ws xs ws.length) ++ Plain.packB (Plain.flist us ys us.length)).length = 0 + Plain.szN ws + Plain.szN us by rw [List.length_append, HF1.out, HF2.out]; omega)
        rw [List.nil_append] at own12
        have S12 := hid (segB_zvals (by rw [HLB.out]; exact own12))
        have B0c := hid (Below.trans B0a.out (Below.mono Bac.out (Below.size B0a.out)))
        have RUN11 := hid hrun11
        have RUN12 := hid hrun12
        clear own11 own12 g11 g12 hrun11 hrun12
        have hnb : decide (0 < (Plain.szN ws : Int)) = true := by simp; omega
        generalize Plain.szN ws = n1 at *
        generalize Plain.szN us = n2 at *
        go_wp2_with (first | (at_builtin; refine wpList_app _ _ 23 RUN11.out (by rfl) (by rfl) (by rfl) (by rfl) (by rfl) ?_) | (at_builtin; refine wpList_app _ _ 23 RUN12.out (by rfl) (by rfl) (by rfl) (by rfl) (by rfl) ?_))
        refine (sameB_any u10 v12 _ (by rw [HLB.out]; omega) _ (SegB.below S10.out Bac.out L10.out) S12.out).mono ?_
        rintro e w13 ⟨rfl, q, rfl⟩
        go_wp2
        go_ret
        exact ⟨rfl, below_drewN B0c.out q⟩

set_option maxRecDepth 100000 in
theorem lifted (os : Os) (started : os.Started) (H : Type) (enc : TypeId × Value → H) :
    ReturnsInHanded {} Try.checked os 8 .any (Rows.packPartsSpec.pre6 enc Try.prog Try.f8 Rows.packPartsRow.domain false) (Rows.packPartsSpec.post enc Try.prog Try.f8 false true false false) := by
  refine returnsInHanded_of_change (C := Try.checked) own started (by kernel_rfl) Try.func8
    (ChangeSpec.witness6 (enc := enc) (C := Try.checked) false ⟨#[], #[.slice none 0 0, .slice none 0 0, .slice none 0 0, .slice none 0 0], []⟩ 8 (by kernel_rfl) (by kernel_rfl) (by kernel_rfl) (by kernel_rfl)) ?_
  intro W base args ds gs before hval0 hW hcnd _
  have hval : ∀ (j : Nat) t v, Try.f8.params[j]? = some t → args[j]? = some v → Value.okWide Try.prog W .any base t v := hval0
  have hW' := hW
  obtain ⟨p, q, hA0, hV, rfl, hfz, hnd⟩ := hW
  have hA : DataW.TrodAll enc Try.prog W 0 (fun _ => true) true Try.f8.params.toList args.toList ds p := hA0
  rw [Try.params8] at hA hval
  obtain ⟨v0, vs0, d0, ds0, p0, q0, hargs, rfl, rfl, h0, r0⟩ := trodAll_cons hA
  obtain ⟨v1, vs1, d1, ds1, p1, q1, rfl, rfl, rfl, h1, r1⟩ := trodAll_cons r0
  obtain ⟨v2, vs2, d2, ds2, p2, q2, rfl, rfl, rfl, h2, r2⟩ := trodAll_cons r1
  obtain ⟨v3, vs3, d3, ds3, p3, q3, rfl, rfl, rfl, h3, r3⟩ := trodAll_cons r2
  obtain ⟨rfl, rfl, rfl⟩ := trodAll_nil r3
  obtain rfl : args = #[v0, v1, v2, v3] := by cases args; simp_all
  obtain ⟨rfl, rfl⟩ := trodVars_none hV
  obtain ⟨a0, len0, cap0, rfl⟩ := okWide_slice Try.underlying22 (hval 0 22 v0 rfl rfl)
  have k0 := h0
  have lt0 : ∀ x ∈ p0, x.block < W.heap.size := by obtain ⟨m, hm⟩ := k0; exact DataW.trod_lt m _ _ _ hm
  obtain ⟨z0, w0⟩ : ∃ zs, IsRow .i64 W a0 len0 cap0 zs := by
    obtain ⟨fuel, hf⟩ := h0
    rcases open_ints Try.underlying22 Try.underlying3 (by kernel_rfl) hf with ⟨hcs, _⟩ | ⟨x, l, c, zs, hcs, _, hl, hm, hz, _, hcell, hwz⟩
    · simp [Value.cells] at hcs
      obtain ⟨rfl, rfl, rfl⟩ := hcs
      exact ⟨[], .inl ⟨rfl, rfl, rfl, rfl⟩⟩
    · simp [Value.cells] at hcs
      obtain ⟨rfl, rfl, rfl⟩ := hcs
      exact ⟨zs, .inr ⟨_, rfl, hl, hm, by simpa using hz, hcell, hwz⟩⟩
  obtain ⟨a1, len1, cap1, rfl⟩ := okWide_slice Try.underlying22 (hval 1 22 v1 rfl rfl)
  have k1 := h1
  have lt1 : ∀ x ∈ p1, x.block < W.heap.size := by obtain ⟨m, hm⟩ := k1; exact DataW.trod_lt m _ _ _ hm
  obtain ⟨z1, w1⟩ : ∃ zs, IsRow .i64 W a1 len1 cap1 zs := by
    obtain ⟨fuel, hf⟩ := h1
    rcases open_ints Try.underlying22 Try.underlying3 (by kernel_rfl) hf with ⟨hcs, _⟩ | ⟨x, l, c, zs, hcs, _, hl, hm, hz, _, hcell, hwz⟩
    · simp [Value.cells] at hcs
      obtain ⟨rfl, rfl, rfl⟩ := hcs
      exact ⟨[], .inl ⟨rfl, rfl, rfl, rfl⟩⟩
    · simp [Value.cells] at hcs
      obtain ⟨rfl, rfl, rfl⟩ := hcs
      exact ⟨zs, .inr ⟨_, rfl, hl, hm, by simpa using hz, hcell, hwz⟩⟩
  obtain ⟨a2, len2, cap2, rfl⟩ := okWide_slice Try.underlying22 (hval 2 22 v2 rfl rfl)
  have k2 := h2
  have lt2 : ∀ x ∈ p2, x.block < W.heap.size := by obtain ⟨m, hm⟩ := k2; exact DataW.trod_lt m _ _ _ hm
  obtain ⟨z2, w2⟩ : ∃ zs, IsRow .i64 W a2 len2 cap2 zs := by
    obtain ⟨fuel, hf⟩ := h2
    rcases open_ints Try.underlying22 Try.underlying3 (by kernel_rfl) hf with ⟨hcs, _⟩ | ⟨x, l, c, zs, hcs, _, hl, hm, hz, _, hcell, hwz⟩
    · simp [Value.cells] at hcs
      obtain ⟨rfl, rfl, rfl⟩ := hcs
      exact ⟨[], .inl ⟨rfl, rfl, rfl, rfl⟩⟩
    · simp [Value.cells] at hcs
      obtain ⟨rfl, rfl, rfl⟩ := hcs
      exact ⟨zs, .inr ⟨_, rfl, hl, hm, by simpa using hz, hcell, hwz⟩⟩
  obtain ⟨a3, len3, cap3, rfl⟩ := okWide_slice Try.underlying22 (hval 3 22 v3 rfl rfl)
  have k3 := h3
  have lt3 : ∀ x ∈ p3, x.block < W.heap.size := by obtain ⟨m, hm⟩ := k3; exact DataW.trod_lt m _ _ _ hm
  obtain ⟨z3, w3⟩ : ∃ zs, IsRow .i64 W a3 len3 cap3 zs := by
    obtain ⟨fuel, hf⟩ := h3
    rcases open_ints Try.underlying22 Try.underlying3 (by kernel_rfl) hf with ⟨hcs, _⟩ | ⟨x, l, c, zs, hcs, _, hl, hm, hz, _, hcell, hwz⟩
    · simp [Value.cells] at hcs
      obtain ⟨rfl, rfl, rfl⟩ := hcs
      exact ⟨[], .inl ⟨rfl, rfl, rfl, rfl⟩⟩
    · simp [Value.cells] at hcs
      obtain ⟨rfl, rfl, rfl⟩ := hcs
      exact ⟨zs, .inr ⟨_, rfl, hl, hm, by simpa using hz, hcell, hwz⟩⟩
  clear hA0 hval0
  refine (walk a0 len0 cap0 z0 a1 len1 cap1 z1 a2 len2 cap2 z2 a3 len3 cap3 z3 W w0 w1 w2 w3).mono fun e W' ⟨he, bel⟩ => ?_
  subst he
  exact ⟨_, rfl, _, _, _, [], _, [], hW', trodAll_mk1 (shut_bool Try.underlying4 _), (trodAll_cons_mk (Below.trod laidOut (by kernel_rfl) (of_decide_eq_true (by kernel_rfl)) k0 bel lt0) (trodAll_cons_mk (Below.trod laidOut (by kernel_rfl) (of_decide_eq_true (by kernel_rfl)) k1 bel lt1) (trodAll_cons_mk (Below.trod laidOut (by kernel_rfl) (of_decide_eq_true (by kernel_rfl)) k2 bel lt2) (trodAll_cons_mk (Below.trod laidOut (by kernel_rfl) (of_decide_eq_true (by kernel_rfl)) k3 bel lt3) trodAll_mk0)))), rfl, bel.frame _, fun h => by cases h⟩

theorem over : Rows.packPartsRow.holds Try.pinned (OpenSpec.ofChange Rows.packPartsSpec) :=
  OpenClaim.holds_of_wide 8 Try.f8 rfl rfl rfl rfl rfl rfl rfl ⟨rfl, rfl, rfl, rfl, rfl⟩ rfl rfl rfl rfl rfl (by kernel_rfl) Try.func8 (by kernel_rfl)
    (of_decide_eq_true (by kernel_rfl)) (by unfold Func.isWrapper; first | (rw [if_pos (by decide +kernel)]; kernel_rfl) | (rw [if_neg (by decide +kernel)]; exact ⟨rfl, rfl⟩))
    (fun os started H enc _ => lifted os started H enc)

end packParts

theorem packParts_holds : Rows.PackPartsSaid := packParts.over
#print axioms packParts_holds
end Go.Proofs.Ytnnicibkmbidpac

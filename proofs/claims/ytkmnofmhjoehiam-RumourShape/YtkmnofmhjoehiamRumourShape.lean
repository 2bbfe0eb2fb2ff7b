/- Proved: for every list of numbers, all notes and both numbers the law RumourShape returns true: how long a frame is hangs on the config alone, and what is not for both does not stand in it. Conditions: none. -/
import Derived.Test.YtkmnofmhjoehiamRows
import Derived.WalkKit
import Derived.ProofKit
import Derived.OpenShut
import Derived.WalkSmall
import Derived.ShutString
import Derived.ChangeOld
import Derived.Below
import Derived.Test.YtkmnofmhjoehiamQy
import Derived.Test.YtkmnofmhjoehiamQt
import Derived.Test.YtkmnofmhjoehiamQw
import Derived.Test.YtkmnofmhjoehiamQu
import Derived.Deep.Cut
import Derived.Deep.LoopGhost
namespace Go.Proofs.Ytkmnofmhjoehiam
namespace rumourShape
open Go.ChangeShapes Go.WideShapes Go.ChangeAt Go.RowKit
set_option linter.unusedVariables false

theorem own : ownKnob Try.prog.godebug = none := by kernel_rfl
theorem laidOut : laidOutB Try.prog = true := by kernel_rfl

theorem ints_seg {H : Type} {enc : TypeId × Value → H} {W : World} {d : DataW H} {p : List MemPlace} {a : Option Addr} {len cap : Nat} (h : DataW.Trod enc Try.prog W 0 (fun _ => true) true 22 (.slice a len cap) d p) :
    ∃ l : List Int, l.length = len ∧ len ≤ cap ∧ cap ≤ 9223372036854775807 ∧ (∀ n ∈ l, (Lit.int .i64 n).wf = true) ∧ Lies W.heap.size (.slice a len cap) ∧ Seg W (.slice a len cap) l := by
  obtain ⟨fuel, hf⟩ := h
  rcases open_ints Try.underlying22 Try.underlying3 (by kernel_rfl) hf with ⟨hcs, _⟩ | ⟨x, l, c, zs, hcs, _, hl, hm, hz, _, hcell, hwz⟩
  · simp [Value.cells] at hcs
    obtain ⟨rfl, rfl, rfl⟩ := hcs
    exact row_seg (zs := []) (.inl ⟨rfl, rfl, rfl, rfl⟩)
  · simp [Value.cells] at hcs
    obtain ⟨rfl, rfl, rfl⟩ := hcs
    exact row_seg (.inr ⟨_, rfl, hl, hm, by simpa using hz, hcell, hwz⟩)

set_option maxHeartbeats 4000000 in
set_option maxRecDepth 100000 in
theorem walk (w : World) (v0 : Value) (l0 : List Int) (hm0 : l0.length ≤ 9223372036854775807) (hr0 : ∀ n ∈ l0, (Lit.int .i64 n).wf = true) (s0 : Seg w v0 l0) (y0 : Lies w.heap.size v0) (v1 : Value) (l1 : List Plain.En) (hm1 : l1.length ≤ 9223372036854775807) (hr1 : ∀ j, j < l1.length → InE (Plain.en l1 j)) (s1 : SegN w v1 l1) (y1 : Lies w.heap.size v1) (v2 : Value) (l2 : List Plain.En) (hm2 : l2.length ≤ 9223372036854775807) (hr2 : ∀ j, j < l2.length → InE (Plain.en l2 j)) (s2 : SegN w v2 l2) (y2 : Lies w.heap.size v2) (v3 : Value) (l3 : List Plain.En) (hm3 : l3.length ≤ 9223372036854775807) (hr3 : ∀ j, j < l3.length → InE (Plain.en l3 j)) (s3 : SegN w v3 l3) (y3 : Lies w.heap.size v3) (v4 : Value) (l4 : List Plain.En) (hm4 : l4.length ≤ 9223372036854775807) (hr4 : ∀ j, j < l4.length → InE (Plain.en l4 j)) (s4 : SegN w v4 l4) (y4 : Lies w.heap.size v4) (a5 : Int) (w5 : -9223372036854775808 ≤ a5 ∧ a5 ≤ 9223372036854775807) (a6 : Int) (w6 : -9223372036854775808 ≤ a6 ∧ a6 ≤ 9223372036854775807) :
    Calls Try.prog 3 #[v0, v1, v2, v3, v4, .int .i64 a5, .int .i64 a6] w fun e w' => e = .returned (.bool true) ∧ Below w.heap.size w w' := by
  obtain ⟨p0, d0, rfl⟩ := seg_len s0
  have hnq : NumsQ w p0 l0 := fun h => by
    obtain ⟨b, off, rfl, hc⟩ := seg_at s0 h
    exact ⟨b, off, rfl, World.block_lt_of_cell? (w := w) (h := hc 0 h), hc⟩
  have KC := config_c p0 l0.length d0 l0 hm0 rfl (fun x hx => bounds_i64 (hr0 x hx)) w hnq
  have KS := hid (fun (X : World) (b : Below w.heap.size w X) => store_c v1 v2 v3 l1 l2 l3 hm1 hm2 hm3 hr1 hr2 hr3 X (s1.below b y1) (y1.mono b.size) (s2.below b y2) (y2.mono b.size) (s3.below b y3) (y3.mono b.size))
  have KT := hid (fun (X : World) (b : Below w.heap.size w X) => store_c v4 v4 v4 l4 l4 l4 hm4 hm4 hm4 hr4 hr4 hr4 X (s4.below b y4) (y4.mono b.size) (s4.below b y4) (y4.mono b.size) (s4.below b y4) (y4.mono b.size))
  have PA := hid (fun W => picked_any a5 4 w5.1 w5.2 (by decide) (by decide) W)
  have PB := hid (fun W => picked_any a6 4 w6.1 w6.2 (by decide) (by decide) W)
  obtain ⟨xn, hxn⟩ : ∃ xn : Nat, a5 % 4 = xn := ⟨(a5 % 4).toNat, by omega⟩
  obtain ⟨yn, hyn⟩ : ∃ yn : Nat, a6 % 4 = yn := ⟨(a6 % 4).toNat, by omega⟩
  have hx4 : xn < 4 := by omega
  have hy4 : yn < 4 := by omega
  simp only [hxn] at PA
  simp only [hyn] at PB
  have hcm := Plain.cf4_may l0
  have href : ∀ a b : Nat, a < 4 → b < 4 → Plain.refE (Plain.cf4 l0) a b = 0 := fun a b ha hb => by
    unfold Plain.refE
    rw [if_pos hcm, if_pos ⟨⟨by omega, show (a : Int) < 4 by omega⟩, ⟨by omega, show (b : Int) < 4 by omega⟩⟩]
  have hls : (Plain.cf4 l0).ls.length = 3 := Plain.labsF_len l0
  have hfin : ∀ a b d : List Plain.En, ∀ l ∈ [Plain.ents a, Plain.ents b, Plain.ents d], Plain.mayL l = true ∧ l.all Plain.fitE = true := fun a b d l hl => by
    simp only [List.mem_cons, List.not_mem_nil, or_false] at hl
    rcases hl with rfl | rfl | rfl <;> exact ⟨Plain.ents_may _, Plain.ents_fit _⟩
  obtain ⟨st, hst⟩ : ∃ st, st = [Plain.ents l1, Plain.ents l2, Plain.ents l3] := ⟨_, rfl⟩
  obtain ⟨tt, htt⟩ : ∃ tt, tt = [Plain.ents l4, Plain.ents l4, Plain.ents l4] := ⟨_, rfl⟩
  have fs := hfin l1 l2 l3
  have ft := hfin l4 l4 l4
  rw [← hst] at fs
  rw [← htt] at ft
  have hs3 : st.length = 3 := by rw [hst]; rfl
  have ht3 : tt.length = 3 := by rw [htt]; rfl
  simp only [← hst] at KS
  simp only [← htt] at KT
  clear hst htt hfin
  have HLT := hid (Plain.lab_lt hcm)
  have HMY := hid hcm
  generalize Plain.cf4 l0 = c at *
  obtain ⟨mx, hmx⟩ : ∃ mx : Nat → List Plain.En, mx = fun j => if Plain.both (c.ls.getD j 0) xn yn = true then st.getD j [] else tt.getD j [] := ⟨_, rfl⟩
  have fm : ∀ l ∈ (List.range 3).map mx, Plain.mayL l = true ∧ l.all Plain.fitE = true := fun l hl => by
    obtain ⟨j, hj, rfl⟩ := List.mem_map.1 hl
    have hj3 := List.mem_range.1 hj
    rw [hmx]
    dsimp only
    split
    · rw [List.getD_eq_getElem?_getD, List.getElem?_eq_getElem (by omega)]; exact fs _ (List.getElem_mem _)
    · rw [List.getD_eq_getElem?_getD, List.getElem?_eq_getElem (by omega)]; exact ft _ (List.getElem_mem _)
  have RS := hid (Plain.rum_fine (c := c) (a := xn) (b := yn) (st := st) (href xn yn hx4 hy4) (by omega) fs)
  have RT := hid (Plain.rum_fine (c := c) (a := xn) (b := yn) (st := tt) (href xn yn hx4 hy4) (by omega) ft)
  have RM := hid (Plain.rum_fine (c := c) (a := xn) (b := yn) (st := (List.range 3).map mx) (href xn yn hx4 hy4) (by simp; omega) fm)
  have RV := hid (Plain.rum_fine (c := c) (a := yn) (b := xn) (st := st) (href yn xn hy4 hx4) (by omega) fs)
  have HSM := hid (show Plain.rumB c xn yn st = Plain.rumB c xn yn ((List.range 3).map mx) by
    rw [RS.out.2.1, RM.out.2.1, Plain.flat_congr st ((List.range 3).map mx) (Plain.comL c.ls xn yn c.ls.length) (fun j hj => by
      have hj3 : j < 3 := by rw [← hls]; exact Plain.com_lt hj
      have hb := (Plain.com_mem (ls := c.ls) (a := (xn : Int)) (b := (yn : Int)) (n := c.ls.length) (by omega)).1 hj
      rw [List.getD_eq_getElem?_getD (l := (List.range 3).map mx), List.getElem?_map, List.getElem?_range hj3]
      show _ = mx j
      rw [hmx]
      dsimp only
      rw [if_pos hb])])
  have HL1 := hid (show (Plain.rumB c xn yn st).length = (Plain.rumB c xn yn tt).length by rw [RS.out.2.2, RT.out.2.2])
  have HL2 := hid (show (Plain.rumB c yn xn st).length = (Plain.rumB c xn yn st).length by rw [RV.out.2.2, RS.out.2.2, Plain.com_swap])
  have HBG := hid (show (Plain.rumB c xn yn st).length ≤ 1000000 by rw [RS.out.2.2]; have := Plain.com_len c.ls xn yn c.ls.length; omega)
  have HLS := hid hls
  have HMX := hid (fun j => show mx j = if Plain.both (c.ls.getD j 0) xn yn = true then st.getD j [] else tt.getD j [] by rw [hmx])
  have HS3 := hid hs3
  have HT3 := hid ht3
  clear hnq s0 y0 s1 y1 s2 y2 s3 y3 s4 y4 hr0 hr1 hr2 hr3 hr4 w5 w6 hxn hyn href hcm hls fs ft fm hmx hs3 ht3
  go_enter Try.func3, Try.ntmps3
  go_wp2_with fail
  refine KC.mono ?_
  rintro e W1 ⟨lv, mv, rfl, ci, b1⟩
  obtain ⟨lp, lc, rfl⟩ := seg_len ci.sl
  obtain ⟨mp, mc, rfl⟩ := seg_len ci.sm
  have B1 := hid b1
  have C1 := hid (BcI.start ci)
  clear KC b1 ci
  go_upto_region 2 with fail
  obtain ⟨W2, hW2⟩ : ∃ W2, W2 = W1.alloc (boxC c (.slice lp c.ls.length lc) (.slice mp c.ms.length mc)) := ⟨_, rfl⟩
  rw [show W1.alloc (.cells #[(.int .i64 c.n), (.slice lp c.ls.length lc), (.int .i64 c.t), (.slice mp c.ms.length mc), .int .i64 c.cap] 25) = W2 from hW2.symm]
  rw [← hW2] at C1
  clear hW2
  obtain ⟨T, hT⟩ : ∃ T, T = W1.heap.size := ⟨_, rfl⟩
  rw [← hT] at C1 ⊢
  clear hT
  have B2 := hid (B1.out.trans (C1.out.be.mono B1.out.size))
  have K := KS.out W2 B2.out
  go_wp2_with fail
  refine K.mono ?_
  rintro e W3 ⟨S, rfl, s3, b3⟩
  have S3 := hid s3
  have C3 := hid (C1.out.grow b3)
  have B3 := hid (B2.out.trans (b3.mono B2.out.size))
  clear K KS s3 b3 C1 B2 B1
  have K := KT.out W3 B3.out
  go_wp2_with fail
  refine K.mono ?_
  rintro e W4 ⟨S', rfl, s4, b4⟩
  have S4 := hid (S3.out.grow b4)
  have T4 := hid s4
  have C4 := hid (C3.out.grow b4)
  have B4 := hid (B3.out.trans (b4.mono B3.out.size))
  clear K KT s4 b4 C3 B3 S3
  go_wp2_with fail
  refine (PA.out _).mono ?_
  rintro e w9 ⟨rfl, hx⟩
  have hy := hx.symm
  clear hx PA
  subst hy
  go_wp2_with fail
  refine (PB.out _).mono ?_
  rintro e w9 ⟨rfl, hx⟩
  have hy := hx.symm
  clear hx PB
  subst hy
  have hmk : ∀ w : World, (Instr.makeSlice 27 (.int .i64 3) (.int .i64 3)).run Try.prog w = .ok (.slice (some ⟨w.heap.size, 0, none⟩) 3 3) (w.alloc (.cells (madeCells #[.slice none 0 0] 3) 31)) :=
    run_make_row' (P := Try.prog) 27 31 (.slice none 0 0) 24 Try.underlying27 Try.infoRowE rfl .i64 .i64 3 (by omega) (by omega)
  obtain ⟨M, hM⟩ : ∃ M, M = W4.heap.size := ⟨_, rfl⟩
  have T0 := hid (ToI.made W4 3)
  have BM := hid (show Below W4.heap.size W4 (W4.alloc (.cells (madeCells #[.slice none 0 0] 3) 31)) from (Below.refl _ _).alloc (Nat.le_refl _) _)
  go_wp2
  rw [← hM]
  rw [← hM] at T0
  have HM := hid hM
  clear hM hmk
  go_loopg [23] 3 (fun gg s23 wr => ∃ k : Nat, k ≤ 3 ∧ 3 - k ≤ gg ∧ s23 = .int .i64 k ∧ Aside (∃ U, ToI wr M 3 U (fun j => if j < k then mx j else [])) ∧ Aside (Below W4.heap.size W4 wr))
  case atStart => exact ⟨0, Nat.zero_le _, by omega, rfl, (show Aside _ from ⟨_, T0.out.congr fun j _ => by rw [if_neg (Nat.not_lt_zero _)]⟩), (show Aside _ from BM.out)⟩
  case round =>
    obtain ⟨k, hk, hg, rfl, A, BW⟩ := hrel
    by_cases hlt : k < 3
    · have hltz : (k : Int) < 3 := by omega
      have hk3 : k < c.ls.length := by rw [HLS.out]; exact hlt
      have hk3z : (k : Int) < (c.ls.length : Int) := by omega
      obtain ⟨U, to⟩ := A.out
      obtain ⟨tb, tq, htb, ut, kt, et⟩ := T4.out.at (j := k) (by rw [HT3.out]; exact hlt)
      injection htb with htb
      injection htb with htb1 htb2
      subst htb1 htb2
      obtain ⟨sb, sq, hsb, us, ks, es⟩ := S4.out.at (j := k) (by rw [HS3.out]; exact hlt)
      injection hsb with hsb
      injection hsb with hsb1 hsb2
      subst hsb1 hsb2
      rw [Nat.zero_add] at kt ks
      have NT := hid (show NotIn M ut from fun pp nn cc e hn => by have := et.li pp nn cc e hn; rw [HM.out]; omega)
      have NS := hid (show NotIn M us from fun pp nn cc e hn => by have := es.li pp nn cc e hn; rw [HM.out]; omega)
      have hS'l : S' < W4.heap.size := World.block_lt_of_cell? (w := W4) (h := kt)
      have hSl : S < W4.heap.size := World.block_lt_of_cell? (w := W4) (h := ks)
      have KTC := hid (fun (X : World) (b : Below W4.heap.size W4 X) => (b.cell (p := ⟨S', k, none⟩) hS'l).trans kt)
      have KSC := hid (fun (X : World) (b : Below W4.heap.size W4 X) => (b.cell (p := ⟨S, k, none⟩) hSl).trans ks)
      obtain ⟨TL, hTL⟩ : ∃ TL, TL = tt.getD k [] := ⟨_, rfl⟩
      obtain ⟨SL, hSL⟩ : ∃ SL, SL = st.getD k [] := ⟨_, rfl⟩
      rw [← hTL] at et
      rw [← hSL] at es
      have HTL := hid hTL
      have HSL := hid hSL
      clear hTL hSL
      have ET := hid et
      have ES := hid es
      have TO := hid to
      obtain ⟨tp, tc, rfl, hff⟩ := et.sg.form
      clear hff
      obtain ⟨sp, sc, rfl, hff⟩ := es.sg.form
      clear hff A to et es kt ks hS'l hSl
      have kt0 := KTC.out wr BW.out
      have cM := TO.out.row.cell hlt
      have fM := TO.out.row.frozen k
      have lM : M < wr.heap.size := TO.out.row.lt
      have TO1' := hid (TO.out.set k (ET.out.grow BW.out) NT.out)
      have BX' := hid (BW.out.setCell (p := ⟨M, k, none⟩) (by rw [HM.out]; exact Nat.le_refl _) (.slice tp TL.length tc))
      go_upto_region 11 with fail
      obtain ⟨X1, hX1⟩ : ∃ X1, X1 = wr.setCell ⟨M, k, none⟩ (.slice tp TL.length tc) := ⟨_, rfl⟩
      rw [← hX1]
      have TO1 := hid (show ToI X1 M 3 _ _ by rw [hX1]; exact TO1'.out)
      have BX := hid (show Below W4.heap.size W4 X1 by rw [hX1]; exact BX'.out)
      clear hX1 TO1' BX' kt0 cM fM lM TO BW
      have CW := C4.out.grow BX.out
      obtain ⟨c0, c1, c2, c3, c4⟩ := CW.cc
      obtain ⟨lb, lo, rfl, hcl⟩ := seg_at CW.ci.sl (by omega)
      have m0 := hcl k hk3
      have hs2 := HLT.out (c.ls.getD k 0) (by rw [Plain.getD_ltI _ _ hk3]; exact List.getElem_mem hk3)
      obtain ⟨s, hsn⟩ := Int.eq_ofNat_of_zero_le hs2.1
      rw [hsn] at m0 hs2
      have hs256 : s < 256 := by omega
      have e1 : (bits .and .i64 ((s : Int) / 2 ^ xn) 1 == 1) = (s / 2 ^ xn % 2 == 1) := LabP.reads_eq s xn hs256
      have e2 : (bits .and .i64 ((s : Int) / 2 ^ yn) 1 == 1) = (s / 2 ^ yn % 2 == 1) := LabP.reads_eq s yn hs256
      have HBO := hid (show Plain.both (c.ls.getD k 0) xn yn = ((s / 2 ^ xn % 2 == 1) && (s / 2 ^ yn % 2 == 1)) by rw [hsn]; unfold Plain.both; rw [Plain.rd_natQ s xn (by omega), Plain.rd_natQ s yn (by omega)])
      generalize (s / 2 ^ xn % 2 == 1) = rx at e1 HBO
      generalize (s / 2 ^ yn % 2 == 1) = ry at e2 HBO
      clear CW hcl hs2 hsn
      cases rx with
      | false =>
        have R := hid (TO1.out.congr (H := fun j => if j < k + 1 then mx j else []) fun j hj => by
          by_cases e : j = k
          · rw [if_pos e, e, if_pos (Nat.lt_succ_self k), HMX.out, if_neg (by rw [HBO.out]; simp)]; exact HTL.out
          · rw [if_neg e]
            by_cases h : j < k
            · rw [if_pos h, if_pos (by omega)]
            · rw [if_neg h, if_neg (by omega)])
        have RB := hid BX.out
        clear TO1 BX
        go_wp2
        go_roundg (3 - (k + 1))
        case measure => omega
        case rel => exact ⟨k + 1, by omega, by omega, by go_num, (show Aside _ from ⟨_, R.out⟩), (show Aside _ from RB.out)⟩
      | true =>
        cases ry with
        | false =>
          have R := hid (TO1.out.congr (H := fun j => if j < k + 1 then mx j else []) fun j hj => by
            by_cases e : j = k
            · rw [if_pos e, e, if_pos (Nat.lt_succ_self k), HMX.out, if_neg (by rw [HBO.out]; simp)]; exact HTL.out
            · rw [if_neg e]
              by_cases h : j < k
              · rw [if_pos h, if_pos (by omega)]
              · rw [if_neg h, if_neg (by omega)])
          have RB := hid BX.out
          clear TO1 BX
          go_wp2
          go_roundg (3 - (k + 1))
          case measure => omega
          case rel => exact ⟨k + 1, by omega, by omega, by go_num, (show Aside _ from ⟨_, R.out⟩), (show Aside _ from RB.out)⟩
        | true =>
          have ks0 := KSC.out X1 BX.out
          have cM := TO1.out.row.cell hlt
          have fM := TO1.out.row.frozen k
          have lM : M < X1.heap.size := TO1.out.row.lt
          have R := hid ((TO1.out.set k (ES.out.grow BX.out) NS.out).congr (H := fun j => if j < k + 1 then mx j else []) fun j hj => by
            by_cases e : j = k
            · rw [if_pos e, e, if_pos (Nat.lt_succ_self k), HMX.out, if_pos (by rw [HBO.out]; rfl)]; exact HSL.out
            · rw [if_neg e, if_neg e]
              by_cases h : j < k
              · rw [if_pos h, if_pos (by omega)]
              · rw [if_neg h, if_neg (by omega)])
          have RB := hid (BX.out.setCell (p := ⟨M, k, none⟩) (by rw [HM.out]; exact Nat.le_refl _) (.slice sp SL.length sc))
          clear TO1 BX
          go_wp2
          go_roundg (3 - (k + 1))
          case measure => omega
          case rel => exact ⟨k + 1, by omega, by omega, by go_num, (show Aside _ from ⟨_, R.out⟩), (show Aside _ from RB.out)⟩
    · have hltz : ¬ (k : Int) < 3 := by omega
      have ek : k = 3 := by omega
      subst ek
      obtain ⟨U, to⟩ := A.out
      have M10 := hid (show SegLs wr (.slice (some ⟨M, 0, none⟩) 3 3) ((List.range 3).map mx) from (to.congr (H := mx) fun j hj => by rw [if_pos hj]).segs (by omega))
      have S10 := hid (S4.out.grow BW.out)
      have T10 := hid (T4.out.grow BW.out)
      have C10 := hid (C4.out.grow BW.out)
      have B10 := hid (B4.out.trans (BW.out.mono B4.out.size))
      clear to A BW S4 T4 C4 B4 T0 BM
      have K := rumour_c c _ _ (.slice (some ⟨S, 0, none⟩) 3 3) xn yn st wr C10.out.ci S10.out
      obtain ⟨c0, c1, c2, c3, c4⟩ := C10.out.cc
      go_wp2_with fail
      refine K.mono ?_
      rintro e W11 ⟨u11, rfl, g1, g2, b11⟩
      rw [RS.out.1]
      have S11 := hid (S10.out.grow b11)
      have T11 := hid (T10.out.grow b11)
      have M11 := hid (M10.out.grow b11)
      have C11 := hid (C10.out.grow b11)
      have B11 := hid (B10.out.trans (b11.mono B10.out.size))
      have P11_11 := hid (And.intro g1 g2)
      clear K c0 c1 c2 c3 c4 S10 T10 M10 C10 B10 g1 g2 b11
      have K := rumour_c c _ _ (.slice (some ⟨S', 0, none⟩) 3 3) xn yn tt W11 C11.out.ci T11.out
      obtain ⟨c0, c1, c2, c3, c4⟩ := C11.out.cc
      go_wp2_with fail
      refine K.mono ?_
      rintro e W12 ⟨u12, rfl, g1, g2, b12⟩
      rw [RT.out.1]
      have S12 := hid (S11.out.grow b12)
      have T12 := hid (T11.out.grow b12)
      have M12 := hid (M11.out.grow b12)
      have C12 := hid (C11.out.grow b12)
      have B12 := hid (B11.out.trans (b12.mono B11.out.size))
      have P12_11 := hid (And.intro (P11_11.out.1.below b12 P11_11.out.2) (P11_11.out.2.mono b12.size))
      have P12_12 := hid (And.intro g1 g2)
      clear K c0 c1 c2 c3 c4 S11 T11 M11 C11 B11 g1 g2 b12 P11_11
      have K := rumour_c c _ _ (.slice (some ⟨M, 0, none⟩) 3 3) xn yn ((List.range 3).map mx) W12 C12.out.ci M12.out
      obtain ⟨c0, c1, c2, c3, c4⟩ := C12.out.cc
      go_wp2_with fail
      refine K.mono ?_
      rintro e W13 ⟨u13, rfl, g1, g2, b13⟩
      rw [RM.out.1]
      have S13 := hid (S12.out.grow b13)
      have T13 := hid (T12.out.grow b13)
      have M13 := hid (M12.out.grow b13)
      have C13 := hid (C12.out.grow b13)
      have B13 := hid (B12.out.trans (b13.mono B12.out.size))
      have P13_11 := hid (And.intro (P12_11.out.1.below b13 P12_11.out.2) (P12_11.out.2.mono b13.size))
      have P13_12 := hid (And.intro (P12_12.out.1.below b13 P12_12.out.2) (P12_12.out.2.mono b13.size))
      have P13_13 := hid (And.intro g1 g2)
      clear K c0 c1 c2 c3 c4 S12 T12 M12 C12 B12 g1 g2 b13 P12_11 P12_12
      have K := rumour_c c _ _ (.slice (some ⟨S, 0, none⟩) 3 3) yn xn st W13 C13.out.ci S13.out
      obtain ⟨c0, c1, c2, c3, c4⟩ := C13.out.cc
      go_wp2_with fail
      refine K.mono ?_
      rintro e W14 ⟨u14, rfl, g1, g2, b14⟩
      rw [RV.out.1]
      have S14 := hid (S13.out.grow b14)
      have T14 := hid (T13.out.grow b14)
      have M14 := hid (M13.out.grow b14)
      have C14 := hid (C13.out.grow b14)
      have B14 := hid (B13.out.trans (b14.mono B13.out.size))
      have P14_11 := hid (And.intro (P13_11.out.1.below b14 P13_11.out.2) (P13_11.out.2.mono b14.size))
      have P14_12 := hid (And.intro (P13_12.out.1.below b14 P13_12.out.2) (P13_12.out.2.mono b14.size))
      have P14_13 := hid (And.intro (P13_13.out.1.below b14 P13_13.out.2) (P13_13.out.2.mono b14.size))
      have P14_14 := hid (And.intro g1 g2)
      clear K c0 c1 c2 c3 c4 S13 T13 M13 C13 B13 g1 g2 b14 P13_11 P13_12 P13_13
      have K := may_c c _ _ W14 C14.out.ci
      rw [HMY.out] at K
      obtain ⟨c0, c1, c2, c3, c4⟩ := C14.out.cc
      obtain ⟨q1, d1, rfl⟩ := segB_form P14_11.out.1
      obtain ⟨q2, d2, rfl⟩ := segB_form P14_12.out.1
      obtain ⟨q3, d3, rfl⟩ := segB_form P14_13.out.1
      obtain ⟨q4, d4, rfl⟩ := segB_form P14_14.out.1
      have KB := hid (fun (X : World) (b : Below W14.heap.size W14 X) => keep.sameB_any _ _ (Plain.rumB c xn yn st) (Plain.rumB c xn yn ((List.range 3).map mx)) HBG.out X (P14_11.out.1.below b P14_11.out.2) (P14_13.out.1.below b P14_13.out.2))
      rw [decide_eq_true HSM.out, ← HSM.out] at KB
      rw [HL2.out, ← HL1.out, ← HSM.out]
      generalize (Plain.rumB c xn yn st).length = N at KB
      go_wp2_with fail
      refine K.mono ?_
      rintro e W15 ⟨rfl, b15⟩
      have B15 := hid (B14.out.trans (b15.mono B14.out.size))
      have KK := KB.out W15 b15
      clear K KB c0 c1 c2 c3 c4 b15
      go_wp2_with fail
      refine KK.mono ?_
      rintro e W16 ⟨rfl, q16, h16⟩
      have B16 := hid (show Below w.heap.size w W16 by rw [h16]; exact below_drewN B15.out q16)
      clear h16 KK
      go_wp2
      go_ret
      exact ⟨rfl, B16.out⟩

set_option maxRecDepth 100000 in
theorem lifted (os : Os) (started : os.Started) (H : Type) (enc : TypeId × Value → H) :
    ReturnsInHanded {} Try.checked os 3 .any (Rows.rumourShapeSpec.pre6 enc Try.prog Try.f3 Rows.rumourShapeRow.domain false) (Rows.rumourShapeSpec.post enc Try.prog Try.f3 false true false false) := by
  refine returnsInHanded_of_change (C := Try.checked) own started (by kernel_rfl) Try.func3
    (ChangeSpec.witness6 (enc := enc) (C := Try.checked) false ⟨#[], #[.slice none 0 0, .slice none 0 0, .slice none 0 0, .slice none 0 0, .slice none 0 0, .int .i64 0, .int .i64 0], []⟩ 8 (by kernel_rfl) (by kernel_rfl) (by kernel_rfl) (by kernel_rfl)) ?_
  intro W base args ds gs before hval0 hW hcnd _
  have hval : ∀ (j : Nat) t v, Try.f3.params[j]? = some t → args[j]? = some v → Value.okWide Try.prog W .any base t v := hval0
  have hW' := hW
  obtain ⟨p, q, hA0, hV, rfl, hfz, hnd⟩ := hW
  have hA : DataW.TrodAll enc Try.prog W 0 (fun _ => true) true Try.f3.params.toList args.toList ds p := hA0
  rw [Try.params3] at hA hval
  obtain ⟨v0, vs0, d0, ds0, p0, q0, hargs, rfl, rfl, h0, r0⟩ := trodAll_cons hA
  obtain ⟨v1, vs1, d1, ds1, p1, q1, rfl, rfl, rfl, h1, r1⟩ := trodAll_cons r0
  obtain ⟨v2, vs2, d2, ds2, p2, q2, rfl, rfl, rfl, h2, r2⟩ := trodAll_cons r1
  obtain ⟨v3, vs3, d3, ds3, p3, q3, rfl, rfl, rfl, h3, r3⟩ := trodAll_cons r2
  obtain ⟨v4, vs4, d4, ds4, p4, q4, rfl, rfl, rfl, h4, r4⟩ := trodAll_cons r3
  obtain ⟨v5, vs5, d5, ds5, p5, q5, rfl, rfl, rfl, h5, r5⟩ := trodAll_cons r4
  obtain ⟨v6, vs6, d6, ds6, p6, q6, rfl, rfl, rfl, h6, r6⟩ := trodAll_cons r5
  obtain ⟨rfl, rfl, rfl⟩ := trodAll_nil r6
  obtain rfl : args = #[v0, v1, v2, v3, v4, v5, v6] := by cases args; simp_all
  obtain ⟨rfl, rfl⟩ := trodVars_none hV
  obtain ⟨a0, len0, cap0, rfl⟩ := okWide_slice Try.underlying22 (hval 0 22 v0 rfl rfl)
  have k0 := h0
  have lt0 : ∀ x ∈ p0, x.block < W.heap.size := by obtain ⟨m, hm⟩ := k0; exact DataW.trod_lt m _ _ _ hm
  obtain ⟨l0, hl0, hc0, hm0, hr0, y0, s0⟩ := ints_seg h0
  obtain ⟨a1, len1, cap1, rfl⟩ := okWide_slice Try.underlying23 (hval 1 23 v1 rfl rfl)
  have k1 := h1
  have lt1 : ∀ x ∈ p1, x.block < W.heap.size := by obtain ⟨m, hm⟩ := k1; exact DataW.trod_lt m _ _ _ hm
  obtain ⟨l1, hl1, hm1, s1, y1, hr1⟩ := ens_open Try.underlying23 Try.underlying63 (by kernel_rfl) ⟨rfl, by intro j f hj; rcases j with _ | _ | _ | _ | _ | j <;> simp at hj <;> subst hj <;> first | exact ⟨rfl, by kernel_rfl, Try.underlying3⟩ | exact ⟨rfl, by kernel_rfl, Try.underlying4⟩⟩ h1
  obtain ⟨a2, len2, cap2, rfl⟩ := okWide_slice Try.underlying23 (hval 2 23 v2 rfl rfl)
  have k2 := h2
  have lt2 : ∀ x ∈ p2, x.block < W.heap.size := by obtain ⟨m, hm⟩ := k2; exact DataW.trod_lt m _ _ _ hm
  obtain ⟨l2, hl2, hm2, s2, y2, hr2⟩ := ens_open Try.underlying23 Try.underlying63 (by kernel_rfl) ⟨rfl, by intro j f hj; rcases j with _ | _ | _ | _ | _ | j <;> simp at hj <;> subst hj <;> first | exact ⟨rfl, by kernel_rfl, Try.underlying3⟩ | exact ⟨rfl, by kernel_rfl, Try.underlying4⟩⟩ h2
  obtain ⟨a3, len3, cap3, rfl⟩ := okWide_slice Try.underlying23 (hval 3 23 v3 rfl rfl)
  have k3 := h3
  have lt3 : ∀ x ∈ p3, x.block < W.heap.size := by obtain ⟨m, hm⟩ := k3; exact DataW.trod_lt m _ _ _ hm
  obtain ⟨l3, hl3, hm3, s3, y3, hr3⟩ := ens_open Try.underlying23 Try.underlying63 (by kernel_rfl) ⟨rfl, by intro j f hj; rcases j with _ | _ | _ | _ | _ | j <;> simp at hj <;> subst hj <;> first | exact ⟨rfl, by kernel_rfl, Try.underlying3⟩ | exact ⟨rfl, by kernel_rfl, Try.underlying4⟩⟩ h3
  obtain ⟨a4, len4, cap4, rfl⟩ := okWide_slice Try.underlying23 (hval 4 23 v4 rfl rfl)
  have k4 := h4
  have lt4 : ∀ x ∈ p4, x.block < W.heap.size := by obtain ⟨m, hm⟩ := k4; exact DataW.trod_lt m _ _ _ hm
  obtain ⟨l4, hl4, hm4, s4, y4, hr4⟩ := ens_open Try.underlying23 Try.underlying63 (by kernel_rfl) ⟨rfl, by intro j f hj; rcases j with _ | _ | _ | _ | _ | j <;> simp at hj <;> subst hj <;> first | exact ⟨rfl, by kernel_rfl, Try.underlying3⟩ | exact ⟨rfl, by kernel_rfl, Try.underlying4⟩⟩ h4
  have k5 := h5
  have lt5 : ∀ x ∈ p5, x.block < W.heap.size := by obtain ⟨m, hm⟩ := k5; exact DataW.trod_lt m _ _ _ hm
  obtain ⟨a5, rfl, _, _, w5⟩ := open_int Try.underlying3 (hval 5 3 v5 rfl rfl) h5
  have k6 := h6
  have lt6 : ∀ x ∈ p6, x.block < W.heap.size := by obtain ⟨m, hm⟩ := k6; exact DataW.trod_lt m _ _ _ hm
  obtain ⟨a6, rfl, _, _, w6⟩ := open_int Try.underlying3 (hval 6 3 v6 rfl rfl) h6
  clear hA0 hval0
  refine (walk W _ l0 (by omega) hr0 s0 y0 _ l1 (by omega) hr1 s1 y1 _ l2 (by omega) hr2 s2 y2 _ l3 (by omega) hr3 s3 y3 _ l4 (by omega) hr4 s4 y4 a5 (bounds_i64 w5) a6 (bounds_i64 w6)).mono fun e W' ⟨he, bel⟩ => ?_
  subst he
  exact ⟨_, rfl, _, _, _, [], _, [], hW', trodAll_mk1 (shut_bool Try.underlying4 _), (trodAll_cons_mk (Below.trod laidOut (by kernel_rfl) (of_decide_eq_true (by kernel_rfl)) k0 bel lt0) (trodAll_cons_mk (Below.trod laidOut (by kernel_rfl) (of_decide_eq_true (by kernel_rfl)) k1 bel lt1) (trodAll_cons_mk (Below.trod laidOut (by kernel_rfl) (of_decide_eq_true (by kernel_rfl)) k2 bel lt2) (trodAll_cons_mk (Below.trod laidOut (by kernel_rfl) (of_decide_eq_true (by kernel_rfl)) k3 bel lt3) (trodAll_cons_mk (Below.trod laidOut (by kernel_rfl) (of_decide_eq_true (by kernel_rfl)) k4 bel lt4) (trodAll_cons_mk (Below.trod laidOut (by kernel_rfl) (of_decide_eq_true (by kernel_rfl)) k5 bel lt5) (trodAll_cons_mk (Below.trod laidOut (by kernel_rfl) (of_decide_eq_true (by kernel_rfl)) k6 bel lt6) trodAll_mk0))))))), rfl, bel.frame _, fun h => by cases h⟩

theorem over : Rows.rumourShapeRow.holds Try.pinned (OpenSpec.ofChange Rows.rumourShapeSpec) :=
  OpenClaim.holds_of_wide 3 Try.f3 rfl rfl rfl rfl rfl rfl rfl ⟨rfl, rfl, rfl, rfl, rfl⟩ rfl rfl rfl rfl rfl (by kernel_rfl) Try.func3 (by kernel_rfl)
    (of_decide_eq_true (by kernel_rfl)) (by unfold Func.isWrapper; first | (rw [if_pos (by decide +kernel)]; kernel_rfl) | (rw [if_neg (by decide +kernel)]; exact ⟨rfl, rfl⟩))
    (fun os started H enc _ => lifted os started H enc)

end rumourShape

theorem rumourShape_holds : Rows.RumourShapeSaid := rumourShape.over
#print axioms rumourShape_holds
end Go.Proofs.Ytkmnofmhjoehiam

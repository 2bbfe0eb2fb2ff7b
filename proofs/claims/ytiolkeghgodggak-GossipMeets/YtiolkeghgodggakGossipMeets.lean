/- GossipMeets: all of a label come to the same, when everyone has told everyone twice, and telling more changes nothing: whatever the labels and the turns. No condition. -/
import Derived.Test.YtiolkeghgodggakRows
import Derived.WalkKit
import Derived.ProofKit
import Derived.OpenShut
import Derived.WalkSmall
import Derived.ShutString
import Derived.ChangeOld
import Derived.Below
import Derived.Test.YtiolkeghgodggakGg
namespace Go.Proofs.Ytiolkeghgodggak
namespace gossipMeets
open Go.ChangeShapes Go.WideShapes Go.ChangeAt Go.RowKit
set_option linter.unusedVariables false

theorem own : ownKnob Try.prog.godebug = none := by kernel_rfl
theorem laidOut : laidOutB Try.prog = true := by kernel_rfl

theorem ints_seg {H : Type} {enc : TypeId × Value → H} {W : World} {d : DataW H} {p : List MemPlace} {a : Option Addr} {len cap : Nat} (h : DataW.Trod enc Try.prog W 0 (fun _ => true) true 22 (.slice a len cap) d p) :
    ∃ l : List Int, l.length = len ∧ len ≤ cap ∧ cap ≤ 9223372036854775807 ∧ (∀ n ∈ l, (Lit.int .i64 n).wf = true) ∧ Lies W.heap.size (.slice a len cap) ∧ Seg W (.slice a len cap) l := by
  obtain ⟨fuel, hf⟩ := h
  rcases open_ints Try.underlying22 Try.underlying3 (by kernel_rfl) hf with ⟨hcs, _⟩ | ⟨x, l, c, zs, hcs, _, hl, hm, hz, _, hcell, hwz⟩
  · simp [Value.cells] at hcs
    obtain ⟨rfl, rfl, rfl⟩ := hcs
    exact row_seg (zs := []) (.inl ⟨rfl, rfl, rfl, rfl⟩)
  · simp [Value.cells] at hcs
    obtain ⟨rfl, rfl, rfl⟩ := hcs
    exact row_seg (.inr ⟨_, rfl, hl, hm, by simpa using hz, hcell, hwz⟩)

set_option maxHeartbeats 4000000 in
set_option maxRecDepth 100000 in
theorem walk (w : World) (v0 : Value) (l0 : List Int) (hm0 : l0.length ≤ 9223372036854775807) (hr0 : ∀ n ∈ l0, (Lit.int .i64 n).wf = true) (s0 : Seg w v0 l0) (y0 : Lies w.heap.size v0) (v1 : Value) (l1 : List Plain.Tu) (s1 : SegT w v1 l1) (r1 : ∀ j, j < l1.length → InT (l1.getD j default)) :
    Calls Try.prog 4 #[v0, v1] w fun e w' => e = .returned (.bool true) ∧ Below w.heap.size w w' := by
  obtain ⟨p0, c0, rfl, NM0⟩ := seg_nums s0 y0
  obtain ⟨hb1, p1, c1, rfl, HT1⟩ := s1
  have K1 := labels_c p0 l0.length c0 l0 hm0 rfl (wf_bounds hr0) w NM0
  have hLl := Plain.labsF_len l0
  have hLi := Plain.labsF_in l0
  have K2 := fun W (b : Below w.heap.size w W) => turns_c p1 l1.length c1 60 l1 (by omega) hb1 W rfl (HT1.grow b) r1
  have hTm := Plain.turnsF_may l1 60
  have hTl := Plain.turnsF_len l1 60
  generalize Plain.labsF l0 = L at *
  generalize Plain.turnsF l1 60 = ts at *
  have HLl := hid hLl
  have HLi := hid hLi
  have HTm := hid hTm
  clear NM0 HT1 hLl hLi hTm s0 y0 r1 hr0
  obtain ⟨B, hB⟩ : ∃ B, B = w.heap.size := ⟨_, rfl⟩
  rw [← hB] at K1 K2
  have HBB := hid hB
  clear hB
  go_enter Try.func4, Try.ntmps4
  go_wp2_with fail
  refine K1.mono ?_
  rintro e W1 ⟨rfl, hr1, hb1⟩
  have R1 := hid hr1
  have B1 := hid hb1
  clear hr1 hb1 K1
  go_wp2_with fail
  refine (K2 W1 B1.out).mono ?_
  rintro e W2 ⟨q2, c2, rfl, hT2⟩
  obtain ⟨q2', c2', e2, hn2, hh2⟩ := hT2.form
  rw [Value.slice.injEq] at e2
  obtain ⟨rfl, _, rfl⟩ := e2
  have BW2 := hid (B1.out.trans (hT2.be.mono (by have := B1.out.size; rw [← HBB.out] at this; exact this)))
  have RW2 := hid (R1.out.of_block (hT2.be.block _ R1.out.lt))
  have HHW2 := hid hh2
  have HN2 := hid hn2
  clear hT2 hn2 hh2 K2 R1 B1
  obtain ⟨N, hN⟩ : ∃ N, N = ts.length := ⟨_, rfl⟩
  rw [← hN] at hTl ⊢
  have HN := hid hN
  clear hN
  obtain ⟨pax, cax, Uax, rax, tax⟩ := copy_turns (c := c2) HHW2.out HN.out.symm HN2.out (by omega)
  have RUNAx := hid rax
  have TAx := hid tax
  have KRx := round_c 2 (by omega) Uax
  clear rax tax
  go_wp2_with (first | (at_builtin; refine wpList_app _ _ 23 RUNAx.out (by rfl) (by rfl) (by rfl) (by rfl) (by rfl) ?_) | fail)
  refine KRx.mono ?_
  rintro e Ubx ⟨qbx, cbx, rfl, tbx⟩
  obtain ⟨qb', cb', eb, hnb, hhb⟩ := tbx.form
  rw [Value.slice.injEq] at eb
  obtain ⟨rfl, elb, rfl⟩ := eb
  have HBU := hid tbx.be
  have TBx := hid (TAx.out.grow HBU.out)
  obtain ⟨pcx, ccx, Ucx, rcx, tcx⟩ := TBx.out.app (m := 2 * 16) (c := cbx) hhb elb.symm hnb (by rw [← HN.out]; omega)
  rw [← HN.out] at rcx tcx
  have hlc : (ts ++ Plain.telL (Plain.rndP 2)).length = N + 2 * 16 := by rw [List.length_append, ← HN.out, ← elb]
  obtain ⟨qc', cc', ec, hnc, hhc⟩ := tcx.form
  rw [Value.slice.injEq] at ec
  obtain ⟨rfl, _, rfl⟩ := ec
  have RUNCx := hid rcx
  have BUx := hid (BW2.out.trans (tcx.be.mono (by have := BW2.out.size; rw [← HBB.out] at this; exact this)))
  have RUx := hid (RW2.out.of_block (tcx.be.block _ RW2.out.lt))
  have HUx := hid (HHW2.out.grow tcx.be)
  have KGx := gossiped_c (some ⟨B, 0, none⟩) 3 3 pcx (N + 2 * 16) ccx L (ts ++ Plain.telL (Plain.rndP 2)) (by omega) (by omega) HLl.out hlc HLi.out Ucx (row_nums RUx.out HLl.out) (fun e => by cases e) hhc hnc
  clear KRx RUNAx TAx TBx tbx rcx tcx hnb hhb hnc hhc hlc HBU
  go_wp2_with (first | (at_builtin; refine wpList_app _ _ 23 RUNCx.out (by rfl) (by rfl) (by rfl) (by rfl) (by rfl) ?_) | fail)
  refine KGx.mono ?_
  intro e W4 h3
  obtain ⟨ax, dx, qx, ex, rfl, _, hs3, hb3⟩ := h3
  have Sx := hid hs3
  have BW4 := hid (BUx.out.trans (hb3.mono (by have := BUx.out.size; rw [← HBB.out] at this; exact this)))
  have RW4 := hid (RUx.out.of_block (hb3.block _ RUx.out.lt))
  have HHW4 := hid (HUx.out.grow hb3)
  clear hs3 hb3 KGx RUNCx BUx RUx HUx
  obtain ⟨pay, cay, Uay, ray, tay⟩ := copy_turns (c := c2) HHW4.out HN.out.symm HN2.out (by omega)
  have RUNAy := hid ray
  have TAy := hid tay
  have KRy := round_c 3 (by omega) Uay
  clear ray tay
  go_wp2_with (first | (at_builtin; refine wpList_app _ _ 23 RUNAy.out (by rfl) (by rfl) (by rfl) (by rfl) (by rfl) ?_) | fail)
  refine KRy.mono ?_
  rintro e Uby ⟨qby, cby, rfl, tby⟩
  obtain ⟨qb', cb', eb, hnb, hhb⟩ := tby.form
  rw [Value.slice.injEq] at eb
  obtain ⟨rfl, elb, rfl⟩ := eb
  have HBU := hid tby.be
  have TBy := hid (TAy.out.grow HBU.out)
  obtain ⟨pcy, ccy, Ucy, rcy, tcy⟩ := TBy.out.app (m := 3 * 16) (c := cby) hhb elb.symm hnb (by rw [← HN.out]; omega)
  rw [← HN.out] at rcy tcy
  have hlc : (ts ++ Plain.telL (Plain.rndP 3)).length = N + 3 * 16 := by rw [List.length_append, ← HN.out, ← elb]
  obtain ⟨qc', cc', ec, hnc, hhc⟩ := tcy.form
  rw [Value.slice.injEq] at ec
  obtain ⟨rfl, _, rfl⟩ := ec
  have RUNCy := hid rcy
  have BUy := hid (BW4.out.trans (tcy.be.mono (by have := BW4.out.size; rw [← HBB.out] at this; exact this)))
  have RUy := hid (RW4.out.of_block (tcy.be.block _ RW4.out.lt))
  have HUy := hid (HHW4.out.grow tcy.be)
  have SU := hid (Sx.out.grow tcy.be)
  have KGy := gossiped_c (some ⟨B, 0, none⟩) 3 3 pcy (N + 3 * 16) ccy L (ts ++ Plain.telL (Plain.rndP 3)) (by omega) (by omega) HLl.out hlc HLi.out Ucy (row_nums RUy.out HLl.out) (fun e => by cases e) hhc hnc
  clear KRy RUNAy TAy TBy tby rcy tcy hnb hhb hnc hhc hlc HBU
  go_wp2_with (first | (at_builtin; refine wpList_app _ _ 23 RUNCy.out (by rfl) (by rfl) (by rfl) (by rfl) (by rfl) ?_) | fail)
  refine KGy.mono ?_
  intro e W6 h3
  obtain ⟨ay, dy, qy, ey, rfl, _, hs3, hb3⟩ := h3
  have Sy := hid hs3
  have BW6 := hid (BUy.out.trans (hb3.mono (by have := BUy.out.size; rw [← HBB.out] at this; exact this)))
  have RW6 := hid (RUy.out.of_block (hb3.block _ RUy.out.lt))
  have HHW6 := hid (HUy.out.grow hb3)
  have S1 := hid (SU.out.grow hb3)
  clear hs3 hb3 KGy RUNCy BUy RUy HUy
  have LAW := hid (Plain.meets_law (L := L) ts (by rw [← HN.out]; omega) HTm.out)
  have S2 := hid (show Stores W6 qy 4 3 (Plain.stF 4 L Plain.Stt.nil (ts ++ Plain.telL (Plain.rndP 2))) by rw [← LAW.out.1]; exact Sy.out)
  have LM := hid LAW.out.2.1
  have LE := hid LAW.out.2.2
  have LG := hid (fun i j => (Plain.run_ok (L := L) (ts ++ Plain.telL (Plain.rndP 2)) (by rw [List.length_append, ← HN.out, Plain.telL_len, Plain.rndP_len]; omega)).len i j)
  generalize Plain.stF 4 L Plain.Stt.nil (ts ++ Plain.telL (Plain.rndP 2)) = s at *
  clear Sx Sy SU LAW HHW2 HHW4 HHW6 BW2 BW4 RW2 RW4
  go_wp2
  go_loopg [13, 14, 15] 4 (fun gg s13 _ _ wx => ∃ i : Nat, i ≤ 4 ∧ 4 - i ≤ gg ∧ s13 = .int .i64 i ∧ Aside (Below W6.heap.size W6 wx))
  case atStart => exact ⟨0, Nat.zero_le _, by omega, rfl, (show Aside _ from Below.refl _ _)⟩
  case round =>
    obtain ⟨i, hi4, hg, rfl, AI⟩ := hrel
    by_cases hlt : i < 4
    · have hltz : (i : Int) < 4 := by omega
      have A0 := hid AI.out
      clear AI
      go_wp2
      go_loopg [14, 15] 3 (fun gg s14 _ wx => ∃ j : Nat, j ≤ 3 ∧ 3 - j ≤ gg ∧ s14 = .int .i64 j ∧ Aside (Below W6.heap.size W6 wx))
      case atStart => exact ⟨0, Nat.zero_le _, by omega, rfl, (show Aside _ from A0.out)⟩
      case round =>
        obtain ⟨j, hj3, hgj, rfl, AJ⟩ := hrel
        clear A0
        by_cases hltj : j < 3
        · have hltjz : (j : Int) < 3 := by omega
          obtain ⟨b1, o1, rfl, hb1, hr1⟩ := (S1.out.grow AJ.out).place (by omega) (by omega)
          obtain ⟨b2, o2, rfl, hb2, hr2⟩ := (S2.out.grow AJ.out).place (by omega) (by omega)
          obtain ⟨g1, k1, n1, hg1, x1, hs1⟩ := hr1 i hlt
          obtain ⟨g2, k2, n2, hg2, y1, hs2⟩ := hr2 i hlt
          obtain ⟨p1', d1', x2, sg1, ly1⟩ := hs1 j hltj
          obtain ⟨p2', d2', y2, sg2, ly2⟩ := hs2 j hltj
          have bD := hid (show Below wr.heap.size wr wr.drew from (Below.refl _ _).drew)
          have l8 := LG.out i j
          have KS := hid (fun X (b : Below wr.heap.size wr X) => (keep.same_any (.slice p1' (s i j).length d1') (.slice p2' (s i j).length d2') (s i j) (by omega) X (sg1.below b ly1) (sg2.below b ly2)).mono (R' := fun e w' => e = .returned (.bool true) ∧ Below wr.heap.size wr w') fun e w' ⟨h1, q, h2⟩ => ⟨h1, by rw [h2]; exact below_drewN b q⟩)
          have KM := hid (fun X (b : Below wr.heap.size wr X) => (may_any (.slice p1' (s i j).length d1') (s i j) (by omega) X (sg1.below b ly1) (ly1.mono b.size)).mono (R' := fun e w' => e = .returned (.bool true) ∧ Below wr.heap.size wr w') fun e w' ⟨h1, h2⟩ => ⟨by rw [h1, LM.out i j], b.trans (h2.mono b.size)⟩)
          generalize (s i j).length = ln at *
          have A2 := hid AJ.out
          clear hr1 hr2 hs1 hs2 sg1 sg2 ly1 ly2 AJ l8
          go_wp2
          go_cut [80] (fun s80 wx => s80 = .bool false ∧ Aside (Below wr.heap.size wr wx))
          case first =>
            go_region_held3 (fun w' => w'.cell? ⟨b1, o1 + i, none⟩ = some (.slice (some ⟨g1, k1, none⟩) 3 n1) ∧ w'.cell? ⟨g1, k1 + j, none⟩ = some (.slice p1' ln d1') ∧ w'.cell? ⟨b2, o2 + i, none⟩ = some (.slice (some ⟨g2, k2, none⟩) 3 n2) ∧ w'.cell? ⟨g2, k2 + j, none⟩ = some (.slice p2' ln d2')) (go_keep)
              ((first
              | (go_at_call 17; refine (KS.out _ bD.out).mono ?_; rintro e w' ⟨rfl, b⟩; have BB := hid b; have f1 := (BB.out.cell (p := ⟨b1, o1 + i, none⟩) hb1).trans x1; have f2 := (BB.out.cell (p := ⟨g1, k1 + j, none⟩) hg1).trans x2; have f3 := (BB.out.cell (p := ⟨b2, o2 + i, none⟩) hb2).trans y1; have f4 := (BB.out.cell (p := ⟨g2, k2 + j, none⟩) hg2).trans y2; clear b)
              | (go_at_call 18; refine (KM.out _ BB.out).mono ?_; rintro e w'' ⟨rfl, b⟩; have BC := hid b; have f1 := (BC.out.cell (p := ⟨b1, o1 + i, none⟩) hb1).trans x1; have f2 := (BC.out.cell (p := ⟨g1, k1 + j, none⟩) hg1).trans x2; have f3 := (BC.out.cell (p := ⟨b2, o2 + i, none⟩) hb2).trans y1; have f4 := (BC.out.cell (p := ⟨g2, k2 + j, none⟩) hg2).trans y2; clear b)))
            all_goals (try go_wp2_with fail)
            all_goals go_meet
            all_goals exact ⟨rfl, (show Aside _ from BC.out)⟩
          case rest =>
            obtain ⟨rfl, HCW⟩ := hcut
            have A3 := hid (A2.out.trans (HCW.out.mono A2.out.size))
            clear HCW KS KM bD x1 x2 y1 y2 A2
            obtain ⟨z, ez, hz⟩ := labAt_lt (L := L) (fun x hx => by have := HLi.out x hx; omega) j
            have EZ := hid ez
            clear ez
            go_wp2
            go_loopg [15] 4 (fun gg s15 wx => ∃ k : Nat, k ≤ 4 ∧ 4 - k ≤ gg ∧ s15 = .int .i64 k ∧ Aside (Below W6.heap.size W6 wx))
            case atStart => exact ⟨0, Nat.zero_le _, by omega, rfl, (show Aside _ from A3.out)⟩
            case round =>
              obtain ⟨k, hk4, hgk, rfl, AK⟩ := hrel
              clear A3
              by_cases hltk : k < 4
              · have hltkz : (k : Int) < 4 := by omega
                have l0 := (RW6.out.of_block (AK.out.block _ RW6.out.lt)).cell hltj
                unfold rowV at l0
                rw [EZ.out] at l0
                have hbi := bit_num z i hz
                have hbk := bit_num z k hz
                obtain ⟨b1', o1', e1', hb1', hr1⟩ := (S1.out.grow AK.out).place (by omega) (by omega)
                rw [Option.some.injEq, Addr.mk.injEq] at e1'
                obtain ⟨rfl, rfl, _⟩ := e1'
                obtain ⟨g1, k1, n1, hg1, x1, hs1⟩ := hr1 i hlt
                obtain ⟨g2, k2, n2, hg2, y1, hs2⟩ := hr1 k hltk
                obtain ⟨p1', d1', x2, sg1, ly1⟩ := hs1 j hltj
                obtain ⟨p2', d2', y2, sg2, ly2⟩ := hs2 j hltj
                have HK := hid AK.out
                clear hr1 hs1 hs2 AK
                cases hri : Plain.reads (z : Int) i with
                | false =>
                  rw [hri, if_neg (by decide)] at hbi
                  clear hri hbk sg1 sg2 ly1 ly2
                  go_wp2
                  go_quiet (fail)
                  go_wp2
                  go_roundg (4 - (k + 1))
                  case measure => omega
                  case rel => exact ⟨k + 1, by omega, by omega, by go_num, (show Aside _ from below_drewN HK.out _)⟩
                | true =>
                  rw [hri, if_pos rfl] at hbi
                  cases hrk : Plain.reads (z : Int) k with
                  | false =>
                    rw [hrk, if_neg (by decide)] at hbk
                    clear hri hrk sg1 sg2 ly1 ly2
                    go_wp2
                    go_quiet (fail)
                    go_wp2
                    go_roundg (4 - (k + 1))
                    case measure => omega
                    case rel => exact ⟨k + 1, by omega, by omega, by go_num, (show Aside _ from below_drewN HK.out _)⟩
                  | true =>
                    rw [hrk, if_pos rfl] at hbk
                    have he := LE.out i k j hlt hltk (by rw [HLl.out]; exact hltj) (by rw [EZ.out]; exact hri) (by rw [EZ.out]; exact hrk)
                    have l8 := LG.out i j
                    rw [← he] at y2 sg2
                    have KS := fun q => keep.same_any (.slice p1' (s i j).length d1') (.slice p2' (s i j).length d2') (s i j) (by omega) (wr.drewN q) (sg1.below (below_drewN (Below.refl _ _) q) ly1) (sg2.below (below_drewN (Below.refl _ _) q) (by rw [he]; exact ly2))
                    generalize (s i j).length = ln at *
                    clear hri hrk sg1 sg2 ly1 ly2 he l8
                    go_wp2
                    go_quiet ((go_at_call 17; exact Calls.quiet_of (KS _)))
                    go_wp2
                    go_roundg (4 - (k + 1))
                    case measure => omega
                    case rel => exact ⟨k + 1, by omega, by omega, by go_num, (show Aside _ from below_drewN HK.out _)⟩
              · have hltkz : ¬ (k : Int) < 4 := by omega
                have HK := hid AK.out
                clear AK
                go_wp2
                go_roundg (3 - (j + 1))
                case measure => omega
                case rel => exact ⟨j + 1, by omega, by omega, by go_num, (show Aside _ from HK.out)⟩
        · have hltjz : ¬ (j : Int) < 3 := by omega
          have HJ := hid AJ.out
          clear AJ
          go_wp2
          go_roundg (4 - (i + 1))
          case measure => omega
          case rel => exact ⟨i + 1, by omega, by omega, by go_num, (show Aside _ from HJ.out)⟩
    · have hltz : ¬ (i : Int) < 4 := by omega
      have F := hid (show Below w.heap.size w wr by rw [← HBB.out]; exact BW6.out.trans (AI.out.mono (by have := BW6.out.size; rw [← HBB.out] at this; exact this)))
      clear AI
      go_wp2
      go_ret
      exact ⟨rfl, F.out⟩

set_option maxRecDepth 100000 in
theorem lifted (os : Os) (started : os.Started) (H : Type) (enc : TypeId × Value → H) :
    ReturnsInHanded {} Try.checked os 4 .any (Rows.gossipMeetsSpec.pre6 enc Try.prog Try.f4 Rows.gossipMeetsRow.domain false) (Rows.gossipMeetsSpec.post enc Try.prog Try.f4 false true false false) := by
  refine returnsInHanded_of_change (C := Try.checked) own started (by kernel_rfl) Try.func4
    (ChangeSpec.witness6 (enc := enc) (C := Try.checked) false ⟨#[], #[.slice none 0 0, .slice none 0 0], []⟩ 8 (by kernel_rfl) (by kernel_rfl) (by kernel_rfl) (by kernel_rfl)) ?_
  intro W base args ds gs before hval0 hW hcnd _
  have hval : ∀ (j : Nat) t v, Try.f4.params[j]? = some t → args[j]? = some v → Value.okWide Try.prog W .any base t v := hval0
  have hW' := hW
  obtain ⟨p, q, hA0, hV, rfl, hfz, hnd⟩ := hW
  have hA : DataW.TrodAll enc Try.prog W 0 (fun _ => true) true Try.f4.params.toList args.toList ds p := hA0
  rw [Try.params4] at hA hval
  obtain ⟨v0, vs0, d0, ds0, p0, q0, hargs, rfl, rfl, h0, r0⟩ := trodAll_cons hA
  obtain ⟨v1, vs1, d1, ds1, p1, q1, rfl, rfl, rfl, h1, r1⟩ := trodAll_cons r0
  obtain ⟨rfl, rfl, rfl⟩ := trodAll_nil r1
  obtain rfl : args = #[v0, v1] := by cases args; simp_all
  obtain ⟨rfl, rfl⟩ := trodVars_none hV
  obtain ⟨a0, len0, cap0, rfl⟩ := okWide_slice Try.underlying22 (hval 0 22 v0 rfl rfl)
  have k0 := h0
  have lt0 : ∀ x ∈ p0, x.block < W.heap.size := by obtain ⟨m, hm⟩ := k0; exact DataW.trod_lt m _ _ _ hm
  obtain ⟨l0, hl0, hc0, hm0, hr0, y0, s0⟩ := ints_seg h0
  obtain ⟨a1, len1, cap1, rfl⟩ := okWide_slice Try.underlying32 (hval 1 32 v1 rfl rfl)
  have k1 := h1
  have lt1 : ∀ x ∈ p1, x.block < W.heap.size := by obtain ⟨m, hm⟩ := k1; exact DataW.trod_lt m _ _ _ hm
  obtain ⟨l1, s1, ri1⟩ := tus_open Try.underlying32 Try.underlying48 (by kernel_rfl) ⟨rfl, by intro j f hj; rcases j with _ | _ | _ | _ | _ | _ | j <;> simp at hj <;> subst hj <;> exact ⟨rfl, by kernel_rfl, Try.underlying3⟩⟩ h1
  clear hA0 hval0
  refine (walk W _ l0 (by omega) hr0 s0 y0 _ l1 s1 ri1).mono fun e W' ⟨he, bel⟩ => ?_
  subst he
  exact ⟨_, rfl, _, _, _, [], _, [], hW', trodAll_mk1 (shut_bool Try.underlying4 _), (trodAll_cons_mk (Below.trod laidOut (by kernel_rfl) (of_decide_eq_true (by kernel_rfl)) k0 bel lt0) (trodAll_cons_mk (Below.trod laidOut (by kernel_rfl) (of_decide_eq_true (by kernel_rfl)) k1 bel lt1) trodAll_mk0)), rfl, bel.frame _, fun h => by cases h⟩

theorem over : Rows.gossipMeetsRow.holds Try.pinned (OpenSpec.ofChange Rows.gossipMeetsSpec) :=
  OpenClaim.holds_of_wide 4 Try.f4 rfl rfl rfl rfl rfl rfl rfl ⟨rfl, rfl, rfl, rfl, rfl⟩ rfl rfl rfl rfl rfl (by kernel_rfl) Try.func4 (by kernel_rfl)
    (of_decide_eq_true (by kernel_rfl)) (by unfold Func.isWrapper; first | (rw [if_pos (by decide +kernel)]; kernel_rfl) | (rw [if_neg (by decide +kernel)]; exact ⟨rfl, rfl⟩))
    (fun os started H enc _ => lifted os started H enc)

end gossipMeets

theorem gossipMeets_holds : Rows.GossipMeetsSaid := gossipMeets.over
#print axioms gossipMeets_holds
end Go.Proofs.Ytiolkeghgodggak

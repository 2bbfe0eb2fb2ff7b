/- GossipErases: what was erased by one who knew all is gone everywhere, however often older things are told: whatever the labels and the turns, who erases, the key and the value. No condition. -/
import Derived.Test.YtiolkeghgodggakRows
import Derived.WalkKit
import Derived.ProofKit
import Derived.OpenShut
import Derived.WalkSmall
import Derived.ShutString
import Derived.ChangeOld
import Derived.Below
import Derived.Test.YtiolkeghgodggakGi
namespace Go.Proofs.Ytiolkeghgodggak
namespace gossipErases
open Go.ChangeShapes Go.WideShapes Go.ChangeAt Go.RowKit
set_option linter.unusedVariables false

theorem own : ownKnob Try.prog.godebug = none := by kernel_rfl
theorem laidOut : laidOutB Try.prog = true := by kernel_rfl

theorem ints_seg {H : Type} {enc : TypeId × Value → H} {W : World} {d : DataW H} {p : List MemPlace} {a : Option Addr} {len cap : Nat} (h : DataW.Trod enc Try.prog W 0 (fun _ => true) true 22 (.slice a len cap) d p) :
    ∃ l : List Int, l.length = len ∧ len ≤ cap ∧ cap ≤ 9223372036854775807 ∧ (∀ n ∈ l, (Lit.int .i64 n).wf = true) ∧ Lies W.heap.size (.slice a len cap) ∧ Seg W (.slice a len cap) l := by
  obtain ⟨fuel, hf⟩ := h
  rcases open_ints Try.underlying22 Try.underlying3 (by kernel_rfl) hf with ⟨hcs, _⟩ | ⟨x, l, c, zs, hcs, _, hl, hm, hz, _, hcell, hwz⟩
  · simp [Value.cells] at hcs
    obtain ⟨rfl, rfl, rfl⟩ := hcs
    exact row_seg (zs := []) (.inl ⟨rfl, rfl, rfl, rfl⟩)
  · simp [Value.cells] at hcs
    obtain ⟨rfl, rfl, rfl⟩ := hcs
    exact row_seg (.inr ⟨_, rfl, hl, hm, by simpa using hz, hcell, hwz⟩)

set_option maxHeartbeats 4000000 in
set_option maxRecDepth 100000 in
theorem walk (w : World) (v0 : Value) (l0 : List Int) (hm0 : l0.length ≤ 9223372036854775807) (hr0 : ∀ n ∈ l0, (Lit.int .i64 n).wf = true) (s0 : Seg w v0 l0) (y0 : Lies w.heap.size v0) (v1 : Value) (l1 : List Plain.Tu) (s1 : SegT w v1 l1) (r1 : ∀ j, j < l1.length → InT (l1.getD j default)) (a2 : Int) (w2 : -9223372036854775808 ≤ a2 ∧ a2 ≤ 9223372036854775807) (a3 : Int) (w3 : -9223372036854775808 ≤ a3 ∧ a3 ≤ 9223372036854775807) (a4 : Int) (w4 : -9223372036854775808 ≤ a4 ∧ a4 ≤ 9223372036854775807) :
    Calls Try.prog 8 #[v0, v1, .int .i64 a2, .int .i64 a3, .int .i64 a4] w fun e w' => e = .returned (.bool true) ∧ Below w.heap.size w w' := by
  obtain ⟨p0, c0, rfl, NM0⟩ := seg_nums s0 y0
  obtain ⟨hb1, p1, c1, rfl, HT1⟩ := s1
  have K1 := labels_c p0 l0.length c0 l0 hm0 rfl (wf_bounds hr0) w NM0
  have hLl := Plain.labsF_len l0
  have hLi := Plain.labsF_in l0
  have K2 := fun W (b : Below w.heap.size w W) => turns_c p1 l1.length c1 40 l1 (by omega) hb1 W rfl (HT1.grow b) r1
  have hTm := Plain.turnsF_may l1 40
  have hTl := Plain.turnsF_len l1 40
  have KW := fun W => picked_any a2 4 w2.1 w2.2 (by omega) (by omega) W
  have KY := fun W => picked_any a3 5 w3.1 w3.2 (by omega) (by omega) W
  have KV := fun W => picked_any a4 9 w4.1 w4.2 (by omega) (by omega) W
  have hqw : 0 ≤ a2 % 4 ∧ a2 % 4 < 4 := by omega
  have hqy : 0 ≤ a3 % 5 ∧ a3 % 5 < 5 := by omega
  have hqv : 0 ≤ a4 % 9 ∧ a4 % 9 < 9 := by omega
  generalize a2 % 4 = xw at *
  generalize a3 % 5 = xy at *
  generalize a4 % 9 = xv at *
  obtain ⟨wn, rfl⟩ : ∃ wn : Nat, xw = (wn : Int) := ⟨xw.toNat, by omega⟩
  have hwn : wn < 4 := by omega
  generalize Plain.labsF l0 = L0 at *
  generalize Plain.turnsF l1 40 = ts at *
  obtain ⟨z0, ez0, hz0⟩ := labAt_lt (L := L0) (fun x hx => by have := hLi x hx; omega) 0
  have hpz : ((2 ^ wn : Nat) : Int) = (2 : Int) ^ wn := by simp
  have hp0 : (0 : Int) ≤ 2 ^ wn := Int.pow_nonneg (by decide)
  have hp8 : (2 : Int) ^ wn ≤ 8 := by
    have h2 : 2 ^ wn ≤ 2 ^ 3 := Nat.pow_le_pow_right (by decide) (by omega)
    omega
  have hor := LabP.or_nat z0 (2 ^ wn) (by omega) (by omega)
  rw [hpz] at hor
  obtain ⟨L, hL⟩ : ∃ L, L = Plain.labO L0 wn := ⟨_, rfl⟩
  have hLz : Plain.labAt L 0 = ((z0 ||| 2 ^ wn : Nat) : Int) := by rw [hL, Plain.labO_zero L0 wn (by omega), ez0, Int.toNat_natCast]
  have HLl := hid (show L.length = 3 by rw [hL, Plain.labO_len]; exact hLl)
  have HLi := hid (show ∀ x, x ∈ L → 0 ≤ x ∧ x < 16 by rw [hL]; exact Plain.labO_in hLi (by omega) hwn)
  have HRW := hid (show Plain.reads (Plain.labAt L 0) wn = true by rw [hL]; exact Plain.labO_reads L0 wn (by omega))
  have HLR := hid (show ∀ W : World, ∀ b, W.rowIs b 3 3 (rowV (Plain.labAt L0)) → (W.setCell ⟨b, 0, none⟩ (.int .i64 (Plain.labAt L 0))).rowIs b 3 3 (rowV (Plain.labAt L)) from fun W b h => (h.set 0 (.int .i64 (Plain.labAt L 0))).congr fun j hj => by
    by_cases e : j = 0
    · rw [if_pos e, e]; rfl
    · rw [if_neg e]
      unfold rowV
      rw [hL, Plain.labO_other L0 wn e])
  rw [hLz] at HLR
  generalize hzz : ((z0 ||| 2 ^ wn : Nat) : Int) = zz at hor HLR hLz
  have HTm := hid hTm
  have HOR := hid hor
  have HP := hid (And.intro hp0 hp8)
  have HVV := hid (show bits .or .i64 (z0 : Int) (IntKind.i64.wrap ((2 : Int) ^ wn)) = zz by rw [show IntKind.i64.wrap ((2 : Int) ^ wn) = (2 : Int) ^ wn by rw [IntKind.wrap_i64]; omega]; exact hor)
  have EZ0 := hid ez0
  clear NM0 HT1 hLl hLi hTm s0 y0 r1 hr0 hL hpz hp0 hp8 hor ez0 hzz w2 w3 w4
  obtain ⟨B, hB⟩ : ∃ B, B = w.heap.size := ⟨_, rfl⟩
  rw [← hB] at K1 K2
  have HBB := hid hB
  clear hB
  go_enter Try.func8, Try.ntmps8
  go_wp2_with fail
  refine K1.mono ?_
  rintro e W1 ⟨rfl, hr1, hb1⟩
  have R1 := hid hr1
  have B1 := hid hb1
  have l0c := hr1.cell (i := 0) (by omega)
  have l0z := hr1.frozen 0
  unfold rowV at l0c
  rw [EZ0.out] at l0c
  clear hr1 hb1 K1
  go_wp2_with fail
  refine (KW _).mono ?_
  rintro e wx ⟨rfl, hx⟩
  have hy := hx.symm
  clear hx KW
  subst hy
  have hp0 := HP.out.1
  have hp8 := HP.out.2
  have hor := HOR.out
  go_wp2
  go_cut [31] (fun _ wx => Aside (wx.rowIs B 3 3 (rowV (Plain.labAt L))) ∧ Aside (Below B w wx))
  case first =>
    go_region
    all_goals (try go_wp2_with fail)
    all_goals go_meet
    all_goals exact ⟨(show Aside _ from by first | (rw [HVV.out]; exact (HLR.out _ _ R1.out).of_block rfl) | exact (HLR.out _ _ R1.out).of_block rfl), (show Aside _ from (B1.out.setCell (p := ⟨B, 0, none⟩) (Nat.le_refl B) _).drew)⟩
  case rest =>
    obtain ⟨AR, AB⟩ := hcut
    have RW2 := hid AR.out
    have BW2 := hid AB.out
    clear AR AB R1 B1 l0c l0z hp0 hp8 hor HLR HOR HP
    obtain ⟨W2, hW2⟩ : ∃ W2, W2 = wc := ⟨_, rfl⟩
    rw [← hW2] at RW2 BW2 ⊢
    clear hW2
    go_wp2_with fail
    refine (KY _).mono ?_
    rintro e wx ⟨rfl, hx⟩
    have hy := hx.symm
    clear hx KY
    subst hy
    go_wp2_with fail
    refine (K2 W2 BW2.out).mono ?_
    rintro e W3 ⟨q3, c3, rfl, hT3⟩
    have T3 := hid hT3
    have KR := round_c 2 (by omega) W3
    obtain ⟨N, hN⟩ : ∃ N, N = ts.length := ⟨_, rfl⟩
    rw [← hN] at hTl ⊢
    have HN := hid hN
    clear hN hT3 K2
    go_wp2_with fail
    refine KR.mono ?_
    rintro e W4 ⟨q4, c4, rfl, hT4⟩
    obtain ⟨q4', c4', e4, hn4, hh4⟩ := hT4.form
    rw [Value.slice.injEq] at e4
    obtain ⟨rfl, el4, rfl⟩ := e4
    have hR2 : (Plain.telL (Plain.rndP 2)).length = 32 := by rw [← el4]
    have HR2 := hid hR2
    have T4 := hid (T3.out.grow hT4.be)
    obtain ⟨q5, c5, W5, r5, t5⟩ := T4.out.app (m := 2 * 16) (c := c4) hh4 el4.symm hn4 (by rw [← HN.out]; omega)
    rw [← HN.out] at r5 t5
    obtain ⟨n5, hn5⟩ : ∃ n5, n5 = N + 2 * 16 := ⟨_, rfl⟩
    rw [← hn5] at r5 t5
    have hn5b : n5 ≤ 72 := by omega
    have RUN5 := hid r5
    have T5 := hid t5
    have hl5 : (ts ++ Plain.telL (Plain.rndP 2)).length = n5 := by rw [List.length_append, ← HN.out, hR2, hn5]
    have HN5 := hid hn5
    clear hn5
    clear KR hT4 hn4 hh4 r5 t5 T3 T4 hR2 el4
    go_wp2_with (first | (at_builtin; refine wpList_app _ _ 23 RUN5.out (by rfl) (by rfl) (by rfl) (by rfl) (by rfl) ?_) | fail)
    refine (KV _).mono ?_
    rintro e wx ⟨rfl, hx⟩
    have hy := hx.symm
    clear hx KV
    subst hy
    obtain ⟨V5, hV5⟩ : ∃ V5, V5 = W5.alloc (.cells #[.int .i64 1, .int .i64 (wn : Int), .int .i64 0, .int .i64 0, .int .i64 xy, .int .i64 xv, .int .i64 2, .int .i64 (wn : Int), .int .i64 0, .int .i64 0, .int .i64 xy, .int .i64 0] 44) := ⟨_, rfl⟩
    have hh5 : encT.Holds V5 (some ⟨W5.heap.size, 0, none⟩) [Plain.wrC wn xy xv, Plain.erC wn xy] := fun _ => by
      refine ⟨W5.heap.size, 0, rfl, by rw [hV5]; simp, fun j u hu => ?_⟩
      rw [hV5, World.cell?_alloc_at _ _ _ _ (by rfl), Nat.zero_add]
      rw [show encT.vals [Plain.wrC wn xy xv, Plain.erC wn xy] = [.int .i64 1, .int .i64 (wn : Int), .int .i64 0, .int .i64 0, .int .i64 xy, .int .i64 xv, .int .i64 2, .int .i64 (wn : Int), .int .i64 0, .int .i64 0, .int .i64 xy, .int .i64 0] from rfl] at hu
      simpa using hu
    have T5b := T5.out.grow (show Below W5.heap.size W5 V5 by rw [hV5]; exact (Below.refl _ _).alloc (Nat.le_refl _) _)
    obtain ⟨q6, c6, W6, r6, t6⟩ := T5b.app (m := 2) (c := 2) hh5 rfl (fun e => by cases e) (by rw [hl5]; omega)
    rw [hl5] at r6 t6
    rw [hV5] at r6
    have RUN6 := hid r6
    have T6 := hid t6
    obtain ⟨TS6, hTS6⟩ : ∃ TS6, TS6 = ts ++ Plain.telL (Plain.rndP 2) ++ [Plain.wrC wn xy xv, Plain.erC wn xy] := ⟨_, rfl⟩
    rw [← hTS6] at T6
    have HL6 := hid (show TS6.length = n5 + 2 by rw [hTS6, List.length_append, hl5]; rfl)
    have HTS6 := hid hTS6
    clear r6 t6 hTS6 T5 RUN5 T5b hh5 hV5
    have KR := round_c 2 (by omega) W6
    go_wp2_with (first | (at_builtin; refine wpList_app _ _ 23 RUN6.out (by rfl) (by rfl) (by rfl) (by rfl) (by rfl) ?_) | fail)
    refine KR.mono ?_
    rintro e W7 ⟨q7, c7, rfl, hT7⟩
    obtain ⟨q7', c7', e7, hn7, hh7⟩ := hT7.form
    rw [Value.slice.injEq] at e7
    obtain ⟨rfl, el7, rfl⟩ := e7
    have T7 := hid (T6.out.grow hT7.be)
    obtain ⟨q8, c8, W8, r8, t8⟩ := T7.out.app (m := 2 * 16) (c := c7) hh7 el7.symm hn7 (by rw [HL6.out]; omega)
    rw [HL6.out] at r8 t8
    obtain ⟨n8, hn8e⟩ : ∃ n8, n8 = (n5 + 2) + 2 * 16 := ⟨_, rfl⟩
    rw [← hn8e] at r8 t8
    have hn8b : n8 ≤ 200 := by omega
    have hn8c : n5 + 32 < n8 := by omega
    clear hn8e
    have RUN8 := hid r8
    obtain ⟨q8', c8', e8, hn8, hh8⟩ := t8.form
    rw [Value.slice.injEq] at e8
    obtain ⟨rfl, el8, rfl⟩ := e8
    have BW8 := hid (BW2.out.trans (t8.be.mono (by have := BW2.out.size; rw [← HBB.out] at this; exact this)))
    have RW8 := hid (RW2.out.of_block (t8.be.block _ RW2.out.lt))
    have KG := gossiped_c (some ⟨B, 0, none⟩) 3 3 q8 n8 c8 L (TS6 ++ Plain.telL (Plain.rndP 2)) (by omega) (by omega) HLl.out el8.symm HLi.out W8 (row_nums RW8.out HLl.out) (fun e => by cases e) hh8 hn8
    clear KR hT7 hn7 hh7 r8 t8 T6 T7 hn8 hh8 el7 el8
    go_wp2_with (first | (at_builtin; refine wpList_app _ _ 23 RUN8.out (by rfl) (by rfl) (by rfl) (by rfl) (by rfl) ?_) | fail)
    refine KG.mono ?_
    intro e W9 h9
    obtain ⟨a9, d9, q9, e9, rfl, hn9, hs9, hb9⟩ := h9
    have N9 := hid hn9
    have S9 := hid hs9
    have B9 := hid (BW8.out.trans (hb9.mono (by have := BW8.out.size; rw [← HBB.out] at this; exact this)))
    have R9 := hid (RW8.out.of_block (hb9.block _ RW8.out.lt))
    clear hn9 hs9 hb9 KG RUN8 BW8 RW8 RW2 BW2
    have LAW := hid (Plain.erases_law (L := L) (by rw [HLl.out]; omega) ts (by rw [← HN.out]; omega) HTm.out hwn hqy hqv HRW.out)
    have HCD := hid (Plain.code_last 4 L Plain.Stt.nil (ts ++ Plain.telL (Plain.rndP 2)) (Plain.telL (Plain.rndP 2)) (Plain.wrC wn xy xv) (Plain.erC wn xy))
    rw [LAW.out.1, ← HTS6.out, hl5] at HCD
    have LW2 := hid LAW.out.2
    rw [← HTS6.out] at LW2
    have RG := hid (Plain.run_ok (L := L) (TS6 ++ Plain.telL (Plain.rndP 2)) (by rw [List.length_append, HL6.out, HR2.out]; omega))
    obtain ⟨cb, cof, ecb, _, hcc⟩ := N9.out (by rw [Plain.cz_len, Plain.goF_len, List.length_append, HL6.out]; omega)
    subst ecb
    have cc := hcc (n5 + 1) (by rw [Plain.cz_len, Plain.goF_len, List.length_append, HL6.out, HR2.out]; omega)
    rw [Plain.cz_at _ (by rw [Plain.goF_len, List.length_append, HL6.out, HR2.out]; omega), HCD.out] at cc
    have cc2 : W9.cell? ⟨cb, cof + (n5 + 1), none⟩ = some (.int .i64 0) := cc
    have hn58 : n5 + 1 < n8 := by omega
    have hw1 : (n5 : Int) + 2 - 1 = ((n5 + 1 : Nat) : Int) := by omega
    clear hcc cc LAW HCD N9
    generalize Plain.stF 4 L Plain.Stt.nil (TS6 ++ Plain.telL (Plain.rndP 2)) = s at *
    obtain ⟨z, ez, hz⟩ := labAt_lt (L := L) (fun x hx => by have := HLi.out x hx; omega) 0
    have EZ := hid ez
    clear ez hl5
    go_wp2
    clear cc2 hw1 hn58
    go_loopg [18, 19, 20] 4 (fun gg s18 _ _ wx => ∃ i : Nat, i ≤ 4 ∧ 4 - i ≤ gg ∧ s18 = .int .i64 i ∧ wx = W9)
    case atStart => exact ⟨0, Nat.zero_le _, by omega, rfl, rfl⟩
    case round =>
      obtain ⟨i, hi4, hg, rfl, hw⟩ := hrel
      have hyw := hw.symm
      clear hw
      subst hyw
      by_cases hlt : i < 4
      · have hltz : (i : Int) < 4 := by omega
        have l0 := R9.out.cell (i := 0) (by omega)
        unfold rowV at l0
        rw [EZ.out] at l0
        have hbi := bit_num z i hz
        have l8 := RG.out.len i 0
        have HSR := hid (RG.out.srt i 0)
        obtain ⟨b, off, eq9, hb, hr⟩ := S9.out.place (by omega) (by omega)
        obtain ⟨g, k0, n0, hg0, x1, hs⟩ := hr i hlt
        obtain ⟨pp, dd, x2, sg, ly⟩ := hs 0 (by omega)
        subst eq9
        have SG := hid sg
        have LWI := hid (LW2.out i hlt)
        rw [EZ.out] at LWI
        rw [Nat.add_zero] at x2
        clear hr hs sg ly
        obtain ⟨ll, hll⟩ : ∃ ll, ll = s i 0 := ⟨_, rfl⟩
        rw [← hll] at l8 x2 SG HSR LWI
        clear hll
        obtain ⟨len, hlen⟩ : ∃ len, len = ll.length := ⟨_, rfl⟩
        rw [← hlen] at l8 x2 SG
        have HLN := hid hlen
        clear hlen
        go_wp2
        go_loopg [19, 20] len (fun gg s19 s20 wx => ∃ (k : Nat) (f : Bool), k ≤ len ∧ len - k ≤ gg ∧ s20 = .int .i64 k ∧ s19 = .bool f ∧ Aside (f = Plain.fndG xy (ll.take k)) ∧ wx = W9)
        case atStart => exact ⟨0, false, Nat.zero_le _, by omega, rfl, rfl, (show Aside _ from rfl), rfl⟩
        case round =>
          obtain ⟨k, f, hkl, hgk, rfl, rfl, HF, hw⟩ := hrel
          have hyw := hw.symm
          clear hw
          subst hyw
          by_cases hltk : k < len
          · have hltkz : (k : Int) < (len : Int) := by omega
            have hkll : k < ll.length := by rw [← HLN.out]; exact hltk
            obtain ⟨gb, gof, gc, eg, _, gcells⟩ := SG.out.some (by omega)
            rw [Value.slice.injEq] at eg
            obtain ⟨rfl, _, rfl⟩ := eg
            have cy0 := (gcells k hkll).c0
            have cy4 := (gcells k hkll).c4
            have HT := hid (Plain.fndG_take xy ll k hkll)
            clear gcells
            generalize Plain.en ll k = y at cy0 cy4 HT
            obtain ⟨yk, yv, yt, yo, yg⟩ := y
            dsimp only at cy0 cy4 HT
            by_cases hk : yk = xy
            · have HNX := hid (show yg = Plain.fndG xy (ll.take (k + 1)) by rw [HT.out, if_pos hk])
              have hkb : (yk == xy) = true := by simpa using hk
              clear HT HF hk
              go_wp2
              go_roundg (len - (k + 1))
              case measure => omega
              case rel => exact ⟨k + 1, yg, by omega, by omega, by go_num, rfl, (show Aside _ from HNX.out), rfl⟩
            · have HNX := hid (show f = Plain.fndG xy (ll.take (k + 1)) by rw [HT.out, if_neg hk]; exact HF.out)
              have hkb : (yk == xy) = false := by simpa using hk
              clear HT HF hk
              go_wp2
              go_roundg (len - (k + 1))
              case measure => omega
              case rel => exact ⟨k + 1, f, by omega, by omega, by go_num, rfl, (show Aside _ from HNX.out), rfl⟩
          · have hltkz : ¬ (k : Int) < (len : Int) := by omega
            have hft : f = Plain.fndG xy ll := by rw [HF.out, List.take_of_length_le (by rw [← HLN.out]; omega)]
            clear HF
            cases hri : Plain.reads (z : Int) i with
            | false =>
              rw [hri, if_neg (by decide)] at hbi
              clear hri hft
              go_wp2
              go_roundg (4 - (i + 1))
              case measure => omega
              case rel => exact ⟨i + 1, by omega, by omega, by go_num, rfl⟩
            | true =>
              rw [hri, if_pos rfl] at hbi
              obtain ⟨e, he1, _, he3⟩ := LWI.out hri
              have hf2 : f = true := by rw [hft]; unfold Plain.fndG; rw [Plain.fnd_look HSR.out he1, he3]
              clear hri hft he1 he3
              subst hf2
              go_wp2
              go_roundg (4 - (i + 1))
              case measure => omega
              case rel => exact ⟨i + 1, by omega, by omega, by go_num, rfl⟩
      · have hltz : ¬ (i : Int) < 4 := by omega
        have F := hid (show Below w.heap.size w W9 by rw [← HBB.out]; exact B9.out)
        go_wp2
        go_ret
        exact ⟨rfl, F.out⟩

set_option maxRecDepth 100000 in
theorem lifted (os : Os) (started : os.Started) (H : Type) (enc : TypeId × Value → H) :
    ReturnsInHanded {} Try.checked os 8 .any (Rows.gossipErasesSpec.pre6 enc Try.prog Try.f8 Rows.gossipErasesRow.domain false) (Rows.gossipErasesSpec.post enc Try.prog Try.f8 false true false false) := by
  refine returnsInHanded_of_change (C := Try.checked) own started (by kernel_rfl) Try.func8
    (ChangeSpec.witness6 (enc := enc) (C := Try.checked) false ⟨#[], #[.slice none 0 0, .slice none 0 0, .int .i64 0, .int .i64 0, .int .i64 0], []⟩ 8 (by kernel_rfl) (by kernel_rfl) (by kernel_rfl) (by kernel_rfl)) ?_
  intro W base args ds gs before hval0 hW hcnd _
  have hval : ∀ (j : Nat) t v, Try.f8.params[j]? = some t → args[j]? = some v → Value.okWide Try.prog W .any base t v := hval0
  have hW' := hW
  obtain ⟨p, q, hA0, hV, rfl, hfz, hnd⟩ := hW
  have hA : DataW.TrodAll enc Try.prog W 0 (fun _ => true) true Try.f8.params.toList args.toList ds p := hA0
  rw [Try.params8] at hA hval
  obtain ⟨v0, vs0, d0, ds0, p0, q0, hargs, rfl, rfl, h0, r0⟩ := trodAll_cons hA
  obtain ⟨v1, vs1, d1, ds1, p1, q1, rfl, rfl, rfl, h1, r1⟩ := trodAll_cons r0
  obtain ⟨v2, vs2, d2, ds2, p2, q2, rfl, rfl, rfl, h2, r2⟩ := trodAll_cons r1
  obtain ⟨v3, vs3, d3, ds3, p3, q3, rfl, rfl, rfl, h3, r3⟩ := trodAll_cons r2
  obtain ⟨v4, vs4, d4, ds4, p4, q4, rfl, rfl, rfl, h4, r4⟩ := trodAll_cons r3
  obtain ⟨rfl, rfl, rfl⟩ := trodAll_nil r4
  obtain rfl : args = #[v0, v1, v2, v3, v4] := by cases args; simp_all
  obtain ⟨rfl, rfl⟩ := trodVars_none hV
  obtain ⟨a0, len0, cap0, rfl⟩ := okWide_slice Try.underlying22 (hval 0 22 v0 rfl rfl)
  have k0 := h0
  have lt0 : ∀ x ∈ p0, x.block < W.heap.size := by obtain ⟨m, hm⟩ := k0; exact DataW.trod_lt m _ _ _ hm
  obtain ⟨l0, hl0, hc0, hm0, hr0, y0, s0⟩ := ints_seg h0
  obtain ⟨a1, len1, cap1, rfl⟩ := okWide_slice Try.underlying32 (hval 1 32 v1 rfl rfl)
  have k1 := h1
  have lt1 : ∀ x ∈ p1, x.block < W.heap.size := by obtain ⟨m, hm⟩ := k1; exact DataW.trod_lt m _ _ _ hm
  obtain ⟨l1, s1, ri1⟩ := tus_open Try.underlying32 Try.underlying48 (by kernel_rfl) ⟨rfl, by intro j f hj; rcases j with _ | _ | _ | _ | _ | _ | j <;> simp at hj <;> subst hj <;> exact ⟨rfl, by kernel_rfl, Try.underlying3⟩⟩ h1
  have k2 := h2
  have lt2 : ∀ x ∈ p2, x.block < W.heap.size := by obtain ⟨m, hm⟩ := k2; exact DataW.trod_lt m _ _ _ hm
  obtain ⟨a2, rfl, _, _, w2⟩ := open_int Try.underlying3 (hval 2 3 v2 rfl rfl) h2
  have k3 := h3
  have lt3 : ∀ x ∈ p3, x.block < W.heap.size := by obtain ⟨m, hm⟩ := k3; exact DataW.trod_lt m _ _ _ hm
  obtain ⟨a3, rfl, _, _, w3⟩ := open_int Try.underlying3 (hval 3 3 v3 rfl rfl) h3
  have k4 := h4
  have lt4 : ∀ x ∈ p4, x.block < W.heap.size := by obtain ⟨m, hm⟩ := k4; exact DataW.trod_lt m _ _ _ hm
  obtain ⟨a4, rfl, _, _, w4⟩ := open_int Try.underlying3 (hval 4 3 v4 rfl rfl) h4
  clear hA0 hval0
  refine (walk W _ l0 (by omega) hr0 s0 y0 _ l1 s1 ri1 a2 (bounds_i64 w2) a3 (bounds_i64 w3) a4 (bounds_i64 w4)).mono fun e W' ⟨he, bel⟩ => ?_
  subst he
  exact ⟨_, rfl, _, _, _, [], _, [], hW', trodAll_mk1 (shut_bool Try.underlying4 _), (trodAll_cons_mk (Below.trod laidOut (by kernel_rfl) (of_decide_eq_true (by kernel_rfl)) k0 bel lt0) (trodAll_cons_mk (Below.trod laidOut (by kernel_rfl) (of_decide_eq_true (by kernel_rfl)) k1 bel lt1) (trodAll_cons_mk (Below.trod laidOut (by kernel_rfl) (of_decide_eq_true (by kernel_rfl)) k2 bel lt2) (trodAll_cons_mk (Below.trod laidOut (by kernel_rfl) (of_decide_eq_true (by kernel_rfl)) k3 bel lt3) (trodAll_cons_mk (Below.trod laidOut (by kernel_rfl) (of_decide_eq_true (by kernel_rfl)) k4 bel lt4) trodAll_mk0))))), rfl, bel.frame _, fun h => by cases h⟩

theorem over : Rows.gossipErasesRow.holds Try.pinned (OpenSpec.ofChange Rows.gossipErasesSpec) :=
  OpenClaim.holds_of_wide 8 Try.f8 rfl rfl rfl rfl rfl rfl rfl ⟨rfl, rfl, rfl, rfl, rfl⟩ rfl rfl rfl rfl rfl (by kernel_rfl) Try.func8 (by kernel_rfl)
    (of_decide_eq_true (by kernel_rfl)) (by unfold Func.isWrapper; first | (rw [if_pos (by decide +kernel)]; kernel_rfl) | (rw [if_neg (by decide +kernel)]; exact ⟨rfl, rfl⟩))
    (fun os started H enc _ => lifted os started H enc)

end gossipErases

theorem gossipErases_holds : Rows.GossipErasesSaid := gossipErases.over
#print axioms gossipErases_holds
end Go.Proofs.Ytiolkeghgodggak

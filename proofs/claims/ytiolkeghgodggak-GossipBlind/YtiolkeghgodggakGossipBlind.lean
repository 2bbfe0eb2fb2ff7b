/- GossipBlind: what is written for others does not matter: whatever else is written, or erased, under labels in which none of some branches is, these have the same: whatever the labels and the turns, the branches, and what else is written. No condition. -/
import Derived.Test.YtiolkeghgodggakRows
import Derived.WalkKit
import Derived.ProofKit
import Derived.OpenShut
import Derived.WalkSmall
import Derived.ShutString
import Derived.ChangeOld
import Derived.Below
import Derived.Test.YtiolkeghgodggakGj
namespace Go.Proofs.Ytiolkeghgodggak
namespace gossipBlind
open Go.ChangeShapes Go.WideShapes Go.ChangeAt Go.RowKit
set_option linter.unusedVariables false

theorem own : ownKnob Try.prog.godebug = none := by kernel_rfl
theorem laidOut : laidOutB Try.prog = true := by kernel_rfl

theorem ints_seg {H : Type} {enc : TypeId × Value → H} {W : World} {d : DataW H} {p : List MemPlace} {a : Option Addr} {len cap : Nat} (h : DataW.Trod enc Try.prog W 0 (fun _ => true) true 22 (.slice a len cap) d p) :
    ∃ l : List Int, l.length = len ∧ len ≤ cap ∧ cap ≤ 9223372036854775807 ∧ (∀ n ∈ l, (Lit.int .i64 n).wf = true) ∧ Lies W.heap.size (.slice a len cap) ∧ Seg W (.slice a len cap) l := by
  obtain ⟨fuel, hf⟩ := h
  rcases open_ints Try.underlying22 Try.underlying3 (by kernel_rfl) hf with ⟨hcs, _⟩ | ⟨x, l, c, zs, hcs, _, hl, hm, hz, _, hcell, hwz⟩
  · simp [Value.cells] at hcs
    obtain ⟨rfl, rfl, rfl⟩ := hcs
    exact row_seg (zs := []) (.inl ⟨rfl, rfl, rfl, rfl⟩)
  · simp [Value.cells] at hcs
    obtain ⟨rfl, rfl, rfl⟩ := hcs
    exact row_seg (.inr ⟨_, rfl, hl, hm, by simpa using hz, hcell, hwz⟩)

set_option maxHeartbeats 4000000 in
set_option maxRecDepth 100000 in
theorem walk (w : World) (v0 : Value) (l0 : List Int) (hm0 : l0.length ≤ 9223372036854775807) (hr0 : ∀ n ∈ l0, (Lit.int .i64 n).wf = true) (s0 : Seg w v0 l0) (y0 : Lies w.heap.size v0) (v1 : Value) (l1 : List Plain.Tu) (s1 : SegT w v1 l1) (r1 : ∀ j, j < l1.length → InT (l1.getD j default)) (a2 : Int) (w2 : -9223372036854775808 ≤ a2 ∧ a2 ≤ 9223372036854775807) (v3 : Value) (l3 : List Plain.Tu) (s3 : SegT w v3 l3) (r3 : ∀ j, j < l3.length → InT (l3.getD j default)) :
    Calls Try.prog 6 #[v0, v1, .int .i64 a2, v3] w fun e w' => e = .returned (.bool true) ∧ Below w.heap.size w w' := by
  obtain ⟨p0, c0, rfl, NM0⟩ := seg_nums s0 y0
  obtain ⟨hb1, p1, c1, rfl, HT1⟩ := s1
  obtain ⟨hb3, p3, c3, rfl, HT3⟩ := s3
  have K1 := labels_c p0 l0.length c0 l0 hm0 rfl (wf_bounds hr0) w NM0
  have hLl := Plain.labsF_len l0
  have hLi := Plain.labsF_in l0
  have K2 := fun W (b : Below w.heap.size w W) => turns_c p1 l1.length c1 60 l1 (by omega) hb1 W rfl (HT1.grow b) r1
  have hTm := Plain.turnsF_may l1 60
  have hTl := Plain.turnsF_len l1 60
  have KC := fun W => picked_any a2 16 w2.1 w2.2 (by omega) (by omega) W
  have hqc : 0 ≤ a2 % 16 ∧ a2 % 16 < 16 := by omega
  generalize a2 % 16 = xc at *
  obtain ⟨cn, rfl⟩ : ∃ cn : Nat, xc = (cn : Int) := ⟨xc.toNat, by omega⟩
  have hcn : cn < 16 := by omega
  generalize Plain.labsF l0 = L at *
  generalize Plain.turnsF l1 60 = ts at *
  have HLl := hid hLl
  have HLi := hid hLi
  have HTm := hid hTm
  have HO := hid HT3
  have HR3 := hid r3
  clear NM0 HT1 hLl hLi hTm s0 y0 r1 hr0 HT3 r3 w2
  obtain ⟨B, hB⟩ : ∃ B, B = w.heap.size := ⟨_, rfl⟩
  rw [← hB] at K1 K2
  have HBB := hid hB
  clear hB
  go_enter Try.func6, Try.ntmps6
  go_wp2_with fail
  refine K1.mono ?_
  rintro e W1 ⟨rfl, hr1, hb1⟩
  have R1 := hid hr1
  have B1 := hid hb1
  clear hr1 hb1 K1
  go_wp2_with fail
  refine (KC _).mono ?_
  rintro e wx ⟨rfl, hx⟩
  have hy := hx.symm
  clear hx KC
  subst hy
  go_wp2_with fail
  refine (K2 W1 B1.out).mono ?_
  rintro e W3 ⟨q2, c2, rfl, hT2⟩
  obtain ⟨q2', c2', e2, hn2, hh2⟩ := hT2.form
  rw [Value.slice.injEq] at e2
  obtain ⟨rfl, _, rfl⟩ := e2
  have BW3 := hid (B1.out.trans (hT2.be.mono (by have := B1.out.size; rw [← HBB.out] at this; exact this)))
  have RW3 := hid (R1.out.of_block (hT2.be.block _ R1.out.lt))
  have HHW3 := hid hh2
  have HN2 := hid hn2
  clear hT2 hn2 hh2 K2 R1 B1
  obtain ⟨N, hN⟩ : ∃ N, N = ts.length := ⟨_, rfl⟩
  rw [← hN] at hTl ⊢
  have HN := hid hN
  clear hN
  obtain ⟨pb, cb, W4, r4, t4⟩ := copy_turns (c := c2) HHW3.out HN.out.symm HN2.out (by omega)
  have RUN4 := hid r4
  obtain ⟨pb', cb', e4, hn4, _⟩ := t4.form
  rw [Value.slice.injEq] at e4
  obtain ⟨rfl, en4, rfl⟩ := e4
  clear en4
  have HPB := hid hn4
  have B34 := hid t4.be
  have BI0 := hid (t4.bi HN.out)
  clear r4 t4 hn4
  obtain ⟨nO, hnO⟩ : ∃ nO, nO = l3.length := ⟨_, rfl⟩
  rw [← hnO] at hb3 ⊢
  have HNO := hid hnO
  clear hnO
  have hB3 : B ≤ W3.heap.size := by have := BW3.out.size; rw [← HBB.out] at this; exact this
  go_wp2_with (first | (at_builtin; refine wpList_app _ _ 23 RUN4.out (by rfl) (by rfl) (by rfl) (by rfl) (by rfl) ?_) | fail)
  clear RUN4
  go_loopg [13] N (fun gg s13 wx => ∃ k : Nat, k ≤ N ∧ k ≤ nO ∧ N - k ≤ gg ∧ s13 = .int .i64 k ∧ Aside (BI W3.heap.size wx pb N (Plain.blL L cn ts l3 k)) ∧ Aside (Below W3.heap.size W3 wx))
  case atStart => exact ⟨0, Nat.zero_le _, Nat.zero_le _, by omega, rfl, (show Aside _ from fun h0 => by
      obtain ⟨g, M, f, h1, h2, h3, h4, h5⟩ := BI0.out h0
      exact ⟨g, M, f, h1, h2, h3, h4, fun j q hj hq => by rw [h5 j q hj hq, Plain.blL_at L cn ts l3 0 (by rw [← HN.out]; exact hj), if_neg (by omega)]⟩), (show Aside _ from B34.out)⟩
  case round =>
    obtain ⟨k, hkN, hkO, hg, rfl, AB, AW⟩ := hrel
    clear BI0 B34
    by_cases hlt : k < N
    · have hltz : (k : Int) < (N : Int) := by omega
      by_cases hltO : k < nO
      · have hltOz : (k : Int) < (nO : Int) := by omega
        have hkt : k < ts.length := by rw [← HN.out]; exact hlt
        have hko : k < l3.length := by rw [← HNO.out]; exact hltO
        obtain ⟨g, M, f, hpb, hgB, hrow, hM, hf⟩ := AB.out (by omega)
        subst hpb
        obtain ⟨b3, o3, ep3, hb3b, hc3⟩ := holdsT (HO.out.grow (show Below w.heap.size w wr by rw [← HBB.out]; exact BW3.out.trans (AW.out.mono hB3))) (by omega)
        subst ep3
        obtain ⟨u0, u1, u2, u3, u4, u5⟩ := hc3 k hko
        have hInO := HR3.out k hko
        have hb3w : b3 < w.heap.size := by
          obtain ⟨b', o', e', h', _⟩ := HO.out (by omega)
          rw [Option.some.injEq, Addr.mk.injEq] at e'
          omega
        have hne3 : ¬ b3 = g := by rw [← HBB.out] at hb3w; omega
        have hMT := HTm.out _ (getD_mem ts default hkt)
        have HBL := hid (fun j (hj : j < N) => Plain.blL_at L cn ts l3 (k + 1) (i := j) (by rw [← HN.out]; exact hj))
        have HBK := hid (fun j (hj : j < N) => Plain.blL_at L cn ts l3 k (i := j) (by rw [← HN.out]; exact hj))
        have cell : ∀ q, q < 6 → wr.cell? ⟨g, k * 6 + q, none⟩ = some (tuF (ts.getD k default) q) := fun q hq => by
          rw [hrow.cell (i := k * 6 + q) (by omega), hf k q hlt hq, HBK.out k hlt, if_neg (by omega)]
        have d0 := cell 0 (by omega)
        have d3 := cell 3 (by omega)
        have d4 := cell 4 (by omega)
        have d5 := cell 5 (by omega)
        have HROW := hid hrow
        have HF := hid hf
        have AWH := hid AW.out
        have l0f := fun j (hj : j < 3) => (RW3.out.of_block (AW.out.block _ RW3.out.lt)).cell (i := j) hj
        clear cell hc3 hrow hf AB AW
        -- what comes of it, if the row turns in the cells of k
        have FIN := hid (fun (V : World) (y : Plain.Tu) (F : Nat → Value) (hV : V.rowIs g 44 M F) (hO : ∀ j, j < M → (j < k * 6 ∨ k * 6 + 6 ≤ j) → F j = f j) (hy : ∀ q, q < 6 → F (k * 6 + q) = tuF y q) (hyy : y = Plain.blT L cn (ts.getD k default) (l3.getD k default)) => show BI W3.heap.size V (some ⟨g, 0, none⟩) N (Plain.blL L cn ts l3 (k + 1)) from fun _ =>
          ⟨g, M, F, rfl, hgB, hV, hM, fun j q hj hq => by
            by_cases e : j = k
            · subst e
              rw [hy q hq, HBL.out j hj, if_pos ⟨by omega, by rw [← HNO.out]; omega⟩, hyy]
            · rw [hO (j * 6 + q) (by omega) (by omega), HF.out j q hj hq, HBK.out j hj, HBL.out j hj]
              by_cases h1 : j < k ∧ j < l3.length
              · rw [if_pos h1, if_pos ⟨by omega, h1.2⟩]
              · rw [if_neg h1, if_neg (fun x => h1 ⟨by omega, x.2⟩)]⟩)
        have HEQ := hid (show Plain.blT L cn (ts.getD k default) (l3.getD k default) = if (ts.getD k default).kind ≠ 3 ∧ (Plain.labAt L (ts.getD k default).label.toNat).toNat &&& cn = 0 then ⟨1 + (l3.getD k default).kind % 2, (ts.getD k default).who, (ts.getD k default).to, (ts.getD k default).label, (l3.getD k default).key % 5, if (l3.getD k default).kind % 2 = 0 then (l3.getD k default).value % 9 else 0⟩ else ts.getD k default from rfl)
        have HFK := hid (fun q (hq : q < 6) => show f (k * 6 + q) = tuF (ts.getD k default) q by rw [HF.out k q hlt hq, HBK.out k hlt, if_neg (by omega)])
        generalize Plain.blT L cn (ts.getD k default) (l3.getD k default) = yy at FIN HEQ
        generalize ts.getD k default = t at *
        generalize l3.getD k default = o at *
        obtain ⟨kd, wh, tz, la, ke, va⟩ := t
        obtain ⟨ok, ow, ot, ol, oy, ov⟩ := o
        dsimp only at u0 u1 u2 u3 u4 u5 hMT HEQ hInO
        have d0' : wr.cell? ⟨g, k * 6, none⟩ = some (.int .i64 kd) := d0
        have d3' : wr.cell? ⟨g, k * 6 + 3, none⟩ = some (.int .i64 la) := d3
        have d4' : wr.cell? ⟨g, k * 6 + 4, none⟩ = some (.int .i64 ke) := d4
        have d5' : wr.cell? ⟨g, k * 6 + 5, none⟩ = some (.int .i64 va) := d5
        clear d0 d3 d4 d5
        by_cases hk3 : kd = 3
        · have hkb : (kd != 3) = false := by rw [bne_eq_false_iff_eq]; exact hk3
          have NX := hid (FIN.out wr ⟨kd, wh, tz, la, ke, va⟩ f HROW.out (fun _ _ _ => rfl) (fun q hq => HFK.out q hq) (by rw [HEQ.out, if_neg (fun x => x.1 hk3)]))
          clear hk3 FIN HEQ hMT
          go_wp2
          go_roundg (N - (k + 1))
          case measure => omega
          case rel => exact ⟨k + 1, by omega, by omega, by omega, by go_num, (show Aside _ from NX.out), (show Aside _ from AWH.out)⟩
        have hkb : (kd != 3) = true := by rw [bne_iff_ne]; exact hk3
        have hla : 0 ≤ la ∧ la < 3 := by
          rcases hMT with ⟨_, _, h3, _⟩ | ⟨h2, _⟩
          · exact h3
          · exact absurd h2 hk3
        clear hMT
        obtain ⟨jn, rfl⟩ : ∃ jn : Nat, la = (jn : Int) := ⟨la.toNat, by omega⟩
        have hj3 : jn < 3 := by omega
        have hj3z : (jn : Int) < 3 := by omega
        have l0 := l0f jn hj3
        unfold rowV at l0
        obtain ⟨z, ez, hz⟩ := labAt_lt (L := L) (fun x hx => by have := HLi.out x hx; omega) jn
        rw [ez] at l0
        rw [Int.toNat_natCast, ez, Int.toNat_natCast] at HEQ
        have hand := LabP.and_nat z cn (by omega) (by omega)
        clear l0f hla ez
        by_cases hz0 : z &&& cn = 0
        case neg =>
          have NX := hid (FIN.out wr ⟨kd, wh, tz, (jn : Int), ke, va⟩ f HROW.out (fun _ _ _ => rfl) (fun q hq => HFK.out q hq) (by rw [HEQ.out, if_neg (fun x => hz0 x.2)]))
          have hzb : (((z &&& cn : Nat) : Int) == 0) = false := by rw [beq_eq_false_iff_ne]; omega
          generalize z &&& cn = zc at hand hzb
          clear FIN HEQ hk3 hz0
          go_wp2
          go_roundg (N - (k + 1))
          case measure => omega
          case rel => exact ⟨k + 1, by omega, by omega, by omega, by go_num, (show Aside _ from NX.out), (show Aside _ from AWH.out)⟩
        rw [hz0] at hand
        rw [if_pos ⟨hk3, hz0⟩] at HEQ
        have KY := fun W => picked_any oy 5 hInO.y.1 hInO.y.2 (by omega) (by omega) W
        have KK := fun W => picked_any ok 2 hInO.k.1 hInO.k.2 (by omega) (by omega) W
        have KV := fun W => picked_any ov 9 hInO.v.1 hInO.v.2 (by omega) (by omega) W
        have hq2 : 0 ≤ ok % 2 ∧ ok % 2 < 2 := by omega
        clear hInO hk3 hz0
        generalize oy % 5 = xy at *
        generalize ok % 2 = xk at *
        generalize ov % 9 = xv at *
        obtain ⟨kx, hkx⟩ : ∃ kx, 1 + xk = kx := ⟨_, rfl⟩
        have hw1 : IntKind.i64.wrap (1 + xk) = kx := by rw [IntKind.wrap_i64]; omega
        rw [hkx] at HEQ
        have z1 := HROW.out.frozen (k * 6 + 4)
        have e0 : (wr.setCell ⟨g, k * 6 + 4, none⟩ (.int .i64 xy)).cell? ⟨b3, o3 + k * 6, none⟩ = some (.int .i64 ok) := by rw [World.cell?_setCell_far _ _ _ _ (fun e => hne3 e.symm)]; exact u0
        go_wp2_with fail
        refine (KY _).mono ?_
        rintro e wx ⟨rfl, hx⟩
        have hy := hx.symm
        clear hx KY
        subst hy
        go_wp2_with fail
        refine (KK _).mono ?_
        rintro e wx ⟨rfl, hx⟩
        have hy := hx.symm
        clear hx KK
        subst hy
        obtain ⟨V1, hV1⟩ : ∃ V1, V1 = wr.setCell ⟨g, k * 6 + 4, none⟩ (.int .i64 xy) := ⟨_, rfl⟩
        have r1 := HROW.out.set (k * 6 + 4) (.int .i64 xy)
        have v5 : V1.cell? ⟨b3, o3 + k * 6 + 5, none⟩ = some (.int .i64 ov) := by rw [hV1, World.cell?_setCell_far _ _ _ _ (fun e => hne3 e.symm)]; exact u5
        have bV1 : Below W3.heap.size W3 V1 := by rw [hV1]; exact AWH.out.setCell (p := ⟨g, k * 6 + 4, none⟩) hgB _
        rw [← hV1] at r1 ⊢
        have r2 := r1.set (k * 6) (.int .i64 (kx))
        have r3 := r2.set (k * 6 + 5) (.int .i64 0)
        have r4 := r3.set (k * 6 + 5) (.int .i64 xv)
        have f1 := r1.cell (i := k * 6) (by omega)
        have f2 := r2.cell (i := k * 6 + 5) (by omega)
        have f3 := r3.cell (i := k * 6) (by omega)
        have f4 := r3.cell (i := k * 6 + 5) (by omega)
        rw [if_neg (by omega), show f (k * 6) = Value.int .i64 kd from HFK.out 0 (by omega)] at f1
        rw [if_neg (by omega), if_neg (by omega), show f (k * 6 + 5) = Value.int .i64 va from HFK.out 5 (by omega)] at f2
        rw [if_neg (by omega), if_pos rfl] at f3
        rw [if_pos rfl] at f4
        have w1 := r1.frozen (k * 6)
        have w2 := r2.frozen (k * 6 + 5)
        have w3 := r3.frozen (k * 6 + 5)
        have v5' : ((V1.setCell ⟨g, k * 6, none⟩ (.int .i64 (kx))).setCell ⟨g, k * 6 + 5, none⟩ (.int .i64 0)).cell? ⟨b3, o3 + k * 6 + 5, none⟩ = some (.int .i64 ov) := by rw [World.cell?_setCell_far _ _ _ _ (fun e => hne3 e.symm), World.cell?_setCell_far _ _ _ _ (fun e => hne3 e.symm)]; exact v5
        have bV3 := hid (show Below W3.heap.size W3 ((V1.setCell ⟨g, k * 6, none⟩ (.int .i64 (kx))).setCell ⟨g, k * 6 + 5, none⟩ (.int .i64 0)) from (bV1.setCell (p := ⟨g, k * 6, none⟩) hgB _).setCell (p := ⟨g, k * 6 + 5, none⟩) hgB _)
        obtain ⟨F3, hF3⟩ : ∃ F : Nat → Value, ∀ j, F j = if j = k * 6 + 5 then Value.int .i64 0 else if j = k * 6 then Value.int .i64 (kx) else if j = k * 6 + 4 then Value.int .i64 xy else f j := ⟨_, fun _ => rfl⟩
        obtain ⟨F4, hF4⟩ : ∃ F : Nat → Value, ∀ j, F j = if j = k * 6 + 5 then Value.int .i64 xv else if j = k * 6 then Value.int .i64 (kx) else if j = k * 6 + 4 then Value.int .i64 xy else f j := ⟨_, fun _ => rfl⟩
        have RR3 := hid (r3.congr (g := F3) fun j _ => (hF3 j).symm)
        have RR4 := hid (r4.congr (g := F4) fun j _ => by
          rw [hF4]
          by_cases e : j = k * 6 + 5
          · rw [if_pos e, if_pos e]
          · rw [if_neg e, if_neg e, if_neg e])
        have HF3 := hid hF3
        have HF4 := hid hF4
        clear hF3 hF4
        clear hV1 r1 r2 r3 r4 v5 bV1 e0 u0 u1 u2 u3 u4 u5 d0' d3' d4' d5' z1 l0 hand
        have hyF : ∀ (xz : Int) (F : Nat → Value), (∀ j, F j = if j = k * 6 + 5 then Value.int .i64 xz else if j = k * 6 then Value.int .i64 (kx) else if j = k * 6 + 4 then Value.int .i64 xy else f j) → (∀ j, j < M → (j < k * 6 ∨ k * 6 + 6 ≤ j) → F j = f j) ∧ ∀ q, q < 6 → F (k * 6 + q) = tuF ⟨kx, wh, tz, (jn : Int), xy, xz⟩ q := fun xz F hF => ⟨fun j _ hj => by rw [hF, if_neg (by omega), if_neg (by omega), if_neg (by omega)], fun q hq => by
          have g1 := HFK.out q hq
          have : q = 0 ∨ q = 1 ∨ q = 2 ∨ q = 3 ∨ q = 4 ∨ q = 5 := by omega
          rcases this with rfl | rfl | rfl | rfl | rfl | rfl
          · rw [hF, if_neg (by omega), if_pos (by omega)]; rfl
          · rw [hF, if_neg (by omega), if_neg (by omega), if_neg (by omega), g1]; rfl
          · rw [hF, if_neg (by omega), if_neg (by omega), if_neg (by omega), g1]; rfl
          · rw [hF, if_neg (by omega), if_neg (by omega), if_neg (by omega), g1]; rfl
          · rw [hF, if_neg (by omega), if_neg (by omega), if_pos rfl]; rfl
          · rw [hF, if_pos rfl]; rfl⟩
        have HYF := hid hyF
        clear hyF
        by_cases hxk : xk = 0
        · have hkb1 : (kx == 1) = true := by rw [beq_iff_eq]; omega
          rw [if_pos hxk] at HEQ
          clear hxk
          have NX := hid (FIN.out _ ⟨kx, wh, tz, (jn : Int), xy, xv⟩ F4 RR4.out (HYF.out xv F4 HF4.out).1 (HYF.out xv F4 HF4.out).2 HEQ.out.symm)
          have bV4 := hid (bV3.out.setCell (p := ⟨g, k * 6 + 5, none⟩) hgB (.int .i64 xv))
          clear FIN HEQ HYF RR3 RR4 bV3
          go_wp2_with fail
          refine (KV _).mono ?_
          rintro e wx ⟨rfl, hx⟩
          have hy := hx.symm
          clear hx KV
          subst hy
          go_wp2
          go_roundg (N - (k + 1))
          case measure => omega
          case rel => exact ⟨k + 1, by omega, by omega, by omega, by go_num, (show Aside _ from NX.out), (show Aside _ from bV4.out)⟩
        · have hkb1 : (kx == 1) = false := by rw [beq_eq_false_iff_ne]; omega
          rw [if_neg hxk] at HEQ
          clear hxk
          have NX := hid (FIN.out _ ⟨kx, wh, tz, (jn : Int), xy, 0⟩ F3 RR3.out (HYF.out 0 F3 HF3.out).1 (HYF.out 0 F3 HF3.out).2 HEQ.out.symm)
          clear FIN HEQ HYF RR3 RR4
          go_wp2
          go_roundg (N - (k + 1))
          case measure => omega
          case rel => exact ⟨k + 1, by omega, by omega, by omega, by go_num, (show Aside _ from NX.out), (show Aside _ from bV3.out)⟩
      · have hltOz : ¬ (k : Int) < (nO : Int) := by omega
        have BE := hid (AB.out.holds (cs := Plain.blL L cn ts l3 ts.length) (by rw [Plain.blL_len, HN.out]) (fun i hi => Plain.blL_all (.inr (by rw [← HNO.out]; omega)) i (by rw [← HN.out]; exact hi)))
        have AWE := hid AW.out
        clear AB AW
        obtain ⟨wo, hwo⟩ : ∃ wo, wo = wr := ⟨_, rfl⟩
        subst hwo
        have RO := hid (RW3.out.of_block (AWE.out.block _ RW3.out.lt))
        have HHO := hid (HHW3.out.grow AWE.out)
        have BO := hid (show Below B w wo from BW3.out.trans (AWE.out.mono hB3))
        have SAME := hid (fun i j z ez hc => Plain.blL_same (L := L) (c := cn) (os := l3) (show ts.length ≤ 100 by rw [← HN.out]; omega) (i := i) (j := j) (z := z) ez hc)
        have hBl := Plain.blL_len L cn ts l3 ts.length
        generalize Plain.blL L cn ts l3 ts.length = bs at *
        have K5 := gossiped_c (some ⟨B, 0, none⟩) 3 3 q2 N c2 L ts (by omega) (by omega) HLl.out HN.out.symm HLi.out wo (row_nums RO.out HLl.out) (fun e => by cases e) HHO.out HN2.out
        have HBL := hid (show bs.length = N by rw [hBl, ← HN.out])
        clear hBl RW3 HHW3 HHO BW3 AWE
        go_wp2_with fail
        refine K5.mono ?_
        intro e W5 h5
        obtain ⟨a5, d5, q5, e5, rfl, _, hs5, hb5⟩ := h5
        have S5 := hid hs5
        have R5 := hid (RO.out.of_block (hb5.block _ RO.out.lt))
        have B5 := hid (BO.out.trans (hb5.mono (by have := BO.out.size; rw [← HBB.out] at this; exact this)))
        have K6 := gossiped_c (some ⟨B, 0, none⟩) 3 3 pb N cb L bs (by omega) (by omega) HLl.out HBL.out HLi.out W5 (row_nums R5.out HLl.out) (fun e => by cases e) (BE.out.grow hb5) HPB.out
        clear hs5 hb5 K5 RO BO BE
        go_wp2_with fail
        refine K6.mono ?_
        intro e W6 h6
        obtain ⟨a6, d6, q6, e6, rfl, _, hs6, hb6⟩ := h6
        have S6 := hid hs6
        have S5b := hid (S5.out.grow hb6)
        have B6 := hid (B5.out.trans (hb6.mono (by have := B5.out.size; rw [← HBB.out] at this; exact this)))
        clear hs6 hb6 K6 S5 B5 R5
        obtain ⟨V1, hV1⟩ : ∃ V1, V1 = W6.alloc (.cells #[.int .i64 1] 3) := ⟨_, rfl⟩
        obtain ⟨V2, hV2⟩ : ∃ V2, V2 = V1.alloc (boxT Plain.oneT) := ⟨_, rfl⟩
        have v1 : Below W6.heap.size W6 V1 := by rw [hV1]; exact (Below.refl _ _).alloc (Nat.le_refl _) _
        have v2 : Below V1.heap.size V1 V2 := by rw [hV2]; exact (Below.refl _ _).alloc (Nat.le_refl _) _
        have nv1 : Nums V1 (some ⟨W6.heap.size, 0, none⟩) [1] := fun _ => ⟨W6.heap.size, 0, rfl, by rw [hV1]; simp, fun j hj => by
          have : j = 0 := by simp at hj; omega
          subst this
          rw [hV1, World.cell?_alloc_at _ _ _ _ rfl]; rfl⟩
        have hsz1 : V1.heap.size = W6.heap.size + 1 := by rw [hV1]; simp
        have tv2 : encT.Holds V2 (some ⟨W6.heap.size + 1, 0, none⟩) [Plain.oneT] := by
          have := encT.one_holds V1 Plain.oneT 44
          rw [hsz1] at this
          rw [hV2]; exact this
        have K7 := gossiped_c (some ⟨W6.heap.size, 0, none⟩) 1 1 (some ⟨W6.heap.size + 1, 0, none⟩) 1 1 [1] [Plain.oneT] (by omega) (by omega) rfl rfl (fun x hx => by simp at hx; omega) V2 (nv1.grow v2) (fun e => by cases e) tv2 (fun e => by cases e)
        have hBr : B ≤ W6.heap.size := by have := B6.out.size; rw [← HBB.out] at this; exact this
        have BV := hid (show Below B w V2 from (B6.out.trans (v1.mono hBr)).trans (v2.mono (by omega)))
        have BV0 := hid (v1.trans (v2.mono (by omega)))
        have HV2 := hid (show V2 = (W6.alloc (.cells #[.int .i64 1] 3)).alloc (.cells #[.int .i64 1, .int .i64 0, .int .i64 0, .int .i64 0, .int .i64 0, .int .i64 5] 44) by rw [hV2, hV1]; rfl)
        clear hV1 hV2 v1 v2 nv1 tv2 hsz1
        go_wp2_with fail
        rw [← HV2.out]
        refine K7.mono ?_
        intro e W7 h7
        obtain ⟨a7, d7, q7, e7, rfl, _, hs7, hb7⟩ := h7
        obtain ⟨b, off, rfl, _, hr⟩ := hs7.place (by omega) (by omega)
        obtain ⟨b', o', c', _, x1, hs⟩ := hr 0 (by omega)
        obtain ⟨pp, dd, x2, sg, _⟩ := hs 0 (by omega)
        rw [Plain.one_has] at x2 sg
        obtain ⟨gb, goff, gc, e6, _, gcells⟩ := sg.some (by decide)
        rw [e6] at x2
        have x2' : W7.cell? ⟨b', o', none⟩ = some (.slice (some ⟨gb, goff, none⟩) 1 gc) := x2
        have x1' : W7.cell? ⟨b, off, none⟩ = some (.slice (some ⟨b', o', none⟩) 1 c') := x1
        have g1 := (gcells 0 (by decide)).c1
        have g1' : W7.cell? ⟨gb, goff + 1, none⟩ = some (.int .i64 5) := g1
        have S7a := hid ((S5b.out.grow BV0.out).grow hb7)
        have S7b := hid ((S6.out.grow BV0.out).grow hb7)
        have B7 := hid (show Below B w W7 from BV.out.trans (hb7.mono (by have := BV.out.size; rw [← HBB.out] at this; exact this)))
        clear hs7 hb7 hr hs x1 x2 sg gcells g1 K7 HV2 S5b S6 BV0 BV
        obtain ⟨b1, o1, eq5, hb1, hr1⟩ := S7a.out.place (by omega) (by omega)
        obtain ⟨b2, o2, eq6, hb2, hr2⟩ := S7b.out.place (by omega) (by omega)
        subst eq5
        subst eq6
        have HR1 := hid hr1
        have HR2 := hid hr2
        have LG := hid (fun i j => (Plain.run_ok (L := L) ts (by rw [← HN.out]; omega)).len i j)
        generalize Plain.stF 4 L Plain.Stt.nil ts = sa at *
        generalize Plain.stF 4 L Plain.Stt.nil bs = sb at *
        clear hr1 hr2 S7a S7b
        go_wp2
        go_loopg [23, 24] 4 (fun gg s23 _ wx => ∃ i : Nat, i ≤ 4 ∧ 4 - i ≤ gg ∧ s23 = .int .i64 i ∧ Aside (∃ q, wx = W7.drewN q))
        case atStart => exact ⟨0, Nat.zero_le _, by omega, rfl, (show Aside _ from ⟨0, rfl⟩)⟩
        case round =>
          obtain ⟨i, hi4, hgi, rfl, AI⟩ := hrel
          by_cases hlti : i < 4
          · have hltiz : (i : Int) < 4 := by omega
            have A0 := hid AI.out
            clear AI
            go_wp2
            go_loopg [24] 3 (fun gg s24 wx => ∃ j : Nat, j ≤ 3 ∧ 3 - j ≤ gg ∧ s24 = .int .i64 j ∧ Aside (∃ q, wx = W7.drewN q))
            case atStart => exact ⟨0, Nat.zero_le _, by omega, rfl, (show Aside _ from A0.out)⟩
            case round =>
              obtain ⟨j, hj3, hgj, rfl, AJ⟩ := hrel
              clear A0
              by_cases hltj : j < 3
              · have hltjz : (j : Int) < 3 := by omega
                obtain ⟨qd, hqd⟩ := AJ.out
                have HQ := hid hqd
                have hbc := bit_num cn i (by omega)
                have hi64 : (i : Int) < 64 := by omega
                clear AJ
                cases hrc : Plain.reads (cn : Int) i with
                | false =>
                  rw [hrc, if_neg (by decide)] at hbc
                  clear hrc hqd
                  go_wp2
                  go_quiet (fail)
                  go_wp2
                  go_roundg (3 - (j + 1))
                  case measure => omega
                  case rel => exact ⟨j + 1, by omega, by omega, by go_num, (show Aside _ from ⟨_, by rw [HQ.out, drewN_add]⟩)⟩
                | true =>
                  rw [hrc, if_pos rfl] at hbc
                  obtain ⟨z, ez, hz⟩ := labAt_lt (L := L) (fun x hx => by have := HLi.out x hx; omega) j
                  have hsm := SAME.out i j z ez hrc
                  obtain ⟨g1, k1, n1, hg1, x1, hs1⟩ := HR1.out i hlti
                  obtain ⟨g2, k2, n2, hg2, y1, hs2⟩ := HR2.out i hlti
                  obtain ⟨p1', d1', x2, sg1, ly1⟩ := hs1 j hltj
                  obtain ⟨p2', d2', y2, sg2, ly2⟩ := hs2 j hltj
                  have l8 := LG.out i j
                  rw [← hsm] at y2 sg2
                  have x1' : wr.cell? ⟨b1, o1 + i, none⟩ = some (.slice (some ⟨g1, k1, none⟩) 3 n1) := by rw [hqd]; simpa using x1
                  have x2' : wr.cell? ⟨g1, k1 + j, none⟩ = some (.slice p1' (sa i j).length d1') := by rw [hqd]; simpa using x2
                  have y1' : wr.cell? ⟨b2, o2 + i, none⟩ = some (.slice (some ⟨g2, k2, none⟩) 3 n2) := by rw [hqd]; simpa using y1
                  have y2' : wr.cell? ⟨g2, k2 + j, none⟩ = some (.slice p2' (sa i j).length d2') := by rw [hqd]; simpa using y2
                  have bq : Below W7.heap.size W7 wr := by rw [hqd]; exact below_drewN (Below.refl _ _) qd
                  have KS := fun q => keep.same_any (.slice p1' (sa i j).length d1') (.slice p2' (sa i j).length d2') (sa i j) (by omega) (wr.drewN q) (sg1.below (below_drewN bq q) ly1) (sg2.below (below_drewN bq q) (by rw [hsm]; exact ly2))
                  generalize (sa i j).length = ln at *
                  clear hrc hqd hsm sg1 sg2 ly1 ly2 x1 x2 y1 y2 hs1 hs2 l8 bq ez
                  go_wp2
                  go_quiet ((go_at_call 17; exact Calls.quiet_of (KS _)))
                  go_wp2
                  go_roundg (3 - (j + 1))
                  case measure => omega
                  case rel => exact ⟨j + 1, by omega, by omega, by go_num, (show Aside _ from ⟨_, by rw [HQ.out, drewN_add]⟩)⟩
              · have hltjz : ¬ (j : Int) < 3 := by omega
                have HJ := hid AJ.out
                clear AJ
                go_wp2
                go_roundg (4 - (i + 1))
                case measure => omega
                case rel => exact ⟨i + 1, by omega, by omega, by go_num, (show Aside _ from HJ.out)⟩
          · have hltiz : ¬ (i : Int) < 4 := by omega
            obtain ⟨qd, hqd⟩ := AI.out
            have F := hid (show Below w.heap.size w wr by rw [← HBB.out, hqd]; exact below_drewN B7.out qd)
            clear AI hqd
            go_wp2
            go_ret
            exact ⟨rfl, F.out⟩
    · have hltz : ¬ (k : Int) < (N : Int) := by omega
      have BE := hid (AB.out.holds (cs := Plain.blL L cn ts l3 ts.length) (by rw [Plain.blL_len, HN.out]) (fun i hi => Plain.blL_all (.inl (by rw [← HN.out]; omega)) i (by rw [← HN.out]; exact hi)))
      have AWE := hid AW.out
      clear AB AW
      obtain ⟨wo, hwo⟩ : ∃ wo, wo = wr := ⟨_, rfl⟩
      subst hwo
      have RO := hid (RW3.out.of_block (AWE.out.block _ RW3.out.lt))
      have HHO := hid (HHW3.out.grow AWE.out)
      have BO := hid (show Below B w wo from BW3.out.trans (AWE.out.mono hB3))
      have SAME := hid (fun i j z ez hc => Plain.blL_same (L := L) (c := cn) (os := l3) (show ts.length ≤ 100 by rw [← HN.out]; omega) (i := i) (j := j) (z := z) ez hc)
      have hBl := Plain.blL_len L cn ts l3 ts.length
      generalize Plain.blL L cn ts l3 ts.length = bs at *
      have K5 := gossiped_c (some ⟨B, 0, none⟩) 3 3 q2 N c2 L ts (by omega) (by omega) HLl.out HN.out.symm HLi.out wo (row_nums RO.out HLl.out) (fun e => by cases e) HHO.out HN2.out
      have HBL := hid (show bs.length = N by rw [hBl, ← HN.out])
      clear hBl RW3 HHW3 HHO BW3 AWE
      go_wp2_with fail
      refine K5.mono ?_
      intro e W5 h5
      obtain ⟨a5, d5, q5, e5, rfl, _, hs5, hb5⟩ := h5
      have S5 := hid hs5
      have R5 := hid (RO.out.of_block (hb5.block _ RO.out.lt))
      have B5 := hid (BO.out.trans (hb5.mono (by have := BO.out.size; rw [← HBB.out] at this; exact this)))
      have K6 := gossiped_c (some ⟨B, 0, none⟩) 3 3 pb N cb L bs (by omega) (by omega) HLl.out HBL.out HLi.out W5 (row_nums R5.out HLl.out) (fun e => by cases e) (BE.out.grow hb5) HPB.out
      clear hs5 hb5 K5 RO BO BE
      go_wp2_with fail
      refine K6.mono ?_
      intro e W6 h6
      obtain ⟨a6, d6, q6, e6, rfl, _, hs6, hb6⟩ := h6
      have S6 := hid hs6
      have S5b := hid (S5.out.grow hb6)
      have B6 := hid (B5.out.trans (hb6.mono (by have := B5.out.size; rw [← HBB.out] at this; exact this)))
      clear hs6 hb6 K6 S5 B5 R5
      obtain ⟨V1, hV1⟩ : ∃ V1, V1 = W6.alloc (.cells #[.int .i64 1] 3) := ⟨_, rfl⟩
      obtain ⟨V2, hV2⟩ : ∃ V2, V2 = V1.alloc (boxT Plain.oneT) := ⟨_, rfl⟩
      have v1 : Below W6.heap.size W6 V1 := by rw [hV1]; exact (Below.refl _ _).alloc (Nat.le_refl _) _
      have v2 : Below V1.heap.size V1 V2 := by rw [hV2]; exact (Below.refl _ _).alloc (Nat.le_refl _) _
      have nv1 : Nums V1 (some ⟨W6.heap.size, 0, none⟩) [1] := fun _ => ⟨W6.heap.size, 0, rfl, by rw [hV1]; simp, fun j hj => by
        have : j = 0 := by simp at hj; omega
        subst this
        rw [hV1, World.cell?_alloc_at _ _ _ _ rfl]; rfl⟩
      have hsz1 : V1.heap.size = W6.heap.size + 1 := by rw [hV1]; simp
      have tv2 : encT.Holds V2 (some ⟨W6.heap.size + 1, 0, none⟩) [Plain.oneT] := by
        have := encT.one_holds V1 Plain.oneT 44
        rw [hsz1] at this
        rw [hV2]; exact this
      have K7 := gossiped_c (some ⟨W6.heap.size, 0, none⟩) 1 1 (some ⟨W6.heap.size + 1, 0, none⟩) 1 1 [1] [Plain.oneT] (by omega) (by omega) rfl rfl (fun x hx => by simp at hx; omega) V2 (nv1.grow v2) (fun e => by cases e) tv2 (fun e => by cases e)
      have hBr : B ≤ W6.heap.size := by have := B6.out.size; rw [← HBB.out] at this; exact this
      have BV := hid (show Below B w V2 from (B6.out.trans (v1.mono hBr)).trans (v2.mono (by omega)))
      have BV0 := hid (v1.trans (v2.mono (by omega)))
      have HV2 := hid (show V2 = (W6.alloc (.cells #[.int .i64 1] 3)).alloc (.cells #[.int .i64 1, .int .i64 0, .int .i64 0, .int .i64 0, .int .i64 0, .int .i64 5] 44) by rw [hV2, hV1]; rfl)
      clear hV1 hV2 v1 v2 nv1 tv2 hsz1
      go_wp2_with fail
      rw [← HV2.out]
      refine K7.mono ?_
      intro e W7 h7
      obtain ⟨a7, d7, q7, e7, rfl, _, hs7, hb7⟩ := h7
      obtain ⟨b, off, rfl, _, hr⟩ := hs7.place (by omega) (by omega)
      obtain ⟨b', o', c', _, x1, hs⟩ := hr 0 (by omega)
      obtain ⟨pp, dd, x2, sg, _⟩ := hs 0 (by omega)
      rw [Plain.one_has] at x2 sg
      obtain ⟨gb, goff, gc, e6, _, gcells⟩ := sg.some (by decide)
      rw [e6] at x2
      have x2' : W7.cell? ⟨b', o', none⟩ = some (.slice (some ⟨gb, goff, none⟩) 1 gc) := x2
      have x1' : W7.cell? ⟨b, off, none⟩ = some (.slice (some ⟨b', o', none⟩) 1 c') := x1
      have g1 := (gcells 0 (by decide)).c1
      have g1' : W7.cell? ⟨gb, goff + 1, none⟩ = some (.int .i64 5) := g1
      have S7a := hid ((S5b.out.grow BV0.out).grow hb7)
      have S7b := hid ((S6.out.grow BV0.out).grow hb7)
      have B7 := hid (show Below B w W7 from BV.out.trans (hb7.mono (by have := BV.out.size; rw [← HBB.out] at this; exact this)))
      clear hs7 hb7 hr hs x1 x2 sg gcells g1 K7 HV2 S5b S6 BV0 BV
      obtain ⟨b1, o1, eq5, hb1, hr1⟩ := S7a.out.place (by omega) (by omega)
      obtain ⟨b2, o2, eq6, hb2, hr2⟩ := S7b.out.place (by omega) (by omega)
      subst eq5
      subst eq6
      have HR1 := hid hr1
      have HR2 := hid hr2
      have LG := hid (fun i j => (Plain.run_ok (L := L) ts (by rw [← HN.out]; omega)).len i j)
      generalize Plain.stF 4 L Plain.Stt.nil ts = sa at *
      generalize Plain.stF 4 L Plain.Stt.nil bs = sb at *
      clear hr1 hr2 S7a S7b
      go_wp2
      go_loopg [23, 24] 4 (fun gg s23 _ wx => ∃ i : Nat, i ≤ 4 ∧ 4 - i ≤ gg ∧ s23 = .int .i64 i ∧ Aside (∃ q, wx = W7.drewN q))
      case atStart => exact ⟨0, Nat.zero_le _, by omega, rfl, (show Aside _ from ⟨0, rfl⟩)⟩
      case round =>
        obtain ⟨i, hi4, hgi, rfl, AI⟩ := hrel
        by_cases hlti : i < 4
        · have hltiz : (i : Int) < 4 := by omega
          have A0 := hid AI.out
          clear AI
          go_wp2
          go_loopg [24] 3 (fun gg s24 wx => ∃ j : Nat, j ≤ 3 ∧ 3 - j ≤ gg ∧ s24 = .int .i64 j ∧ Aside (∃ q, wx = W7.drewN q))
          case atStart => exact ⟨0, Nat.zero_le _, by omega, rfl, (show Aside _ from A0.out)⟩
          case round =>
            obtain ⟨j, hj3, hgj, rfl, AJ⟩ := hrel
            clear A0
            by_cases hltj : j < 3
            · have hltjz : (j : Int) < 3 := by omega
              obtain ⟨qd, hqd⟩ := AJ.out
              have HQ := hid hqd
              have hbc := bit_num cn i (by omega)
              have hi64 : (i : Int) < 64 := by omega
              clear AJ
              cases hrc : Plain.reads (cn : Int) i with
              | false =>
                rw [hrc, if_neg (by decide)] at hbc
                clear hrc hqd
                go_wp2
                go_quiet (fail)
                go_wp2
                go_roundg (3 - (j + 1))
                case measure => omega
                case rel => exact ⟨j + 1, by omega, by omega, by go_num, (show Aside _ from ⟨_, by rw [HQ.out, drewN_add]⟩)⟩
              | true =>
                rw [hrc, if_pos rfl] at hbc
                obtain ⟨z, ez, hz⟩ := labAt_lt (L := L) (fun x hx => by have := HLi.out x hx; omega) j
                have hsm := SAME.out i j z ez hrc
                obtain ⟨g1, k1, n1, hg1, x1, hs1⟩ := HR1.out i hlti
                obtain ⟨g2, k2, n2, hg2, y1, hs2⟩ := HR2.out i hlti
                obtain ⟨p1', d1', x2, sg1, ly1⟩ := hs1 j hltj
                obtain ⟨p2', d2', y2, sg2, ly2⟩ := hs2 j hltj
                have l8 := LG.out i j
                rw [← hsm] at y2 sg2
                have x1' : wr.cell? ⟨b1, o1 + i, none⟩ = some (.slice (some ⟨g1, k1, none⟩) 3 n1) := by rw [hqd]; simpa using x1
                have x2' : wr.cell? ⟨g1, k1 + j, none⟩ = some (.slice p1' (sa i j).length d1') := by rw [hqd]; simpa using x2
                have y1' : wr.cell? ⟨b2, o2 + i, none⟩ = some (.slice (some ⟨g2, k2, none⟩) 3 n2) := by rw [hqd]; simpa using y1
                have y2' : wr.cell? ⟨g2, k2 + j, none⟩ = some (.slice p2' (sa i j).length d2') := by rw [hqd]; simpa using y2
                have bq : Below W7.heap.size W7 wr := by rw [hqd]; exact below_drewN (Below.refl _ _) qd
                have KS := fun q => keep.same_any (.slice p1' (sa i j).length d1') (.slice p2' (sa i j).length d2') (sa i j) (by omega) (wr.drewN q) (sg1.below (below_drewN bq q) ly1) (sg2.below (below_drewN bq q) (by rw [hsm]; exact ly2))
                generalize (sa i j).length = ln at *
                clear hrc hqd hsm sg1 sg2 ly1 ly2 x1 x2 y1 y2 hs1 hs2 l8 bq ez
                go_wp2
                go_quiet ((go_at_call 17; exact Calls.quiet_of (KS _)))
                go_wp2
                go_roundg (3 - (j + 1))
                case measure => omega
                case rel => exact ⟨j + 1, by omega, by omega, by go_num, (show Aside _ from ⟨_, by rw [HQ.out, drewN_add]⟩)⟩
            · have hltjz : ¬ (j : Int) < 3 := by omega
              have HJ := hid AJ.out
              clear AJ
              go_wp2
              go_roundg (4 - (i + 1))
              case measure => omega
              case rel => exact ⟨i + 1, by omega, by omega, by go_num, (show Aside _ from HJ.out)⟩
        · have hltiz : ¬ (i : Int) < 4 := by omega
          obtain ⟨qd, hqd⟩ := AI.out
          have F := hid (show Below w.heap.size w wr by rw [← HBB.out, hqd]; exact below_drewN B7.out qd)
          clear AI hqd
          go_wp2
          go_ret
          exact ⟨rfl, F.out⟩

set_option maxRecDepth 100000 in
theorem lifted (os : Os) (started : os.Started) (H : Type) (enc : TypeId × Value → H) :
    ReturnsInHanded {} Try.checked os 6 .any (Rows.gossipBlindSpec.pre6 enc Try.prog Try.f6 Rows.gossipBlindRow.domain false) (Rows.gossipBlindSpec.post enc Try.prog Try.f6 false true false false) := by
  refine returnsInHanded_of_change (C := Try.checked) own started (by kernel_rfl) Try.func6
    (ChangeSpec.witness6 (enc := enc) (C := Try.checked) false ⟨#[], #[.slice none 0 0, .slice none 0 0, .int .i64 0, .slice none 0 0], []⟩ 8 (by kernel_rfl) (by kernel_rfl) (by kernel_rfl) (by kernel_rfl)) ?_
  intro W base args ds gs before hval0 hW hcnd _
  have hval : ∀ (j : Nat) t v, Try.f6.params[j]? = some t → args[j]? = some v → Value.okWide Try.prog W .any base t v := hval0
  have hW' := hW
  obtain ⟨p, q, hA0, hV, rfl, hfz, hnd⟩ := hW
  have hA : DataW.TrodAll enc Try.prog W 0 (fun _ => true) true Try.f6.params.toList args.toList ds p := hA0
  rw [Try.params6] at hA hval
  obtain ⟨v0, vs0, d0, ds0, p0, q0, hargs, rfl, rfl, h0, r0⟩ := trodAll_cons hA
  obtain ⟨v1, vs1, d1, ds1, p1, q1, rfl, rfl, rfl, h1, r1⟩ := trodAll_cons r0
  obtain ⟨v2, vs2, d2, ds2, p2, q2, rfl, rfl, rfl, h2, r2⟩ := trodAll_cons r1
  obtain ⟨v3, vs3, d3, ds3, p3, q3, rfl, rfl, rfl, h3, r3⟩ := trodAll_cons r2
  obtain ⟨rfl, rfl, rfl⟩ := trodAll_nil r3
  obtain rfl : args = #[v0, v1, v2, v3] := by cases args; simp_all
  obtain ⟨rfl, rfl⟩ := trodVars_none hV
  obtain ⟨a0, len0, cap0, rfl⟩ := okWide_slice Try.underlying22 (hval 0 22 v0 rfl rfl)
  have k0 := h0
  have lt0 : ∀ x ∈ p0, x.block < W.heap.size := by obtain ⟨m, hm⟩ := k0; exact DataW.trod_lt m _ _ _ hm
  obtain ⟨l0, hl0, hc0, hm0, hr0, y0, s0⟩ := ints_seg h0
  obtain ⟨a1, len1, cap1, rfl⟩ := okWide_slice Try.underlying32 (hval 1 32 v1 rfl rfl)
  have k1 := h1
  have lt1 : ∀ x ∈ p1, x.block < W.heap.size := by obtain ⟨m, hm⟩ := k1; exact DataW.trod_lt m _ _ _ hm
  obtain ⟨l1, s1, ri1⟩ := tus_open Try.underlying32 Try.underlying48 (by kernel_rfl) ⟨rfl, by intro j f hj; rcases j with _ | _ | _ | _ | _ | _ | j <;> simp at hj <;> subst hj <;> exact ⟨rfl, by kernel_rfl, Try.underlying3⟩⟩ h1
  have k2 := h2
  have lt2 : ∀ x ∈ p2, x.block < W.heap.size := by obtain ⟨m, hm⟩ := k2; exact DataW.trod_lt m _ _ _ hm
  obtain ⟨a2, rfl, _, _, w2⟩ := open_int Try.underlying3 (hval 2 3 v2 rfl rfl) h2
  obtain ⟨a3, len3, cap3, rfl⟩ := okWide_slice Try.underlying32 (hval 3 32 v3 rfl rfl)
  have k3 := h3
  have lt3 : ∀ x ∈ p3, x.block < W.heap.size := by obtain ⟨m, hm⟩ := k3; exact DataW.trod_lt m _ _ _ hm
  obtain ⟨l3, s3, ri3⟩ := tus_open Try.underlying32 Try.underlying48 (by kernel_rfl) ⟨rfl, by intro j f hj; rcases j with _ | _ | _ | _ | _ | _ | j <;> simp at hj <;> subst hj <;> exact ⟨rfl, by kernel_rfl, Try.underlying3⟩⟩ h3
  clear hA0 hval0
  refine (walk W _ l0 (by omega) hr0 s0 y0 _ l1 s1 ri1 a2 (bounds_i64 w2) _ l3 s3 ri3).mono fun e W' ⟨he, bel⟩ => ?_
  subst he
  exact ⟨_, rfl, _, _, _, [], _, [], hW', trodAll_mk1 (shut_bool Try.underlying4 _), (trodAll_cons_mk (Below.trod laidOut (by kernel_rfl) (of_decide_eq_true (by kernel_rfl)) k0 bel lt0) (trodAll_cons_mk (Below.trod laidOut (by kernel_rfl) (of_decide_eq_true (by kernel_rfl)) k1 bel lt1) (trodAll_cons_mk (Below.trod laidOut (by kernel_rfl) (of_decide_eq_true (by kernel_rfl)) k2 bel lt2) (trodAll_cons_mk (Below.trod laidOut (by kernel_rfl) (of_decide_eq_true (by kernel_rfl)) k3 bel lt3) trodAll_mk0)))), rfl, bel.frame _, fun h => by cases h⟩

theorem over : Rows.gossipBlindRow.holds Try.pinned (OpenSpec.ofChange Rows.gossipBlindSpec) :=
  OpenClaim.holds_of_wide 6 Try.f6 rfl rfl rfl rfl rfl rfl rfl ⟨rfl, rfl, rfl, rfl, rfl⟩ rfl rfl rfl rfl rfl (by kernel_rfl) Try.func6 (by kernel_rfl)
    (of_decide_eq_true (by kernel_rfl)) (by unfold Func.isWrapper; first | (rw [if_pos (by decide +kernel)]; kernel_rfl) | (rw [if_neg (by decide +kernel)]; exact ⟨rfl, rfl⟩))
    (fun os started H enc _ => lifted os started H enc)

end gossipBlind

theorem gossipBlind_holds : Rows.GossipBlindSaid := gossipBlind.over
#print axioms gossipBlind_holds
end Go.Proofs.Ytiolkeghgodggak

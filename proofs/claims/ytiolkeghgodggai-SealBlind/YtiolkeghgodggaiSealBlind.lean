/- SealBlind: of whatever mails, whatever other bytes and whatever party: with other bytes, of the same lengths, in letters to others, all that the party is told is the same. No condition. -/
import Derived.Test.YtiolkeghgodggaiRows
import Derived.WalkKit
import Derived.ProofKit
import Derived.OpenShut
import Derived.WalkSmall
import Derived.ShutString
import Derived.ChangeOld
import Derived.Below
import Derived.Test.YtiolkeghgodggaiBl
import Derived.Test.YtiolkeghgodggaiAx
import Derived.Test.YtiolkeghgodggaiMi
import Derived.Deep.DeepCutAuto
import Derived.Deep.CutBlock
namespace Go.Proofs.Ytiolkeghgodggai
namespace sealBlind
open Go.ChangeShapes Go.WideShapes Go.ChangeAt Go.RowKit Se
set_option linter.unusedVariables false

theorem own : ownKnob Try.prog.godebug = none := by kernel_rfl
theorem laidOut : laidOutB Try.prog = true := by kernel_rfl

set_option maxHeartbeats 4000000 in
set_option maxRecDepth 100000 in
theorem walk (w : World) (v0 : Value) (l0 : List RM) (s0 : SegM w v0 l0) (v1 : Value) (l1 : List RB) (s1 : SegBs w v1 l1) (a2 : Int) (w2 : -9223372036854775808 ≤ a2 ∧ a2 ≤ 9223372036854775807) :
    Calls Try.prog 8 #[v0, v1, .int .i64 a2] w fun e w' => e = .returned (.bool true) ∧ Below w.heap.size w w' := by
  obtain ⟨hm0, p, cap, rfl, hp⟩ := s0
  obtain ⟨hm1, po, capo, rfl, hpo⟩ := s1
  have K1 := letters_c p l0.length cap l0 hm0 w rfl hp
  have KP := fun W => picked_any a2 4 w2.1 w2.2 (by omega) (by omega) W
  generalize ha4 : a2 % 4 = wh at KP
  clear ha4
  obtain ⟨L, hL⟩ : ∃ L, L = Plain.lettersF (l0.map RM.m) := ⟨_, rfl⟩
  have HMay := hid (show ∀ x, x ∈ L → Plain.MayL x by rw [hL]; exact Plain.lettersF_may _)
  have hL60 : L.length ≤ 60 := by rw [hL]; exact Plain.lettersF_len _
  rw [← hL] at K1
  have HPO := hid hpo
  clear hL hp hpo
  go_enter Try.func8, Try.ntmps8
  go_wp2_with fail
  refine K1.mono ?_
  rintro e W1 ⟨q1, c1, Rs, rfl, hRs, hLI⟩
  clear K1
  obtain ⟨p1', c1', e1, hnil, hMv⟩ := hLI.form
  injection e1 with e1 _ e1c
  subst e1 e1c
  have B1 := hid hLI.be
  have HRs := hid hRs
  have hlen : Rs.length = L.length := by rw [← HRs.out, List.length_map]
  rw [hlen]
  have HLEN := hid hlen
  obtain ⟨n, hn⟩ : ∃ n, n = L.length := ⟨_, rfl⟩
  rw [← hn] at hlen hL60 ⊢
  have HRN := hid hlen
  have HNIL := hid hnil
  have M1 := hid hMv
  have HN := hid hn
  have O1 := hid (HPO.out.grow hLI.be)
  obtain ⟨BB, hBB⟩ : ∃ BB, BB = l1.map RB.d := ⟨_, rfl⟩
  have HBB := hid hBB
  obtain ⟨no, hno⟩ : ∃ no, no = l1.length := ⟨_, rfl⟩
  rw [← hno]
  have HNO := hid hno
  clear hLI hRs hMv hnil hlen hn HPO hBB hno
  go_wp2_with (first | (go_at_call 12; refine (KP _).mono ?_; rintro e W1 ⟨rfl, rfl⟩) | fail)
  clear KP
  go_loopg [9, 10, 11, 12] n (fun gg s9 s10 _ _ wx => ∃ (k : Nat) (Fs : List RL) (q : Option Addr) (c : Nat), k ≤ n ∧ n - k ≤ gg ∧ s10 = .int .i64 k ∧ s9 = .slice q k c ∧ Aside (LI W1 wx (.slice q k c) Fs) ∧ Aside (Fs.length = k) ∧ Aside (Fs.map RL.x = (Plain.blindL wh BB L).take k))
  case atStart => exact ⟨0, [], none, 0, Nat.zero_le _, by omega, rfl, rfl, (show Aside _ from LI.nil W1), (show Aside _ from rfl), (show Aside _ from rfl)⟩
  case round =>
    obtain ⟨k, Fs, q, c, hkn, hg, rfl, rfl, A, AL, AF⟩ := hrel
    have HI := hid A.out
    have HL := hid AL.out
    have HF := hid AF.out
    clear A AL AF
    by_cases hlt : k < n
    · have hltz : (k : Int) < (n : Int) := by omega
      have hkR : k < Rs.length := by rw [HLEN.out, ← HN.out]; exact hlt
      have hkL : k < L.length := by rw [← HN.out]; exact hlt
      have MV := M1.out.grow (show Below W1.heap.size W1 wr from HI.out.be)
      obtain ⟨b, off, rfl, hbl, hc⟩ := holdsL MV.hd (by omega)
      obtain ⟨x0, x1, x2, x3, x4⟩ := hc k hkR
      have HY := hid (show By W1.heap.size wr (Rs.getD k default).p (Rs.getD k default).c (Rs.getD k default).x.data from (M1.out.bs _ (getD_mem Rs default hkR)).keep (Kb.of_below HI.out.be))
      have ex : (Rs.getD k default).x = L.getD k default := by rw [← getD_map RL.x Rs default default hkR, HRs.out]
      have hmay := HMay.out _ (getD_mem L default hkL)
      have hkB : k < (Plain.blindL wh BB L).length := by rw [Plain.blindL_len]; exact hkL
      have ST := hid (show (Plain.blindL wh BB L).take (k + 1) = (Plain.blindL wh BB L).take k ++ [Plain.otherL wh (Plain.othersAt BB k) (L.getD k default)] by
        rw [List.take_succ_eq_append_getElem hkB, ← Plain.blindL_at wh BB L hkL, List.getD_eq_getElem?_getD, List.getElem?_eq_getElem hkB]; rfl)
      rw [← ex] at ST hmay
      clear ex hc MV
      generalize Rs.getD k default = r at x0 x1 x2 x3 x4 HY hmay ST
      obtain ⟨⟨rk, rf, rt, ri, rd⟩, rp, rc⟩ := r
      dsimp only at x0 x1 x2 x3 x4 HY ST
      have hk12 : rk = 1 ∨ rk = 2 := hmay.1
      have hrd : rd.length ≤ 20 := hmay.2.2.2.2
      clear hmay
      have HNE := hid (show (Value.slice q k c).ownBlock ≠ some wr.heap.size ∧ W1.heap.size ≤ wr.heap.size from ⟨fun e => by have := (HI.out.ow.lt _ e).2; omega, HI.out.be.size⟩)
      by_cases hoth : rk = 1 ∧ rt ≠ wh
      · obtain ⟨hk1, htw⟩ := hoth
        subst hk1
        have g2 : (rt != wh) = true := by simpa using htw
        have OT0 := hid (show ∀ bl, Plain.otherL wh bl ⟨1, rf, rt, ri, rd⟩ = ⟨1, rf, rt, ri, Plain.pad bl rd.length⟩ from fun bl => by unfold Plain.otherL; rw [if_pos ⟨rfl, htw⟩])
        have w1s : (wr.alloc (boxL ⟨⟨1, rf, rt, ri, rd⟩, rp, rc⟩)).heap.size = wr.heap.size + 1 := by simp
        have bel1 : Below wr.heap.size wr (wr.alloc (boxL ⟨⟨1, rf, rt, ri, rd⟩, rp, rc⟩)) := (Below.refl _ _).alloc (Nat.le_refl _) _
        have hmk : ∀ W : World, (Instr.makeSlice 42 (.int .i64 (rd.length : Int)) (.int .i64 (rd.length : Int))).run Try.prog W = .ok (.slice (some ⟨W.heap.size, 0, none⟩) rd.length rd.length) (W.alloc (.cells (madeCells #[.int .u8 0] rd.length) 5)) := fun W => by
          obtain ⟨i0, hi, hz0, hz1, hz2⟩ := info_parts Try.infoByte
          have := run_make (P := Try.prog) W 42 5 i0 _ Try.underlying42 hi hz0 .i64 .i64 (rd.length : Int) (rd.length : Int) (by omega) (Int.le_refl _) (by rw [hz2]; omega) (by omega)
          rw [hz1, show (Value.int .u8 0).cells = #[.int .u8 0] from rfl] at this
          simpa using this
        by_cases hio : k < no
        · have hioz : (k : Int) < (no : Int) := by omega
          have hkO : k < l1.length := by rw [← HNO.out]; exact hio
          have MO := O1.out.grow (show Below W1.heap.size W1 wr from HI.out.be)
          obtain ⟨ob, oo, rfl, hobl, hoc⟩ := MO.hd.at default (by omega)
          have o0 : wr.cell? ⟨ob, oo + k, none⟩ = some (.slice (l1.getD k default).p (l1.getD k default).d.length (l1.getD k default).c) := by
            have := hoc k 0 _ hkO (by decide) rfl
            rw [show oo + (k * encBs.n + 0) = oo + k by show oo + (k * 1 + 0) = oo + k; omega] at this
            exact this
          have HYO := (O1.out.bs _ (getD_mem l1 default hkO)).keep (Kb.of_below (B := W1.heap.size) HI.out.be)
          have EO := hid (show Plain.othersAt BB k = (l1.getD k default).d by unfold Plain.othersAt; rw [HBB.out, getD_map RB.d l1 default [] hkO])
          clear MO hoc
          generalize l1.getD k default = ot at o0 HYO EO
          obtain ⟨od, op, oc⟩ := ot
          dsimp only at o0 HYO EO
          obtain ⟨W', hcp, hby, hbe⟩ := copy_run W1.heap.size (wr.alloc (boxL ⟨⟨1, rf, rt, ri, rd⟩, rp, rc⟩)) rd.length (by omega) op oc od ((HYO.grow bel1).grow ((Below.refl _ _).alloc (Nat.le_refl _) _))
          rw [w1s] at hcp hby hbe
          obtain ⟨d20, hd20⟩ : ∃ d, d = Plain.pad od rd.length := ⟨_, rfl⟩
          have OT := hid (show Plain.otherL wh (Plain.othersAt BB k) ⟨1, rf, rt, ri, rd⟩ = ⟨1, rf, rt, ri, d20⟩ by rw [OT0.out, EO.out, hd20])
          have HM := hid (show d20.length = rd.length by rw [hd20, Plain.pad_len])
          rw [← hd20] at hby
          have R1 := hid (show W'.rowIs wr.heap.size 53 5 (ltF ⟨⟨1, rf, rt, ri, rd⟩, rp, rc⟩) from (rowL_new wr _).of_block (hbe.block _ (by omega)))
          have I1 := hid ((HI.out.grow bel1).grow (Below.mono hbe (by rw [w1s]; exact Nat.le_refl _)))
          have HB1 := hid hby
          have oA := (bel1.cell (p := ⟨ob, oo + k, none⟩) hobl).trans o0
          have oB : ((wr.alloc (.cells #[.int .i64 1, .int .i64 rf, .int .i64 rt, .int .i64 ri, .slice rp rd.length rc] 53)).alloc (.cells (madeCells #[.int .u8 0] rd.length) 5)).cell? ⟨ob, oo + k, none⟩ = some (.slice op od.length oc) := ((show Below (wr.alloc (boxL ⟨⟨1, rf, rt, ri, rd⟩, rp, rc⟩)).heap.size (wr.alloc (boxL ⟨⟨1, rf, rt, ri, rd⟩, rp, rc⟩)) ((wr.alloc (boxL ⟨⟨1, rf, rt, ri, rd⟩, rp, rc⟩)).alloc (.cells (madeCells #[.int .u8 0] rd.length) 5)) from (Below.refl _ _).alloc (Nat.le_refl _) _).cell (p := ⟨ob, oo + k, none⟩) (by rw [w1s]; exact Nat.lt_succ_of_lt hobl)).trans oA
          have y4 : W'.cell? ⟨wr.heap.size, 4, none⟩ = some (.slice rp rd.length rc) := R1.out.cell (i := 4) (by omega)
          have z4 := R1.out.frozen 4
          have hcp2 : (Builtin.copy_ #[42, 42] 3 #[.slice (some ⟨wr.heap.size + 1, 0, none⟩) rd.length rd.length, .slice op od.length oc]).run Try.prog ((wr.alloc (.cells #[.int .i64 1, .int .i64 rf, .int .i64 rt, .int .i64 ri, .slice rp rd.length rc] 53)).alloc (.cells (madeCells #[.int .u8 0] rd.length) 5)) = .ok (goInt ((min od.length rd.length : Nat) : Int)) W' := hcp
          clear hcp hby hbe HYO EO OT0 HI hd20 o0 bel1 HY
          generalize rd.length = m at *
          generalize od.length = om at *
          go_upto_region 13 with fail
          obtain ⟨W5, hW5⟩ : ∃ W5, W5 = W'.setCell ⟨wr.heap.size, 4, none⟩ (.slice (some ⟨wr.heap.size + 1, 0, none⟩) m m) := ⟨_, rfl⟩
          rw [← hW5]
          have o5 : Only1 wr.heap.size W' W5 := by rw [hW5]; exact Only1.set _ _ _
          have B5 := hid (show W5.rowIs wr.heap.size 53 5 (ltF ⟨⟨1, rf, rt, ri, d20⟩, some ⟨wr.heap.size + 1, 0, none⟩, m⟩) by
            rw [hW5]
            have := rowL_data R1.out (some ⟨wr.heap.size + 1, 0, none⟩) d20 m
            rw [HM.out] at this
            exact this)
          have I5 := hid (I1.out.only o5 R1.out HNE.out.1 HNE.out.2)
          have Y5 := hid (show By W1.heap.size W5 (some ⟨wr.heap.size + 1, 0, none⟩) m d20 from HB1.out.keep (o5.kb R1.out (by decide) HNE.out.2))
          clear hW5 o5 hcp2 hmk y4 z4 oA oB x0 x1 x2 x3 x4 R1 I1 HB1
          have d0 : W5.cell? ⟨wr.heap.size, 0, none⟩ = some (.int .i64 1) := B5.out.cell (i := 0) (by omega)
          have d1 : W5.cell? ⟨wr.heap.size, 1, none⟩ = some (.int .i64 rf) := B5.out.cell (i := 1) (by omega)
          have d2 : W5.cell? ⟨wr.heap.size, 2, none⟩ = some (.int .i64 rt) := B5.out.cell (i := 2) (by omega)
          have d3 : W5.cell? ⟨wr.heap.size, 3, none⟩ = some (.int .i64 ri) := B5.out.cell (i := 3) (by omega)
          have d4 : W5.cell? ⟨wr.heap.size, 4, none⟩ = some (.slice (some ⟨wr.heap.size + 1, 0, none⟩) m m) := (show W5.cell? ⟨wr.heap.size, 4, none⟩ = some (.slice (some ⟨wr.heap.size + 1, 0, none⟩) d20.length m) from B5.out.cell (i := 4) (by omega)).trans (by rw [HM.out])
          obtain ⟨pn, cn, U, hrun, hU⟩ := I5.out.snoc (by have := HL.out; omega) ⟨⟨1, rf, rt, ri, d20⟩, some ⟨wr.heap.size + 1, 0, none⟩, m⟩ Y5.out
          rw [HL.out] at hrun hU
          have RUN := hid (show (Builtin.append_ #[38, 38] 38 #[.slice q k c, .slice (some ⟨W5.heap.size, 0, none⟩) 1 1]).run Try.prog (W5.alloc (.cells #[.int .i64 1, .int .i64 rf, .int .i64 rt, .int .i64 ri, .slice (some ⟨wr.heap.size + 1, 0, none⟩) m m] 53)) = .ok (.slice pn (k + 1) cn) U by have h9 := hrun; rw [show boxL ⟨⟨1, rf, rt, ri, d20⟩, some ⟨wr.heap.size + 1, 0, none⟩, m⟩ = .cells #[.int .i64 1, .int .i64 rf, .int .i64 rt, .int .i64 ri, .slice (some ⟨wr.heap.size + 1, 0, none⟩) d20.length m] 53 from rfl, HM.out] at h9; exact h9)
          have HU := hid hU
          clear hrun hU I5 B5 Y5
          go_wp2_with (first | (at_builtin; refine wpList_app _ _ 38 RUN.out (by rfl) (by rfl) (by rfl) (by rfl) (by rfl) ?_) | fail)
          go_wp2
          go_roundg (n - (k + 1))
          case measure => omega
          case rel =>
            refine ⟨k + 1, Fs ++ [(⟨⟨1, rf, rt, ri, d20⟩, some ⟨wr.heap.size + 1, 0, none⟩, m⟩ : RL)], pn, cn, by omega, by omega, by go_num, rfl, (show Aside _ from HU.out), (show Aside _ from by rw [List.length_append, HL.out]; rfl), (show Aside _ from ?_)⟩
            rw [ST.out, List.map_append, HF.out, OT.out]
            rfl
        · have hioz : ¬ (k : Int) < (no : Int) := by omega
          have EO : Plain.othersAt BB k = [] := by unfold Plain.othersAt; rw [HBB.out, List.getD_eq_getElem?_getD, List.getElem?_eq_none (by rw [List.length_map, ← HNO.out]; omega)]; rfl
          obtain ⟨d20, hd20⟩ : ∃ d, d = Plain.pad [] rd.length := ⟨_, rfl⟩
          have OT := hid (show Plain.otherL wh (Plain.othersAt BB k) ⟨1, rf, rt, ri, rd⟩ = ⟨1, rf, rt, ri, d20⟩ by rw [OT0.out, EO, hd20])
          have HM := hid (show d20.length = rd.length by rw [hd20, Plain.pad_len])
          have HZ := hid (show ∀ j, j < rd.length → d20.getD j 0 = 0 from fun j hj => by rw [hd20, Plain.pad_get _ _ _ hj]; rfl)
          clear EO OT0 hd20 HY bel1 w1s
          generalize rd.length = m at *
          go_upto_region 13 with fail
          obtain ⟨W5, hW5⟩ : ∃ W5, W5 = (wr.alloc (boxL ⟨⟨1, rf, rt, ri, d20⟩, some ⟨wr.heap.size + 1, 0, none⟩, m⟩)).alloc (.cells (madeCells #[.int .u8 0] m) 5) := ⟨_, rfl⟩
          have eW : (wr.alloc (.cells #[.int .i64 1, .int .i64 rf, .int .i64 rt, .int .i64 ri, .slice (some ⟨wr.heap.size + 1, 0, none⟩) m m] 53)).alloc (.cells (madeCells #[.int .u8 0] m) 5) = W5 := by
            rw [hW5]
            show _ = (wr.alloc (.cells #[.int .i64 1, .int .i64 rf, .int .i64 rt, .int .i64 ri, .slice (some ⟨wr.heap.size + 1, 0, none⟩) d20.length m] 53)).alloc _
            rw [HM.out]
          rw [eW]
          have b1 : Below wr.heap.size wr (wr.alloc (boxL ⟨⟨1, rf, rt, ri, d20⟩, some ⟨wr.heap.size + 1, 0, none⟩, m⟩)) := (Below.refl _ _).alloc (Nat.le_refl _) _
          have I5 := hid (show LI W1 W5 (.slice q k c) Fs by rw [hW5]; exact (HI.out.grow b1).grow ((Below.refl _ _).alloc (Nat.le_refl _) _))
          have B5 := hid (show W5.rowIs wr.heap.size 53 5 (ltF ⟨⟨1, rf, rt, ri, d20⟩, some ⟨wr.heap.size + 1, 0, none⟩, m⟩) by rw [hW5]; exact (rowL_new wr _).alloc _)
          have Y5 := hid (show By W1.heap.size W5 (some ⟨wr.heap.size + 1, 0, none⟩) m d20 by
            have hr := World.rowIs_made (wr.alloc (boxL ⟨⟨1, rf, rt, ri, d20⟩, some ⟨wr.heap.size + 1, 0, none⟩, m⟩)) (.int .u8 0) m 5
            rw [show (wr.alloc (boxL ⟨⟨1, rf, rt, ri, d20⟩, some ⟨wr.heap.size + 1, 0, none⟩, m⟩)).heap.size = wr.heap.size + 1 by simp] at hr
            rw [hW5]
            exact By.of_row hr HM.out (by omega) (fun j hj => by rw [HZ.out j hj]))
          clear hW5 eW hmk x0 x1 x2 x3 x4 HI b1
          have d0 : W5.cell? ⟨wr.heap.size, 0, none⟩ = some (.int .i64 1) := B5.out.cell (i := 0) (by omega)
          have d1 : W5.cell? ⟨wr.heap.size, 1, none⟩ = some (.int .i64 rf) := B5.out.cell (i := 1) (by omega)
          have d2 : W5.cell? ⟨wr.heap.size, 2, none⟩ = some (.int .i64 rt) := B5.out.cell (i := 2) (by omega)
          have d3 : W5.cell? ⟨wr.heap.size, 3, none⟩ = some (.int .i64 ri) := B5.out.cell (i := 3) (by omega)
          have d4 : W5.cell? ⟨wr.heap.size, 4, none⟩ = some (.slice (some ⟨wr.heap.size + 1, 0, none⟩) m m) := (show W5.cell? ⟨wr.heap.size, 4, none⟩ = some (.slice (some ⟨wr.heap.size + 1, 0, none⟩) d20.length m) from B5.out.cell (i := 4) (by omega)).trans (by rw [HM.out])
          obtain ⟨pn, cn, U, hrun, hU⟩ := I5.out.snoc (by have := HL.out; omega) ⟨⟨1, rf, rt, ri, d20⟩, some ⟨wr.heap.size + 1, 0, none⟩, m⟩ Y5.out
          rw [HL.out] at hrun hU
          have RUN := hid (show (Builtin.append_ #[38, 38] 38 #[.slice q k c, .slice (some ⟨W5.heap.size, 0, none⟩) 1 1]).run Try.prog (W5.alloc (.cells #[.int .i64 1, .int .i64 rf, .int .i64 rt, .int .i64 ri, .slice (some ⟨wr.heap.size + 1, 0, none⟩) m m] 53)) = .ok (.slice pn (k + 1) cn) U by have h9 := hrun; rw [show boxL ⟨⟨1, rf, rt, ri, d20⟩, some ⟨wr.heap.size + 1, 0, none⟩, m⟩ = .cells #[.int .i64 1, .int .i64 rf, .int .i64 rt, .int .i64 ri, .slice (some ⟨wr.heap.size + 1, 0, none⟩) d20.length m] 53 from rfl, HM.out] at h9; exact h9)
          have HU := hid hU
          clear hrun hU I5 B5 Y5
          go_wp2_with (first | (at_builtin; refine wpList_app _ _ 38 RUN.out (by rfl) (by rfl) (by rfl) (by rfl) (by rfl) ?_) | fail)
          go_wp2
          go_roundg (n - (k + 1))
          case measure => omega
          case rel =>
            refine ⟨k + 1, Fs ++ [(⟨⟨1, rf, rt, ri, d20⟩, some ⟨wr.heap.size + 1, 0, none⟩, m⟩ : RL)], pn, cn, by omega, by omega, by go_num, rfl, (show Aside _ from HU.out), (show Aside _ from by rw [List.length_append, HL.out]; rfl), (show Aside _ from ?_)⟩
            rw [ST.out, List.map_append, HF.out, OT.out]
            rfl
      · have OT := hid (show Plain.otherL wh (Plain.othersAt BB k) ⟨rk, rf, rt, ri, rd⟩ = ⟨rk, rf, rt, ri, rd⟩ by unfold Plain.otherL; rw [if_neg hoth])
        by_cases hk1 : rk = 1
        · subst hk1
          have htw : rt = wh := Classical.byContradiction fun h => hoth ⟨rfl, h⟩
          have g2 : (rt != wh) = false := by simpa using htw
          clear hoth
          have HTW := hid htw
          clear htw
          go_upto_region 13 with fail
          obtain ⟨W5, hW5⟩ : ∃ W5, W5 = wr.alloc (boxL ⟨⟨1, rf, rt, ri, rd⟩, rp, rc⟩) := ⟨_, rfl⟩
          have b1 : Below wr.heap.size wr W5 := by rw [hW5]; exact (Below.refl _ _).alloc (Nat.le_refl _) _
          have eW : wr.alloc (.cells #[.int .i64 1, .int .i64 rf, .int .i64 rt, .int .i64 ri, .slice rp rd.length rc] 53) = W5 := hW5.symm
          rw [eW]
          have I5 := hid (HI.out.grow b1)
          have B5 := hid (show W5.rowIs wr.heap.size 53 5 (ltF ⟨⟨1, rf, rt, ri, rd⟩, rp, rc⟩) by rw [hW5]; exact rowL_new wr _)
          have Y5 := hid (show By W1.heap.size W5 rp rc rd from HY.out.grow b1)
          clear hW5 eW x0 x1 x2 x3 x4 HI HY b1
          have d0 : W5.cell? ⟨wr.heap.size, 0, none⟩ = some (.int .i64 1) := B5.out.cell (i := 0) (by omega)
          have d1 : W5.cell? ⟨wr.heap.size, 1, none⟩ = some (.int .i64 rf) := B5.out.cell (i := 1) (by omega)
          have d2 : W5.cell? ⟨wr.heap.size, 2, none⟩ = some (.int .i64 rt) := B5.out.cell (i := 2) (by omega)
          have d3 : W5.cell? ⟨wr.heap.size, 3, none⟩ = some (.int .i64 ri) := B5.out.cell (i := 3) (by omega)
          have d4 : W5.cell? ⟨wr.heap.size, 4, none⟩ = some (.slice rp rd.length rc) := B5.out.cell (i := 4) (by omega)
          obtain ⟨pn, cn, U, hrun, hU⟩ := I5.out.snoc (by have := HL.out; omega) ⟨⟨1, rf, rt, ri, rd⟩, rp, rc⟩ Y5.out
          rw [HL.out] at hrun hU
          have RUN := hid (show (Builtin.append_ #[38, 38] 38 #[.slice q k c, .slice (some ⟨W5.heap.size, 0, none⟩) 1 1]).run Try.prog (W5.alloc (.cells #[.int .i64 1, .int .i64 rf, .int .i64 rt, .int .i64 ri, .slice rp rd.length rc] 53)) = .ok (.slice pn (k + 1) cn) U from hrun)
          have HU := hid hU
          clear hrun hU I5 B5 Y5
          go_wp2_with (first | (at_builtin; refine wpList_app _ _ 38 RUN.out (by rfl) (by rfl) (by rfl) (by rfl) (by rfl) ?_) | fail)
          go_wp2
          go_roundg (n - (k + 1))
          case measure => omega
          case rel =>
            refine ⟨k + 1, Fs ++ [(⟨⟨1, rf, rt, ri, rd⟩, rp, rc⟩ : RL)], pn, cn, by omega, by omega, by go_num, rfl, (show Aside _ from HU.out), (show Aside _ from by rw [List.length_append, HL.out]; rfl), (show Aside _ from ?_)⟩
            rw [ST.out, List.map_append, HF.out, OT.out]
            rfl
        · have hk2 : rk = 2 := by omega
          subst hk2
          clear hoth
          clear hk1
          go_upto_region 13 with fail
          obtain ⟨W5, hW5⟩ : ∃ W5, W5 = wr.alloc (boxL ⟨⟨2, rf, rt, ri, rd⟩, rp, rc⟩) := ⟨_, rfl⟩
          have b1 : Below wr.heap.size wr W5 := by rw [hW5]; exact (Below.refl _ _).alloc (Nat.le_refl _) _
          have eW : wr.alloc (.cells #[.int .i64 2, .int .i64 rf, .int .i64 rt, .int .i64 ri, .slice rp rd.length rc] 53) = W5 := hW5.symm
          rw [eW]
          have I5 := hid (HI.out.grow b1)
          have B5 := hid (show W5.rowIs wr.heap.size 53 5 (ltF ⟨⟨2, rf, rt, ri, rd⟩, rp, rc⟩) by rw [hW5]; exact rowL_new wr _)
          have Y5 := hid (show By W1.heap.size W5 rp rc rd from HY.out.grow b1)
          clear hW5 eW x0 x1 x2 x3 x4 HI HY b1
          have d0 : W5.cell? ⟨wr.heap.size, 0, none⟩ = some (.int .i64 2) := B5.out.cell (i := 0) (by omega)
          have d1 : W5.cell? ⟨wr.heap.size, 1, none⟩ = some (.int .i64 rf) := B5.out.cell (i := 1) (by omega)
          have d2 : W5.cell? ⟨wr.heap.size, 2, none⟩ = some (.int .i64 rt) := B5.out.cell (i := 2) (by omega)
          have d3 : W5.cell? ⟨wr.heap.size, 3, none⟩ = some (.int .i64 ri) := B5.out.cell (i := 3) (by omega)
          have d4 : W5.cell? ⟨wr.heap.size, 4, none⟩ = some (.slice rp rd.length rc) := B5.out.cell (i := 4) (by omega)
          obtain ⟨pn, cn, U, hrun, hU⟩ := I5.out.snoc (by have := HL.out; omega) ⟨⟨2, rf, rt, ri, rd⟩, rp, rc⟩ Y5.out
          rw [HL.out] at hrun hU
          have RUN := hid (show (Builtin.append_ #[38, 38] 38 #[.slice q k c, .slice (some ⟨W5.heap.size, 0, none⟩) 1 1]).run Try.prog (W5.alloc (.cells #[.int .i64 2, .int .i64 rf, .int .i64 rt, .int .i64 ri, .slice rp rd.length rc] 53)) = .ok (.slice pn (k + 1) cn) U from hrun)
          have HU := hid hU
          clear hrun hU I5 B5 Y5
          go_wp2_with (first | (at_builtin; refine wpList_app _ _ 38 RUN.out (by rfl) (by rfl) (by rfl) (by rfl) (by rfl) ?_) | fail)
          go_wp2
          go_roundg (n - (k + 1))
          case measure => omega
          case rel =>
            refine ⟨k + 1, Fs ++ [(⟨⟨2, rf, rt, ri, rd⟩, rp, rc⟩ : RL)], pn, cn, by omega, by omega, by go_num, rfl, (show Aside _ from HU.out), (show Aside _ from by rw [List.length_append, HL.out]; rfl), (show Aside _ from ?_)⟩
            rw [ST.out, List.map_append, HF.out, OT.out]
            rfl
    · have hltz : ¬ (k : Int) < (n : Int) := by omega
      have ek : k = n := by omega
      subst ek
      have hFs : Fs.map RL.x = Plain.blindL wh BB L := by rw [HF.out, List.take_of_length_le (by rw [Plain.blindL_len, ← HN.out]; exact Nat.le_refl _)]
      have hli := HI.out
      have hFl := HL.out
      clear HI HF HL
      obtain ⟨wo, hwo⟩ : ∃ wo, wo = wr := ⟨_, rfl⟩
      subst hwo
      obtain ⟨pf', cf', e1, hnil, hMv⟩ := hli.form
      rw [hFl] at e1
      injection e1 with e1 _ e1c
      subst e1 e1c
      have MW := hid (M1.out.grow (show Below W1.heap.size W1 wo from hli.be))
      have BW := hid (B1.out.trans (Below.mono (show Below W1.heap.size W1 wo from hli.be) B1.out.size))
      have KA := mailed_c q1 k c1 Rs (by omega) wo HRN.out HNIL.out MW.out
      have KB := fun W (g : Below wo.heap.size wo W) => mailed_c q k c Fs (by omega) W hFl hnil (hMv.grow g)
      have HFs := hid hFs
      clear hli hFl hnil hMv hFs B1 M1 O1
      go_wp2_with fail
      refine KA.mono ?_
      rintro e W3 ⟨q3, c3, D, rfl, hD, hA, b3⟩
      have HD := hid (show D.map RD.d = Plain.mailF Plain.Off.nil L by rw [hD, HRs.out])
      have A3 := hid hA
      have B3 := hid b3
      clear KA hD hA b3
      go_wp2_with fail
      refine (KB _ B3.out).mono ?_
      rintro e W4 ⟨q4, c4, E, rfl, hE, hAE, b4⟩
      have HE := hid (show E.map RD.d = Plain.mailF Plain.Off.nil (Plain.blindL wh BB L) by rw [hE, HFs.out])
      have A4 := hid (A3.out.grow b4)
      have AE := hid hAE
      have B4 := hid (B3.out.trans (b4.mono B3.out.size))
      have KS := sure_c W4
      clear KB hE hAE b4 A3 B3
      go_wp2_with fail
      refine KS.mono ?_
      rintro e W5 ⟨rfl, b5⟩
      have A5 := hid (A4.out.grow b5)
      have AE5 := hid (AE.out.grow b5)
      have B5 := hid (B4.out.trans (b5.mono B4.out.size))
      have M5 := hid (MW.out.grow B5.out)
      have BF := hid (BW.out.trans (Below.mono B5.out BW.out.size))
      have HDL := hid (show D.length = k by
        have := congrArg List.length HD.out
        rw [List.length_map, Plain.mailF_len, ← HN.out] at this
        exact this)
      have HEL := hid (show E.length = k by
        have := congrArg List.length HE.out
        rw [List.length_map, Plain.mailF_len, Plain.blindL_len, ← HN.out] at this
        exact this)
      clear KS b5 A4 AE B4 MW BW
      go_wp2
      go_loopg [17] k (fun gg s17 wx => ∃ i : Nat, i ≤ k ∧ k - i ≤ gg ∧ s17 = .int .i64 i ∧ Aside (∃ q, wx = W5.drewN q))
      case atStart => exact ⟨0, Nat.zero_le _, by omega, rfl, (show Aside _ from ⟨0, rfl⟩)⟩
      case round =>
        obtain ⟨i, hik, hgg, rfl, I⟩ := hrel
        by_cases hil : i < k
        · have hilz : (i : Int) < (k : Int) := by omega
          have hiL : i < L.length := by rw [← HN.out]; exact hil
          have hiR : i < Rs.length := by rw [HRN.out]; exact hil
          have hiD : i < D.length := by rw [HDL.out]; exact hil
          have hiE : i < E.length := by rw [HEL.out]; exact hil
          obtain ⟨b, off, rfl, _, hc⟩ := holdsL M5.out.hd (by omega)
          obtain ⟨b1, o1, rfl, _, g1⟩ := holdsD A5.out.hd (by omega)
          obtain ⟨b2, o2, rfl, _, g2⟩ := holdsD AE5.out.hd (by omega)
          obtain ⟨q, hq⟩ := I.out
          obtain ⟨l0', _, l2', _, _⟩ := (hc i hiR).drewN q
          obtain ⟨x0, x1, x2, x3⟩ := (g1 i hiD).drewN q
          obtain ⟨y0, y1, y2, y3⟩ := (g2 i hiE).drewN q
          rw [← hq] at l0' l2' x0 x1 x2 x3 y0 y1 y2 y3
          have yb1 := A5.out.bs _ (getD_mem D default hiD)
          have yb2 := AE5.out.bs _ (getD_mem E default hiE)
          obtain ⟨e0, e1, e2, e3⟩ := Plain.blind_at wh BB L hiL
          have hmay := HMay.out _ (getD_mem L default hiL)
          rw [← show (Rs.getD i default).x = L.getD i default by rw [← getD_map RL.x Rs default default hiR, HRs.out]] at e3 hmay
          rw [← HD.out, ← HE.out, getD_map RD.d D default default hiD, getD_map RD.d E default default hiE] at e0 e1 e2 e3
          have HQ := hid hq
          clear g1 g2 hc hq I
          generalize Rs.getD i default = r at l0' l2' e3 hmay
          generalize D.getD i default = z1 at x0 x1 x2 x3 e0 e1 e2 e3 yb1
          generalize E.getD i default = z2 at y0 y1 y2 y3 e0 e1 e2 e3 yb2
          obtain ⟨⟨rk, rf, rt, ri, rd⟩, rp, rc⟩ := r
          obtain ⟨⟨za, zb, zc, zd⟩, zp, zq⟩ := z1
          obtain ⟨⟨ya, yb, yc, yd⟩, yp, yq⟩ := z2
          dsimp only at l0' l2' x0 x1 x2 x3 y0 y1 y2 y3 e0 e1 e2 e3 yb1 yb2
          have hk12 : rk = 1 ∨ rk = 2 := hmay.1
          subst e0 e1 e2
          clear hmay
          have n0 : ((za : Int) != (za : Int)) = false := by simp
          have n1 : (zb != zb) = false := by simp
          have n2 : (zc != zc) = false := by simp
          by_cases hex : rk = 2 ∧ rt ≠ wh
          · obtain ⟨hk2, htw⟩ := hex
            subst hk2
            have gt : (rt != wh) = true := by simpa using htw
            clear e3 yb1 yb2
            go_wp2
            go_quiet (fail)
            go_wp2
            obtain ⟨WR, hWR⟩ : ∃ WR, WR = wr.drewN nq := ⟨_, rfl⟩
            rw [← hWR]
            have l0r : WR.cell? ⟨b, off + i * 5, none⟩ = some (.int .i64 2) := by rw [hWR]; simpa using l0'
            have l2r : WR.cell? ⟨b, off + i * 5 + 2, none⟩ = some (.int .i64 rt) := by rw [hWR]; simpa using l2'
            have HQ2 := hid (show ∃ q, WR = W5.drewN q from ⟨_, by rw [hWR, HQ.out, drewN_add]⟩)
            clear hWR l0' l2' x0 x1 x2 x3 y0 y1 y2 y3
            go_quiet (fail)
            go_wp2
            go_roundg (k - (i + 1))
            case measure => omega
            case rel =>
              obtain ⟨q', hq'⟩ := HQ2.out
              exact ⟨i + 1, by omega, by omega, by go_num, (show Aside _ from ⟨_, by rw [hq', drewN_add]⟩)⟩
          · have hdd := e3 hex
            subst hdd
            clear e3
            go_wp2
            go_quiet (fail)
            go_wp2
            obtain ⟨WR, hWR⟩ : ∃ WR, WR = wr.drewN nq := ⟨_, rfl⟩
            rw [← hWR]
            have l0r : WR.cell? ⟨b, off + i * 5, none⟩ = some (.int .i64 rk) := by rw [hWR]; simpa using l0'
            have l2r : WR.cell? ⟨b, off + i * 5 + 2, none⟩ = some (.int .i64 rt) := by rw [hWR]; simpa using l2'
            have x3r : WR.cell? ⟨b1, o1 + i * 4 + 3, none⟩ = some (.slice zp zd.length zq) := by rw [hWR]; simpa using x3
            have y3r : WR.cell? ⟨b2, o2 + i * 4 + 3, none⟩ = some (.slice yp zd.length yq) := by rw [hWR]; simpa using y3
            have HQ2 := hid (show ∃ q, WR = W5.drewN q from ⟨_, by rw [hWR, HQ.out, drewN_add]⟩)
            obtain ⟨q', hq'⟩ := HQ2.out
            have K := fun t => sameB_any (n := zd.length) (WR.drewN t) rfl (show By W5.heap.size (WR.drewN t) zp zq zd by rw [hq']; exact (yb1.drewN q').drewN t) (show By W5.heap.size (WR.drewN t) yp yq zd by rw [hq']; exact (yb2.drewN q').drewN t)
            clear hq' hWR l0' l2' x0 x1 x2 x3 y0 y1 y2 y3 yb1 yb2
            generalize zd.length = dl at *
            by_cases hk2 : rk = 2
            · subst hk2
              have htw : rt = wh := Classical.byContradiction fun h => hex ⟨rfl, h⟩
              have gt : (rt != wh) = false := by simpa using htw
              have HTW := hid htw
              clear htw hex
              go_quiet ((go_at_call 19; exact Calls.quiet_of (K _)))
              go_wp2
              go_roundg (k - (i + 1))
              case measure => omega
              case rel =>
                obtain ⟨q', hq'⟩ := HQ2.out
                exact ⟨i + 1, by omega, by omega, by go_num, (show Aside _ from ⟨_, by rw [hq', drewN_add]⟩)⟩
            · have hk1 : rk = 1 := by omega
              subst hk1
              clear hex hk2
              go_quiet ((go_at_call 19; exact Calls.quiet_of (K _)))
              go_wp2
              go_roundg (k - (i + 1))
              case measure => omega
              case rel =>
                obtain ⟨q', hq'⟩ := HQ2.out
                exact ⟨i + 1, by omega, by omega, by go_num, (show Aside _ from ⟨_, by rw [hq', drewN_add]⟩)⟩
        · have hilz : ¬ (i : Int) < (k : Int) := by omega
          obtain ⟨q, hq⟩ := I.out
          have F := hid (show Below w.heap.size w wr by rw [hq]; exact below_drewN BF.out q)
          clear hq I
          go_wp2
          go_ret
          exact ⟨rfl, F.out⟩

set_option maxRecDepth 100000 in
theorem lifted (os : Os) (started : os.Started) (H : Type) (enc : TypeId × Value → H) :
    ReturnsInHanded {} Try.checked os 8 .any (Rows.sealBlindSpec.pre6 enc Try.prog Try.f8 Rows.sealBlindRow.domain false) (Rows.sealBlindSpec.post enc Try.prog Try.f8 false true false false) := by
  refine returnsInHanded_of_change (C := Try.checked) own started (by kernel_rfl) Try.func8
    (ChangeSpec.witness6 (enc := enc) (C := Try.checked) false ⟨#[], #[.slice none 0 0, .slice none 0 0, .int .i64 0], []⟩ 8 (by kernel_rfl) (by kernel_rfl) (by kernel_rfl) (by kernel_rfl)) ?_
  intro W base args ds gs before hval0 hW hcnd _
  have hval : ∀ (j : Nat) t v, Try.f8.params[j]? = some t → args[j]? = some v → Value.okWide Try.prog W .any base t v := hval0
  have hW' := hW
  obtain ⟨p, q, hA0, hV, rfl, hfz, hnd⟩ := hW
  have hA : DataW.TrodAll enc Try.prog W 0 (fun _ => true) true Try.f8.params.toList args.toList ds p := hA0
  rw [Try.params8] at hA hval
  obtain ⟨v0, vs0, d0, ds0, p0, q0, hargs, rfl, rfl, h0, r0⟩ := trodAll_cons hA
  obtain ⟨v1, vs1, d1, ds1, p1, q1, rfl, rfl, rfl, h1, r1⟩ := trodAll_cons r0
  obtain ⟨v2, vs2, d2, ds2, p2, q2, rfl, rfl, rfl, h2, r2⟩ := trodAll_cons r1
  obtain ⟨rfl, rfl, rfl⟩ := trodAll_nil r2
  obtain rfl : args = #[v0, v1, v2] := by cases args; simp_all
  obtain ⟨rfl, rfl⟩ := trodVars_none hV
  obtain ⟨a0, len0, cap0, rfl⟩ := okWide_slice Try.underlying47 (hval 0 47 v0 rfl rfl)
  have k0 := h0
  have lt0 : ∀ x ∈ p0, x.block < W.heap.size := by obtain ⟨m, hm⟩ := k0; exact DataW.trod_lt m _ _ _ hm
  obtain ⟨l0, s0⟩ := mls_open Try.underlying47 Try.underlying67 (by kernel_rfl) ⟨rfl, by intro j f hj; rcases j with _ | _ | _ | _ | _ | j <;> simp at hj <;> subst hj <;> exact ⟨rfl, by kernel_rfl⟩, by intro f hj; simp at hj; subst hj; exact Try.underlying4, by intro j f hj h1 h4; rcases j with _ | _ | _ | _ | j <;> (try omega) <;> simp at hj <;> subst hj <;> exact Try.underlying3, by intro f hj; simp at hj; subst hj; exact Try.underlying42⟩ h0
  obtain ⟨a1, len1, cap1, rfl⟩ := okWide_slice Try.underlying55 (hval 1 55 v1 rfl rfl)
  have k1 := h1
  have lt1 : ∀ x ∈ p1, x.block < W.heap.size := by obtain ⟨m, hm⟩ := k1; exact DataW.trod_lt m _ _ _ hm
  obtain ⟨l1, s1⟩ := bss_open Try.underlying55 Try.underlying42 (by kernel_rfl) h1
  have k2 := h2
  have lt2 : ∀ x ∈ p2, x.block < W.heap.size := by obtain ⟨m, hm⟩ := k2; exact DataW.trod_lt m _ _ _ hm
  obtain ⟨a2, rfl, _, _, w2⟩ := open_int Try.underlying3 (hval 2 3 v2 rfl rfl) h2
  clear hA0 hval0
  refine (walk W _ l0 s0 _ l1 s1 a2 (bounds_i64 w2)).mono fun e W' ⟨he, bel⟩ => ?_
  subst he
  exact ⟨_, rfl, _, _, _, [], _, [], hW', trodAll_mk1 (shut_bool Try.underlying4 _), (trodAll_cons_mk (Below.trod laidOut (by kernel_rfl) (of_decide_eq_true (by kernel_rfl)) k0 bel lt0) (trodAll_cons_mk (Below.trod laidOut (by kernel_rfl) (of_decide_eq_true (by kernel_rfl)) k1 bel lt1) (trodAll_cons_mk (Below.trod laidOut (by kernel_rfl) (of_decide_eq_true (by kernel_rfl)) k2 bel lt2) trodAll_mk0))), rfl, bel.frame _, fun h => by cases h⟩

theorem over : Rows.sealBlindRow.holds Try.pinned (OpenSpec.ofChange Rows.sealBlindSpec) :=
  OpenClaim.holds_of_wide 8 Try.f8 rfl rfl rfl rfl rfl rfl rfl ⟨rfl, rfl, rfl, rfl, rfl⟩ rfl rfl rfl rfl rfl (by kernel_rfl) Try.func8 (by kernel_rfl)
    (of_decide_eq_true (by kernel_rfl)) (by unfold Func.isWrapper; first | (rw [if_pos (by decide +kernel)]; kernel_rfl) | (rw [if_neg (by decide +kernel)]; exact ⟨rfl, rfl⟩))
    (fun os started H enc _ => lifted os started H enc)

end sealBlind

theorem sealBlind_holds : Rows.SealBlindSaid := sealBlind.over
#print axioms sealBlind_holds
end Go.Proofs.Ytiolkeghgodggai

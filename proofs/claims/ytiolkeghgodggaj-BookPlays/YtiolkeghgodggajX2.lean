/-
  The document's Gives.
-/
import Derived.Test.YtiolkeghgodggajX1
namespace Go.Proofs.Ytiolkeghgodggaj.Bo
open Go.RowKit Go.Shelf Go.Sort

set_option maxHeartbeats 8000000 in
set_option maxRecDepth 100000 in
theorem gives_on (B R A G S Q : Nat) (b : Plain.Bk) (h0 : b.rounds ≠ 0) (w : World) (h : RbI B R A G S Q w b) :
    Calls Try.prog 24 #[.pointer (some ⟨R, 0, none⟩)] w fun e w' => GiP B R A G S b w e w' := by
  obtain ⟨b2, hb2⟩ : ∃ b2, b2 = Plain.cntB b := ⟨_, rfl⟩
  have hn1 := h.n1
  have hn8 := h.n8
  have ht0 := h.ok.tk
  have htk := h.tk
  have HN2 := hid (show b2.n = b.n by rw [hb2]; exact Plain.cntB_n b)
  have OK2 := hid (show Plain.Ok b2 by rw [hb2]; exact Plain.cntB_ok h.ok)
  have HB2 := hid hb2
  obtain ⟨r2, hr2⟩ : ∃ r2, r2 = (b.rounds + 1) % b.ticks := ⟨_, rfl⟩
  have HR2 := hid hr2
  have hrd := h.ok.rd
  have hmod : Int.tmod ((b.rounds : Int) + 1) (b.ticks : Nat) = ((r2 : Nat) : Int) := by rw [hr2]; exact (Int.ofNat_tmod (b.rounds + 1) b.ticks).symm
  have hwr : IntKind.i64.wrap ((b.rounds : Int) + 1) = (b.rounds : Int) + 1 := by rw [IntKind.wrap_i64]; omega
  have htz : ((b.ticks : Nat) : Int) ≠ 0 := by omega
  have htz2 : (((b.ticks : Nat) : Int) == 0) = false := by simpa using htz
  obtain ⟨n, hn⟩ : ∃ n, n = b.n := ⟨_, rfl⟩
  rw [← hn] at hn1 hn8 HN2
  have HNB := hid hn
  have H := hid h
  clear hb2 hr2 hn
  have GE := hid h.ge
  have HREP := hid (show (-1 : Int) = Plain.reportB b by unfold Plain.reportB; rw [if_neg h0])
  have hrz : ((b.rounds : Int) == 0) = false := by simpa using h0
  obtain ⟨W9, hW9⟩ : ∃ W9, W9 = (w.drewN 1).setCell ⟨R, 3, none⟩ (.int .i64 (r2 : Nat)) := ⟨_, rfl⟩
  have eb : b2 = { b with rounds := r2 } := by
    rw [HB2.out, HR2.out]
    unfold Plain.cntB Plain.begB
    rw [if_neg h0]
  have RB9 : RbI B R A G S Q W9 b2 := by
    rw [hW9]
    have ok := OK2.out
    rw [eb] at ok ⊢
    refine (h.grow (below_drewN (Below.refl _ _) 1)).boxed ?_ (fun j hj => Below.heap_setCell _ ⟨R, 3, none⟩ _ j hj) ok rfl rfl rfl rfl rfl rfl
    refine ((h.row.of_block (w' := w.drewN 1) rfl).set 3 _).congr fun j hj => ?_
    have : j = 0 ∨ j = 1 ∨ j = 2 ∨ j = 3 ∨ j = 4 ∨ j = 5 ∨ j = 6 ∨ j = 7 ∨ j = 8 ∨ j = 9 := by omega
    rcases this with rfl | rfl | rfl | rfl | rfl | rfl | rfl | rfl | rfl | rfl <;> rfl
  have GV := hid (GrI.start RB9)
  have UN0 := hid (show Un (Fr R A G S) w W9 by rw [hW9]; exact (Un.of_below (below_drewN (Below.refl _ _) 1)).trans (Un.set (.inl rfl) _ _))
  have HF := hid (show ∀ k, k < w.heap.size → Fr R A G S k → Fr R A G S k from fun _ _ x => x)
  have FIN := hid (fun (wr U : World) (gc cc : Nat) (gv : GrI R A G S Q W9 wr b2 n) (hr : RowI U gc (Plain.givS b2 n).given) (hgc : wr.heap.size ≤ gc) (hbl : Below wr.heap.size wr U) =>
    (show GiP B R A G S b w (.returned (.tuple #[.slice (some ⟨gc, 0, none⟩) n cc, .int .i64 (-1)])) U by
      rw [HB2.out, HNB.out] at hr gv
      rw [HNB.out]
      exact giP_all H.out GE.out gv UN0.out HF.out hr hgc hbl _ HREP.out))
  have r0 := h.c0
  have r2c := h.c2
  have r3 := h.c3
  have f3 := h.row.frozen 3
  rw [← HNB.out] at r0
  clear h eb RB9 UN0 HF H h0
  generalize b.ticks = tk at *
  generalize b.rounds = rd at *
  have HW9 := hid hW9
  clear hW9
  go_enter Try.func24, Try.ntmps24
  go_wp2
  go_region
  have eW : (w.setCell ⟨R, 3, none⟩ (.int .i64 (r2 : Nat))).drew = W9 := by rw [HW9.out]; rfl
  rw [eW]
  clear eW HW9 r0 r2c r3 f3
  go_wp2

  go_loopg [7, 8] n (fun gg s7 _ wx => ∃ k : Nat, k ≤ n ∧ n - k ≤ gg ∧ s7 = .int .i64 k ∧ Aside (GrI R A G S Q W9 wx b2 k))
  case atStart => exact ⟨0, Nat.zero_le _, by omega, rfl, (show Aside _ from GV.out)⟩
  case round =>
    obtain ⟨k, hkk, hg, rfl, AA⟩ := hrel
    clear GV
    have HI := hid AA.out
    clear AA
    have r0 : wr.cell? ⟨R, 0, none⟩ = some (.int .i64 (n : Nat)) := by rw [← HN2.out]; exact HI.out.row.cell (i := 0) (by omega)
    by_cases hlt : k < n
    · have hltz : (k : Int) < (n : Int) := by omega
      have hk0 : (0 : Int) ≤ (k : Int) := by omega
      have hkb : k < b2.n := by rw [HN2.out]; exact hlt
      go_wp2
      clear r0
      obtain ⟨wo, hwo⟩ : ∃ wo, wo = wr := ⟨_, rfl⟩
      subst hwo
      go_loopg [8] 1 (fun gg _ wx => ∃ d : Nat, d ≤ 1 ∧ 1 - d ≤ gg ∧ Aside (GrI R A G S Q W9 wx b2 (k + d)))
      case atStart => exact ⟨0, by omega, by omega, (show Aside _ from HI.out)⟩
      case round =>
        obtain ⟨d, hd1, hdg, AA⟩ := hrel
        clear HI
        have HI := hid AA.out
        clear AA
        have r4 : wr.cell? ⟨R, 4, none⟩ = some (.int .i64 (Plain.givS b2 (k + d)).reserve) := HI.out.row.cell (i := 4) (by omega)
        have r6 : wr.cell? ⟨R, 6, none⟩ = some (.slice (some ⟨A, 0, none⟩) n n) := by rw [← HN2.out]; exact HI.out.row.cell (i := 6) (by omega)
        have r7 : wr.cell? ⟨R, 7, none⟩ = some (.slice (some ⟨G, 0, none⟩) n n) := by rw [← HN2.out]; exact HI.out.row.cell (i := 7) (by omega)
        have r8 : wr.cell? ⟨R, 8, none⟩ = some (.slice (some ⟨S, 0, none⟩) n n) := by rw [← HN2.out]; exact HI.out.row.cell (i := 8) (by omega)
        have r9 : wr.cell? ⟨R, 9, none⟩ = some (.slice (some ⟨Q, 0, none⟩) n n) := by rw [← HN2.out]; exact HI.out.row.cell (i := 9) (by omega)
        have ca : wr.cell? ⟨A, k, none⟩ = some (.int .i64 (b2.wants.getD k 0)) := HI.out.ra.cell (by rw [OK2.out.lw]; exact hkb)
        have cq : wr.cell? ⟨Q, k, none⟩ = some (.int .i64 (b2.quotas.getD k 0)) := HI.out.rq.cell (by rw [OK2.out.lq]; exact hkb)
        have cg : wr.cell? ⟨G, k, none⟩ = some (.int .i64 ((Plain.givS b2 (k + d)).given.getD k 0)) := HI.out.rg.cell (by rw [Plain.givS_len]; exact hkb)
        have cs : wr.cell? ⟨S, k, none⟩ = some (.int .i64 ((Plain.givS b2 (k + d)).since.getD k 0)) := HI.out.rs.cell (by rw [Plain.since_len]; exact hkb)
        have hb := Plain.amt_bd OK2.out hkb
        have hmin := Plain.amt_min OK2.out hkb
        have hwa := OK2.out.wa k hkb
        have hgi := OK2.out.gi k hkb
        have hsi := OK2.out.si k hkb
        have hqu := OK2.out.qu k hkb
        have hcp := OK2.out.cap.2
        by_cases hC : (Plain.givS b2 (k + d)).given.getD k 0 < b2.wants.getD k 0 ∧ (Plain.givS b2 (k + d)).since.getD k 0 < b2.quotas.getD k 0
        · have hd0 : d = 0 := by
            rcases Nat.eq_zero_or_pos d with x | x
            · exact x
            · have e1 : d = 1 := by omega
              subst e1
              rw [(Plain.givS_given hkb).2, (Plain.givS_since hkb).2, Plain.getD_set _ _ _ _ (by rw [Plain.givS_len]; exact hkb), Plain.getD_set _ _ _ _ (by rw [Plain.since_len]; exact hkb), if_pos rfl, if_pos rfl] at hC
              omega
          subst hd0
          rw [Nat.add_zero] at *
          rw [(Plain.givS_given hkb).1] at hC cg
          rw [(Plain.givS_since hkb).1] at hC cs
          have hre := Plain.givS_bd OK2.out (Nat.le_of_lt hkb)
          have fg := HI.out.rg.frozen k
          have fs := HI.out.rs.frozen k
          have fr := HI.out.row.frozen 4
          have ST := hid (fun q => (HI.out.drewN q).step GE.out hkb)
          clear HI
          generalize Plain.amt b2 k = am at *
          generalize (Plain.givS b2 k).reserve = re at *
          generalize b2.wants.getD k 0 = wk at *
          generalize b2.given.getD k 0 = gk at *
          generalize b2.quotas.getD k 0 = qk at *
          generalize b2.since.getD k 0 = sk at *
          obtain ⟨hC1, hC2⟩ := hC
          have hs1 : IntKind.i64.wrap (wk - gk) = wk - gk := by rw [IntKind.wrap_i64]; omega
          have hs2 : IntKind.i64.wrap (qk - sk) = qk - sk := by rw [IntKind.wrap_i64]; omega
          have hmn : (if qk - sk < wk - gk then qk - sk else wk - gk) = am := by rw [hmin]; split <;> omega
          clear hmin
          have d1 : decide (gk < wk) = true := decide_eq_true hC1
          have d2 : decide (sk < qk) = true := decide_eq_true hC2
          go_wp2
          go_quiet (fail)
          obtain ⟨W2, hW2⟩ : ∃ W2, W2 = wr.drewN nq := ⟨_, rfl⟩
          rw [← hW2]
          have ST2 := hid (fun q => show GrI R A G S Q W9 ((((W2.drewN q).setCell ⟨G, k, none⟩ (.int .i64 (gk + am))).setCell ⟨S, k, none⟩ (.int .i64 (sk + am))).setCell ⟨R, 4, none⟩ (.int .i64 (re - am))) b2 (k + 1) by
            rw [hW2, drewN_add]
            exact ST.out (nq + q))
          have p4 : W2.cell? ⟨R, 4, none⟩ = some (.int .i64 re) := by rw [hW2]; simpa using r4
          have p6 : W2.cell? ⟨R, 6, none⟩ = some (.slice (some ⟨A, 0, none⟩) n n) := by rw [hW2]; simpa using r6
          have p7 : W2.cell? ⟨R, 7, none⟩ = some (.slice (some ⟨G, 0, none⟩) n n) := by rw [hW2]; simpa using r7
          have p8 : W2.cell? ⟨R, 8, none⟩ = some (.slice (some ⟨S, 0, none⟩) n n) := by rw [hW2]; simpa using r8
          have p9 : W2.cell? ⟨R, 9, none⟩ = some (.slice (some ⟨Q, 0, none⟩) n n) := by rw [hW2]; simpa using r9
          have pa : W2.cell? ⟨A, k, none⟩ = some (.int .i64 wk) := by rw [hW2]; simpa using ca
          have pq : W2.cell? ⟨Q, k, none⟩ = some (.int .i64 qk) := by rw [hW2]; simpa using cq
          have pg : W2.cell? ⟨G, k, none⟩ = some (.int .i64 gk) := by rw [hW2]; simpa using cg
          have ps : W2.cell? ⟨S, k, none⟩ = some (.int .i64 sk) := by rw [hW2]; simpa using cs
          have fg2 : W2.frozen? ⟨G, k, none⟩ = false := by rw [hW2]; exact fg
          have fs2 : W2.frozen? ⟨S, k, none⟩ = false := by rw [hW2]; exact fs
          have fr2 : W2.frozen? ⟨R, 4, none⟩ = false := by rw [hW2]; exact fr
          clear hW2 r4 r6 r7 r8 r9 ca cq cg cs fg fs fr ST
          go_wp2
          go_quiet (fail)
          obtain ⟨W3, hW3⟩ : ∃ W3, W3 = W2.drewN nq := ⟨_, rfl⟩
          have ST3 := hid (ST2.out nq)
          rw [← hW3] at ST3 ⊢
          have q4 : W3.cell? ⟨R, 4, none⟩ = some (.int .i64 re) := by rw [hW3]; simpa using p4
          have q7 : W3.cell? ⟨R, 7, none⟩ = some (.slice (some ⟨G, 0, none⟩) n n) := by rw [hW3]; simpa using p7
          have q8 : W3.cell? ⟨R, 8, none⟩ = some (.slice (some ⟨S, 0, none⟩) n n) := by rw [hW3]; simpa using p8
          have qg : W3.cell? ⟨G, k, none⟩ = some (.int .i64 gk) := by rw [hW3]; simpa using pg
          have qs : W3.cell? ⟨S, k, none⟩ = some (.int .i64 sk) := by rw [hW3]; simpa using ps
          have fg3 : W3.frozen? ⟨G, k, none⟩ = false := by rw [hW3]; exact fg2
          have fs3 : W3.frozen? ⟨S, k, none⟩ = false := by rw [hW3]; exact fs2
          have fr3 : W3.frozen? ⟨R, 4, none⟩ = false := by rw [hW3]; exact fr2
          clear hW3 p4 p6 p7 p8 p9 pa pq pg ps fg2 fs2 fr2 ST2
          have n1 := GE.out.RG
          have n2 := GE.out.RS
          have n3 := GE.out.GS
          have n1' := n1.symm
          have n2' := n2.symm
          have n3' := n3.symm
          go_wp2
          go_roundg 0
          case measure => omega
          case rel => exact ⟨1, by omega, by omega, (show Aside _ from ST3.out)⟩
        · have GN0 : GrI R A G S Q W9 wr b2 (k + 1) := by
            rcases Nat.eq_zero_or_pos d with x | x
            · subst x
              rw [Nat.add_zero] at *
              rw [(Plain.givS_given hkb).1, (Plain.givS_since hkb).1] at hC
              exact HI.out.skip (by omega)
            · have e1 : d = 1 := by omega
              subst e1
              exact HI.out
          have GN := hid (fun q => GN0.drewN q)
          clear GN0 HI hb hmin hwa hgi hsi hqu hcp
          generalize (Plain.givS b2 (k + d)).given.getD k 0 = gd at *
          generalize (Plain.givS b2 (k + d)).since.getD k 0 = sd at *
          generalize b2.wants.getD k 0 = wk at *
          generalize b2.quotas.getD k 0 = qk at *
          by_cases hC1 : gd < wk
          · have hC2 : ¬ sd < qk := fun x => hC ⟨hC1, x⟩
            have d1 : decide (gd < wk) = true := decide_eq_true hC1
            have d2 : decide (sd < qk) = false := decide_eq_false hC2
            clear hC
            go_wp2
            go_quiet (fail)
            have GM := hid (GN.out nq)
            clear GN
            go_wp2
            go_roundg (n - (k + 1))
            case measure => omega
            case rel => exact ⟨k + 1, by omega, by omega, by go_num, (show Aside _ from GM.out)⟩
          · have d1 : decide (gd < wk) = false := decide_eq_false hC1
            clear hC
            go_wp2
            go_quiet (fail)
            have GM := hid (GN.out nq)
            clear GN
            go_wp2
            go_roundg (n - (k + 1))
            case measure => omega
            case rel => exact ⟨k + 1, by omega, by omega, by go_num, (show Aside _ from GM.out)⟩
    · have hltz : ¬ (k : Int) < (n : Int) := by omega
      have ek : k = n := by omega
      subst ek
      have r7 : wr.cell? ⟨R, 7, none⟩ = some (.slice (some ⟨G, 0, none⟩) k k) := by rw [← HN2.out]; exact HI.out.row.cell (i := 7) (by omega)
      obtain ⟨gc, cc, U, hrun, hr, hgc, hgr⟩ := app_row (cap := k) HI.out.rg (by rw [Plain.givS_len, HN2.out]) hn1 (by omega) (World.ownsRow_nil wr wr.heap.size 3 1) (Nat.le_refl _)
      have hbl : Below wr.heap.size wr U := ⟨hgr.os, hgr.tape, hgr.output, hgr.size, fun j hj => hgr.block j hj (by simp [Value.ownBlock])⟩
      have HE := hid (FIN.out wr U gc cc HI.out hr hgc hbl)
      have RUN := hid hrun
      clear hrun hr hgc hgr hbl HI
      go_wp2_with (first | (at_builtin; refine wpList_app _ _ 29 RUN.out (by rfl) (by rfl) (by rfl) (by rfl) (by rfl) ?_) | fail)
      go_wp2
      go_ret2
      exact HE.out
end Go.Proofs.Ytiolkeghgodggaj.Bo

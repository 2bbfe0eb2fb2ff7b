/-
  The document's Gives, when an epoch begins.
-/
import Derived.Test.YtiolkeghgodggajX2
namespace Go.Proofs.Ytiolkeghgodggaj.Bo
open Go.RowKit Go.Shelf Go.Sort

set_option maxHeartbeats 8000000 in
set_option maxRecDepth 100000 in
theorem gives_beg (B R A G S Q : Nat) (b : Plain.Bk) (h0 : b.rounds = 0) (w : World) (h : RbI B R A G S Q w b) :
    Calls Try.prog 24 #[.pointer (some ⟨R, 0, none⟩)] w fun e w' => GiP B R A G S b w e w' := by
  obtain ⟨b2, hb2⟩ : ∃ b2, b2 = Plain.cntB b := ⟨_, rfl⟩
  have hn1 := h.n1
  have hn8 := h.n8
  have ht0 := h.ok.tk
  have htk := h.tk
  have HN2 := hid (show b2.n = b.n by rw [hb2]; exact Plain.cntB_n b)
  have OK2 := hid (show Plain.Ok b2 by rw [hb2]; exact Plain.cntB_ok h.ok)
  have HB2 := hid hb2
  obtain ⟨r2, hr2⟩ : ∃ r2, r2 = (b.rounds + 1) % b.ticks := ⟨_, rfl⟩
  have HR2 := hid hr2
  have hrd := h.ok.rd
  have hmod : Int.tmod ((b.rounds : Int) + 1) (b.ticks : Nat) = ((r2 : Nat) : Int) := by rw [hr2]; exact (Int.ofNat_tmod (b.rounds + 1) b.ticks).symm
  have hwr : IntKind.i64.wrap ((b.rounds : Int) + 1) = (b.rounds : Int) + 1 := by rw [IntKind.wrap_i64]; omega
  have htz : ((b.ticks : Nat) : Int) ≠ 0 := by omega
  have htz2 : (((b.ticks : Nat) : Int) == 0) = false := by simpa using htz
  obtain ⟨n, hn⟩ : ∃ n, n = b.n := ⟨_, rfl⟩
  rw [← hn] at hn1 hn8 HN2
  have HNB := hid hn
  have H := hid h
  clear hb2 hr2 hn
  have HREP := hid (show b.reserve = Plain.reportB b by unfold Plain.reportB; rw [if_pos h0])
  have hrz : ((b.rounds : Int) == 0) = true := by simpa using h0
  have H0 := hid h0
  have hE : Plain.splitE b.reserve (List.replicate n b.cap) = 0 := by
    have := Plain.reserve_bd h.ok
    exact Plain.splitE_ok (by rw [List.length_replicate]; omega) ⟨by omega, by omega⟩ (Plain.wm_rep h.ok.cap)
  have HE0 := hid hE
  have r0 := h.c0
  have r1 := h.c1
  have r3 := h.c3
  have r4 := h.c4
  rw [← HNB.out] at r0
  have hlt := h.row.lt
  clear h hE h0
  have HMOD := hid hmod
  have HWR := hid hwr
  clear hmod hwr
  go_enter Try.func24, Try.ntmps24
  go_wp2
  go_loopg [5, 6] n (fun gg s5 s6 wx => ∃ (k : Nat) (q : Option Addr) (c : Nat), k ≤ n ∧ n - k ≤ gg ∧ s6 = .int .i64 k ∧ s5 = .slice q k c ∧ Aside (wx.ownsRow w.heap.size 3 1 (.slice q k c) k (ivals (List.replicate k b.cap)) ∧ Below w.heap.size w wx))
  case atStart => exact ⟨0, none, 0, Nat.zero_le _, by omega, rfl, rfl, (show Aside _ from ⟨World.ownsRow_nil _ _ _ _, Below.refl _ _⟩)⟩
  case round =>
    obtain ⟨k, q, c, hkk, hg, rfl, rfl, AA⟩ := hrel
    have s0 := (AA.out.2.cell (p := ⟨R, 0, none⟩) hlt).trans r0
    have s1 := (AA.out.2.cell (p := ⟨R, 1, none⟩) hlt).trans r1
    by_cases hltk : k < n
    · have hltz : (k : Int) < (n : Int) := by omega
      obtain ⟨q', c', U, hrun, hown, hbe⟩ := snoc_int b.cap AA.out.1 (by simp) (by omega) AA.out.2
      have RUN := hid hrun
      have OWN := hid (show U.ownsRow w.heap.size 3 1 (.slice q' (k + 1) c') (k + 1) (ivals (List.replicate (k + 1) b.cap)) by rw [List.replicate_succ']; exact hown)
      have HBE := hid hbe
      clear hrun hown hbe AA
      generalize b.cap = cap0 at *
      go_wp2_with (first | (at_builtin; refine wpList_app _ _ 29 RUN.out (by rfl) (by rfl) (by rfl) (by rfl) (by rfl) ?_) | fail)
      go_wp2
      go_roundg (n - (k + 1))
      case measure => omega
      case rel => exact ⟨k + 1, q', c', by omega, by omega, by go_num, rfl, (show Aside _ from ⟨OWN.out, HBE.out⟩)⟩
    · have hltz : ¬ (k : Int) < (n : Int) := by omega
      have ek : k = n := by omega
      have hkn := ek.symm
      clear ek hkk hg hltk
      subst hkn
      obtain ⟨gl, cl, e⟩ := owns_some AA.out.1 (by omega)
      injection e with e1 _ e2
      subst e1 e2
      have hrow := (RowI.of_owns (l := List.replicate n b.cap) AA.out.1 (by simp) rfl).1
      have HB1 := hid AA.out.2
      have H1 := hid (H.out.grow HB1.out)
      have K := rsplit_ok (some ⟨gl, 0, none⟩) n c (List.replicate n b.cap) b.reserve HE0.out wr (by simp) (fun _ => ⟨gl, 0, rfl, hrow.lt, fun j hj => by rw [Nat.zero_add]; exact hrow.cell hj⟩)
      have s4 := (AA.out.2.cell (p := ⟨R, 4, none⟩) hlt).trans r4
      clear AA hrow
      go_wp2_with fail
      refine K.mono ?_
      rintro e W2 ⟨rfl, hq2, hb2⟩
      have B2 := hid hb2
      have H2 := hid (H1.out.grow B2.out)
      obtain ⟨Q1, hQ1⟩ : ∃ Q1, Q1 = wr.heap.size := ⟨_, rfl⟩
      obtain ⟨S1, hS1⟩ : ∃ S1, S1 = W2.heap.size := ⟨_, rfl⟩
      rw [← hQ1]
      have BG := H1.out.begun H0.out B2.out (Q' := Q1) (by rw [hQ1, ← HNB.out]; exact hq2) (by rw [hQ1]; exact Nat.le_refl _) r2 HR2.out
      rw [← hS1] at BG
      rw [← HB2.out, ← HNB.out] at BG
      obtain ⟨W5, hW5⟩ : ∃ W5, W5 = ((W2.setCell ⟨R, 9, none⟩ (.slice (some ⟨Q1, 0, none⟩) n n)).alloc (.cells (madeCells #[.int .i64 0] n) 3)).setCell ⟨R, 8, none⟩ (.slice (some ⟨S1, 0, none⟩) n n) := ⟨_, rfl⟩
      rw [← hW5] at BG
      obtain ⟨W9, hW9⟩ : ∃ W9, W9 = (W5.drewN 1).setCell ⟨R, 3, none⟩ (.int .i64 (r2 : Nat)) := ⟨_, rfl⟩
      have RB9 : RbI B R A G S1 Q1 W9 b2 := by rw [hW9]; exact BG.other (fun _ _ _ => rfl)
      have GV := hid (GrI.start RB9)
      have GE := hid RB9.ge
      have hs5 : W2.heap.size ≤ W5.heap.size := by rw [hW5]; simp
      have unb : Un (Fr R A G S) w W2 := (Un.of_below HB1.out).trans (Un.of_below B2.out)
      have un5 : Un (Fr R A G S) W2 W5 := by
        rw [hW5]
        exact ((Un.set (.inl rfl) _ _).trans (Un.of_below ((Below.refl _ _).alloc (Nat.le_refl _) _))).trans (Un.set (.inl rfl) _ _)
      have UN0 := hid (show Un (Fr R A G S) w W9 by rw [hW9]; exact ((unb.trans un5).trans (Un.of_below (below_drewN (Below.refl _ _) 1))).trans (Un.set (.inl rfl) _ _))
      have hSb : w.heap.size ≤ S1 := by rw [hS1]; exact unb.size
      have HF := hid (show ∀ k, k < w.heap.size → Fr R A G S1 k → Fr R A G S k from fun k hk x => by
        rcases x with x | x | x | x
        · exact .inl x
        · exact .inr (.inl x)
        · exact .inr (.inr (.inl x))
        · omega)
      have FIN := hid (fun (wr U : World) (gc cc : Nat) (gv : GrI R A G S1 Q1 W9 wr b2 n) (hr : RowI U gc (Plain.givS b2 n).given) (hgc : wr.heap.size ≤ gc) (hbl : Below wr.heap.size wr U) =>
        (show GiP B R A G S b w (.returned (.tuple #[.slice (some ⟨gc, 0, none⟩) n cc, .int .i64 b.reserve])) U by
          rw [HB2.out, HNB.out] at hr gv
          rw [HNB.out]
          exact giP_all H.out GE.out gv UN0.out HF.out hr hgc hbl _ HREP.out))
      have t8 := H2.out.c8
      have t9 := H2.out.c9
      have t0 := H2.out.c0
      have t2 := H2.out.c2
      have t3 := H2.out.c3
      rw [← HNB.out] at t8 t9 t0
      have g8 := H2.out.row.frozen 8
      have g9 := H2.out.row.frozen 9
      have g3 := H2.out.row.frozen 3
      have hRS : R < W2.heap.size := H2.out.row.lt
      have hmk := run_make_row' (P := Try.prog) 29 3 (.int .i64 0) 8 Try.underlying29 Try.infoInt rfl .i64 .i64 n (by omega) (by omega)
      have T2 := hid (show W5.cell? ⟨R, 2, none⟩ = some (.int .i64 (b.ticks : Nat)) by
        have e : RbI B R A G S1 Q1 _ b2 := BG
        have := H2.out.row
        have row3 := (this.set 9 (.slice (some ⟨Q1, 0, none⟩) n n))
        have row4 := row3.of_block (((Below.refl _ _).alloc (Nat.le_refl _) (.cells (madeCells #[.int .i64 0] n) 3)).block R row3.lt)
        have row5 := row4.set 8 (.slice (some ⟨S1, 0, none⟩) n n)
        rw [← hW5] at row5
        exact row5.cell (i := 2) (by omega))
      have T3 := hid (show W5.cell? ⟨R, 3, none⟩ = some (.int .i64 (b.rounds : Nat)) by
        have := H2.out.row
        have row3 := (this.set 9 (.slice (some ⟨Q1, 0, none⟩) n n))
        have row4 := row3.of_block (((Below.refl _ _).alloc (Nat.le_refl _) (.cells (madeCells #[.int .i64 0] n) 3)).block R row3.lt)
        have row5 := row4.set 8 (.slice (some ⟨S1, 0, none⟩) n n)
        rw [← hW5] at row5
        exact row5.cell (i := 3) (by omega))
      have G3 := hid (show W5.frozen? ⟨R, 3, none⟩ = false by
        have := H2.out.row
        have row3 := (this.set 9 (.slice (some ⟨Q1, 0, none⟩) n n))
        have row4 := row3.of_block (((Below.refl _ _).alloc (Nat.le_refl _) (.cells (madeCells #[.int .i64 0] n) 3)).block R row3.lt)
        have row5 := row4.set 8 (.slice (some ⟨S1, 0, none⟩) n n)
        rw [← hW5] at row5
        exact row5.frozen 3)
      have HW5 := hid hW5
      have HW9 := hid hW9
      have HS1 := hid hS1
      clear hq2 hb2 B2 H2 BG RB9 UN0 HF unb un5 hs5 hSb hW5 hW9 hS1 hQ1 K H1 HB1 H s0 s1 s4 r0 r1 r3 r4 hlt
      have hmod := HMOD.out
      have hwr := HWR.out
      generalize b.reserve = re0 at HREP FIN ⊢
      generalize b.ticks = tk at *
      generalize b.rounds = rd at *
      go_wp2
      have eW5 : ((W2.setCell ⟨R, 9, none⟩ (.slice (some ⟨Q1, 0, none⟩) n n)).setCell ⟨R, 8, none⟩ (.slice (some ⟨W2.heap.size, 0, none⟩) n n)).alloc (.cells (madeCells #[.int .i64 0] n) 3) = W5 := by
        rw [HW5.out, HS1.out, World.setCell_alloc_past _ _ _ _ (by simpa using hRS)]
      rw [eW5]
      have u2 : W5.cell? ⟨R, 2, none⟩ = some (.int .i64 (tk : Nat)) := T2.out
      have u3 : W5.cell? ⟨R, 3, none⟩ = some (.int .i64 (rd : Nat)) := T3.out
      have v3 : W5.frozen? ⟨R, 3, none⟩ = false := G3.out
      clear eW5 HW5 HS1 t8 t9 t0 t2 t3 g8 g9 g3 hmk hRS T2 T3 G3
      go_region
      have eW : (W5.setCell ⟨R, 3, none⟩ (.int .i64 (r2 : Nat))).drew = W9 := by rw [HW9.out]; rfl
      rw [eW]
      clear eW HW9
      go_wp2

      go_loopg [7, 8] n (fun gg s7 _ wx => ∃ k : Nat, k ≤ n ∧ n - k ≤ gg ∧ s7 = .int .i64 k ∧ Aside (GrI R A G S1 Q1 W9 wx b2 k))
      case atStart => exact ⟨0, Nat.zero_le _, by omega, rfl, (show Aside _ from GV.out)⟩
      case round =>
        obtain ⟨k, hkk, hg, rfl, AA⟩ := hrel
        clear GV
        have HI := hid AA.out
        clear AA
        have r0 : wr.cell? ⟨R, 0, none⟩ = some (.int .i64 (n : Nat)) := by rw [← HN2.out]; exact HI.out.row.cell (i := 0) (by omega)
        by_cases hlt : k < n
        · have hltz : (k : Int) < (n : Int) := by omega
          have hk0 : (0 : Int) ≤ (k : Int) := by omega
          have hkb : k < b2.n := by rw [HN2.out]; exact hlt
          go_wp2
          clear r0
          obtain ⟨wo, hwo⟩ : ∃ wo, wo = wr := ⟨_, rfl⟩
          subst hwo
          go_loopg [8] 1 (fun gg _ wx => ∃ d : Nat, d ≤ 1 ∧ 1 - d ≤ gg ∧ Aside (GrI R A G S1 Q1 W9 wx b2 (k + d)))
          case atStart => exact ⟨0, by omega, by omega, (show Aside _ from HI.out)⟩
          case round =>
            obtain ⟨d, hd1, hdg, AA⟩ := hrel
            clear HI
            have HI := hid AA.out
            clear AA
            have r4 : wr.cell? ⟨R, 4, none⟩ = some (.int .i64 (Plain.givS b2 (k + d)).reserve) := HI.out.row.cell (i := 4) (by omega)
            have r6 : wr.cell? ⟨R, 6, none⟩ = some (.slice (some ⟨A, 0, none⟩) n n) := by rw [← HN2.out]; exact HI.out.row.cell (i := 6) (by omega)
            have r7 : wr.cell? ⟨R, 7, none⟩ = some (.slice (some ⟨G, 0, none⟩) n n) := by rw [← HN2.out]; exact HI.out.row.cell (i := 7) (by omega)
            have r8 : wr.cell? ⟨R, 8, none⟩ = some (.slice (some ⟨S1, 0, none⟩) n n) := by rw [← HN2.out]; exact HI.out.row.cell (i := 8) (by omega)
            have r9 : wr.cell? ⟨R, 9, none⟩ = some (.slice (some ⟨Q1, 0, none⟩) n n) := by rw [← HN2.out]; exact HI.out.row.cell (i := 9) (by omega)
            have ca : wr.cell? ⟨A, k, none⟩ = some (.int .i64 (b2.wants.getD k 0)) := HI.out.ra.cell (by rw [OK2.out.lw]; exact hkb)
            have cq : wr.cell? ⟨Q1, k, none⟩ = some (.int .i64 (b2.quotas.getD k 0)) := HI.out.rq.cell (by rw [OK2.out.lq]; exact hkb)
            have cg : wr.cell? ⟨G, k, none⟩ = some (.int .i64 ((Plain.givS b2 (k + d)).given.getD k 0)) := HI.out.rg.cell (by rw [Plain.givS_len]; exact hkb)
            have cs : wr.cell? ⟨S1, k, none⟩ = some (.int .i64 ((Plain.givS b2 (k + d)).since.getD k 0)) := HI.out.rs.cell (by rw [Plain.since_len]; exact hkb)
            have hb := Plain.amt_bd OK2.out hkb
            have hmin := Plain.amt_min OK2.out hkb
            have hwa := OK2.out.wa k hkb
            have hgi := OK2.out.gi k hkb
            have hsi := OK2.out.si k hkb
            have hqu := OK2.out.qu k hkb
            have hcp := OK2.out.cap.2
            by_cases hC : (Plain.givS b2 (k + d)).given.getD k 0 < b2.wants.getD k 0 ∧ (Plain.givS b2 (k + d)).since.getD k 0 < b2.quotas.getD k 0
            · have hd0 : d = 0 := by
                rcases Nat.eq_zero_or_pos d with x | x
                · exact x
                · have e1 : d = 1 := by omega
                  subst e1
                  rw [(Plain.givS_given hkb).2, (Plain.givS_since hkb).2, Plain.getD_set _ _ _ _ (by rw [Plain.givS_len]; exact hkb), Plain.getD_set _ _ _ _ (by rw [Plain.since_len]; exact hkb), if_pos rfl, if_pos rfl] at hC
                  omega
              subst hd0
              rw [Nat.add_zero] at *
              rw [(Plain.givS_given hkb).1] at hC cg
              rw [(Plain.givS_since hkb).1] at hC cs
              have hre := Plain.givS_bd OK2.out (Nat.le_of_lt hkb)
              have fg := HI.out.rg.frozen k
              have fs := HI.out.rs.frozen k
              have fr := HI.out.row.frozen 4
              have ST := hid (fun q => (HI.out.drewN q).step GE.out hkb)
              clear HI
              generalize Plain.amt b2 k = am at *
              generalize (Plain.givS b2 k).reserve = re at *
              generalize b2.wants.getD k 0 = wk at *
              generalize b2.given.getD k 0 = gk at *
              generalize b2.quotas.getD k 0 = qk at *
              generalize b2.since.getD k 0 = sk at *
              obtain ⟨hC1, hC2⟩ := hC
              have hs1 : IntKind.i64.wrap (wk - gk) = wk - gk := by rw [IntKind.wrap_i64]; omega
              have hs2 : IntKind.i64.wrap (qk - sk) = qk - sk := by rw [IntKind.wrap_i64]; omega
              have hmn : (if qk - sk < wk - gk then qk - sk else wk - gk) = am := by rw [hmin]; split <;> omega
              clear hmin
              have d1 : decide (gk < wk) = true := decide_eq_true hC1
              have d2 : decide (sk < qk) = true := decide_eq_true hC2
              go_wp2
              go_quiet (fail)
              obtain ⟨W2, hW2⟩ : ∃ W2, W2 = wr.drewN nq := ⟨_, rfl⟩
              rw [← hW2]
              have ST2 := hid (fun q => show GrI R A G S1 Q1 W9 ((((W2.drewN q).setCell ⟨G, k, none⟩ (.int .i64 (gk + am))).setCell ⟨S1, k, none⟩ (.int .i64 (sk + am))).setCell ⟨R, 4, none⟩ (.int .i64 (re - am))) b2 (k + 1) by
                rw [hW2, drewN_add]
                exact ST.out (nq + q))
              have p4 : W2.cell? ⟨R, 4, none⟩ = some (.int .i64 re) := by rw [hW2]; simpa using r4
              have p6 : W2.cell? ⟨R, 6, none⟩ = some (.slice (some ⟨A, 0, none⟩) n n) := by rw [hW2]; simpa using r6
              have p7 : W2.cell? ⟨R, 7, none⟩ = some (.slice (some ⟨G, 0, none⟩) n n) := by rw [hW2]; simpa using r7
              have p8 : W2.cell? ⟨R, 8, none⟩ = some (.slice (some ⟨S1, 0, none⟩) n n) := by rw [hW2]; simpa using r8
              have p9 : W2.cell? ⟨R, 9, none⟩ = some (.slice (some ⟨Q1, 0, none⟩) n n) := by rw [hW2]; simpa using r9
              have pa : W2.cell? ⟨A, k, none⟩ = some (.int .i64 wk) := by rw [hW2]; simpa using ca
              have pq : W2.cell? ⟨Q1, k, none⟩ = some (.int .i64 qk) := by rw [hW2]; simpa using cq
              have pg : W2.cell? ⟨G, k, none⟩ = some (.int .i64 gk) := by rw [hW2]; simpa using cg
              have ps : W2.cell? ⟨S1, k, none⟩ = some (.int .i64 sk) := by rw [hW2]; simpa using cs
              have fg2 : W2.frozen? ⟨G, k, none⟩ = false := by rw [hW2]; exact fg
              have fs2 : W2.frozen? ⟨S1, k, none⟩ = false := by rw [hW2]; exact fs
              have fr2 : W2.frozen? ⟨R, 4, none⟩ = false := by rw [hW2]; exact fr
              clear hW2 r4 r6 r7 r8 r9 ca cq cg cs fg fs fr ST
              go_wp2
              go_quiet (fail)
              obtain ⟨W3, hW3⟩ : ∃ W3, W3 = W2.drewN nq := ⟨_, rfl⟩
              have ST3 := hid (ST2.out nq)
              rw [← hW3] at ST3 ⊢
              have q4 : W3.cell? ⟨R, 4, none⟩ = some (.int .i64 re) := by rw [hW3]; simpa using p4
              have q7 : W3.cell? ⟨R, 7, none⟩ = some (.slice (some ⟨G, 0, none⟩) n n) := by rw [hW3]; simpa using p7
              have q8 : W3.cell? ⟨R, 8, none⟩ = some (.slice (some ⟨S1, 0, none⟩) n n) := by rw [hW3]; simpa using p8
              have qg : W3.cell? ⟨G, k, none⟩ = some (.int .i64 gk) := by rw [hW3]; simpa using pg
              have qs : W3.cell? ⟨S1, k, none⟩ = some (.int .i64 sk) := by rw [hW3]; simpa using ps
              have fg3 : W3.frozen? ⟨G, k, none⟩ = false := by rw [hW3]; exact fg2
              have fs3 : W3.frozen? ⟨S1, k, none⟩ = false := by rw [hW3]; exact fs2
              have fr3 : W3.frozen? ⟨R, 4, none⟩ = false := by rw [hW3]; exact fr2
              clear hW3 p4 p6 p7 p8 p9 pa pq pg ps fg2 fs2 fr2 ST2
              have n1 := GE.out.RG
              have n2 := GE.out.RS
              have n3 := GE.out.GS
              have n1' := n1.symm
              have n2' := n2.symm
              have n3' := n3.symm
              go_wp2
              go_roundg 0
              case measure => omega
              case rel => exact ⟨1, by omega, by omega, (show Aside _ from ST3.out)⟩
            · have GN0 : GrI R A G S1 Q1 W9 wr b2 (k + 1) := by
                rcases Nat.eq_zero_or_pos d with x | x
                · subst x
                  rw [Nat.add_zero] at *
                  rw [(Plain.givS_given hkb).1, (Plain.givS_since hkb).1] at hC
                  exact HI.out.skip (by omega)
                · have e1 : d = 1 := by omega
                  subst e1
                  exact HI.out
              have GN := hid (fun q => GN0.drewN q)
              clear GN0 HI hb hmin hwa hgi hsi hqu hcp
              generalize (Plain.givS b2 (k + d)).given.getD k 0 = gd at *
              generalize (Plain.givS b2 (k + d)).since.getD k 0 = sd at *
              generalize b2.wants.getD k 0 = wk at *
              generalize b2.quotas.getD k 0 = qk at *
              by_cases hC1 : gd < wk
              · have hC2 : ¬ sd < qk := fun x => hC ⟨hC1, x⟩
                have d1 : decide (gd < wk) = true := decide_eq_true hC1
                have d2 : decide (sd < qk) = false := decide_eq_false hC2
                clear hC
                go_wp2
                go_quiet (fail)
                have GM := hid (GN.out nq)
                clear GN
                go_wp2
                go_roundg (n - (k + 1))
                case measure => omega
                case rel => exact ⟨k + 1, by omega, by omega, by go_num, (show Aside _ from GM.out)⟩
              · have d1 : decide (gd < wk) = false := decide_eq_false hC1
                clear hC
                go_wp2
                go_quiet (fail)
                have GM := hid (GN.out nq)
                clear GN
                go_wp2
                go_roundg (n - (k + 1))
                case measure => omega
                case rel => exact ⟨k + 1, by omega, by omega, by go_num, (show Aside _ from GM.out)⟩
        · have hltz : ¬ (k : Int) < (n : Int) := by omega
          have ek : k = n := by omega
          subst ek
          have r7 : wr.cell? ⟨R, 7, none⟩ = some (.slice (some ⟨G, 0, none⟩) k k) := by rw [← HN2.out]; exact HI.out.row.cell (i := 7) (by omega)
          obtain ⟨gc, cc, U, hrun, hr, hgc, hgr⟩ := app_row (cap := k) HI.out.rg (by rw [Plain.givS_len, HN2.out]) hn1 (by omega) (World.ownsRow_nil wr wr.heap.size 3 1) (Nat.le_refl _)
          have hbl : Below wr.heap.size wr U := ⟨hgr.os, hgr.tape, hgr.output, hgr.size, fun j hj => hgr.block j hj (by simp [Value.ownBlock])⟩
          have HE := hid (FIN.out wr U gc cc HI.out hr hgc hbl)
          have RUN := hid hrun
          clear hrun hr hgc hgr hbl HI
          go_wp2_with (first | (at_builtin; refine wpList_app _ _ 29 RUN.out (by rfl) (by rfl) (by rfl) (by rfl) (by rfl) ?_) | fail)
          go_wp2
          go_ret2
          exact HE.out

theorem gives_c (B R A G S Q : Nat) (b : Plain.Bk) (w : World) (h : RbI B R A G S Q w b) :
    Calls Try.prog 24 #[.pointer (some ⟨R, 0, none⟩)] w fun e w' => GiP B R A G S b w e w' := by
  by_cases h0 : b.rounds = 0
  · exact gives_beg B R A G S Q b h0 w h
  · exact gives_on B R A G S Q b h0 w h
end Go.Proofs.Ytiolkeghgodggaj.Bo

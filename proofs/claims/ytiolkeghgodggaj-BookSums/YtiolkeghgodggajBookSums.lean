/- BookSums: nothing is given twice: of whatever calls of three branches, what was given in all and the reserve are what it was stocked with; nobody is given more than it wants, nor more than the cap in an epoch; what was given is never taken back; and the reports are the reserve. No condition. -/
import Derived.Test.YtiolkeghgodggajRows
import Derived.WalkKit
import Derived.ProofKit
import Derived.OpenShut
import Derived.WalkSmall
import Derived.ShutString
import Derived.ChangeOld
import Derived.Below
import Derived.Test.YtiolkeghgodggajV6
namespace Go.Proofs.Ytiolkeghgodggaj
namespace bookSums
open Go.ChangeShapes Go.WideShapes Go.ChangeAt Go.RowKit Bo
set_option linter.unusedVariables false

theorem own : ownKnob Try.prog.godebug = none := by kernel_rfl
theorem laidOut : laidOutB Try.prog = true := by kernel_rfl

set_option maxHeartbeats 4000000 in
set_option maxRecDepth 100000 in
theorem walk (w : World) (a0 : Int) (w0 : -9223372036854775808 ≤ a0 ∧ a0 ≤ 9223372036854775807) (a1 : Int) (w1 : -9223372036854775808 ≤ a1 ∧ a1 ≤ 9223372036854775807) (v2 : Value) (l2 : List Plain.Ca) (s2 : SegC w v2 l2) (r2 : ∀ j, j < l2.length → InC (l2.getD j default)) :
    Calls Try.prog 5 #[.int .i64 a0, .int .i64 a1, v2] w fun e w' => e = .returned (.bool true) ∧ Below w.heap.size w w' := by
  have hq0 : 0 ≤ a0 % 30 ∧ a0 % 30 < 30 := by omega
  have hq1 : 0 ≤ a1 % 4 ∧ a1 % 4 < 4 := by omega
  have K0 := fun W => picked_any a0 30 w0.1 w0.2 (by omega) (by omega) W
  have K1 := fun W => picked_any a1 4 w1.1 w1.2 (by omega) (by omega) W
  obtain ⟨hm2, p2, cap2, rfl, hp2⟩ := s2
  have KC := calls_c p2 l2.length cap2 l2 hm2 w rfl hp2 r2
  clear hp2 r2
  have HMAY := hid (Plain.callsF_may l2)
  have hcl := Plain.callsF_len l2
  generalize Plain.callsF l2 = cs at *
  generalize a0 % 30 = top at *
  generalize a1 % 4 = tq at *
  obtain ⟨tk, htk⟩ : ∃ tk : Nat, (tk : Int) = 1 + tq := ⟨(1 + tq).toNat, by omega⟩
  have hs1 : IntKind.i64.wrap (1 + tq) = (tk : Int) := by rw [IntKind.wrap_i64]; omega
  have ht1 : 1 ≤ tk ∧ tk ≤ 8 := by omega
  clear htk hq1
  have OK0 := hid (Plain.Ok.new (n := 3) (cap := top) (by omega) (show 0 < tk by omega))
  go_enter Try.func5, Try.ntmps5
  go_wp2_with fail
  refine (K0 _).mono ?_
  rintro e wx ⟨rfl, hx⟩
  have hy := hx.symm
  clear hx K0
  subst hy
  go_wp2_with fail
  refine (K1 _).mono ?_
  rintro e wx ⟨rfl, hx⟩
  have hy := hx.symm
  clear hx K1
  subst hy
  go_wp2_with fail
  refine KC.mono ?_
  rintro e W1 ⟨q1, c1, rfl, hC1⟩
  obtain ⟨pq, cq, eq1, hnl1, hhd1⟩ := hC1.form
  injection eq1 with eq1a _ eq1b
  subst eq1a eq1b
  have HC1 := hid hhd1
  have B1 := hid hC1.be
  have KB := booked_c q1 cs.length c1 cs top tk (by omega) ht1 (by omega) W1 rfl hhd1 hnl1
  clear hC1 hhd1 hnl1 KC hs1
  generalize hncs : cs.length = n at *
  have HNC := hid hncs
  clear hncs
  go_wp2_with fail
  refine KB.mono ?_
  rintro e W2 ⟨q2, c2, D, rfl, hD, hA, hb⟩
  have HD := hid hD
  have HA := hid hA
  have HC2 := hid (HC1.out.grow hb)
  have BW2 := hid (B1.out.trans (hb.mono B1.out.size))
  have HDL := hid (show D.length = n by
    have := congrArg List.length HD.out
    rw [List.length_map, Plain.bookF_len, HNC.out] at this
    exact this)
  clear hD hA hb KB HC1 B1
  have hmk := run_make_row' (P := Try.prog) 29 3 (.int .i64 0) 8 Try.underlying29 Try.infoInt rfl .i64 .i64 3 (by omega) (by omega)
  have hmk3 : ∀ W : World, (Instr.makeSlice 29 (.int .i64 3) (.int .i64 3)).run Try.prog W = .ok (.slice (some ⟨W.heap.size, 0, none⟩) 3 3) (W.alloc (.cells (madeCells #[.int .i64 0] 3) 3)) := fun W => hmk W
  clear hmk
  have SM := hid (SmI.start W2)
  obtain ⟨A, hAe⟩ : ∃ A, A = W2.heap.size := ⟨_, rfl⟩
  obtain ⟨G, hGe⟩ : ∃ G, G = W2.heap.size + 1 := ⟨_, rfl⟩
  obtain ⟨S0, hSe⟩ : ∃ S0, S0 = W2.heap.size + 1 + 1 := ⟨_, rfl⟩
  go_wp2
  rw [← hSe, ← hGe, ← hAe] at SM
  have eS0 : (Value.slice (some ⟨W2.heap.size + 1 + 1, 0, none⟩) 3 3) = .slice (some ⟨S0, 0, none⟩) 3 3 := by rw [hSe]
  have eA : (Value.slice (some ⟨W2.heap.size, 0, none⟩) 3 3) = .slice (some ⟨A, 0, none⟩) 3 3 := by rw [hAe]
  have eG : (Value.slice (some ⟨W2.heap.size + 1, 0, none⟩) 3 3) = .slice (some ⟨G, 0, none⟩) 3 3 := by rw [hGe]
  rw [eS0, eA, eG]
  clear eA eG eS0 hAe hGe hSe
  go_loopg [14, 15, 16, 17, 18, 19, 20] n (fun gg s14 s15 s16 s17 _ _ _ wx => ∃ (k S N : Nat) (re : Int), k ≤ n ∧ n - k ≤ gg ∧ s17 = .int .i64 k ∧ s14 = .slice (some ⟨S, 0, none⟩) 3 3 ∧ s15 = .int .i64 re ∧ s16 = .int .i64 (N : Nat) ∧ N ≤ k ∧ Aside (re = (Plain.bkF (Plain.Bk.new 3 top tk) (cs.take k)).reserve) ∧ Aside ((Plain.bkF (Plain.Bk.new 3 top tk) (cs.take k)).rounds = N % tk) ∧ Aside (SmI W2 wx A G S (Plain.bkF (Plain.Bk.new 3 top tk) (cs.take k)).wants (Plain.bkF (Plain.Bk.new 3 top tk) (cs.take k)).given (Plain.bkF (Plain.Bk.new 3 top tk) (cs.take k)).since))
  case atStart => exact ⟨0, _, 0, 0, Nat.zero_le _, by omega, rfl, rfl, rfl, rfl, Nat.le_refl _, (show Aside _ from rfl), (show Aside _ from (Nat.zero_mod _).symm), (show Aside _ from SM.out)⟩
  case round =>
    obtain ⟨k, S, N, re0, hkk, hg, rfl, rfl, rfl, rfl, hNk, IRE, IRD, ISM⟩ := hrel
    clear SM
    by_cases hlt : k < n
    · have hltz : (k : Int) < (n : Int) := by omega
      have hkc : k < cs.length := by rw [HNC.out]; exact hlt
      have hkd : k < D.length := by rw [HDL.out]; exact hlt
      have OKB := hid (OK0.out.run (cs.take k))
      have HBN := hid (show (Plain.bkF (Plain.Bk.new 3 top tk) (cs.take k)).n = 3 from Plain.bkF_n' _ _)
      have HBC := hid (show (Plain.bkF (Plain.Bk.new 3 top tk) (cs.take k)).cap = top ∧ (Plain.bkF (Plain.Bk.new 3 top tk) (cs.take k)).ticks = tk from Plain.bkF_cap _ _)
      have hev := Plain.ever_take (n := 3) (cap := top) (tk := tk) HMAY.out (by rw [HNC.out]; omega) k
      have RT := hid (Plain.bkF_take (Plain.Bk.new 3 top tk) cs k hkc)
      have hdk : (D.getD k default).d = Plain.caT (Plain.bkF (Plain.Bk.new 3 top tk) (cs.take k)) (cs.getD k default) := by
        rw [← getD_map RU.d D default default hkd, HD.out]
        exact Plain.bookF_at _ _ k hkc
      have hmay := HMAY.out _ (getD_mem cs default hkc)
      obtain ⟨b1', o1, rfl, hb1', g1⟩ := holdsC HC2.out (by omega)
      obtain ⟨b2, o2, rfl, hb2, g2⟩ := holdsU HA.out.hd (by omega)
      have HSMk := hid ISM.out
      have HRE := hid IRE.out
      have HRDk := hid IRD.out
      clear ISM IRE IRD
      obtain ⟨c0, c1', c2'⟩ := (g1 k hkc).below HSMk.out.be hb1'
      have x1 := (g2 k hkd).c1
      have x2 := ((g2 k hkd).below HSMk.out.be hb2).c2
      have yb := HA.out.bs _ (getD_mem D default hkd)
      clear g1 g2
      generalize Plain.bkF (Plain.Bk.new 3 top tk) (cs.take k) = b at *
      generalize cs.getD k default = x at *
      generalize D.getD k default = z at *
      have hE : Plain.caE b x = 0 := Plain.may_ok hmay HBN.out hev
      have hrb := Plain.reserve_bd OKB.out
      rw [← HRE.out] at hrb
      rcases hmay with ⟨hk1, hc1, hc4⟩ | ⟨hk2, ⟨hw0, hw3⟩, hcc⟩ | hk3
      · have HCB := hid (show Plain.caB b x = { b with ever := b.ever + x.count, reserve := b.reserve + x.count } by
          unfold Plain.caB
          rw [hE, if_neg (by decide), if_neg (by omega), if_pos hk1])
        have HX := hid (show re0 + x.count = (Plain.caB b x).reserve ∧ (Plain.caB b x).rounds = N % tk ∧ SmI W2 wr A G S (Plain.caB b x).wants (Plain.caB b x).given (Plain.caB b x).since by
          rw [HCB.out]
          exact ⟨by show re0 + x.count = b.reserve + x.count; rw [HRE.out], HRDk.out, HSMk.out⟩)
        rw [hk1] at c0
        clear HCB HRE HRDk HSMk hdk hev hE x1 x2 yb
        generalize x.count = xc at *
        have hs5 : IntKind.i64.wrap (re0 + xc) = re0 + xc := by rw [IntKind.wrap_i64]; omega
        go_wp2
        go_roundg (n - (k + 1))
        case measure => omega
        case rel => exact ⟨k + 1, S, N, re0 + xc, by omega, by omega, by go_num, rfl, rfl, rfl, by omega, (show Aside _ from by rw [RT.out]; exact HX.out.1), (show Aside _ from by rw [RT.out]; exact HX.out.2.1), (show Aside _ from by rw [RT.out]; exact HX.out.2.2)⟩
      · obtain ⟨i, hi⟩ : ∃ i : Nat, x.who = (i : Int) := ⟨x.who.toNat, by omega⟩
        have HCB := hid (show Plain.caB b x = { b with wants := b.wants.set i (max (b.wants.getD i 0) x.count) } by
          unfold Plain.caB
          rw [hE, if_neg (by decide), if_neg (by omega), if_neg (by omega), hi, Int.toNat_natCast])
        have hib : i < b.n := by rw [HBN.out]; omega
        have ca : wr.cell? ⟨A, i, none⟩ = some (.int .i64 (b.wants.getD i 0)) := HSMk.out.ra.cell (by rw [OKB.out.lw]; exact hib)
        have fa := HSMk.out.ra.frozen i
        have hwb := OKB.out.wa i hib
        have n1 : ¬ A = b1' := by have := HSMk.out.hA; omega
        have n1' : ¬ b1' = A := by omega
        have HX := hid (fun q m (hm : m = max (b.wants.getD i 0) x.count) => show re0 = (Plain.caB b x).reserve ∧ (Plain.caB b x).rounds = N % tk ∧ SmI W2 ((wr.drewN q).setCell ⟨A, i, none⟩ (.int .i64 m)) A G S (Plain.caB b x).wants (Plain.caB b x).given (Plain.caB b x).since by
          rw [HCB.out, hm]
          exact ⟨HRE.out, HRDk.out, (HSMk.out.drewN q).want i (by rw [OKB.out.lw]; exact hib) _⟩)
        rw [hk2] at c0
        rw [hi] at c1'
        clear HCB HRE HRDk HSMk hdk hev hE x1 x2 yb
        generalize x.count = xc at *
        generalize b.wants.getD i 0 = wv at *
        have hiz : (i : Int) < 3 := by omega
        have hi0 : (0 : Int) ≤ (i : Int) := by omega
        obtain ⟨mx, hmx⟩ : ∃ mx, mx = max wv xc := ⟨_, rfl⟩
        have hmm : (if wv < xc then xc else wv) = mx := by rw [hmx]; split <;> omega
        have HX2 := hid (fun q => HX.out q mx hmx)
        clear HX hmx
        go_wp2
        go_region
        all_goals
          have HX3 := hid (HX2.out 1)
          go_wp2
          go_roundg (n - (k + 1))
          case measure => omega
          case rel => exact ⟨k + 1, S, N, re0, by omega, by omega, by go_num, rfl, rfl, rfl, by omega, (show Aside _ from by rw [RT.out]; exact HX3.out.1), (show Aside _ from by rw [RT.out]; exact HX3.out.2.1), (show Aside _ from by rw [RT.out]; exact HX3.out.2.2)⟩
      · have HCB := hid (show Plain.caB b x = Plain.roundB b by
          unfold Plain.caB
          rw [hE, if_neg (by decide), if_pos hk3])
        have hT : Plain.caT b x = ⟨0, (Plain.roundB b).given, Plain.reportB b⟩ := by
          unfold Plain.caT
          rw [hE, if_neg (by decide), if_pos hk3]
        rw [hT] at hdk
        obtain ⟨b1, hb1e⟩ : ∃ b1, b1 = Plain.begB b := ⟨_, rfl⟩
        have HB1 := hid hb1e
        have OK1 := hid (show Plain.Ok b1 by rw [hb1e]; exact OKB.out.beg)
        have HB1N := hid (show b1.n = 3 by rw [hb1e, Plain.begB_n]; exact HBN.out)
        have HCAP := hid (show b1.cap = top by rw [hb1e, Plain.begB_cap]; exact HBC.out.1)
        have HRD := hid (show (Plain.roundB b).rounds = (N + 1) % tk by rw [Plain.roundB_rounds, HBC.out.2, HRDk.out, Nat.mod_add_mod])
        obtain ⟨zd, zp, zq⟩ := z
        dsimp only at hdk
        subst hdk
        dsimp only at x1 x2 yb
        have hlg : (Plain.roundB b).given.length = 3 := by rw [OKB.out.round.lg, Plain.roundB_n]; exact HBN.out
        rw [hlg] at x1
        obtain ⟨gb, go, rfl, hgb, _, gc⟩ := yb.cl (by rw [hlg]; omega)
        have GC := hid (fun j (hj : j < 3) => show W2.cell? ⟨gb, go + j, none⟩ = some (.int .i64 (b1.given.getD j 0 + Plain.amt b1 j)) by
          rw [hb1e, ← Plain.round_at HBN.out hj]
          exact gc j (by rw [hlg]; exact hj))
        clear gc yb hlg hT
        rw [hk3] at c0
        have hmod : Int.tmod (N : Int) (tk : Int) = ((b.rounds : Nat) : Int) := by rw [HRDk.out]; exact (Int.ofNat_tmod _ _).symm
        have htz : ((tk : Nat) : Int) ≠ 0 := by omega
        have htz2 : (((tk : Nat) : Int) == 0) = false := by simpa using htz
        have hwn : IntKind.i64.wrap ((N : Int) + 1) = (N : Int) + 1 := by rw [IntKind.wrap_i64]; omega
        by_cases hr0 : b.rounds = 0
        · have hrep : Plain.reportB b = re0 := by unfold Plain.reportB; rw [if_pos hr0, HRE.out]
          rw [hrep] at x2
          have hnn : (re0 != re0) = false := by simp
          have hrz : ((b.rounds : Int) == 0) = true := by simpa using hr0
          have RE0 := hid (show re0 = (Plain.givS b1 0).reserve by rw [Plain.givS_zero OK1.out, HB1.out, Plain.begB_reserve', HRE.out])
          have SM0 := hid (show SmI W2 (wr.alloc (.cells (madeCells #[.int .i64 0] 3) 3)) A G wr.heap.size b1.wants (Plain.givS b1 0).given (Plain.givS b1 0).since by
            rw [Plain.givS_zero OK1.out, HB1.out, Plain.begB_wants, Plain.begB_given, Plain.begB_since0 hr0, HBN.out]
            exact HSMk.out.fresh)
          obtain ⟨S1, hS1⟩ : ∃ S1, S1 = wr.heap.size := ⟨_, rfl⟩
          clear hb1e HRE HRDk HSMk hev hE hrep
          generalize b.rounds = rd at *
          clear hr0
          go_wp2
          have eS : (Value.slice (some ⟨wr.heap.size, 0, none⟩) 3 3) = .slice (some ⟨S1, 0, none⟩) 3 3 := by rw [hS1]
          rw [eS]
          rw [← hS1] at SM0
          obtain ⟨wb, hwb⟩ : ∃ wb, wb = wr.alloc (.cells (madeCells #[.int .i64 0] 3) 3) := ⟨_, rfl⟩
          rw [← hwb] at SM0 ⊢
          clear eS hS1 hwb c0 c1' c2' x2 hmod hrz hnn hwn
          go_loopg [15, 19, 20] 3 (fun gg s15 s19 _ wx => ∃ (j : Nat) (re : Int), j ≤ 3 ∧ 3 - j ≤ gg ∧ s19 = .int .i64 j ∧ s15 = .int .i64 re ∧ Aside (re = (Plain.givS b1 j).reserve) ∧ Aside (SmI W2 wx A G S1 b1.wants (Plain.givS b1 j).given (Plain.givS b1 j).since))
          case atStart => exact ⟨0, re0, Nat.zero_le _, by omega, rfl, rfl, (show Aside _ from RE0.out), (show Aside _ from SM0.out)⟩
          case round =>
            obtain ⟨j, re, hj3, hjg, rfl, rfl, IRE, ISM⟩ := hrel
            clear SM0 RE0
            have HRE := hid IRE.out
            have HSM := hid ISM.out
            clear IRE ISM
            by_cases hlj : j < 3
            · have hljz : (j : Int) < 3 := by omega
              have hj0 : (0 : Int) ≤ (j : Int) := by omega
              have hjb : j < b1.n := by rw [HB1N.out]; exact hlj
              have hb := Plain.amt_bd OK1.out hjb
              have hwa := OK1.out.wa j hjb
              have hgi := OK1.out.gi j hjb
              have hsi := OK1.out.si j hjb
              have hqu := OK1.out.qu j hjb
              have hcap := HCAP.out
              have hpos := Plain.givS_pos OK1.out (k := j + 1) (by rw [HB1N.out]; omega)
              have hbd := Plain.givS_bd OK1.out (k := j) (by omega)
              rw [Plain.givS_reserve, ← HRE.out] at hpos
              rw [← HRE.out] at hbd
              have vr : wr.cell? ⟨b2, o2 + k * 3 + 1, none⟩ = some (.slice (some ⟨gb, go, none⟩) 3 zq) := (HSM.out.be.cell (p := ⟨b2, o2 + k * 3 + 1, none⟩) hb2).trans x1
              have vg : wr.cell? ⟨gb, go + j, none⟩ = some (.int .i64 (b1.given.getD j 0 + Plain.amt b1 j)) := (HSM.out.be.cell (p := ⟨gb, go + j, none⟩) hgb).trans (GC.out j hlj)
              have cg : wr.cell? ⟨G, j, none⟩ = some (.int .i64 (b1.given.getD j 0)) := by rw [← (Plain.givS_given hjb).1]; exact HSM.out.rg.cell (by rw [Plain.givS_len]; exact hjb)
              have ca : wr.cell? ⟨A, j, none⟩ = some (.int .i64 (b1.wants.getD j 0)) := HSM.out.ra.cell (by rw [OK1.out.lw]; exact hjb)
              have cs' : wr.cell? ⟨S1, j, none⟩ = some (.int .i64 (b1.since.getD j 0)) := by rw [← (Plain.givS_since hjb).1]; exact HSM.out.rs.cell (by rw [Plain.since_len']; exact hjb)
              have fg := HSM.out.rg.frozen j
              have fs := HSM.out.rs.frozen j
              have NX := hid (fun q => show SmI W2 (((wr.drewN q).setCell ⟨S1, j, none⟩ (.int .i64 (b1.since.getD j 0 + Plain.amt b1 j))).setCell ⟨G, j, none⟩ (.int .i64 (b1.given.getD j 0 + Plain.amt b1 j))) A G S1 b1.wants (Plain.givS b1 (j + 1)).given (Plain.givS b1 (j + 1)).since by
                rw [(Plain.givS_given hjb).2, (Plain.givS_since hjb).2]
                exact (HSM.out.drewN q).gave j (by rw [Plain.givS_len]; exact hjb) (by rw [Plain.since_len']; exact hjb) _ _)
              have NR := hid (show re - Plain.amt b1 j = (Plain.givS b1 (j + 1)).reserve by rw [Plain.givS_reserve, HRE.out])
              have n1 := HSM.out.GS
              have n1' := n1.symm
              have n2 : ¬ gb = S1 := by have := HSM.out.hS; omega
              have n2' : ¬ S1 = gb := by omega
              have n3 : ¬ b2 = S1 := by have := HSM.out.hS; omega
              have n3' : ¬ S1 = b2 := by omega
              clear HSM HRE
              generalize Plain.amt b1 j = am at *
              generalize b1.wants.getD j 0 = wk at *
              generalize b1.given.getD j 0 = gk at *
              generalize b1.since.getD j 0 = sk at *
              generalize b1.quotas.getD j 0 = qk at *
              obtain ⟨gn, hgn⟩ : ∃ gn, gn = gk + am := ⟨_, rfl⟩
              rw [← hgn] at vg NX
              have hsub : IntKind.i64.wrap (gn - gk) = am := by rw [IntKind.wrap_i64]; omega
              have d1 : decide (gn < gk) = false := decide_eq_false (by omega)
              have d2 : decide (wk < gn) = false := decide_eq_false (by omega)
              have hs1 : IntKind.i64.wrap (sk + am) = sk + am := by rw [IntKind.wrap_i64]; omega
              have hs2 : IntKind.i64.wrap (re - am) = re - am := by rw [IntKind.wrap_i64]; omega
              have d3 : ¬ top < sk + am := by omega
              have d4 : ¬ re - am < 0 := by omega
              have hgb2 : -9000000 ≤ gn ∧ gn ≤ 9000000 ∧ -9000000 ≤ am ∧ am ≤ 9000000 ∧ -9000000 ≤ sk ∧ sk ≤ 9000000 ∧ -9000000 ≤ re ∧ re ≤ 9000000 := by omega
              clear hgn hb hwa hgi hsi hqu hcap hpos hbd
              go_wp2
              go_quiet (fail)
              obtain ⟨W3, hW3⟩ : ∃ W3, W3 = wr.drewN nq := ⟨_, rfl⟩
              rw [← hW3]
              have NX3 := hid (fun q => show SmI W2 (((W3.drewN q).setCell ⟨S1, j, none⟩ (.int .i64 (sk + am))).setCell ⟨G, j, none⟩ (.int .i64 gn)) A G S1 b1.wants (Plain.givS b1 (j + 1)).given (Plain.givS b1 (j + 1)).since by
                rw [hW3, drewN_add]; exact NX.out (nq + q))
              have vr : W3.cell? ⟨b2, o2 + k * 3 + 1, none⟩ = some (.slice (some ⟨gb, go, none⟩) 3 zq) := by rw [hW3]; simpa using vr
              have vg : W3.cell? ⟨gb, go + j, none⟩ = some (.int .i64 gn) := by rw [hW3]; simpa using vg
              have cg : W3.cell? ⟨G, j, none⟩ = some (.int .i64 gk) := by rw [hW3]; simpa using cg
              have ca : W3.cell? ⟨A, j, none⟩ = some (.int .i64 wk) := by rw [hW3]; simpa using ca
              have cs' : W3.cell? ⟨S1, j, none⟩ = some (.int .i64 sk) := by rw [hW3]; simpa using cs'
              have fg : W3.frozen? ⟨G, j, none⟩ = false := by rw [hW3]; exact fg
              have fs : W3.frozen? ⟨S1, j, none⟩ = false := by rw [hW3]; exact fs
              clear hW3 NX
              go_wp2
              go_quiet (fail)
              obtain ⟨W4, hW4⟩ : ∃ W4, W4 = W3.drewN nq := ⟨_, rfl⟩
              rw [← hW4]
              have NX4 := hid (NX3.out nq)
              rw [← hW4] at NX4
              have vr : W4.cell? ⟨b2, o2 + k * 3 + 1, none⟩ = some (.slice (some ⟨gb, go, none⟩) 3 zq) := by rw [hW4]; simpa using vr
              have vg : W4.cell? ⟨gb, go + j, none⟩ = some (.int .i64 gn) := by rw [hW4]; simpa using vg
              have cg : W4.cell? ⟨G, j, none⟩ = some (.int .i64 gk) := by rw [hW4]; simpa using cg
              have cs' : W4.cell? ⟨S1, j, none⟩ = some (.int .i64 sk) := by rw [hW4]; simpa using cs'
              have fg : W4.frozen? ⟨G, j, none⟩ = false := by rw [hW4]; exact fg
              have fs : W4.frozen? ⟨S1, j, none⟩ = false := by rw [hW4]; exact fs
              clear hW4 NX3
              go_wp2
              go_roundg (3 - (j + 1))
              case measure => omega
              case rel => exact ⟨j + 1, re - am, by omega, by omega, by go_num, rfl, (show Aside _ from NR.out), (show Aside _ from NX4.out)⟩
            · have hljz : ¬ (j : Int) < 3 := by omega
              have ej : 3 = j := by omega
              subst ej
              have HF := hid (show SmI W2 wr A G S1 (Plain.caB b x).wants (Plain.caB b x).given (Plain.caB b x).since ∧ re = (Plain.caB b x).reserve by
                have e := Plain.givS_end HBN.out
                rw [← HB1.out] at e
                rw [HCB.out, ← e.1, ← e.2.1, ← e.2.2, Plain.roundB_wants]
                have hs := HSM.out
                rw [show b1.wants = b.wants by rw [HB1.out]; exact Plain.begB_wants b] at hs
                exact ⟨hs, HRE.out⟩)
              clear HSM HRE
              go_wp2
              go_roundg (n - (k + 1))
              case measure => omega
              case rel =>
                refine ⟨k + 1, S1, N + 1, re, by omega, by omega, by go_num, rfl, rfl, by go_num, by omega, (show Aside _ from ?_), (show Aside _ from ?_), (show Aside _ from ?_)⟩
                · rw [RT.out]; exact HF.out.2
                · rw [RT.out, HCB.out]; exact HRD.out
                · rw [RT.out]; exact HF.out.1
        · have hrep : Plain.reportB b = -1 := by unfold Plain.reportB; rw [if_neg hr0]
          rw [hrep] at x2
          have hrz : ((b.rounds : Int) == 0) = false := by simpa using hr0
          have RE0 := hid (show re0 = (Plain.givS b1 0).reserve by rw [Plain.givS_zero OK1.out, HB1.out, Plain.begB_reserve', HRE.out])
          have SM0 := hid (show SmI W2 wr A G S b1.wants (Plain.givS b1 0).given (Plain.givS b1 0).since by
            rw [Plain.givS_zero OK1.out, HB1.out, Plain.begB_same hr0]
            exact HSMk.out)
          clear hb1e HRE HRDk HSMk hev hE hrep
          generalize b.rounds = rd at *
          clear hr0
          go_wp2
          obtain ⟨wb, hwb⟩ : ∃ wb, wb = wr := ⟨_, rfl⟩
          subst hwb
          clear c0 c1' c2' x2 hmod hrz hwn
          go_loopg [15, 19, 20] 3 (fun gg s15 s19 _ wx => ∃ (j : Nat) (re : Int), j ≤ 3 ∧ 3 - j ≤ gg ∧ s19 = .int .i64 j ∧ s15 = .int .i64 re ∧ Aside (re = (Plain.givS b1 j).reserve) ∧ Aside (SmI W2 wx A G S b1.wants (Plain.givS b1 j).given (Plain.givS b1 j).since))
          case atStart => exact ⟨0, re0, Nat.zero_le _, by omega, rfl, rfl, (show Aside _ from RE0.out), (show Aside _ from SM0.out)⟩
          case round =>
            obtain ⟨j, re, hj3, hjg, rfl, rfl, IRE, ISM⟩ := hrel
            clear SM0 RE0
            have HRE := hid IRE.out
            have HSM := hid ISM.out
            clear IRE ISM
            by_cases hlj : j < 3
            · have hljz : (j : Int) < 3 := by omega
              have hj0 : (0 : Int) ≤ (j : Int) := by omega
              have hjb : j < b1.n := by rw [HB1N.out]; exact hlj
              have hb := Plain.amt_bd OK1.out hjb
              have hwa := OK1.out.wa j hjb
              have hgi := OK1.out.gi j hjb
              have hsi := OK1.out.si j hjb
              have hqu := OK1.out.qu j hjb
              have hcap := HCAP.out
              have hpos := Plain.givS_pos OK1.out (k := j + 1) (by rw [HB1N.out]; omega)
              have hbd := Plain.givS_bd OK1.out (k := j) (by omega)
              rw [Plain.givS_reserve, ← HRE.out] at hpos
              rw [← HRE.out] at hbd
              have vr : wr.cell? ⟨b2, o2 + k * 3 + 1, none⟩ = some (.slice (some ⟨gb, go, none⟩) 3 zq) := (HSM.out.be.cell (p := ⟨b2, o2 + k * 3 + 1, none⟩) hb2).trans x1
              have vg : wr.cell? ⟨gb, go + j, none⟩ = some (.int .i64 (b1.given.getD j 0 + Plain.amt b1 j)) := (HSM.out.be.cell (p := ⟨gb, go + j, none⟩) hgb).trans (GC.out j hlj)
              have cg : wr.cell? ⟨G, j, none⟩ = some (.int .i64 (b1.given.getD j 0)) := by rw [← (Plain.givS_given hjb).1]; exact HSM.out.rg.cell (by rw [Plain.givS_len]; exact hjb)
              have ca : wr.cell? ⟨A, j, none⟩ = some (.int .i64 (b1.wants.getD j 0)) := HSM.out.ra.cell (by rw [OK1.out.lw]; exact hjb)
              have cs' : wr.cell? ⟨S, j, none⟩ = some (.int .i64 (b1.since.getD j 0)) := by rw [← (Plain.givS_since hjb).1]; exact HSM.out.rs.cell (by rw [Plain.since_len']; exact hjb)
              have fg := HSM.out.rg.frozen j
              have fs := HSM.out.rs.frozen j
              have NX := hid (fun q => show SmI W2 (((wr.drewN q).setCell ⟨S, j, none⟩ (.int .i64 (b1.since.getD j 0 + Plain.amt b1 j))).setCell ⟨G, j, none⟩ (.int .i64 (b1.given.getD j 0 + Plain.amt b1 j))) A G S b1.wants (Plain.givS b1 (j + 1)).given (Plain.givS b1 (j + 1)).since by
                rw [(Plain.givS_given hjb).2, (Plain.givS_since hjb).2]
                exact (HSM.out.drewN q).gave j (by rw [Plain.givS_len]; exact hjb) (by rw [Plain.since_len']; exact hjb) _ _)
              have NR := hid (show re - Plain.amt b1 j = (Plain.givS b1 (j + 1)).reserve by rw [Plain.givS_reserve, HRE.out])
              have n1 := HSM.out.GS
              have n1' := n1.symm
              have n2 : ¬ gb = S := by have := HSM.out.hS; omega
              have n2' : ¬ S = gb := by omega
              have n3 : ¬ b2 = S := by have := HSM.out.hS; omega
              have n3' : ¬ S = b2 := by omega
              clear HSM HRE
              generalize Plain.amt b1 j = am at *
              generalize b1.wants.getD j 0 = wk at *
              generalize b1.given.getD j 0 = gk at *
              generalize b1.since.getD j 0 = sk at *
              generalize b1.quotas.getD j 0 = qk at *
              obtain ⟨gn, hgn⟩ : ∃ gn, gn = gk + am := ⟨_, rfl⟩
              rw [← hgn] at vg NX
              have hsub : IntKind.i64.wrap (gn - gk) = am := by rw [IntKind.wrap_i64]; omega
              have d1 : decide (gn < gk) = false := decide_eq_false (by omega)
              have d2 : decide (wk < gn) = false := decide_eq_false (by omega)
              have hs1 : IntKind.i64.wrap (sk + am) = sk + am := by rw [IntKind.wrap_i64]; omega
              have hs2 : IntKind.i64.wrap (re - am) = re - am := by rw [IntKind.wrap_i64]; omega
              have d3 : ¬ top < sk + am := by omega
              have d4 : ¬ re - am < 0 := by omega
              have hgb2 : -9000000 ≤ gn ∧ gn ≤ 9000000 ∧ -9000000 ≤ am ∧ am ≤ 9000000 ∧ -9000000 ≤ sk ∧ sk ≤ 9000000 ∧ -9000000 ≤ re ∧ re ≤ 9000000 := by omega
              clear hgn hb hwa hgi hsi hqu hcap hpos hbd
              go_wp2
              go_quiet (fail)
              obtain ⟨W3, hW3⟩ : ∃ W3, W3 = wr.drewN nq := ⟨_, rfl⟩
              rw [← hW3]
              have NX3 := hid (fun q => show SmI W2 (((W3.drewN q).setCell ⟨S, j, none⟩ (.int .i64 (sk + am))).setCell ⟨G, j, none⟩ (.int .i64 gn)) A G S b1.wants (Plain.givS b1 (j + 1)).given (Plain.givS b1 (j + 1)).since by
                rw [hW3, drewN_add]; exact NX.out (nq + q))
              have vr : W3.cell? ⟨b2, o2 + k * 3 + 1, none⟩ = some (.slice (some ⟨gb, go, none⟩) 3 zq) := by rw [hW3]; simpa using vr
              have vg : W3.cell? ⟨gb, go + j, none⟩ = some (.int .i64 gn) := by rw [hW3]; simpa using vg
              have cg : W3.cell? ⟨G, j, none⟩ = some (.int .i64 gk) := by rw [hW3]; simpa using cg
              have ca : W3.cell? ⟨A, j, none⟩ = some (.int .i64 wk) := by rw [hW3]; simpa using ca
              have cs' : W3.cell? ⟨S, j, none⟩ = some (.int .i64 sk) := by rw [hW3]; simpa using cs'
              have fg : W3.frozen? ⟨G, j, none⟩ = false := by rw [hW3]; exact fg
              have fs : W3.frozen? ⟨S, j, none⟩ = false := by rw [hW3]; exact fs
              clear hW3 NX
              go_wp2
              go_quiet (fail)
              obtain ⟨W4, hW4⟩ : ∃ W4, W4 = W3.drewN nq := ⟨_, rfl⟩
              rw [← hW4]
              have NX4 := hid (NX3.out nq)
              rw [← hW4] at NX4
              have vr : W4.cell? ⟨b2, o2 + k * 3 + 1, none⟩ = some (.slice (some ⟨gb, go, none⟩) 3 zq) := by rw [hW4]; simpa using vr
              have vg : W4.cell? ⟨gb, go + j, none⟩ = some (.int .i64 gn) := by rw [hW4]; simpa using vg
              have cg : W4.cell? ⟨G, j, none⟩ = some (.int .i64 gk) := by rw [hW4]; simpa using cg
              have cs' : W4.cell? ⟨S, j, none⟩ = some (.int .i64 sk) := by rw [hW4]; simpa using cs'
              have fg : W4.frozen? ⟨G, j, none⟩ = false := by rw [hW4]; exact fg
              have fs : W4.frozen? ⟨S, j, none⟩ = false := by rw [hW4]; exact fs
              clear hW4 NX3
              go_wp2
              go_roundg (3 - (j + 1))
              case measure => omega
              case rel => exact ⟨j + 1, re - am, by omega, by omega, by go_num, rfl, (show Aside _ from NR.out), (show Aside _ from NX4.out)⟩
            · have hljz : ¬ (j : Int) < 3 := by omega
              have ej : 3 = j := by omega
              subst ej
              have HF := hid (show SmI W2 wr A G S (Plain.caB b x).wants (Plain.caB b x).given (Plain.caB b x).since ∧ re = (Plain.caB b x).reserve by
                have e := Plain.givS_end HBN.out
                rw [← HB1.out] at e
                rw [HCB.out, ← e.1, ← e.2.1, ← e.2.2, Plain.roundB_wants]
                have hs := HSM.out
                rw [show b1.wants = b.wants by rw [HB1.out]; exact Plain.begB_wants b] at hs
                exact ⟨hs, HRE.out⟩)
              clear HSM HRE
              go_wp2
              go_roundg (n - (k + 1))
              case measure => omega
              case rel =>
                refine ⟨k + 1, S, N + 1, re, by omega, by omega, by go_num, rfl, rfl, by go_num, by omega, (show Aside _ from ?_), (show Aside _ from ?_), (show Aside _ from ?_)⟩
                · rw [RT.out]; exact HF.out.2
                · rw [RT.out, HCB.out]; exact HRD.out
                · rw [RT.out]; exact HF.out.1
    · have hltz : ¬ (k : Int) < (n : Int) := by omega
      have F := hid (show Below w.heap.size w wr from BW2.out.trans (ISM.out.be.mono BW2.out.size))
      clear ISM IRE IRD
      go_wp2
      go_ret
      exact ⟨rfl, F.out⟩

set_option maxRecDepth 100000 in
theorem lifted (os : Os) (started : os.Started) (H : Type) (enc : TypeId × Value → H) :
    ReturnsInHanded {} Try.checked os 5 .any (Rows.bookSumsSpec.pre6 enc Try.prog Try.f5 Rows.bookSumsRow.domain false) (Rows.bookSumsSpec.post enc Try.prog Try.f5 false true false false) := by
  refine returnsInHanded_of_change (C := Try.checked) own started (by kernel_rfl) Try.func5
    (ChangeSpec.witness6 (enc := enc) (C := Try.checked) false ⟨#[], #[.int .i64 0, .int .i64 0, .slice none 0 0], []⟩ 8 (by kernel_rfl) (by kernel_rfl) (by kernel_rfl) (by kernel_rfl)) ?_
  intro W base args ds gs before hval0 hW hcnd _
  have hval : ∀ (j : Nat) t v, Try.f5.params[j]? = some t → args[j]? = some v → Value.okWide Try.prog W .any base t v := hval0
  have hW' := hW
  obtain ⟨p, q, hA0, hV, rfl, hfz, hnd⟩ := hW
  have hA : DataW.TrodAll enc Try.prog W 0 (fun _ => true) true Try.f5.params.toList args.toList ds p := hA0
  rw [Try.params5] at hA hval
  obtain ⟨v0, vs0, d0, ds0, p0, q0, hargs, rfl, rfl, h0, r0⟩ := trodAll_cons hA
  obtain ⟨v1, vs1, d1, ds1, p1, q1, rfl, rfl, rfl, h1, r1⟩ := trodAll_cons r0
  obtain ⟨v2, vs2, d2, ds2, p2, q2, rfl, rfl, rfl, h2, r2⟩ := trodAll_cons r1
  obtain ⟨rfl, rfl, rfl⟩ := trodAll_nil r2
  obtain rfl : args = #[v0, v1, v2] := by cases args; simp_all
  obtain ⟨rfl, rfl⟩ := trodVars_none hV
  have k0 := h0
  have lt0 : ∀ x ∈ p0, x.block < W.heap.size := by obtain ⟨m, hm⟩ := k0; exact DataW.trod_lt m _ _ _ hm
  obtain ⟨a0, rfl, _, _, w0⟩ := open_int Try.underlying3 (hval 0 3 v0 rfl rfl) h0
  have k1 := h1
  have lt1 : ∀ x ∈ p1, x.block < W.heap.size := by obtain ⟨m, hm⟩ := k1; exact DataW.trod_lt m _ _ _ hm
  obtain ⟨a1, rfl, _, _, w1⟩ := open_int Try.underlying3 (hval 1 3 v1 rfl rfl) h1
  obtain ⟨a2, len2, cap2, rfl⟩ := okWide_slice Try.underlying47 (hval 2 47 v2 rfl rfl)
  have k2 := h2
  have lt2 : ∀ x ∈ p2, x.block < W.heap.size := by obtain ⟨m, hm⟩ := k2; exact DataW.trod_lt m _ _ _ hm
  obtain ⟨l2, s2, ri2⟩ := cas_open Try.underlying47 Try.underlying72 (by kernel_rfl) ⟨rfl, by intro j f hj; rcases j with _ | _ | _ | j <;> simp at hj <;> subst hj <;> exact ⟨rfl, by kernel_rfl, Try.underlying3⟩⟩ h2
  clear hA0 hval0
  refine (walk W a0 (bounds_i64 w0) a1 (bounds_i64 w1) _ l2 s2 ri2).mono fun e W' ⟨he, bel⟩ => ?_
  subst he
  exact ⟨_, rfl, _, _, _, [], _, [], hW', trodAll_mk1 (shut_bool Try.underlying4 _), (trodAll_cons_mk (Below.trod laidOut (by kernel_rfl) (of_decide_eq_true (by kernel_rfl)) k0 bel lt0) (trodAll_cons_mk (Below.trod laidOut (by kernel_rfl) (of_decide_eq_true (by kernel_rfl)) k1 bel lt1) (trodAll_cons_mk (Below.trod laidOut (by kernel_rfl) (of_decide_eq_true (by kernel_rfl)) k2 bel lt2) trodAll_mk0))), rfl, bel.frame _, fun h => by cases h⟩

theorem over : Rows.bookSumsRow.holds Try.pinned (OpenSpec.ofChange Rows.bookSumsSpec) :=
  OpenClaim.holds_of_wide 5 Try.f5 rfl rfl rfl rfl rfl rfl rfl ⟨rfl, rfl, rfl, rfl, rfl⟩ rfl rfl rfl rfl rfl (by kernel_rfl) Try.func5 (by kernel_rfl)
    (of_decide_eq_true (by kernel_rfl)) (by unfold Func.isWrapper; first | (rw [if_pos (by decide +kernel)]; kernel_rfl) | (rw [if_neg (by decide +kernel)]; exact ⟨rfl, rfl⟩))
    (fun os started H enc _ => lifted os started H enc)

end bookSums

theorem bookSums_holds : Rows.BookSumsSaid := bookSums.over
#print axioms bookSums_holds
end Go.Proofs.Ytiolkeghgodggaj

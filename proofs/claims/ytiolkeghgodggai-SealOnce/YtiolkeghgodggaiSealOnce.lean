/- SealOnce: of whatever mails: a letter is opened once, by whom it is for, as it was posted, and those of one way in their order. No condition. -/
import Derived.Test.YtiolkeghgodggaiRows
import Derived.WalkKit
import Derived.ProofKit
import Derived.OpenShut
import Derived.WalkSmall
import Derived.ShutString
import Derived.ChangeOld
import Derived.Below
import Derived.Test.YtiolkeghgodggaiAx
import Derived.Test.YtiolkeghgodggaiMi
import Derived.Test.YtiolkeghgodggaiOn
namespace Go.Proofs.Ytiolkeghgodggai
namespace sealOnce
open Go.ChangeShapes Go.WideShapes Go.ChangeAt Go.RowKit Se
set_option linter.unusedVariables false

theorem own : ownKnob Try.prog.godebug = none := by kernel_rfl
theorem laidOut : laidOutB Try.prog = true := by kernel_rfl

set_option maxHeartbeats 4000000 in
set_option maxRecDepth 100000 in
theorem walk (w : World) (v0 : Value) (l0 : List RM) (s0 : SegM w v0 l0) :
    Calls Try.prog 7 #[v0] w fun e w' => e = .returned (.bool true) ∧ Below w.heap.size w w' := by
  obtain ⟨hm0, p, cap, rfl, hp⟩ := s0
  have K1 := letters_c p l0.length cap l0 hm0 w rfl hp
  obtain ⟨L, hL⟩ : ∃ L, L = Plain.lettersF (l0.map RM.m) := ⟨_, rfl⟩
  have HMay := hid (show ∀ x, x ∈ L → Plain.MayL x by rw [hL]; exact Plain.lettersF_may _)
  have hL60 : L.length ≤ 60 := by rw [hL]; exact Plain.lettersF_len _
  rw [← hL] at K1
  clear hL hp
  go_enter Try.func7, Try.ntmps7
  go_wp2_with fail
  refine K1.mono ?_
  rintro e W1 ⟨q1, c1, Rs, rfl, hRs, hLI⟩
  clear K1
  obtain ⟨p1', c1', e1, hnil, hMv⟩ := hLI.form
  injection e1 with e1 _ e1c
  subst e1 e1c
  have B1 := hid hLI.be
  have HRs := hid hRs
  have hlen : Rs.length = L.length := by rw [← HRs.out, List.length_map]
  rw [hlen]
  have HLEN := hid hlen
  obtain ⟨n, hn⟩ : ∃ n, n = L.length := ⟨_, rfl⟩
  rw [← hn] at hlen hL60 ⊢
  have K2 := mailed_c q1 n c1 Rs (by omega) W1 hlen hnil hMv
  have M1 := hid hMv
  have HN := hid hn
  clear hLI hRs hMv hnil hlen hn
  go_wp2_with fail
  refine K2.mono ?_
  rintro e W2 ⟨q2, c2, D, rfl, hD, hA, b2⟩
  have HD := hid (show D.map RD.d = Plain.mailF Plain.Off.nil L by rw [hD, HRs.out])
  have HA := hid hA
  have M2 := hid (M1.out.grow b2)
  have B2 := hid (B1.out.trans (b2.mono B1.out.size))
  have KS := sure_c W2
  clear K2 hD hA b2 M1 B1
  go_wp2_with fail
  refine KS.mono ?_
  rintro e W3 ⟨rfl, b3⟩
  have A3 := hid (HA.out.grow b3)
  have M3 := hid (M2.out.grow b3)
  have B3 := hid (B2.out.trans (b3.mono B2.out.size))
  have HDL := hid (show D.length = n by
    have := congrArg List.length HD.out
    rw [List.length_map, Plain.mailF_len, ← HN.out] at this
    exact this)
  clear KS b3 HA M2 B2
  go_wp2
  go_loopg [6, 7, 8, 9, 10] n (fun gg s6 s7 _ _ _ wx => ∃ (k m cq : Nat) (pq : Option Addr), k ≤ n ∧ m ≤ k ∧ n - k ≤ gg ∧ s7 = .int .i64 k ∧ s6 = .slice pq m cq ∧ Aside (QI W3 wx (.slice pq m cq) (Plain.postsI L k)) ∧ Aside ((Plain.postsI L k).length = m))
  case atStart => exact ⟨0, 0, 0, none, Nat.zero_le _, Nat.zero_le _, by omega, rfl, rfl, (show Aside _ from QI.nil W3), (show Aside _ from rfl)⟩
  case round =>
    obtain ⟨k, m, cq, pq, hkn, hmk, hg, rfl, rfl, A, AM⟩ := hrel
    have HI := hid A.out
    have HM := hid AM.out
    clear A AM
    by_cases hlt : k < n
    · have hltz : (k : Int) < (n : Int) := by omega
      have hkR : k < Rs.length := by rw [HLEN.out, ← HN.out]; exact hlt
      have hkL : k < L.length := by rw [← HN.out]; exact hlt
      have hkD : k < D.length := by rw [HDL.out]; exact hlt
      have MV := hid (M3.out.grow (show Below W3.heap.size W3 wr from HI.out.be))
      have AV := hid (A3.out.grow (show Below W3.heap.size W3 wr from HI.out.be))
      obtain ⟨b, off, rfl, hbl, hc⟩ := holdsL MV.out.hd (by omega)
      obtain ⟨b2, o2, rfl, hb2, hd⟩ := holdsD AV.out.hd (by omega)
      obtain ⟨x0, x1, x2, x3, x4⟩ := hc k hkR
      obtain ⟨y0, y1, y2, y3⟩ := hd k hkD
      have HC := hid hc
      have HDC := hid hd
      clear hc hd
      have HYD := hid (AV.out.bs _ (getD_mem D default hkD))
      have ex : (Rs.getD k default).x = L.getD k default := by rw [← getD_map RL.x Rs default default hkR, HRs.out]
      have ed : (D.getD k default).d = (Plain.mailF Plain.Off.nil L).getD k default := by rw [← getD_map RD.d D default default hkD, HD.out]
      have hmay := HMay.out _ (getD_mem L default hkL)
      by_cases hk1 : (L.getD k default).kind = 1
      · have hpost := Plain.once_post L HMay.out k hkL hk1
        have hS := Plain.postsI_snoc hk1
        rw [← ed] at hpost
        rw [← ex] at hk1 hpost
        rw [HM.out] at hpost
        have HYD2 := HYD.out
        generalize Rs.getD k default = r at x0 x1 x2 x3 x4 hk1 hpost
        generalize D.getD k default = z at y0 y1 y2 y3 hpost
        clear ex ed HYD HYD2 MV AV HC HDC hmay
        obtain ⟨⟨rk, rf, rt, ri, rd⟩, rp, rc⟩ := r
        obtain ⟨zd, zp, zq⟩ := z
        dsimp only at hpost hk1 x0 x4
        subst hpost hk1
        dsimp only at y0 y1 y2 y3
        have y0 : wr.cell? ⟨b2, o2 + k * 4, none⟩ = some (.int .i64 0) := y0
        have y3 : wr.cell? ⟨b2, o2 + k * 4 + 3, none⟩ = some (.slice zp 0 zq) := y3
        generalize rd.length = dl at *
        have n1 : ((m : Int) != (m : Int)) = false := by simp
        have n2 : ((dl : Int) != (dl : Int)) = false := by simp
        go_wp2
        go_quiet (fail)
        obtain ⟨WQ, hWQ⟩ : ∃ WQ, WQ = wr.drewN nq := ⟨_, rfl⟩
        rw [← hWQ]
        have HQ := hid (show QI W3 WQ (.slice pq m cq) (Plain.postsI L k) by rw [hWQ]; exact HI.out.grow (below_drewN (Below.refl _ _) nq))
        clear hWQ HI x0 x1 x2 x3 x4 y0 y1 y2 y3
        obtain ⟨pn, cn, U, hr, hQ, _⟩ := HQ.out.snoc (by have := HM.out; omega) k
        rw [HM.out] at hr hQ
        have RUN := hid hr
        have HQU := hid (show QI W3 U (.slice pn (m + 1) cn) (Plain.postsI L (k + 1)) by rw [hS]; exact hQ)
        have HM2 := hid (show (Plain.postsI L (k + 1)).length = m + 1 by rw [hS, List.length_append, HM.out]; rfl)
        clear hr hQ hS HQ
        go_wp2_with (first | (at_builtin; refine wpList_app _ _ 51 RUN.out (by rfl) (by rfl) (by rfl) (by rfl) (by rfl) ?_) | fail)
        go_wp2
        go_roundg (n - (k + 1))
        case measure => omega
        case rel => exact ⟨k + 1, m + 1, cn, pn, by omega, by omega, by omega, by go_num, rfl, (show Aside _ from HQU.out), (show Aside _ from HM2.out)⟩
      · have hk2 : (L.getD k default).kind = 2 := by have := hmay.1; omega
        have hsame := Plain.postsI_same hk1
        by_cases hc0 : ((Plain.mailF Plain.Off.nil L).getD k default).code = 0
        · obtain ⟨o1, o2', o3, o4⟩ := Plain.once_open L HMay.out k hkL hk1 hc0
          have hid0 : 0 ≤ (L.getD k default).id := hmay.2.2.2.1
          obtain ⟨jd, hjd⟩ : ∃ jd : Nat, (L.getD k default).id = jd := ⟨(L.getD k default).id.toNat, by omega⟩
          rw [hjd, HM.out] at o1
          rw [hjd, show ((jd : Nat) : Int).toNat = jd by omega] at o2' o3 o4
          have hjm : jd < m := by omega
          have hjP : jd < (Plain.postsI L k).length := by rw [HM.out]; exact hjm
          obtain ⟨htk, _⟩ := Plain.postsI_lt L k _ (getD_mem (Plain.postsI L k) 0 hjP)
          obtain ⟨t, htt⟩ : ∃ t, t = (Plain.postsI L k).getD jd 0 := ⟨_, rfl⟩
          have QF := hid (HI.out.form)
          obtain ⟨pq1, cq1, e1, hqc⟩ := QF.out
          rw [HM.out] at e1
          injection e1 with e1 _ e1c
          subst e1 e1c
          obtain ⟨gq, rfl, hqd⟩ := hqc (by omega)
          have w0 := hqd jd hjP
          rw [← htt] at o2' o3 o4 htk w0
          have HQD := hid hqd
          clear htt hqc hqd QF
          have htR : t < Rs.length := by rw [HLEN.out, ← HN.out]; omega
          obtain ⟨v0, v1, v2, v3, v4⟩ := HC.out t htR
          have ext : (Rs.getD t default).x = L.getD t default := by rw [← getD_map RL.x Rs default default htR, HRs.out]
          have HYT := hid (MV.out.bs _ (getD_mem Rs default htR))
          rw [← ed] at hc0 o3
          rw [← ex] at hk2 hjd o2'
          rw [← ext] at o2' o3 o4
          have HO4 := hid o4
          have HEXT := hid ext
          clear o4 ext ex ed hid0 hmay
          generalize Rs.getD k default = r at x0 x1 x2 x3 x4 hk2 hjd o2'
          generalize D.getD k default = z at y0 y1 y2 y3 hc0 o3 HYD
          obtain ⟨y, hy⟩ : ∃ y, y = Rs.getD t default := ⟨_, rfl⟩
          rw [← hy] at v0 v1 v2 v3 v4 HYT o2' o3 HO4
          clear hy HEXT
          obtain ⟨⟨rk, rf, rt, ri, rd⟩, rp, rc⟩ := r
          obtain ⟨⟨zc, zi, zs, zd⟩, zp, zq⟩ := z
          obtain ⟨⟨yk, yf, yt, yi, yd⟩, yp, yc⟩ := y
          dsimp only at hk2 hjd o2' hc0 o3 HO4 HYT HYD x0 x2 x3 y0 y3 v0 v1 v2 v3 v4
          subst hk2 hjd o2' hc0 o3
          have y0 : wr.cell? ⟨b2, o2 + k * 4, none⟩ = some (.int .i64 0) := y0
          have bel : Below wr.heap.size wr (wr.alloc (.cells #[.int .i64 yk, .int .i64 yf, .int .i64 yt, .int .i64 yi, .slice yp zd.length yc] 53)) := (Below.refl _ _).alloc (Nat.le_refl _) _
          have x2a := (bel.cell (p := ⟨b, off + k * 5 + 2, none⟩) hbl).trans x2
          have y3a := (bel.cell (p := ⟨b2, o2 + k * 4 + 3, none⟩) hb2).trans y3
          have K := fun q => sameB_any (n := zd.length) ((wr.alloc (.cells #[.int .i64 yk, .int .i64 yf, .int .i64 yt, .int .i64 yi, .slice yp zd.length yc] 53)).drewN q) rfl ((HYT.out.grow bel).drewN q) ((HYD.out.grow bel).drewN q)
          have BQ := hid (fun q => below_drewN bel q)
          have P1 := hid (show (wr.alloc (.cells #[.int .i64 yk, .int .i64 yf, .int .i64 yt, .int .i64 yi, .slice yp zd.length yc] 53)).cell? ⟨wr.heap.size, 1, none⟩ = some (.int .i64 yf) by rw [World.cell?_alloc_at _ _ _ _ rfl]; rfl)
          have P2 := hid (show (wr.alloc (.cells #[.int .i64 yk, .int .i64 yf, .int .i64 yt, .int .i64 yi, .slice yp zd.length yc] 53)).cell? ⟨wr.heap.size, 2, none⟩ = some (.int .i64 yt) by rw [World.cell?_alloc_at _ _ _ _ rfl]; rfl)
          clear bel HYT HYD
          generalize zd.length = dl at *
          have n1 : (yt != yt) = false := by simp
          have hjz : ¬ (m : Int) ≤ (jd : Int) := by omega
          have hjz2 : (jd : Int) < (m : Int) := by omega
          have htz : (t : Int) < (n : Int) := by omega
          go_wp2
          go_quiet ((go_at_call 19; exact Calls.quiet_of (K _)))
          obtain ⟨WB, hWB⟩ : ∃ WB, WB = (wr.alloc (.cells #[.int .i64 yk, .int .i64 yf, .int .i64 yt, .int .i64 yi, .slice yp dl yc] 53)).drewN nq := ⟨_, rfl⟩
          rw [← hWB]
          have BW := hid (show Below wr.heap.size wr WB by rw [hWB]; exact BQ.out nq)
          have P1B := hid (show WB.cell? ⟨wr.heap.size, 1, none⟩ = some (.int .i64 yf) by rw [hWB]; exact P1.out)
          have P2B := hid (show WB.cell? ⟨wr.heap.size, 2, none⟩ = some (.int .i64 yt) by rw [hWB]; exact P2.out)
          have X3B := hid (show WB.cell? ⟨b, off + k * 5 + 3, none⟩ = some (.int .i64 (jd : Int)) from (BW.out.cell (p := ⟨b, off + k * 5 + 3, none⟩) hbl).trans x3)
          have HQW := hid (HI.out.grow BW.out)
          have HGQ := hid (show gq < WB.heap.size from (HQW.out.ow.lt gq rfl).2)
          have HQB := hid (fun j hj => (BW.out.cell (p := ⟨gq, j, none⟩) (HI.out.ow.lt gq rfl).2).trans (HQD.out j hj))
          have hblW : b < WB.heap.size := Nat.lt_of_lt_of_le hbl BW.out.size
          have hb2W : b2 < WB.heap.size := Nat.lt_of_lt_of_le hb2 BW.out.size
          clear hWB K BQ P1 P2 x0 x1 x2 x3 x4 y0 y1 y2 y3 v0 v1 v2 v3 v4 x2a y3a w0 n1 hjz
          obtain ⟨wo, hwo⟩ : ∃ wo, wo = wr := ⟨_, rfl⟩
          subst hwo
          go_wp2
          go_loopg [9, 10] k (fun gg s9 _ wx => ∃ i : Nat, i ≤ k ∧ k - i ≤ gg ∧ s9 = .int .i64 i ∧ Aside (Below WB.heap.size WB wx))
          case atStart => exact ⟨0, Nat.zero_le _, by omega, rfl, (show Aside _ from Below.refl _ _)⟩
          case round =>
            obtain ⟨i, hik, hgg, rfl, I⟩ := hrel
            have HI5 := hid I.out
            clear I
            by_cases hil : i < k
            · have hilz : (i : Int) < (k : Int) := by omega
              have hiR : i < Rs.length := by omega
              have hiL : i < L.length := by omega
              have hiD : i < D.length := by have := HDL.out; omega
              have MI := M3.out.grow (show Below W3.heap.size W3 wr from (HQW.out.grow HI5.out).be)
              have AI := A3.out.grow (show Below W3.heap.size W3 wr from (HQW.out.grow HI5.out).be)
              obtain ⟨b', off', eb, _, hc⟩ := holdsL MI.hd (by omega)
              injection eb with eb
              injection eb with eb1 eb2
              subst eb1 eb2
              obtain ⟨b2', o2', eb, _, hd⟩ := holdsD AI.hd (by omega)
              injection eb with eb
              injection eb with eb1 eb2
              subst eb1 eb2
              obtain ⟨x0, x1, x2, x3, x4⟩ := hc i hiR
              obtain ⟨y0, y1, y2, y3⟩ := hd i hiD
              have HC5 := hid hc
              have exi : (Rs.getD i default).x = L.getD i default := by rw [← getD_map RL.x Rs default default hiR, HRs.out]
              have edi : (D.getD i default).d = (Plain.mailF Plain.Off.nil L).getD i default := by rw [← getD_map RD.d D default default hiD, HD.out]
              have hmay := HMay.out _ (getD_mem L default hiL)
              have xk3 := (HI5.out.cell (p := ⟨b, off + k * 5 + 3, none⟩) hblW).trans X3B.out
              have p1 := (HI5.out.cell (p := ⟨wo.heap.size, 1, none⟩) (World.block_lt_of_cell? (w := WB) (h := P1B.out))).trans P1B.out
              have p2 := (HI5.out.cell (p := ⟨wo.heap.size, 2, none⟩) (World.block_lt_of_cell? (w := WB) (h := P2B.out))).trans P2B.out
              have BD := hid (fun q => below_drewN HI5.out q)
              have OI := hid (fun h1 h2 => Plain.once_open L HMay.out i hiL h1 h2)
              have O4I := hid (HO4.out i hil)
              have hmono := Plain.postsI_mono L (i := i) (k := k) (by omega)
              rw [HM.out] at hmono
              rw [← exi, ← edi] at OI O4I
              rw [← exi] at hmay
              clear hc hd MI AI exi edi
              generalize Rs.getD i default = r at x0 x1 x2 x3 x4 hmay OI O4I
              generalize D.getD i default = z at y0 y1 y2 y3 OI O4I
              obtain ⟨⟨sk, sf, st, si, sd⟩, sp, sc⟩ := r
              obtain ⟨⟨ec, ei, es, ed⟩, ep, eq⟩ := z
              dsimp only at x0 x3 y0 hmay OI O4I
              have hs12 : sk = 1 ∨ sk = 2 := hmay.1
              have hsi : 0 ≤ si := hmay.2.2.2.1
              clear hmay
              by_cases hs2 : sk = 2
              · subst hs2
                by_cases hec : ec = 0
                · subst hec
                  have y0 : wr.cell? ⟨b2, o2 + i * 4, none⟩ = some (.int .i64 0) := y0
                  by_cases hge : (jd : Int) ≤ si
                  · have hged : decide ((jd : Int) ≤ si) = true := decide_eq_true hge
                    have hlen1 := (OI.out (by omega) rfl).1
                    have hnot := O4I.out (by omega) rfl hge (by rw [HM.out]; omega)
                    obtain ⟨ji, rfl⟩ : ∃ ji : Nat, si = ji := ⟨si.toNat, by omega⟩
                    rw [show ((ji : Nat) : Int).toNat = ji by omega] at hnot
                    have hjim : ji < m := by omega
                    have hjiP : ji < (Plain.postsI L k).length := by rw [HM.out]; exact hjim
                    obtain ⟨ht2, _⟩ := Plain.postsI_lt L k _ (getD_mem (Plain.postsI L k) 0 hjiP)
                    have w2 := (HI5.out.cell (p := ⟨gq, ji, none⟩) HGQ.out).trans (HQB.out ji hjiP)
                    obtain ⟨t2, htt⟩ : ∃ t2, t2 = (Plain.postsI L k).getD ji 0 := ⟨_, rfl⟩
                    rw [← htt] at hnot ht2 w2
                    have ht2R : t2 < Rs.length := by omega
                    obtain ⟨v0, v1, v2, v3, v4⟩ := HC5.out t2 ht2R
                    rw [show L.getD t2 default = (Rs.getD t2 default).x by rw [← getD_map RL.x Rs default default ht2R, HRs.out]] at hnot
                    clear htt
                    generalize Rs.getD t2 default = u at v0 v1 v2 v3 v4 hnot
                    obtain ⟨⟨uk, uf, ut, ui, ud⟩, up, uc⟩ := u
                    dsimp only at v0 v1 v2 v3 v4 hnot
                    generalize ud.length = ul at *
                    have hjz3 : (ji : Int) < (m : Int) := by omega
                    have ht2z : (t2 : Int) < (n : Int) := by omega
                    clear O4I OI
                    by_cases hf : uf = yf
                    · have ht : ut ≠ yt := fun e => hnot ⟨hf, e⟩
                      subst hf
                      have g1 : (uf == uf) = true := by simp
                      have g2 : (ut == yt) = false := by simpa using ht
                      go_wp2
                      go_quiet (fail)
                      obtain ⟨WR, hWR⟩ : ∃ WR, WR = wr.drewN nq := ⟨_, rfl⟩
                      rw [← hWR]
                      have BR := hid (show Below WB.heap.size WB WR by rw [hWR]; exact BD.out nq)
                      have x3' : WR.cell? ⟨b, off + i * 5 + 3, none⟩ = some (.int .i64 (ji : Int)) := by rw [hWR]; simpa using x3
                      have w2' : WR.cell? ⟨gq, ji, none⟩ = some (.int .i64 (t2 : Int)) := by rw [hWR]; simpa using w2
                      have v0' : WR.cell? ⟨b, off + t2 * 5, none⟩ = some (.int .i64 uk) := by rw [hWR]; simpa using v0
                      have v1' : WR.cell? ⟨b, off + t2 * 5 + 1, none⟩ = some (.int .i64 uf) := by rw [hWR]; simpa using v1
                      have v2' : WR.cell? ⟨b, off + t2 * 5 + 2, none⟩ = some (.int .i64 ut) := by rw [hWR]; simpa using v2
                      have v3' : WR.cell? ⟨b, off + t2 * 5 + 3, none⟩ = some (.int .i64 ui) := by rw [hWR]; simpa using v3
                      have v4' : WR.cell? ⟨b, off + t2 * 5 + 4, none⟩ = some (.slice up ul uc) := by rw [hWR]; simpa using v4
                      have p1' : WR.cell? ⟨wo.heap.size, 1, none⟩ = some (.int .i64 uf) := by rw [hWR]; simpa using p1
                      have p2' : WR.cell? ⟨wo.heap.size, 2, none⟩ = some (.int .i64 yt) := by rw [hWR]; simpa using p2
                      have bel : Below WR.heap.size WR (WR.alloc (.cells #[.int .i64 uk, .int .i64 uf, .int .i64 ut, .int .i64 ui, .slice up ul uc] 53)) := (Below.refl _ _).alloc (Nat.le_refl _) _
                      have p1a := (bel.cell (p := ⟨wo.heap.size, 1, none⟩) (World.block_lt_of_cell? (w := WR) (h := p1'))).trans p1'
                      have p2a := (bel.cell (p := ⟨wo.heap.size, 2, none⟩) (World.block_lt_of_cell? (w := WR) (h := p2'))).trans p2'
                      have F := hid (BR.out.trans (bel.mono BR.out.size))
                      clear hWR x0 x1 x2 x3 x4 y0 y1 y2 y3 v0 v1 v2 v3 v4 w2 p1 p2 xk3 bel BR BD
                      go_wp2
                      go_roundg (k - (i + 1))
                      case measure => omega
                      case rel => exact ⟨i + 1, by omega, by omega, by go_num, (show Aside _ from F.out)⟩
                    · have g1 : (uf == yf) = false := by simpa using hf
                      go_wp2
                      go_quiet (fail)
                      obtain ⟨WR, hWR⟩ : ∃ WR, WR = wr.drewN nq := ⟨_, rfl⟩
                      rw [← hWR]
                      have BR := hid (show Below WB.heap.size WB WR by rw [hWR]; exact BD.out nq)
                      have x3' : WR.cell? ⟨b, off + i * 5 + 3, none⟩ = some (.int .i64 (ji : Int)) := by rw [hWR]; simpa using x3
                      have w2' : WR.cell? ⟨gq, ji, none⟩ = some (.int .i64 (t2 : Int)) := by rw [hWR]; simpa using w2
                      have v0' : WR.cell? ⟨b, off + t2 * 5, none⟩ = some (.int .i64 uk) := by rw [hWR]; simpa using v0
                      have v1' : WR.cell? ⟨b, off + t2 * 5 + 1, none⟩ = some (.int .i64 uf) := by rw [hWR]; simpa using v1
                      have v2' : WR.cell? ⟨b, off + t2 * 5 + 2, none⟩ = some (.int .i64 ut) := by rw [hWR]; simpa using v2
                      have v3' : WR.cell? ⟨b, off + t2 * 5 + 3, none⟩ = some (.int .i64 ui) := by rw [hWR]; simpa using v3
                      have v4' : WR.cell? ⟨b, off + t2 * 5 + 4, none⟩ = some (.slice up ul uc) := by rw [hWR]; simpa using v4
                      have p1' : WR.cell? ⟨wo.heap.size, 1, none⟩ = some (.int .i64 yf) := by rw [hWR]; simpa using p1
                      have p2' : WR.cell? ⟨wo.heap.size, 2, none⟩ = some (.int .i64 yt) := by rw [hWR]; simpa using p2
                      have bel : Below WR.heap.size WR (WR.alloc (.cells #[.int .i64 uk, .int .i64 uf, .int .i64 ut, .int .i64 ui, .slice up ul uc] 53)) := (Below.refl _ _).alloc (Nat.le_refl _) _
                      have p1a := (bel.cell (p := ⟨wo.heap.size, 1, none⟩) (World.block_lt_of_cell? (w := WR) (h := p1'))).trans p1'
                      have p2a := (bel.cell (p := ⟨wo.heap.size, 2, none⟩) (World.block_lt_of_cell? (w := WR) (h := p2'))).trans p2'
                      have F := hid (BR.out.trans (bel.mono BR.out.size))
                      clear hWR x0 x1 x2 x3 x4 y0 y1 y2 y3 v0 v1 v2 v3 v4 w2 p1 p2 xk3 bel BR BD
                      go_wp2
                      go_roundg (k - (i + 1))
                      case measure => omega
                      case rel => exact ⟨i + 1, by omega, by omega, by go_num, (show Aside _ from F.out)⟩
                  · have hged : decide ((jd : Int) ≤ si) = false := decide_eq_false hge
                    clear OI O4I
                    go_wp2
                    go_quiet (fail)
                    go_wp2
                    go_roundg (k - (i + 1))
                    case measure => omega
                    case rel => exact ⟨i + 1, by omega, by omega, by go_num, (show Aside _ from BD.out _)⟩
                · have g0 : ((ec : Int) == 0) = false := by simp; omega
                  clear OI O4I
                  go_wp2
                  go_quiet (fail)
                  go_wp2
                  go_roundg (k - (i + 1))
                  case measure => omega
                  case rel => exact ⟨i + 1, by omega, by omega, by go_num, (show Aside _ from BD.out _)⟩
              · have hs1 : sk = 1 := by omega
                subst hs1
                clear OI O4I
                go_wp2
                go_quiet (fail)
                go_wp2
                go_roundg (k - (i + 1))
                case measure => omega
                case rel => exact ⟨i + 1, by omega, by omega, by go_num, (show Aside _ from BD.out _)⟩
            · have hilz : ¬ (i : Int) < (k : Int) := by omega
              have HQF := hid (show QI W3 wr (.slice (some ⟨gq, 0, none⟩) m cq) (Plain.postsI L (k + 1)) by rw [hsame]; exact HQW.out.grow HI5.out)
              have HM2 := hid (show (Plain.postsI L (k + 1)).length = m by rw [hsame]; exact HM.out)
              clear hsame
              go_wp2
              go_roundg (n - (k + 1))
              case measure => omega
              case rel => exact ⟨k + 1, m, cq, some ⟨gq, 0, none⟩, by omega, by omega, by omega, by go_num, rfl, (show Aside _ from HQF.out), (show Aside _ from HM2.out)⟩
        · have hno := Plain.mail_no hkL hc0
          rw [← ed] at hc0 hno
          rw [← ex] at hk2
          generalize Rs.getD k default = r at x0 x1 x2 x3 x4 hk2
          generalize D.getD k default = z at y0 y1 y2 y3 hc0 hno
          clear ex ed HYD MV AV HC HDC hmay
          obtain ⟨⟨rk, rf, rt, ri, rd⟩, rp, rc⟩ := r
          obtain ⟨⟨zc, zi, zs, zd⟩, zp, zq⟩ := z
          dsimp only at hk2 hc0 hno x0 y0 y3
          subst hk2 hno
          have y3 : wr.cell? ⟨b2, o2 + k * 4 + 3, none⟩ = some (.slice zp 0 zq) := y3
          have n0 : ((zc : Int) != 0) = true := by simp; omega
          have HQF := hid (show QI W3 wr (.slice pq m cq) (Plain.postsI L (k + 1)) by rw [hsame]; exact HI.out)
          have HM2 := hid (show (Plain.postsI L (k + 1)).length = m by rw [hsame]; exact HM.out)
          clear hsame
          go_wp2
          go_roundg (n - (k + 1))
          case measure => omega
          case rel => exact ⟨k + 1, m, cq, pq, by omega, by omega, by omega, by go_num, rfl, (show Aside _ from HQF.out), (show Aside _ from HM2.out)⟩
    · have hltz : ¬ (k : Int) < (n : Int) := by omega
      have F := hid (B3.out.trans (Below.mono (show Below W3.heap.size W3 wr from HI.out.be) B3.out.size))
      go_wp2
      go_ret
      exact ⟨rfl, F.out⟩

set_option maxRecDepth 100000 in
theorem lifted (os : Os) (started : os.Started) (H : Type) (enc : TypeId × Value → H) :
    ReturnsInHanded {} Try.checked os 7 .any (Rows.sealOnceSpec.pre6 enc Try.prog Try.f7 Rows.sealOnceRow.domain false) (Rows.sealOnceSpec.post enc Try.prog Try.f7 false true false false) := by
  refine returnsInHanded_of_change (C := Try.checked) own started (by kernel_rfl) Try.func7
    (ChangeSpec.witness6 (enc := enc) (C := Try.checked) false ⟨#[], #[.slice none 0 0], []⟩ 8 (by kernel_rfl) (by kernel_rfl) (by kernel_rfl) (by kernel_rfl)) ?_
  intro W base args ds gs before hval0 hW hcnd _
  have hval : ∀ (j : Nat) t v, Try.f7.params[j]? = some t → args[j]? = some v → Value.okWide Try.prog W .any base t v := hval0
  have hW' := hW
  obtain ⟨p, q, hA0, hV, rfl, hfz, hnd⟩ := hW
  have hA : DataW.TrodAll enc Try.prog W 0 (fun _ => true) true Try.f7.params.toList args.toList ds p := hA0
  rw [Try.params7] at hA hval
  obtain ⟨v0, vs0, d0, ds0, p0, q0, hargs, rfl, rfl, h0, r0⟩ := trodAll_cons hA
  obtain ⟨rfl, rfl, rfl⟩ := trodAll_nil r0
  obtain rfl : args = #[v0] := by cases args; simp_all
  obtain ⟨rfl, rfl⟩ := trodVars_none hV
  obtain ⟨a0, len0, cap0, rfl⟩ := okWide_slice Try.underlying47 (hval 0 47 v0 rfl rfl)
  have k0 := h0
  have lt0 : ∀ x ∈ p0, x.block < W.heap.size := by obtain ⟨m, hm⟩ := k0; exact DataW.trod_lt m _ _ _ hm
  obtain ⟨l0, s0⟩ := mls_open Try.underlying47 Try.underlying67 (by kernel_rfl) ⟨rfl, by intro j f hj; rcases j with _ | _ | _ | _ | _ | j <;> simp at hj <;> subst hj <;> exact ⟨rfl, by kernel_rfl⟩, by intro f hj; simp at hj; subst hj; exact Try.underlying4, by intro j f hj h1 h4; rcases j with _ | _ | _ | _ | j <;> (try omega) <;> simp at hj <;> subst hj <;> exact Try.underlying3, by intro f hj; simp at hj; subst hj; exact Try.underlying42⟩ h0
  clear hA0 hval0
  refine (walk W _ l0 s0).mono fun e W' ⟨he, bel⟩ => ?_
  subst he
  exact ⟨_, rfl, _, _, _, [], _, [], hW', trodAll_mk1 (shut_bool Try.underlying4 _), (trodAll_cons_mk (Below.trod laidOut (by kernel_rfl) (of_decide_eq_true (by kernel_rfl)) k0 bel lt0) trodAll_mk0), rfl, bel.frame _, fun h => by cases h⟩

theorem over : Rows.sealOnceRow.holds Try.pinned (OpenSpec.ofChange Rows.sealOnceSpec) :=
  OpenClaim.holds_of_wide 7 Try.f7 rfl rfl rfl rfl rfl rfl rfl ⟨rfl, rfl, rfl, rfl, rfl⟩ rfl rfl rfl rfl rfl (by kernel_rfl) Try.func7 (by kernel_rfl)
    (of_decide_eq_true (by kernel_rfl)) (by unfold Func.isWrapper; first | (rw [if_pos (by decide +kernel)]; kernel_rfl) | (rw [if_neg (by decide +kernel)]; exact ⟨rfl, rfl⟩))
    (fun os started H enc _ => lifted os started H enc)

end sealOnce

theorem sealOnce_holds : Rows.SealOnceSaid := sealOnce.over
#print axioms sealOnce_holds
end Go.Proofs.Ytiolkeghgodggai

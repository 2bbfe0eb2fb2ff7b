/- SealAway: of whatever mails and whatever party: the moves played without what others open tell of each move that is left what they told with them. No condition. -/
import Derived.Test.YtiolkeghgodggajRows
import Derived.WalkKit
import Derived.ProofKit
import Derived.OpenShut
import Derived.WalkSmall
import Derived.ShutString
import Derived.ChangeOld
import Derived.Below
import Derived.Test.YtiolkeghgodggajAx
import Derived.Test.YtiolkeghgodggajMi
namespace Go.Proofs.Ytiolkeghgodggaj
namespace sealAway
open Go.ChangeShapes Go.WideShapes Go.ChangeAt Go.RowKit Se
set_option linter.unusedVariables false

theorem own : ownKnob Try.prog.godebug = none := by kernel_rfl
theorem laidOut : laidOutB Try.prog = true := by kernel_rfl

set_option maxHeartbeats 4000000 in
set_option maxRecDepth 100000 in
theorem walk (w : World) (v0 : Value) (l0 : List RM) (s0 : SegM w v0 l0) (a1 : Int) (w1 : -9223372036854775808 ≤ a1 ∧ a1 ≤ 9223372036854775807) :
    Calls Try.prog 3 #[v0, .int .i64 a1] w fun e w' => e = .returned (.bool true) ∧ Below w.heap.size w w' := by
  obtain ⟨hm0, p, cap, rfl, hp⟩ := s0
  have K1 := letters_c p l0.length cap l0 hm0 w rfl hp
  have KP := fun W => picked_any a1 4 w1.1 w1.2 (by omega) (by omega) W
  generalize ha4 : a1 % 4 = wh at KP
  clear ha4
  obtain ⟨L, hL⟩ : ∃ L, L = Plain.lettersF (l0.map RM.m) := ⟨_, rfl⟩
  have HMay := hid (show ∀ x, x ∈ L → Plain.MayL x by rw [hL]; exact Plain.lettersF_may _)
  have hL60 : L.length ≤ 60 := by rw [hL]; exact Plain.lettersF_len _
  rw [← hL] at K1
  clear hL hp
  go_enter Try.func3, Try.ntmps3
  go_wp2_with fail
  refine K1.mono ?_
  rintro e W1 ⟨q1, c1, Rs, rfl, hRs, hLI⟩
  clear K1
  obtain ⟨p1', c1', e1, hnil, hMv⟩ := hLI.form
  injection e1 with e1 _ e1c
  subst e1 e1c
  have B1 := hid hLI.be
  have HRs := hid hRs
  have hlen : Rs.length = L.length := by rw [← HRs.out, List.length_map]
  rw [hlen]
  have HLEN := hid hlen
  obtain ⟨n, hn⟩ : ∃ n, n = L.length := ⟨_, rfl⟩
  rw [← hn] at hlen hL60 ⊢
  have K2 := mailed_c q1 n c1 Rs (by omega) W1 hlen hnil hMv
  have M1 := hid hMv
  have HN := hid hn
  clear hLI hRs hMv hnil hlen hn
  go_wp2_with (first | (go_at_call 10; refine (KP _).mono ?_; rintro e w' ⟨rfl, rfl⟩) | fail)
  refine K2.mono ?_
  rintro e W2 ⟨q2, c2, D, rfl, hD, hA, b2⟩
  have HD := hid (show D.map RD.d = Plain.mailF Plain.Off.nil L by rw [hD, HRs.out])
  have HA := hid hA
  have M2 := hid (M1.out.grow b2)
  have B2 := hid (B1.out.trans (b2.mono B1.out.size))
  clear K2 KP hD hA b2 M1 B1
  go_wp2
  go_loopg [9, 10, 11] n (fun gg s9 s10 s11 wx => ∃ (k : Nat) (Fs : List RL) (pf pq : Option Addr) (cf cq m : Nat), k ≤ n ∧ m ≤ k ∧ n - k ≤ gg ∧ s11 = .int .i64 k ∧ s9 = .slice pf m cf ∧ s10 = .slice pq m cq ∧ Aside (FW W2 wx (.slice pf m cf) (.slice pq m cq) Fs (Plain.wantL wh L k)) ∧ Aside (Fs.map RL.x = Plain.fewL wh (L.take k)) ∧ Aside (Fs.length = m ∧ (Plain.wantL wh L k).length = m))
  case atStart => exact ⟨0, [], none, none, 0, 0, 0, Nat.zero_le _, Nat.zero_le _, by omega, rfl, rfl, rfl, (show Aside _ from FW.nil W2), (show Aside _ from rfl), (show Aside _ from ⟨rfl, rfl⟩)⟩
  case round =>
    obtain ⟨k, Fs, pf, pq, cf, cq, m, hkn, hmk, hg, rfl, rfl, rfl, A, AF, AM⟩ := hrel
    have HI := hid A.out
    have HF := hid AF.out
    have HM := hid AM.out
    clear A AF AM
    by_cases hlt : k < n
    · have hltz : (k : Int) < (n : Int) := by omega
      have hkR : k < Rs.length := by rw [HLEN.out, ← HN.out]; exact hlt
      have hkL : k < L.length := by rw [← HN.out]; exact hlt
      have MV := M2.out.grow (show Below W2.heap.size W2 wr from HI.out.li.be)
      obtain ⟨b, off, rfl, _, hc⟩ := holdsL MV.hd (by omega)
      obtain ⟨x0, x1, x2, x3, x4⟩ := hc k hkR
      have HY := hid (show By W2.heap.size wr (Rs.getD k default).p (Rs.getD k default).c (Rs.getD k default).x.data from (M2.out.bs _ (getD_mem Rs default hkR)).keep (Kb.of_below HI.out.li.be))
      have ex : (Rs.getD k default).x = L.getD k default := by rw [← getD_map RL.x Rs default default hkR, HRs.out]
      have hmay := HMay.out _ (getD_mem L default hkL)
      have FY := hid (fun h => Plain.fewL_yes (w := wh) hkL h)
      have FN := hid (fun h => Plain.fewL_no (w := wh) hkL h)
      have WY := hid (fun h => Plain.wantL_yes (w := wh) (l := L) (k := k) h)
      have WN := hid (fun h => Plain.wantL_no (w := wh) (l := L) (k := k) h)
      rw [← ex] at FY FN WY WN hmay
      clear ex hc MV
      generalize Rs.getD k default = r at x0 x1 x2 x3 x4 HY hmay FY FN WY WN
      obtain ⟨⟨rk, rf, rt, ri, rd⟩, rp, rc⟩ := r
      dsimp only at x0 x1 x2 x3 x4 HY FY FN WY WN
      have hk12 : rk = 1 ∨ rk = 2 := hmay.1
      clear hmay
      by_cases hyes : rk = 1 ∨ rt = wh
      · have hB : Plain.mineB wh ⟨rk, rf, rt, ri, rd⟩ = true := decide_eq_true hyes
        obtain ⟨pn, cn, U, pn2, cn2, U2, hr1, hr2, hFW⟩ := HI.out.step (by have := HM.out.1; omega) (by have := HM.out.2; omega) ⟨⟨rk, rf, rt, ri, rd⟩, rp, rc⟩ HY.out k
        rw [HM.out.1] at hr1 hFW
        rw [HM.out.2] at hr2 hFW
        have R1 := hid (show (Builtin.append_ #[23, 23] 23 #[.slice pf m cf, .slice (some ⟨wr.heap.size, 0, none⟩) 1 1]).run Try.prog (wr.alloc (.cells #[.int .i64 rk, .int .i64 rf, .int .i64 rt, .int .i64 ri, .slice rp rd.length rc] 32)) = .ok (.slice pn (m + 1) cn) U from hr1)
        have R2 := hid hr2
        have HW := hid (show FW W2 U2 (.slice pn (m + 1) cn) (.slice pn2 (m + 1) cn2) (Fs ++ [⟨⟨rk, rf, rt, ri, rd⟩, rp, rc⟩]) (Plain.wantL wh L (k + 1)) by rw [WY.out hB]; exact hFW)
        have HF2 := hid (show (Fs ++ [(⟨⟨rk, rf, rt, ri, rd⟩, rp, rc⟩ : RL)]).map RL.x = Plain.fewL wh (L.take (k + 1)) by rw [FY.out hB, List.map_append, HF.out]; rfl)
        have HM2 := hid (show (Fs ++ [(⟨⟨rk, rf, rt, ri, rd⟩, rp, rc⟩ : RL)]).length = m + 1 ∧ (Plain.wantL wh L (k + 1)).length = m + 1 by rw [WY.out hB, List.length_append, List.length_append, HM.out.1, HM.out.2]; exact ⟨rfl, rfl⟩)
        clear hr1 hr2 hFW FY FN WY WN HI hB HY
        generalize rd.length = dl at *
        by_cases h1 : rk = 1
        · subst h1
          go_wp2_with (first | (at_builtin; refine wpList_app _ _ 23 R1.out (by rfl) (by rfl) (by rfl) (by rfl) (by rfl) ?_) | (at_builtin; refine wpList_app _ _ 29 R2.out (by rfl) (by rfl) (by rfl) (by rfl) (by rfl) ?_) | fail)
          go_wp2
          go_roundg (n - (k + 1))
          case measure => omega
          case rel => exact ⟨k + 1, _, pn, pn2, cn, cn2, m + 1, by omega, by omega, by omega, by go_num, rfl, rfl, (show Aside _ from HW.out), (show Aside _ from HF2.out), (show Aside _ from HM2.out)⟩
        · have h2 : rk = 2 := by omega
          subst h2
          have hw : rt = wh := hyes.resolve_left (by omega)
          subst hw
          have g2 : (rt == rt) = true := by simp
          go_wp2_with (first | (at_builtin; refine wpList_app _ _ 23 R1.out (by rfl) (by rfl) (by rfl) (by rfl) (by rfl) ?_) | (at_builtin; refine wpList_app _ _ 29 R2.out (by rfl) (by rfl) (by rfl) (by rfl) (by rfl) ?_) | fail)
          go_wp2
          go_roundg (n - (k + 1))
          case measure => omega
          case rel => exact ⟨k + 1, _, pn, pn2, cn, cn2, m + 1, by omega, by omega, by omega, by go_num, rfl, rfl, (show Aside _ from HW.out), (show Aside _ from HF2.out), (show Aside _ from HM2.out)⟩
      · have hB : Plain.mineB wh ⟨rk, rf, rt, ri, rd⟩ = false := decide_eq_false hyes
        have h2 : rk = 2 := by omega
        subst h2
        have g2 : (rt == wh) = false := by simpa using fun e => hyes (.inr e)
        have HW := hid (show FW W2 wr (.slice pf m cf) (.slice pq m cq) Fs (Plain.wantL wh L (k + 1)) by rw [WN.out hB]; exact HI.out)
        have HF2 := hid (show Fs.map RL.x = Plain.fewL wh (L.take (k + 1)) by rw [FN.out hB]; exact HF.out)
        have HM2 := hid (show Fs.length = m ∧ (Plain.wantL wh L (k + 1)).length = m by rw [WN.out hB]; exact HM.out)
        clear FY FN WY WN HI hB HY hyes
        go_wp2
        go_roundg (n - (k + 1))
        case measure => omega
        case rel => exact ⟨k + 1, Fs, pf, pq, cf, cq, m, by omega, by omega, by omega, by go_num, rfl, rfl, (show Aside _ from HW.out), (show Aside _ from HF2.out), (show Aside _ from HM2.out)⟩
    · have hltz : ¬ (k : Int) < (n : Int) := by omega
      have ek : k = L.length := by rw [← HN.out]; omega
      have hFs : Fs.map RL.x = Plain.fewL wh L := by rw [HF.out, ek, List.take_length]
      obtain ⟨hm1, hm2⟩ := HM.out
      rw [ek] at hm2
      have hFW : FW W2 wr (.slice pf m cf) (.slice pq m cq) Fs (Plain.wantL wh L L.length) := by have := HI.out; rw [ek] at this; exact this
      obtain ⟨wo, hwo⟩ : ∃ wo, wo = wr := ⟨_, rfl⟩
      subst hwo
      obtain ⟨pf', cf', e1, hnil, hMv⟩ := hFW.li.form
      rw [hm1] at e1
      injection e1 with e1 _ e1c
      subst e1 e1c
      have KM := mailed_c pf m cf Fs (by omega) wo hm1 hnil hMv
      have HQ := hid hFW.qi
      have A2 := hid (HA.out.grow (show Below W2.heap.size W2 wo from hFW.li.be))
      have B3 := hid (B2.out.trans (Below.mono (show Below W2.heap.size W2 wo from hFW.li.be) B2.out.size))
      have HM2 := hid hm2
      have HFs := hid hFs
      have HAW := hid (fun i hi => Plain.away_at wh L (i := i) hi)
      have HWL := hid (fun j hj => Plain.wantL_lt (w := wh) (l := L) (k := L.length) (j := j) hj)
      have HFL := hid hm1
      clear HI HF HM hFW hMv hnil hFs hm1 hm2 ek HA B2 M2
      go_wp2_with fail
      refine KM.mono ?_
      rintro e W4 ⟨q4, c4, E, rfl, hE, hAE, b4⟩
      have HE := hid (show E.map RD.d = Plain.mailF Plain.Off.nil (Plain.fewL wh L) by rw [hE, HFs.out])
      have A4 := hid (A2.out.grow b4)
      have AE := hid hAE
      have Q4 := hid (HQ.out.grow b4)
      have B4 := hid (B3.out.trans (b4.mono B3.out.size))
      have KS := sure_c W4
      clear KM hE hAE b4 A2 HQ B3
      go_wp2_with fail
      refine KS.mono ?_
      rintro e W5 ⟨rfl, b5⟩
      have A5 := hid (A4.out.grow b5)
      have AE5 := hid (AE.out.grow b5)
      have Q5 := hid (Q4.out.grow b5)
      have B5 := hid (B4.out.trans (b5.mono B4.out.size))
      clear KS b5 A4 AE Q4 B4
      go_wp2
      go_loopg [14, 15] m (fun gg s14 _ wx => ∃ i : Nat, i ≤ m ∧ m - i ≤ gg ∧ s14 = .int .i64 i ∧ Aside (Below W5.heap.size W5 wx))
      case atStart => exact ⟨0, Nat.zero_le _, by omega, rfl, (show Aside _ from Below.refl _ _)⟩
      case round =>
        obtain ⟨i, him, hgg, rfl, I⟩ := hrel
        by_cases hil : i < m
        · have hilz : (i : Int) < (m : Int) := by omega
          have hiW : i < (Plain.wantL wh L L.length).length := by rw [HM2.out]; exact hil
          have hDl : D.length = L.length := by
            have := congrArg List.length HD.out
            rw [List.length_map, Plain.mailF_len] at this
            exact this
          have hEl : E.length = m := by
            have := congrArg List.length HE.out
            rw [List.length_map, Plain.mailF_len, ← HFs.out, List.length_map] at this
            rw [this, HFL.out]
          have hmem := getD_mem (Plain.wantL wh L L.length) 0 hiW
          have hj := HWL.out _ hmem
          have haw := HAW.out i hiW
          obtain ⟨j, hjj⟩ : ∃ j, j = (Plain.wantL wh L L.length).getD i 0 := ⟨_, rfl⟩
          have QR := Q5.out.grow I.out
          obtain ⟨pq', cq', e1, hqc⟩ := QR.form
          rw [HM2.out] at e1
          injection e1 with e1 _ e1c
          subst e1 e1c
          obtain ⟨gq, rfl, hqd⟩ := hqc (by omega)
          have w0 := hqd i hiW
          rw [← hjj] at hj haw w0
          clear hjj hmem hqc hqd QR
          have hjD : j < D.length := by rw [hDl]; exact hj
          have hiE : i < E.length := by rw [hEl]; exact hil
          have AD := A5.out.grow I.out
          have AEE := AE5.out.grow I.out
          obtain ⟨b1, o1, rfl, hb1, g1⟩ := holdsD AD.hd (by omega)
          obtain ⟨b2, o2, rfl, hb2, g2⟩ := holdsD AEE.hd (by omega)
          obtain ⟨x0, x1, x2, x3⟩ := g1 j hjD
          have y := g2 i hiE
          have yb1 := AD.bs _ (getD_mem D default hjD)
          have yb2 := AEE.bs _ (getD_mem E default hiE)
          have ee : (D.getD j default).d = (E.getD i default).d := by
            rw [← getD_map RD.d D default default hjD, ← getD_map RD.d E default default hiE, HD.out, HE.out]
            exact haw.symm
          have HI5 := hid I.out
          clear g1 g2 AD AEE haw I
          generalize D.getD j default = z1 at x0 x1 x2 x3 ee yb1
          generalize E.getD i default = z2 at y ee yb2
          obtain ⟨⟨za, zb, zc, zd⟩, zp, zq⟩ := z1
          obtain ⟨z2d, yp, yq⟩ := z2
          dsimp only at ee
          subst ee
          dsimp only at x0 x1 x2 x3 yb1 yb2
          have bel : Below wr.heap.size wr (wr.alloc (.cells #[.int .i64 (za : Nat), .int .i64 zb, .int .i64 zc, .slice zp zd.length zq] 36)) := (Below.refl _ _).alloc (Nat.le_refl _) _
          obtain ⟨y0, y1, y2, y3⟩ := y.below bel hb2
          dsimp only at y0 y1 y2 y3
          have K := fun t => sameB_any (n := zd.length) ((wr.alloc (.cells #[.int .i64 (za : Nat), .int .i64 zb, .int .i64 zc, .slice zp zd.length zq] 36)).drewN t) rfl ((yb1.grow bel).drewN t) ((yb2.grow bel).drewN t)
          have BF := hid (fun t => below_drewN (HI5.out.trans (bel.mono HI5.out.size)) t)
          clear yb1 yb2 y bel
          generalize zd.length = dl at *
          have n0 : ((za : Int) != (za : Int)) = false := by simp
          have n1 : (zb != zb) = false := by simp
          have n2 : (zc != zc) = false := by simp
          have hjz : (j : Int) < (n : Int) := by have := HN.out; omega
          go_wp2
          go_quiet ((go_at_call 13; exact Calls.quiet_of (K _)))
          go_wp2
          go_roundg (m - (i + 1))
          case measure => omega
          case rel => exact ⟨i + 1, by omega, by omega, by go_num, (show Aside _ from BF.out _)⟩
        · have hilz : ¬ (i : Int) < (m : Int) := by omega
          have F := hid (B5.out.trans (Below.mono I.out B5.out.size))
          go_wp2
          go_ret
          exact ⟨rfl, F.out⟩

set_option maxRecDepth 100000 in
theorem lifted (os : Os) (started : os.Started) (H : Type) (enc : TypeId × Value → H) :
    ReturnsInHanded {} Try.checked os 3 .any (Rows.sealAwaySpec.pre6 enc Try.prog Try.f3 Rows.sealAwayRow.domain false) (Rows.sealAwaySpec.post enc Try.prog Try.f3 false true false false) := by
  refine returnsInHanded_of_change (C := Try.checked) own started (by kernel_rfl) Try.func3
    (ChangeSpec.witness6 (enc := enc) (C := Try.checked) false ⟨#[], #[.slice none 0 0, .int .i64 0], []⟩ 8 (by kernel_rfl) (by kernel_rfl) (by kernel_rfl) (by kernel_rfl)) ?_
  intro W base args ds gs before hval0 hW hcnd _
  have hval : ∀ (j : Nat) t v, Try.f3.params[j]? = some t → args[j]? = some v → Value.okWide Try.prog W .any base t v := hval0
  have hW' := hW
  obtain ⟨p, q, hA0, hV, rfl, hfz, hnd⟩ := hW
  have hA : DataW.TrodAll enc Try.prog W 0 (fun _ => true) true Try.f3.params.toList args.toList ds p := hA0
  rw [Try.params3] at hA hval
  obtain ⟨v0, vs0, d0, ds0, p0, q0, hargs, rfl, rfl, h0, r0⟩ := trodAll_cons hA
  obtain ⟨v1, vs1, d1, ds1, p1, q1, rfl, rfl, rfl, h1, r1⟩ := trodAll_cons r0
  obtain ⟨rfl, rfl, rfl⟩ := trodAll_nil r1
  obtain rfl : args = #[v0, v1] := by cases args; simp_all
  obtain ⟨rfl, rfl⟩ := trodVars_none hV
  obtain ⟨a0, len0, cap0, rfl⟩ := okWide_slice Try.underlying22 (hval 0 22 v0 rfl rfl)
  have k0 := h0
  have lt0 : ∀ x ∈ p0, x.block < W.heap.size := by obtain ⟨m, hm⟩ := k0; exact DataW.trod_lt m _ _ _ hm
  obtain ⟨l0, s0⟩ := mls_open Try.underlying22 Try.underlying58 (by kernel_rfl) ⟨rfl, by intro j f hj; rcases j with _ | _ | _ | _ | _ | j <;> simp at hj <;> subst hj <;> exact ⟨rfl, by kernel_rfl⟩, by intro f hj; simp at hj; subst hj; exact Try.underlying4, by intro j f hj h1 h4; rcases j with _ | _ | _ | _ | j <;> (try omega) <;> simp at hj <;> subst hj <;> exact Try.underlying3, by intro f hj; simp at hj; subst hj; exact Try.underlying30⟩ h0
  have k1 := h1
  have lt1 : ∀ x ∈ p1, x.block < W.heap.size := by obtain ⟨m, hm⟩ := k1; exact DataW.trod_lt m _ _ _ hm
  obtain ⟨a1, rfl, _, _, w1⟩ := open_int Try.underlying3 (hval 1 3 v1 rfl rfl) h1
  clear hA0 hval0
  refine (walk W _ l0 s0 a1 (bounds_i64 w1)).mono fun e W' ⟨he, bel⟩ => ?_
  subst he
  exact ⟨_, rfl, _, _, _, [], _, [], hW', trodAll_mk1 (shut_bool Try.underlying4 _), (trodAll_cons_mk (Below.trod laidOut (by kernel_rfl) (of_decide_eq_true (by kernel_rfl)) k0 bel lt0) (trodAll_cons_mk (Below.trod laidOut (by kernel_rfl) (of_decide_eq_true (by kernel_rfl)) k1 bel lt1) trodAll_mk0)), rfl, bel.frame _, fun h => by cases h⟩

theorem over : Rows.sealAwayRow.holds Try.pinned (OpenSpec.ofChange Rows.sealAwaySpec) :=
  OpenClaim.holds_of_wide 3 Try.f3 rfl rfl rfl rfl rfl rfl rfl ⟨rfl, rfl, rfl, rfl, rfl⟩ rfl rfl rfl rfl rfl (by kernel_rfl) Try.func3 (by kernel_rfl)
    (of_decide_eq_true (by kernel_rfl)) (by unfold Func.isWrapper; first | (rw [if_pos (by decide +kernel)]; kernel_rfl) | (rw [if_neg (by decide +kernel)]; exact ⟨rfl, rfl⟩))
    (fun os started H enc _ => lifted os started H enc)

end sealAway

theorem sealAway_holds : Rows.SealAwaySaid := sealAway.over
#print axioms sealAway_holds
end Go.Proofs.Ytiolkeghgodggaj

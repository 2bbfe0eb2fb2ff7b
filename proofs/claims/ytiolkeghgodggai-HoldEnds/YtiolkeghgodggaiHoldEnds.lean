/- Proved: at every list of wishes and every three 64-bit integers the law HoldEnds returns true: a hold that nobody ends is over behind its ticks, and not ahead of that. Conditions: none. -/
import Derived.Test.YtiolkeghgodggaiRows
import Derived.WalkKit
import Derived.ProofKit
import Derived.OpenShut
import Derived.WalkSmall
import Derived.ShutString
import Derived.ChangeOld
import Derived.Below
import Derived.Test.YtiolkeghgodggaiJ5
namespace Go.Proofs.Ytiolkeghgodggai
namespace holdEnds
open Go.ChangeShapes Go.WideShapes Go.ChangeAt Go.RowKit Hd
set_option linter.unusedVariables false

theorem own : ownKnob Try.prog.godebug = none := by kernel_rfl
theorem laidOut : laidOutB Try.prog = true := by kernel_rfl

set_option maxHeartbeats 4000000 in
set_option maxRecDepth 100000 in
theorem walk (w : World) (v0 : Value) (l0 : List Plain.Or) (s0 : SegO w v0 l0) (r0 : ∀ j, j < l0.length → InO (l0.getD j default)) (a1 : Int) (w1 : -9223372036854775808 ≤ a1 ∧ a1 ≤ 9223372036854775807) (a2 : Int) (w2 : -9223372036854775808 ≤ a2 ∧ a2 ≤ 9223372036854775807) (a3 : Int) (w3 : -9223372036854775808 ≤ a3 ∧ a3 ≤ 9223372036854775807) :
    Calls Try.prog 4 #[v0, .int .i64 a1, .int .i64 a2, .int .i64 a3] w fun e w' => e = .returned (.bool true) ∧ Below w.heap.size w w' := by
  obtain ⟨hm0, p, cap, rfl, hp⟩ := s0
  have K0 := ordersOf_c p l0.length cap l0 r0 hm0 60 (by omega) w rfl hp
  rw [show ((60 : Nat) : Int) = 60 from rfl] at K0
  clear hp r0
  obtain ⟨z1, y1⟩ := w1
  obtain ⟨z2, y2⟩ := w2
  obtain ⟨z3, y3⟩ := w3
  go_enter Try.func4, Try.ntmps4
  go_wp2_with fail
  refine K0.mono ?_
  rintro e W1 ⟨r, rfl, hown, hb1⟩
  clear K0
  obtain ⟨po, co, rfl, hx1⟩ := Enc.owns (E := encO) hown rfl
  clear hx1
  have hlm := Plain.ordsOf_len l0 60
  have OIN := hid (show Plain.Little (Plain.ordsOf l0 60) from Plain.ordsOf_in l0 60)
  generalize Plain.ordsOf l0 60 = os at *
  have OW := hid (And.intro hown hb1)
  clear hown hb1
  generalize hn : os.length = n0 at *
  have HN := hid hn
  clear hn
  go_wp2_with fail
  refine (picked_any a1 9 z1 y1 (by omega) (by omega) _).mono ?_
  rintro e wx ⟨rfl, hx⟩
  have hy0 := hx.symm; clear hx; subst hy0
  obtain ⟨n, hn⟩ : ∃ x, x = a1 % 9 := ⟨_, rfl⟩
  rw [← hn]
  have hn1 : 0 ≤ n ∧ n < 9 := by omega
  obtain ⟨n1, n2⟩ := hn1
  clear hn
  go_wp2_with fail
  refine (picked_any a2 20 z2 y2 (by omega) (by omega) _).mono ?_
  rintro e wx ⟨rfl, hx⟩
  have hy0 := hx.symm; clear hx; subst hy0
  obtain ⟨t, ht⟩ : ∃ x, x = a2 % 20 := ⟨_, rfl⟩
  rw [← ht]
  have ht1 : 0 ≤ t ∧ t < 20 := by omega
  obtain ⟨t1, t2⟩ := ht1
  clear ht
  go_wp2_with fail
  refine (picked_any a3 25 z3 y3 (by omega) (by omega) _).mono ?_
  rintro e wx ⟨rfl, hx⟩
  have hy0 := hx.symm; clear hx; subst hy0
  obtain ⟨kk, hkk⟩ : ∃ x, x = a3 % 25 := ⟨_, rfl⟩
  rw [← hkk]
  have hkk1 : 0 ≤ kk ∧ kk < 25 := by omega
  obtain ⟨kk1, kk2⟩ := hkk1
  clear hkk
  obtain ⟨K, hK⟩ : ∃ K : Nat, (K : Int) = kk := ⟨kk.toNat, by omega⟩
  subst hK
  have hK25 : K < 25 := by omega
  clear kk1 kk2
  obtain ⟨N, hNn⟩ : ∃ N, N = 1 + n := ⟨_, rfl⟩
  obtain ⟨T, hTt⟩ : ∃ T, T = 1 + t := ⟨_, rfl⟩
  go_wp2
  rw [← hNn, ← hTt]
  have N1 : 1 ≤ N ∧ N ≤ 9 := by omega
  have T1 : 1 ≤ T ∧ T ≤ 20 := by omega
  obtain ⟨N1, N9⟩ := N1
  obtain ⟨T1, T20⟩ := T1
  clear hNn hTt
  go_loopg [9, 13] 5 (fun gg s9 s13 wx => ∃ (i : Nat) (vo : Value), i ≤ 5 ∧ 5 - i ≤ gg ∧ s13 = .int .i64 i ∧ s9 = vo ∧ Aside (wx.ownsRow w.heap.size 31 4 vo (n0 + i) (encO.vals (os ++ List.replicate i Plain.tickO)) ∧ Below w.heap.size w wx))
  case atStart => exact ⟨0, _, by omega, by omega, rfl, rfl, (show Aside _ by rw [List.replicate_zero, List.append_nil, Nat.add_zero]; exact OW.out)⟩
  case round =>
    obtain ⟨i, vo, hi5, hg, rfl, rfl, A⟩ := hrel
    obtain ⟨pa, ca, ea, hx1⟩ := Enc.owns (E := encO) A.out.1 (by rw [List.length_append, List.length_replicate, HN.out])
    clear hx1
    have AA := hid A.out
    rw [ea] at AA
    subst ea
    clear A
    by_cases hlt : i < 5
    · have hltz : (i : Int) < 5 := by omega
      obtain ⟨p', c', U, hrun, ow2, be2, hx1⟩ := app_order AA.out.1 AA.out.2 (by rw [List.length_append, List.length_replicate, HN.out]) (by omega) Plain.tickO
      clear hx1
      have HRUN := hid (show (Builtin.append_ #[23, 23] 23 #[.slice pa (n0 + i) ca, .slice (some ⟨wr.heap.size, 0, none⟩) 1 1]).run Try.prog (wr.alloc (.cells #[.int .i64 7, .int .i64 0, .int .i64 0, .int .i64 0] 31)) = .ok (.slice p' (n0 + i + 1) c') U from hrun)
      have H2 := hid (show U.ownsRow w.heap.size 31 4 (.slice p' (n0 + i + 1) c') (n0 + (i + 1)) (encO.vals (os ++ List.replicate (i + 1) Plain.tickO)) ∧ Below w.heap.size w U from ⟨by rw [List.replicate_succ', ← List.append_assoc]; exact ow2, be2⟩)
      clear hrun ow2 be2 AA
      go_wp2_with (first | (at_builtin; refine wpList_app _ _ 23 HRUN.out (by rfl) (by rfl) (by rfl) (by rfl) (by rfl) ?_) | fail)
      go_wp2
      go_roundg (5 - (i + 1))
      case measure => omega
      case rel => exact ⟨i + 1, _, by omega, by omega, by go_num, rfl, H2.out⟩
    · have hltz : ¬ (i : Int) < 5 := by omega
      have h5 : i = 5 := by omega
      subst h5
      have EA := hid (show wr.ownsRow w.heap.size 31 4 (.slice pa (n0 + 5) ca) (n0 + 5) (encO.vals (Plain.endA os)) ∧ Below w.heap.size w wr from AA.out)
      clear AA
      obtain ⟨p', c', U, hrun, ow2, be2⟩ := app_order2 EA.out.1 EA.out.2 (by rw [Plain.endA_len, HN.out]) (by omega) ⟨1, N, 0, 0⟩ ⟨3, N, T, 0⟩
      dsimp only at hrun
      have HRUN := hid hrun
      have H2 := hid (show U.ownsRow w.heap.size 31 4 (.slice p' (n0 + 5 + 2) c') (n0 + 5 + 2) (encO.vals (Plain.endB os N T)) ∧ Below w.heap.size w U from ⟨ow2, be2⟩)
      clear hrun ow2 be2 EA
      go_wp2_with (first | (at_builtin; refine wpList_app _ _ 23 HRUN.out (by rfl) (by rfl) (by rfl) (by rfl) (by rfl) ?_) | fail)
      clear HRUN
      obtain ⟨at_, hat⟩ : ∃ at_ : Nat, at_ = n0 + 6 := ⟨_, rfl⟩
      rw [show (n0 : Int) + 5 + 2 - 1 = (at_ : Int) by omega]
      obtain ⟨m7, hm7⟩ : ∃ m7 : Nat, m7 = n0 + 5 + 2 := ⟨_, rfl⟩
      rw [← hm7] at H2 ⊢
      have H7 := hid (show m7 = os.length + 7 by rw [HN.out, hm7])
      have HAT := hid (show at_ = os.length + 6 by rw [HN.out, hat])
      have hat7 : at_ < m7 ∧ m7 ≤ 67 := by omega
      obtain ⟨hat7, hm67⟩ := hat7
      have FA := hid (fun k => Plain.endL_at OIN.out (by rw [HN.out]; exact hlm) N T k N1 N9 T1 T20)
      have FL := hid (Plain.endL_last OIN.out (by rw [HN.out]; exact hlm) N T K N1 N9 T1 T20)
      have SM := hid (Plain.endL_sml OIN.out N T K N1 N9 T1 T20)
      obtain ⟨g0, hv0, hx2⟩ := Plain.endR_hv OIN.out (by rw [HN.out]; exact hlm)
      have hmd := Plain.endR_made os (by rw [HN.out]; exact hlm)
      obtain ⟨⟨f1, f2⟩, ⟨u1, u2⟩, hx3⟩ := hv0.bdsL
      clear hx2 hx3 hv0 hat hm7 hi5 hg hlt
      generalize (Plain.endR os).free = f at *
      generalize (Plain.endR os).used = u at *
      generalize (Plain.endR os).cs.length = md at *
      go_loopg [9, 15] K (fun gg s9 s15 wx => ∃ (i : Nat) (vo : Value), i ≤ K ∧ K - i ≤ gg ∧ s15 = .int .i64 i ∧ s9 = vo ∧ Aside (wx.ownsRow w.heap.size 31 4 vo (m7 + i) (encO.vals (Plain.endB os N T ++ List.replicate i Plain.tickO)) ∧ Below w.heap.size w wx))
      case atStart => exact ⟨0, _, by omega, by omega, rfl, rfl, (show Aside _ by rw [List.replicate_zero, List.append_nil, Nat.add_zero]; exact H2.out)⟩
      case round =>
        obtain ⟨i, vo, hiK, hg, rfl, rfl, A⟩ := hrel
        clear H2
        have hll : (Plain.endB os N T ++ List.replicate i Plain.tickO).length = m7 + i := by rw [List.length_append, List.length_replicate, Plain.endB_len, H7.out]
        obtain ⟨pb, cb, eb, hx1⟩ := Enc.owns (E := encO) A.out.1 hll
        clear hx1
        have AA := hid A.out
        rw [eb] at AA
        subst eb
        clear A
        by_cases hlt : i < K
        · have hltz : (i : Int) < (K : Int) := by omega
          obtain ⟨p2, c2, U2, hrun, ow2, be2, hx1⟩ := app_order AA.out.1 AA.out.2 hll (by omega) Plain.tickO
          clear hx1
          have HRUN := hid (show (Builtin.append_ #[23, 23] 23 #[.slice pb (m7 + i) cb, .slice (some ⟨wr.heap.size, 0, none⟩) 1 1]).run Try.prog (wr.alloc (.cells #[.int .i64 7, .int .i64 0, .int .i64 0, .int .i64 0] 31)) = .ok (.slice p2 (m7 + i + 1) c2) U2 from hrun)
          have H2 := hid (show U2.ownsRow w.heap.size 31 4 (.slice p2 (m7 + i + 1) c2) (m7 + (i + 1)) (encO.vals (Plain.endB os N T ++ List.replicate (i + 1) Plain.tickO)) ∧ Below w.heap.size w U2 from ⟨by rw [List.replicate_succ', ← List.append_assoc]; exact ow2, be2⟩)
          clear hrun ow2 be2 AA hll
          go_wp2_with (first | (at_builtin; refine wpList_app _ _ 23 HRUN.out (by rfl) (by rfl) (by rfl) (by rfl) (by rfl) ?_) | fail)
          go_wp2
          go_roundg (K - (i + 1))
          case measure => omega
          case rel => exact ⟨i + 1, _, by omega, by omega, by go_num, rfl, H2.out⟩
        · have hltz : ¬ (i : Int) < (K : Int) := by omega
          have hiK2 : i = K := by omega
          subst hiK2
          have EL := hid (show wr.ownsRow w.heap.size 31 4 (.slice pb (m7 + i) cb) (m7 + i) (encO.vals (Plain.endL os N T i)) ∧ Below w.heap.size w wr from AA.out)
          have hll2 : (Plain.endL os N T i).length = m7 + i := hll
          clear AA hll hlt hg hiK
          generalize hLL : Plain.endL os N T i = L at *
          have HLL := hid hLL
          clear hLL
          obtain ⟨mL, hmL⟩ : ∃ mL : Nat, mL = m7 + i := ⟨_, rfl⟩
          rw [← hmL] at EL hll2 ⊢
          have hmL1 : at_ < mL ∧ mL ≤ 100 := by omega
          obtain ⟨hmL1, hmL2⟩ := hmL1
          have HmL := hid (show mL = os.length + 7 + i by rw [hmL, H7.out])
          clear hmL
          obtain ⟨pq, cq, eq, hpq, hnq, hx1⟩ := Enc.owns (E := encO) EL.out.1 hll2
          clear hx1
          have eqs : Value.slice pb mL cb = .slice pq mL cq := eq
          simp only [Value.slice.injEq, true_and] at eqs
          obtain ⟨rfl, rfl⟩ := eqs
          clear eq
          have KS := stocked_c pb mL cb L SM.out.ins (by omega) wr hll2 hpq hnq
          clear hpq hnq
          go_wp2_with fail
          refine KS.mono ?_
          rintro e W5 ⟨qs, cs, rfl, hs5, hb5, hfr⟩
          clear KS
          have HFR := hid hfr
          have HPB := hid (show ∀ b, (Value.slice pb mL cb).ownBlock = some b → b < wr.heap.size from fun b hb => (EL.out.1.lt b hb).2)
          clear hfr
          have HS5 := hid hs5
          have EL5 := hid (show W5.ownsRow w.heap.size 31 4 (.slice pb mL cb) mL (encO.vals L) ∧ Below w.heap.size w W5 from ⟨owns_grow EL.out.1 hb5, EL.out.2.trans (hb5.mono EL.out.2.size)⟩)
          clear hs5 hb5 EL
          have FA1 := hid (FA.out i)
          rw [HLL.out, ← HAT.out] at FA1
          clear FA
          go_wp2_with fail
          refine (shelfSure_c W5).mono ?_
          rintro e W6 ⟨rfl, hb6⟩
          have HS6 := hid (HS5.out.grow hb6)
          have EL6 := hid (show W6.ownsRow w.heap.size 31 4 (.slice pb mL cb) mL (encO.vals L) ∧ Below w.heap.size w W6 from ⟨owns_grow EL5.out.1 hb6, EL5.out.2.trans (hb6.mono EL5.out.2.size)⟩)
          clear hb6 HS5 EL5
          obtain ⟨bs, ss, eqs, hbs, gs⟩ := holdsS HS6.out (by rw [Plain.playF_len]; omega)
          subst eqs
          have GS := hid (gs at_ (by rw [Plain.playF_len, hll2]; exact hmL1))
          rw [FA1.out] at GS
          clear gs FA1 HS6
          obtain ⟨s0, s1, s2, s3, s4⟩ := GS.out
          dsimp only at s0 s1 s2 s3 s4
          have hatz : (at_ : Int) < (mL : Int) := by omega
          have hne1 : (N != N) = false := by simp
          have hne0 : (((0 : Nat) : Int) != 0) = false := by simp
          have hbsr := HFR.out _ rfl (by omega)
          dsimp only at hbsr
          obtain ⟨p3, c3, U3, hrun, ow3, be3, gr3⟩ := app_order EL6.out.1 EL6.out.2 hll2 (by omega) ⟨4, 0, 0, (md : Int) + 1⟩
          dsimp only at hrun gr3
          have GS3 := hid (show CellS U3 bs (ss + at_ * 5) ⟨0, (md : Int) + 1, f, N, u⟩ from (GS.out.below ((Below.refl W6.heap.size W6).alloc (Nat.le_refl _) (.cells #[.int .i64 4, .int .i64 0, .int .i64 0, .int .i64 ((md : Int) + 1)] 31)) hbs).kept gr3 (fun e => by have := HPB.out bs e; omega) (by simp; omega))
          have hU3 : bs < U3.heap.size := Nat.lt_of_lt_of_le hbs (by have := gr3.size; simp at this; omega)
          have hl3 : (L ++ [(⟨4, 0, 0, (md : Int) + 1⟩ : Plain.Or)]).length = mL + 1 := by rw [List.length_append, hll2]; rfl
          obtain ⟨pr, cr, er, hpr, hnr, hx1⟩ := Enc.owns (E := encO) ow3 hl3
          have ers : Value.slice p3 (mL + 1) c3 = .slice pr (mL + 1) cr := er
          simp only [Value.slice.injEq, true_and] at ers
          obtain ⟨rfl, rfl⟩ := ers
          clear er hx1
          have KS := stocked_c p3 (mL + 1) c3 _ (SM.out.app (Plain.Sml.one (o := ⟨4, 0, 0, (md : Int) + 1⟩) (by dsimp only; omega))).ins (by omega) U3 hl3 hpr hnr
          have HRUN := hid hrun
          have BE3 := hid be3
          have FL1 := FL.out
          rw [← HmL.out] at FL1
          have HFL := hid FL1
          clear hrun ow3 be3 gr3 hpr hnr FL1 FL GS EL6 HFR HPB SM
          go_wp2_with (first | (at_builtin; refine wpList_app _ _ 23 HRUN.out (by rfl) (by rfl) (by rfl) (by rfl) (by rfl) ?_) | fail)
          refine KS.mono ?_
          rintro e W8 ⟨qu, cu, rfl, hu8, hb8, hx1⟩
          clear KS hx1 HRUN s0 s1 s2 s3 s4
          obtain ⟨bu, su, equ, hbu, gu⟩ := holdsS hu8 (by rw [Plain.playF_len, hl3]; omega)
          subst equ
          have GU := hid (gu mL (by rw [Plain.playF_len, hl3]; omega))
          rw [HFL.out] at GU
          have GS8 := hid (GS3.out.below hb8 hU3)
          have B8 := hid (BE3.out.trans (hb8.mono BE3.out.size))
          have hlt8 := Nat.lt_of_lt_of_le hU3 hb8.size
          clear hu8 hb8 gu GS3 BE3 HFL
          obtain ⟨v0, v1, v2, v3, v4⟩ := GU.out
          have hmz : (mL : Int) < (mL : Int) + 1 := by omega
          by_cases hKT : (i : Int) < T
          · rw [if_pos hKT] at v0 v1 v2 v3 v4
            dsimp only at v0 v1 v2 v3 v4
            obtain ⟨U', hU'⟩ : ∃ U', U' = u + N := ⟨_, rfl⟩
            rw [← hU'] at v4
            have hwU : IntKind.i64.wrap (u + N) = U' := by rw [hU', IntKind.wrap_i64]; omega
            clear hU'
            go_wp2
            obtain ⟨W9, hW9⟩ : ∃ W9, W9 = W8.alloc (.cells #[.int .i64 0, .int .i64 0, .int .i64 f, .int .i64 0, .int .i64 U'] 34) := ⟨_, rfl⟩
            rw [← hW9]
            have bel9 : Below W8.heap.size W8 W9 := by rw [hW9]; exact (Below.refl _ _).alloc (Nat.le_refl _) _
            have x0 : W9.cell? ⟨W8.heap.size, 0, none⟩ = some (.int .i64 0) := by rw [hW9, World.cell?_alloc_at _ _ _ _ rfl]; rfl
            have x2 : W9.cell? ⟨W8.heap.size, 2, none⟩ = some (.int .i64 f) := by rw [hW9, World.cell?_alloc_at _ _ _ _ rfl]; rfl
            have x3 : W9.cell? ⟨W8.heap.size, 3, none⟩ = some (.int .i64 0) := by rw [hW9, World.cell?_alloc_at _ _ _ _ rfl]; rfl
            have x4 : W9.cell? ⟨W8.heap.size, 4, none⟩ = some (.int .i64 U') := by rw [hW9, World.cell?_alloc_at _ _ _ _ rfl]; rfl
            obtain ⟨s0, s1, s2, s3, s4⟩ := GS8.out.below bel9 hlt8
            dsimp only at s0 s1 s2 s3 s4
            have B9 := hid (B8.out.trans (bel9.mono B8.out.size))
            clear hW9 bel9 v0 v1 v2 v3 v4
            have e1 : (U' == U') = true := by simp
            have e2 : (f == f) = true := by simp
            go_quiet (fail)
            go_wp2
            go_ret
            exact ⟨rfl, below_drewN B9.out _⟩
          · rw [if_neg hKT] at v0 v1 v2 v3 v4
            dsimp only at v0 v1 v2 v3 v4
            obtain ⟨F', hF'⟩ : ∃ F', F' = f + N := ⟨_, rfl⟩
            rw [← hF'] at v2
            have hwF : IntKind.i64.wrap (f + N) = F' := by rw [hF', IntKind.wrap_i64]; omega
            clear hF'
            go_wp2
            obtain ⟨W9, hW9⟩ : ∃ W9, W9 = W8.alloc (.cells #[.int .i64 10, .int .i64 0, .int .i64 F', .int .i64 0, .int .i64 u] 34) := ⟨_, rfl⟩
            rw [← hW9]
            have bel9 : Below W8.heap.size W8 W9 := by rw [hW9]; exact (Below.refl _ _).alloc (Nat.le_refl _) _
            have x0 : W9.cell? ⟨W8.heap.size, 0, none⟩ = some (.int .i64 10) := by rw [hW9, World.cell?_alloc_at _ _ _ _ rfl]; rfl
            have x2 : W9.cell? ⟨W8.heap.size, 2, none⟩ = some (.int .i64 F') := by rw [hW9, World.cell?_alloc_at _ _ _ _ rfl]; rfl
            have x3 : W9.cell? ⟨W8.heap.size, 3, none⟩ = some (.int .i64 0) := by rw [hW9, World.cell?_alloc_at _ _ _ _ rfl]; rfl
            have x4 : W9.cell? ⟨W8.heap.size, 4, none⟩ = some (.int .i64 u) := by rw [hW9, World.cell?_alloc_at _ _ _ _ rfl]; rfl
            obtain ⟨s0, s1, s2, s3, s4⟩ := GS8.out.below bel9 hlt8
            dsimp only at s0 s1 s2 s3 s4
            have B9 := hid (B8.out.trans (bel9.mono B8.out.size))
            clear hW9 bel9 v0 v1 v2 v3 v4
            have e1 : (F' == F') = true := by simp
            go_quiet (fail)
            go_wp2
            go_ret
            exact ⟨rfl, below_drewN B9.out _⟩

set_option maxRecDepth 100000 in
theorem lifted (os : Os) (started : os.Started) (H : Type) (enc : TypeId × Value → H) :
    ReturnsInHanded {} Try.checked os 4 .any (Rows.holdEndsSpec.pre6 enc Try.prog Try.f4 Rows.holdEndsRow.domain false) (Rows.holdEndsSpec.post enc Try.prog Try.f4 false true false false) := by
  refine returnsInHanded_of_change (C := Try.checked) own started (by kernel_rfl) Try.func4
    (ChangeSpec.witness6 (enc := enc) (C := Try.checked) false ⟨#[], #[.slice none 0 0, .int .i64 0, .int .i64 0, .int .i64 0], []⟩ 8 (by kernel_rfl) (by kernel_rfl) (by kernel_rfl) (by kernel_rfl)) ?_
  intro W base args ds gs before hval0 hW hcnd _
  have hval : ∀ (j : Nat) t v, Try.f4.params[j]? = some t → args[j]? = some v → Value.okWide Try.prog W .any base t v := hval0
  have hW' := hW
  obtain ⟨p, q, hA0, hV, rfl, hfz, hnd⟩ := hW
  have hA : DataW.TrodAll enc Try.prog W 0 (fun _ => true) true Try.f4.params.toList args.toList ds p := hA0
  rw [Try.params4] at hA hval
  obtain ⟨v0, vs0, d0, ds0, p0, q0, hargs, rfl, rfl, h0, r0⟩ := trodAll_cons hA
  obtain ⟨v1, vs1, d1, ds1, p1, q1, rfl, rfl, rfl, h1, r1⟩ := trodAll_cons r0
  obtain ⟨v2, vs2, d2, ds2, p2, q2, rfl, rfl, rfl, h2, r2⟩ := trodAll_cons r1
  obtain ⟨v3, vs3, d3, ds3, p3, q3, rfl, rfl, rfl, h3, r3⟩ := trodAll_cons r2
  obtain ⟨rfl, rfl, rfl⟩ := trodAll_nil r3
  obtain rfl : args = #[v0, v1, v2, v3] := by cases args; simp_all
  obtain ⟨rfl, rfl⟩ := trodVars_none hV
  obtain ⟨a0, len0, cap0, rfl⟩ := okWide_slice Try.underlying22 (hval 0 22 v0 rfl rfl)
  have k0 := h0
  have lt0 : ∀ x ∈ p0, x.block < W.heap.size := by obtain ⟨m, hm⟩ := k0; exact DataW.trod_lt m _ _ _ hm
  obtain ⟨l0, s0, ri0⟩ := ors_open Try.underlying22 Try.underlying58 (by kernel_rfl) ⟨rfl, by intro j f hj; rcases j with _ | _ | _ | _ | j <;> simp at hj <;> subst hj <;> exact ⟨rfl, by kernel_rfl, Try.underlying3⟩⟩ h0
  have k1 := h1
  have lt1 : ∀ x ∈ p1, x.block < W.heap.size := by obtain ⟨m, hm⟩ := k1; exact DataW.trod_lt m _ _ _ hm
  obtain ⟨a1, rfl, _, _, w1⟩ := open_int Try.underlying3 (hval 1 3 v1 rfl rfl) h1
  have k2 := h2
  have lt2 : ∀ x ∈ p2, x.block < W.heap.size := by obtain ⟨m, hm⟩ := k2; exact DataW.trod_lt m _ _ _ hm
  obtain ⟨a2, rfl, _, _, w2⟩ := open_int Try.underlying3 (hval 2 3 v2 rfl rfl) h2
  have k3 := h3
  have lt3 : ∀ x ∈ p3, x.block < W.heap.size := by obtain ⟨m, hm⟩ := k3; exact DataW.trod_lt m _ _ _ hm
  obtain ⟨a3, rfl, _, _, w3⟩ := open_int Try.underlying3 (hval 3 3 v3 rfl rfl) h3
  clear hA0 hval0
  refine (walk W _ l0 s0 ri0 a1 (bounds_i64 w1) a2 (bounds_i64 w2) a3 (bounds_i64 w3)).mono fun e W' ⟨he, bel⟩ => ?_
  subst he
  exact ⟨_, rfl, _, _, _, [], _, [], hW', trodAll_mk1 (shut_bool Try.underlying4 _), (trodAll_cons_mk (Below.trod laidOut (by kernel_rfl) (of_decide_eq_true (by kernel_rfl)) k0 bel lt0) (trodAll_cons_mk (Below.trod laidOut (by kernel_rfl) (of_decide_eq_true (by kernel_rfl)) k1 bel lt1) (trodAll_cons_mk (Below.trod laidOut (by kernel_rfl) (of_decide_eq_true (by kernel_rfl)) k2 bel lt2) (trodAll_cons_mk (Below.trod laidOut (by kernel_rfl) (of_decide_eq_true (by kernel_rfl)) k3 bel lt3) trodAll_mk0)))), rfl, bel.frame _, fun h => by cases h⟩

theorem over : Rows.holdEndsRow.holds Try.pinned (OpenSpec.ofChange Rows.holdEndsSpec) :=
  OpenClaim.holds_of_wide 4 Try.f4 rfl rfl rfl rfl rfl rfl rfl ⟨rfl, rfl, rfl, rfl, rfl⟩ rfl rfl rfl rfl rfl (by kernel_rfl) Try.func4 (by kernel_rfl)
    (of_decide_eq_true (by kernel_rfl)) (by unfold Func.isWrapper; first | (rw [if_pos (by decide +kernel)]; kernel_rfl) | (rw [if_neg (by decide +kernel)]; exact ⟨rfl, rfl⟩))
    (fun os started H enc _ => lifted os started H enc)

end holdEnds

theorem holdEnds_holds : Rows.HoldEndsSaid := holdEnds.over
#print axioms holdEnds_holds
end Go.Proofs.Ytiolkeghgodggai

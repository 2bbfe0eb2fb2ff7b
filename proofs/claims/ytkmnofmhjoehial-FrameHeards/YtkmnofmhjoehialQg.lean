/-
  The document's FrameRumour.
-/
import Derived.Test.YtkmnofmhjoehialQf
import Derived.Deep.LoopGhost
import Derived.Deep.RegionWith
import Derived.Deep.Cut
namespace Go.Proofs.Ytkmnofmhjoehial
open Go.RowKit Go.Shelf

set_option maxHeartbeats 16000000 in
set_option maxRecDepth 100000 in
theorem rrumour_c (c : Plain.Cf) (lv mv v : Value) (x y : Int) (st : List (List Plain.En)) (w : World) (hI : CfI w c lv mv) (hs : SegLs w v st) :
    Calls Try.prog 18 #[cfV c lv mv, .int .i64 x, .int .i64 y, v] w (RumP c x y st w) := by
  have B0 := hid (BcI.start hI)
  have HS := hid (fun (X : World) (b : Below w.heap.size w X) => hs.grow b)
  have hsm := hs.1
  obtain ⟨_, p, cp, rfl, _⟩ := hs
  obtain ⟨lp, lc, rfl⟩ := seg_len hI.sl
  obtain ⟨mp, mc, rfl⟩ := seg_len hI.sm
  have HSL := hid (fun (X : World) (b : Below w.heap.size w X) => seg_at (hI.sl.below b hI.ll))
  have KM := rmay_c c (.slice lp c.ls.length lc) (.slice mp c.ms.length mc) (w.alloc (boxC c (.slice lp c.ls.length lc) (.slice mp c.ms.length mc))) B0.out.ci
  clear hI
  cases hmay : Plain.mayC c with
  | false =>
    rw [hmay] at KM
    have hE : Plain.refE c x y = 4 := by unfold Plain.refE; rw [hmay]; rfl
    have HN := hid (Plain.rum_ref (st := st) (by rw [hE]; decide))
    rw [hE] at HN
    clear hE hmay
    obtain ⟨n, ls, t, ms, cap⟩ := c
    dsimp only at *
    go_enter Try.func18, Try.ntmps18
    go_wp2_with fail
    refine KM.mono ?_
    rintro e w1 ⟨rfl, b1⟩
    have B1 := hid (B0.out.grow b1)
    clear B0 KM b1
    go_wp2
    go_ret2
    exact rumP_no HN.out B1.out.be
  | true =>
    rw [hmay] at KM
    have HRN := hid (fun (h : ¬ ((0 ≤ x ∧ x < c.n) ∧ (0 ≤ y ∧ y < c.n))) => show Plain.rumE c x y st = 2 ∧ Plain.rumB c x y st = [] by
      have hE : Plain.refE c x y = 2 := by unfold Plain.refE; rw [if_pos hmay, if_neg h]
      have := Plain.rum_ref (st := st) (c := c) (a := x) (b := y) (by rw [hE]; decide)
      rw [hE] at this
      exact this)
    have HRY := hid (fun (h : (0 ≤ x ∧ x < c.n) ∧ (0 ≤ y ∧ y < c.n)) => show Plain.refE c x y = 0 by unfold Plain.refE; rw [if_pos hmay, if_pos h])
    have h18 := (Plain.may_all hmay).1
    have h4 := (Plain.may_all hmay).2.1
    have HLT := hid (Plain.lab_lt hmay)
    clear hmay
    by_cases q0 : x < 0
    · have HN := hid (HRN.out (by omega))
      obtain ⟨n, ls, t, ms, cap⟩ := c
      dsimp only at *
      go_enter Try.func18, Try.ntmps18
      go_wp2_with fail
      refine KM.mono ?_
      rintro e w1 ⟨rfl, b1⟩
      have B1 := hid (B0.out.grow b1)
      obtain ⟨c0, c1, c2, c3, c4⟩ := B1.out.cc
      clear B0 KM b1
      go_wp2
      go_ret2
      exact rumP_no HN.out B1.out.be
    by_cases q1 : c.n ≤ x
    · have HN := hid (HRN.out (by omega))
      obtain ⟨n, ls, t, ms, cap⟩ := c
      dsimp only at *
      go_enter Try.func18, Try.ntmps18
      go_wp2_with fail
      refine KM.mono ?_
      rintro e w1 ⟨rfl, b1⟩
      have B1 := hid (B0.out.grow b1)
      obtain ⟨c0, c1, c2, c3, c4⟩ := B1.out.cc
      clear B0 KM b1
      go_wp2
      go_ret2
      exact rumP_no HN.out B1.out.be
    by_cases q2 : y < 0
    · have HN := hid (HRN.out (by omega))
      obtain ⟨n, ls, t, ms, cap⟩ := c
      dsimp only at *
      go_enter Try.func18, Try.ntmps18
      go_wp2_with fail
      refine KM.mono ?_
      rintro e w1 ⟨rfl, b1⟩
      have B1 := hid (B0.out.grow b1)
      obtain ⟨c0, c1, c2, c3, c4⟩ := B1.out.cc
      clear B0 KM b1
      go_wp2
      go_ret2
      exact rumP_no HN.out B1.out.be
    by_cases q3 : c.n ≤ y
    · have HN := hid (HRN.out (by omega))
      obtain ⟨n, ls, t, ms, cap⟩ := c
      dsimp only at *
      go_enter Try.func18, Try.ntmps18
      go_wp2_with fail
      refine KM.mono ?_
      rintro e w1 ⟨rfl, b1⟩
      have B1 := hid (B0.out.grow b1)
      obtain ⟨c0, c1, c2, c3, c4⟩ := B1.out.cc
      clear B0 KM b1
      go_wp2
      go_ret2
      exact rumP_no HN.out B1.out.be
    have hE := HRY.out (by omega)
    obtain ⟨xn, rfl⟩ := Int.eq_ofNat_of_zero_le (show 0 ≤ x by omega)
    obtain ⟨yn, rfl⟩ := Int.eq_ofNat_of_zero_le (show 0 ≤ y by omega)
    have hxn : xn < 8 := by omega
    have hyn : yn < 8 := by omega
    clear HRN HRY
    by_cases hlen : st.length = c.ls.length
    · have H1 := hid (fun h => Plain.rum_form (st := st) hE hlen h)
      have H2 := hid (fun h2 h => Plain.rum_over (st := st) hE hlen h2 h)
      have H3 := hid (fun h2 h => Plain.rum_bits (st := st) hE hlen h2 h)
      have hne : ((st.length : Int) != (c.ls.length : Int)) = false := by rw [hlen]; simp
      have HLE := hid hlen
      have hst4 : st.length ≤ 4 := by omega
      clear hlen hE h18
      obtain ⟨n, ls, t, ms, cap⟩ := c
      dsimp only at *
      go_enter Try.func18, Try.ntmps18
      go_wp2_with fail
      refine KM.mono ?_
      rintro e w1 ⟨rfl, b1⟩
      have B1 := hid (B0.out.grow b1)
      obtain ⟨c0, c1, c2, c3, c4⟩ := B1.out.cc
      clear B0 KM b1
      go_wp2
      clear c0 c1 c2 c3 c4 q0 q1 q2 q3
      go_loopg [53] st.length (fun gg s53 wr => ∃ k : Nat, k ≤ st.length ∧ st.length - k ≤ gg ∧ s53 = .int .i64 k ∧ Aside ((st.take k).all Plain.mayL = true) ∧ Aside (BcI w wr w.heap.size ⟨n, ls, t, ms, cap⟩ (.slice lp ls.length lc) (.slice mp ms.length mc)))
      case atStart => exact ⟨0, Nat.zero_le _, by omega, rfl, rfl, B1.out⟩
      case round =>
        obtain ⟨k, hk, hg, rfl, A, BW⟩ := hrel
        by_cases hlt : k < st.length
        · have hltz : (k : Int) < (st.length : Int) := by omega
          obtain ⟨b, off, rfl, u, hu, el⟩ := (HS.out wr BW.out.be).at hlt
          have KY := rmay_any u (st.getD k []) wr el.sg el.li
          clear el
          cases hq : Plain.mayL (st.getD k []) with
          | false =>
            rw [hq] at KY
            have HN := hid (H1.out (Plain.all_no _ st [] k hlt hq))
            go_wp2_with fail
            refine KY.mono ?_
            rintro e w2 ⟨rfl, b2⟩
            have B2 := hid (BW.out.grow b2)
            clear KY b2 hu
            go_wp2
            go_ret2
            exact rumP_no HN.out B2.out.be
          | true =>
            rw [hq] at KY
            have HN := hid (Plain.all_take _ st [] k hlt A.out hq)
            go_wp2_with fail
            refine KY.mono ?_
            rintro e w2 ⟨rfl, b2⟩
            have B2 := hid (BW.out.grow b2)
            clear KY b2 hu
            go_wp2
            go_roundg (st.length - (k + 1))
            case measure => omega
            case rel => exact ⟨k + 1, by omega, by omega, by go_num, (show Aside _ from HN.out), (show Aside _ from B2.out)⟩
        · have hltz : ¬ (k : Int) < (st.length : Int) := by omega
          have ek : k = st.length := by omega
          subst ek
          have hall := A.out
          rw [List.take_length] at hall
          have HA := hid hall
          clear A hall
          obtain ⟨c0, c1, c2, c3, c4⟩ := BW.out.cc
          obtain ⟨W, hW⟩ : ∃ W, W = wr := ⟨_, rfl⟩
          subst hW
          have BW0 := hid BW.out.be
          have HSW := hid (fun (X : World) (b : Below W.heap.size W X) => HS.out X (BW0.out.trans (b.mono BW0.out.size)))
          have HLW := hid (fun (X : World) (b : Below W.heap.size W X) => HSL.out X (BW0.out.trans (b.mono BW0.out.size)))
          obtain ⟨B, hB⟩ : ∃ B, B = W.heap.size := ⟨_, rfl⟩
          have HB := hid hB
          clear hB
          go_wp2
          clear c0 c1 c2 c3 c4 HS HSL BW
          go_loopg [12, 64] ls.length (fun gg s12 s64 wr => ∃ k : Nat, k ≤ ls.length ∧ ls.length - k ≤ gg ∧ s64 = .int .i64 k ∧ Aside (FrI W wr B s12 (Plain.lbits st (Plain.comL ls xn yn k))) ∧ Aside (Plain.roomB st (Plain.comL ls xn yn k) = true))
          case atStart => exact ⟨0, Nat.zero_le _, by omega, rfl, (show Aside _ from ⟨World.ownsRow_nil _ _ _ _, Below.refl _ _⟩), rfl⟩
          case round =>
            obtain ⟨k, hk, hg, rfl, A, AR⟩ := hrel
            by_cases hlt : k < ls.length
            · have hltz : (k : Int) < (ls.length : Int) := by omega
              obtain ⟨lb, off, rfl, hc⟩ := HLW.out wr A.out.be (by omega)
              have c0 := hc k hlt
              have hs2 := HLT.out (ls.getD k 0) (by rw [Plain.getD_ltI _ _ hlt]; exact List.getElem_mem hlt)
              obtain ⟨s, hsn⟩ := Int.eq_ofNat_of_zero_le hs2.1
              rw [hsn] at c0 hs2
              have hs256 : s < 256 := by omega
              have KX := rreadsQ s xn hs256 hxn
              have KY := rreadsQ s yn hs256 hyn
              have HBO := hid (show Plain.both (ls.getD k 0) xn yn = ((s / 2 ^ xn % 2 == 1) && (s / 2 ^ yn % 2 == 1)) by rw [hsn]; unfold Plain.both; rw [Plain.rd_nat s xn hxn, Plain.rd_nat s yn hyn])
              clear hc hs2 hsn
              generalize (s / 2 ^ xn % 2 == 1) = rx at KX HBO
              generalize (s / 2 ^ yn % 2 == 1) = ry at KY HBO
              cases rx with
              | false =>
                have HQ := hid (show Plain.comL ls xn yn (k + 1) = Plain.comL ls xn yn k by rw [Plain.com_succ, if_neg (by rw [HBO.out]; simp)])
                clear KY
                go_wp2_with fail
                refine (KX _).mono ?_
                rintro e w2 ⟨rfl, hx⟩
                have hy := hx.symm
                clear hx KX
                subst hy
                go_wp2
                go_roundg (ls.length - (k + 1))
                case measure => omega
                case rel => exact ⟨k + 1, by omega, by omega, by go_num, (show Aside _ from by rw [HQ.out]; exact A.out), (show Aside _ from by rw [HQ.out]; exact AR.out)⟩
              | true =>
                cases ry with
                | false =>
                  have HQ := hid (show Plain.comL ls xn yn (k + 1) = Plain.comL ls xn yn k by rw [Plain.com_succ, if_neg (by rw [HBO.out]; simp)])
                  go_wp2_with fail
                  refine (KX _).mono ?_
                  rintro e w2 ⟨rfl, hx⟩
                  have hy := hx.symm
                  clear hx KX
                  subst hy
                  go_wp2_with fail
                  refine (KY _).mono ?_
                  rintro e w2 ⟨rfl, hx⟩
                  have hy := hx.symm
                  clear hx KY
                  subst hy
                  go_wp2
                  go_roundg (ls.length - (k + 1))
                  case measure => omega
                  case rel => exact ⟨k + 1, by omega, by omega, by go_num, (show Aside _ from by rw [HQ.out]; exact A.out), (show Aside _ from by rw [HQ.out]; exact AR.out)⟩
                | true =>
                  have HQ := hid (show Plain.comL ls xn yn (k + 1) = Plain.comL ls xn yn k ++ [k] by rw [Plain.com_succ, if_pos (by rw [HBO.out]; rfl)])
                  have hkst : k < st.length := by have h0 : st.length = ls.length := HLE.out; omega
                  have hkstz : (k : Int) < (st.length : Int) := by omega
                  have HMC := hid (Plain.mem_com (k := ls.length) hlt (show Plain.both (ls.getD k 0) xn yn = true by rw [HBO.out]; rfl))
                  obtain ⟨bb, ob, rfl, u, hu, el⟩ := (HSW.out W (Below.refl _ _)).at hkst
                  have hbb : bb < W.heap.size := World.block_lt_of_cell? (w := W) (h := hu)
                  have HU := hid (fun (X : World) (b : Below W.heap.size W X) => And.intro ((b.cell (p := ⟨bb, ob + k, none⟩) hbb).trans hu) (el.grow b))
                  have hml : Plain.mayL (st.getD k []) = true := by rw [List.getD_eq_getElem?_getD, List.getElem?_eq_getElem hkst]; exact List.all_eq_true.1 HA.out _ (List.getElem_mem hkst)
                  have HML := hid ((Plain.may_iff _).1 hml).2.1
                  have hle8 := ((Plain.may_iff _).1 hml).1
                  have HLB := hid (show (Plain.lbits st (Plain.comL ls xn yn k)).length ≤ 1088 by
                    rw [Plain.lbits_len HA.out (fun j hj => by have := Plain.com_lt hj; omega) AR.out, Plain.flatS_len]
                    have := Plain.com_len ls xn yn k
                    omega)
                  obtain ⟨pu, cu, rfl, hff⟩ := el.sg.form
                  clear hff
                  have HCN := hid (fun (X : World) (b : Below W.heap.size W X) (h : 0 < (st.getD k []).length) => segN_at (HU.out X b).2.sg h)
                  obtain ⟨l, hl⟩ : ∃ l, l = st.getD k [] := ⟨_, rfl⟩
                  rw [← hl] at HU HML hle8 HCN
                  have HL := hid hl
                  obtain ⟨L0, hL0⟩ : ∃ L0, L0 = Plain.lbits st (Plain.comL ls xn yn k) := ⟨_, rfl⟩
                  rw [← hL0] at A HLB
                  have HL0 := hid hL0
                  clear hml el hbb hu hl hL0
                  have cu0 := (HU.out wr A.out.be).1
                  go_wp2_with fail
                  refine (KX _).mono ?_
                  rintro e w2 ⟨rfl, hx⟩
                  have hy := hx.symm
                  clear hx KX
                  subst hy
                  go_wp2_with fail
                  refine (KY _).mono ?_
                  rintro e w2 ⟨rfl, hx⟩
                  have hy := hx.symm
                  clear hx KY
                  subst hy
                  go_wp2
                  clear cu0 c0
                  obtain ⟨v0, hv0⟩ : ∃ v0, v0 = u12 := ⟨_, rfl⟩
                  subst hv0
                  go_loopg [84] l.length (fun gg s84 wr => ∃ j : Nat, j ≤ l.length ∧ l.length - j ≤ gg ∧ s84 = .int .i64 j ∧ Aside (FrI W wr B v0 L0) ∧ Aside ((l.take j).all Plain.fitE = true))
                  case atStart => exact ⟨0, Nat.zero_le _, by omega, rfl, (show Aside _ from A.out), rfl⟩
                  case round =>
                    obtain ⟨j, hj, hgj, rfl, A3, AF⟩ := hrel
                    by_cases hltj : j < l.length
                    · have hltjz : (j : Int) < (l.length : Int) := by omega
                      obtain ⟨be, oe, rfl, hce⟩ := HCN.out wr A3.out.be (by omega)
                      obtain ⟨e0, e1, e2, e3, e4⟩ := hce j hltj
                      obtain ⟨z, hz⟩ : ∃ z, z = Plain.en l j := ⟨_, rfl⟩
                      rw [← hz] at e0 e1 e2 e3 e4
                      have HZ := hid hz
                      clear hz hce
                      have A4 := hid (A3.out.grow (show Below wr.heap.size wr (wr.alloc (boxE z)) from (Below.refl _ _).alloc (Nat.le_refl _) _))
                      cases hfz : Plain.fitE z with
                      | false =>
                        have HN := hid (H2.out HA.out (Plain.room_bad HMC.out (by rw [← HL.out]; exact Plain.all_no Plain.fitE l default j hltj (by rw [show l.getD j default = z from HZ.out.symm]; exact hfz))))
                        have hko : ¬ (z.key < 8 ∧ z.value ≤ 255) := fun h => by
                          have : Plain.fitE z = true := by unfold Plain.fitE; rw [decide_eq_true h.1, decide_eq_true h.2]; rfl
                          rw [hfz] at this; cases this
                        have BF := hid (BW0.out.trans (A4.out.be.mono BW0.out.size))
                        clear hfz
                        obtain ⟨zk, zv, zt, zo, zg⟩ := z
                        dsimp only at *
                        by_cases z1 : 7 < zk
                        · clear hko
                          go_wp2
                          go_ret2
                          exact rumP_no HN.out BF.out
                        · have z2 : 255 < zv := by omega
                          clear hko
                          go_wp2
                          go_ret2
                          exact rumP_no HN.out BF.out
                      | true =>
                        have HN := hid (Plain.all_take Plain.fitE l default j hltj AF.out (by rw [show l.getD j default = z from HZ.out.symm]; exact hfz))
                        have hko := Plain.fit_e hfz
                        clear hfz
                        obtain ⟨zk, zv, zt, zo, zg⟩ := z
                        dsimp only at *
                        have z1 : ¬ 7 < zk := by omega
                        have z2 : ¬ 255 < zv := by omega
                        clear hko
                        go_wp2
                        go_roundg (l.length - (j + 1))
                        case measure => omega
                        case rel => exact ⟨j + 1, by omega, by omega, by go_num, (show Aside _ from A4.out), (show Aside _ from HN.out)⟩
                    · have hltjz : ¬ (j : Int) < (l.length : Int) := by omega
                      have ej : j = l.length := by omega
                      subst ej
                      have hfl := AF.out
                      rw [List.take_length] at hfl
                      have HFL := hid (List.all_eq_true.1 hfl)
                      have HFB := hid hfl
                      clear hfl AF A
                      go_wp2
                      obtain ⟨KB, hKB⟩ : ∃ KB : Nat → List Nat, KB = Plain.kbits l := ⟨_, rfl⟩
                      have HKL := hid (fun j => show (KB j).length = 34 * j by rw [hKB]; exact Plain.kbits_len HML.out HFL.out j)
                      have HKS := hid (fun j => show KB (j + 1) = KB j ++ Plain.rbits ((Plain.sfL l (j : Nat)).map Plain.nat2) by rw [hKB]; exact Plain.kbits_succ l j)
                      have HK0 := hid (show L0 ++ KB 0 = L0 by rw [hKB]; exact List.append_nil _)
                      have HK8 := hid (show Plain.lbits st (Plain.comL ls xn yn (k + 1)) = L0 ++ KB 8 by rw [HQ.out, Plain.lbits_snoc, ← HL0.out, ← HL.out, hKB])
                      have HRO := hid (show Plain.roomB st (Plain.comL ls xn yn (k + 1)) = true by
                        rw [HQ.out]
                        unfold Plain.roomB
                        rw [List.all_append, Bool.and_eq_true]
                        refine ⟨AR.out, ?_⟩
                        simp only [List.all_cons, List.all_nil, Bool.and_true]
                        rw [← HL.out]
                        exact HFB.out)
                      clear hKB
                      go_loopg [12, 17] 8 (fun gg s12 s17 wr => ∃ j : Nat, j ≤ 8 ∧ 8 - j ≤ gg ∧ s17 = .int .i64 j ∧ Aside (FrI W wr B s12 (L0 ++ KB j)))
                      case atStart => exact ⟨0, Nat.zero_le _, by omega, rfl, (show Aside _ from by rw [HK0.out]; exact A3.out)⟩
                      case round =>
                        obtain ⟨j, hj, hgj, rfl, A4⟩ := hrel
                        by_cases hltj : j < 8
                        · have hltjz : (j : Int) < 8 := by omega
                          have cu0 := (HU.out wr A4.out.be).1
                          have KF := slotFields_c _ l (j : Int) wr (HU.out wr A4.out.be).2.sg (HU.out wr A4.out.be).2.li (HU.out wr A4.out.be).2.le
                          have HOK := hid (Plain.sf_ok HML.out HFL.out (j : Int))
                          have HSB := hid (Plain.sf_blen HML.out HFL.out j)
                          have HSS := hid (HKS.out j)
                          have hF5 := Plain.sf_len l (j : Int)
                          obtain ⟨F, hF⟩ : ∃ F, F = Plain.sfL l (j : Int) := ⟨_, rfl⟩
                          rw [← hF] at KF HOK HSB HSS hF5
                          clear hF
                          obtain ⟨P0, hP0⟩ : ∃ P0, P0 = L0 ++ KB j := ⟨_, rfl⟩
                          have HPL := hid (show P0.length ≤ 1400 by rw [hP0, List.length_append, HKL.out]; have := HLB.out; omega)
                          have HPN := hid (show L0 ++ KB (j + 1) = P0 ++ Plain.rbits (F.map Plain.nat2) by rw [HSS.out, hP0, List.append_assoc])
                          rw [← hP0] at A4
                          clear hP0
                          go_wp2_with fail
                          refine KF.mono ?_
                          rintro e w5 ⟨fb, rfl, hrow, b5⟩
                          have A5 := hid (A4.out.grow b5)
                          have R5 := hid hrow
                          clear KF hrow b5 A4 cu0
                          go_wp2
                          go_loopg [12, 108] F.length (fun gg s12 s108 wr => ∃ f : Nat, f ≤ F.length ∧ F.length - f ≤ gg ∧ s108 = .int .i64 f ∧ Aside (FrI W wr B s12 (P0 ++ Plain.rbits ((F.take f).map Plain.nat2))) ∧ Aside (wr.rowIs fb 56 (F.length * 2) (fldG F)))
                          case atStart => exact ⟨0, Nat.zero_le _, by omega, rfl, (show Aside _ from by rw [List.take_zero]; exact (show FrI W w5 B _ (P0 ++ []) from by rw [List.append_nil]; exact A5.out)), (show Aside _ from R5.out)⟩
                          case round =>
                            obtain ⟨f, hf, hgf, rfl, A6, R6⟩ := hrel
                            by_cases hltf : f < F.length
                            · have hltfz : (f : Int) < (F.length : Int) := by omega
                              obtain ⟨fx, fy, hfe, hx1, hx34, hfy⟩ := HOK.out (F.getD f (0, 0)) (by rw [List.getD_eq_getElem?_getD, List.getElem?_eq_getElem hltf]; exact List.getElem_mem hltf)
                              have g0 : wr.cell? ⟨fb, f * 2, none⟩ = some (.int .i64 (fx : Int)) := by
                                rw [R6.out.cell (i := f * 2) (by omega)]
                                unfold fldG
                                rw [if_pos (by omega), show f * 2 / 2 = f by omega, hfe]
                              have g1 : wr.cell? ⟨fb, f * 2 + 1, none⟩ = some (.int .i64 (fy : Int)) := by
                                rw [R6.out.cell (i := f * 2 + 1) (by omega)]
                                unfold fldG
                                rw [if_neg (by omega), show (f * 2 + 1) / 2 = f by omega, hfe]
                              obtain ⟨P1, hP1⟩ : ∃ P1, P1 = P0 ++ Plain.rbits ((F.take f).map Plain.nat2) := ⟨_, rfl⟩
                              have HP1 := hid (show P0 ++ Plain.rbits ((F.take (f + 1)).map Plain.nat2) = P1 ++ Plain.fbits fx fy by rw [Plain.sf_take F f hltf fx fy hfe, hP1, List.append_assoc])
                              have HP1L := hid (show P1.length ≤ 1500 by rw [hP1, List.length_append]; have h1 := HPL.out; have h2 := Plain.rb_take_le F f; have h3 := HSB.out; omega)
                              rw [← hP1] at A6
                              clear hP1 hfe
                              obtain ⟨W6, hW6⟩ : ∃ W6, W6 = wr.alloc (.cells #[.int .i64 (fx : Int), .int .i64 (fy : Int)] 56) := ⟨_, rfl⟩
                              have bA : Below wr.heap.size wr W6 := by rw [hW6]; exact (Below.refl _ _).alloc (Nat.le_refl _) _
                              obtain ⟨bf, hbf⟩ : ∃ bf, bf = wr.heap.size := ⟨_, rfl⟩
                              have A7 := hid (A6.out.grow bA)
                              have R7 := hid (show W6.rowIs bf 56 2 (fun i => if i = 0 then .int .i64 (fx : Int) else .int .i64 (fy : Int)) ∧ W6.rowIs fb 56 (F.length * 2) (fldG F) from
                                ⟨by
                                  rw [hW6, hbf]
                                  refine World.rowIs_alloc _ _ 56 _ fun i hi => ?_
                                  have : i = 0 ∨ i = 1 := by have : i < 2 := hi; omega
                                  rcases this with rfl | rfl <;> rfl, R6.out.of_block (bA.block _ R6.out.lt)⟩)
                              clear bA A6 R6
                              go_upto_region 30 with fail
                              rw [← hW6, ← hbf]
                              have g2 := R7.out.1.cell (i := 0) (by omega)
                              have g3 := R7.out.1.cell (i := 1) (by omega)
                              clear hW6 hbf g0 g1
                              go_wp2
                              clear g2 g3
                              go_loopg [12, 20] fx (fun gg s12 s20 wr => ∃ (i : Nat) (d : Int), i ≤ fx ∧ fx - i ≤ gg ∧ s20 = .int .i64 d ∧ Aside (d = (fx : Int) - 1 - (i : Int)) ∧ Aside (FrI W wr B s12 (P1 ++ (Plain.fbits fx fy).take i)) ∧ Aside (wr.rowIs bf 56 2 (fun i => if i = 0 then .int .i64 (fx : Int) else .int .i64 (fy : Int)) ∧ wr.rowIs fb 56 (F.length * 2) (fldG F)))
                              case atStart => exact ⟨0, (fx : Int) - 1, Nat.zero_le _, by omega, by first | rfl | go_num, (show Aside _ from (by show (fx : Int) - 1 = (fx : Int) - 1 - ((0 : Nat) : Int); omega)), (show Aside _ from by rw [List.take_zero]; exact (show FrI W W6 B _ (P1 ++ []) from by rw [List.append_nil]; exact A7.out)), (show Aside _ from R7.out)⟩
                              case round =>
                                obtain ⟨i, d, hi, hgi, rfl, AD, A8, R8⟩ := hrel
                                by_cases hlti : i < fx
                                · obtain ⟨dn, hdn⟩ : ∃ dn : Nat, d = (dn : Int) := ⟨fx - 1 - i, by have := AD.out; omega⟩
                                  subst hdn
                                  have HDN := hid (show fx - 1 - i = dn by have := AD.out; omega)
                                  have hd33 : dn ≤ 33 := by have := HDN.out; omega
                                  have hd0 : (0 : Int) ≤ (dn : Int) := by omega
                                  have g2 := R8.out.1.cell (i := 0) (by omega)
                                  have g3 := R8.out.1.cell (i := 1) (by omega)
                                  rw [if_pos rfl] at g2
                                  rw [if_neg (by decide)] at g3
                                  obtain ⟨P2, hP2⟩ : ∃ P2, P2 = P1 ++ (Plain.fbits fx fy).take i := ⟨_, rfl⟩
                                  have HP2L : P2.length ≤ 9000 := by rw [hP2, List.length_append, List.length_take]; have := HP1L.out; omega
                                  rw [← hP2] at A8
                                  obtain ⟨q, dd, U, r1, r2, r3⟩ := A8.out.push HB.out HP2L (bits .and .i64 ((fy : Int) / 2 ^ dn) 1) (fy / 2 ^ dn % 2) (Plain.bit_at fy dn (by omega))
                                  have R1 := hid r1
                                  have R2 := hid (show FrI W U B _ (P1 ++ (Plain.fbits fx fy).take (i + 1)) by rw [Plain.fbits_succ fx fy i hlti, HDN.out, ← List.append_assoc, ← hP2]; exact r2)
                                  have R3 := hid (And.intro (r3 _ _ _ R8.out.1) (r3 _ _ _ R8.out.2))
                                  have HAD := hid AD.out
                                  clear r1 r2 r3 A8 R8 AD hP2 HP2L
                                  go_wp2_with (first | (at_builtin; refine wpList_app _ _ 22 R1.out (by rfl) (by rfl) (by rfl) (by rfl) (by rfl) ?_) | fail)
                                  go_roundg (fx - (i + 1))
                                  case measure => omega
                                  case rel => exact ⟨i + 1, (dn : Int) - 1, by omega, by omega, by first | rfl | go_num, (show Aside _ from (by have := HAD.out; show (dn : Int) - 1 = (fx : Int) - 1 - ((i + 1 : Nat) : Int); omega)), (show Aside _ from R2.out), (show Aside _ from R3.out)⟩
                                · have ei : i = fx := by omega
                                  have hneg : ¬ (0 : Int) ≤ d := by have := AD.out; omega
                                  have a8 := A8.out
                                  rw [ei, List.take_of_length_le (by rw [Plain.fbits_len]; exact Nat.le_refl _), ← HP1.out] at a8
                                  have A9 := hid a8
                                  have R9 := hid R8.out.2
                                  clear a8 A8 R8 AD ei
                                  go_wp2
                                  go_roundg (F.length - (f + 1))
                                  case measure => omega
                                  case rel => first | exact ⟨f + 1, by omega, by omega, by go_num, (show Aside _ from A9.out), (show Aside _ from R9.out)⟩ | ((repeat apply Exists.intro); refine ⟨⟨f + 1, by omega, by omega, ?_, (show Aside _ from A9.out), (show Aside _ from R9.out)⟩, rfl⟩; go_num)
                            · have hltfz : ¬ (f : Int) < (F.length : Int) := by omega
                              have ef : f = F.length := by omega
                              subst ef
                              have a6 := A6.out
                              rw [List.take_length, ← HPN.out] at a6
                              have A7 := hid a6
                              clear a6 A6
                              go_wp2
                              go_roundg (8 - (j + 1))
                              case measure => omega
                              case rel => first | exact ⟨j + 1, by omega, by omega, by go_num, (show Aside _ from A7.out)⟩ | ((repeat apply Exists.intro); refine ⟨⟨j + 1, by omega, by omega, ?_, (show Aside _ from A7.out)⟩, rfl⟩; go_num)
                        · have hltjz : ¬ (j : Int) < 8 := by omega
                          have ej : j = 8 := by omega
                          subst ej
                          have a4 := A4.out
                          rw [← HK8.out] at a4
                          have A7 := hid a4
                          clear a4 A4
                          go_wp2
                          go_roundg (ls.length - (k + 1))
                          case measure => omega
                          case rel => first | exact ⟨k + 1, by omega, by omega, by go_num, (show Aside _ from A7.out), (show Aside _ from HRO.out)⟩ | ((repeat apply Exists.intro); refine ⟨⟨k + 1, by omega, by omega, ?_, (show Aside _ from A7.out), (show Aside _ from HRO.out)⟩, rfl⟩; go_num)
            · have hltz : ¬ (k : Int) < (ls.length : Int) := by omega
              have ek : k = ls.length := by omega
              subst ek
              have HE := hid (H3.out HA.out AR.out)
              have HBL := hid (show (Plain.lbits st (Plain.comL ls xn yn ls.length)).length ≤ 1088 by
                rw [Plain.lbits_len HA.out (fun j hj => by have h0 : st.length = ls.length := HLE.out; have := Plain.com_lt hj; omega) AR.out, Plain.flatS_len]
                have := Plain.com_len ls xn yn ls.length
                omega)
              have HB2 := hid (Plain.lbits_lt st (Plain.comL ls xn yn ls.length))
              obtain ⟨bits, hbits⟩ : ∃ bits, bits = Plain.lbits st (Plain.comL ls xn yn ls.length) := ⟨_, rfl⟩
              rw [← hbits] at A HE HBL HB2
              have hb9 : bits.length ≤ 9000 := by have := HBL.out; omega
              obtain ⟨pb, cb, hu12, hpb⟩ := A.out.open
              subst hu12
              have BWR := hid A.out.be
              obtain ⟨W7, hW7⟩ : ∃ W7, W7 = wr := ⟨_, rfl⟩
              subst hW7
              have HPB := hid hpb
              clear hbits A AR hpb HBL
              go_wp2
              go_loopg [21, 131] bits.length (fun gg s21 s131 wr => ∃ i : Nat, i ≤ bits.length ∧ bits.length - i ≤ gg ∧ s131 = .int .i64 i ∧ Aside (ByI W7 wr s21 (bits.take i) ((i + 7) / 8)))
              case atStart => exact ⟨0, Nat.zero_le _, by omega, rfl, (show Aside _ from ⟨World.ownsRow_nil _ _ _ _, Below.refl _ _⟩)⟩
              case round =>
                obtain ⟨i, hi, hgi, rfl, A⟩ := hrel
                by_cases hlti : i < bits.length
                · have hltiz : (i : Int) < (bits.length : Int) := by omega
                  obtain ⟨gb, rfl, hgb, hcb⟩ := HPB.out (by omega)
                  have c0 : wr.cell? ⟨gb, i, none⟩ = some (.int .i64 ((bits.getD i 0 : Nat) : Int)) := (A.out.be.cell (p := ⟨gb, i, none⟩) hgb).trans (hcb i hlti)
                  have hb2 : bits.getD i 0 < 2 := by rw [List.getD_eq_getElem?_getD, List.getElem?_eq_getElem hlti]; exact HB2.out _ (List.getElem_mem hlti)
                  have HTK := hid (show bits.take (i + 1) = bits.take i ++ [bits.getD i 0] by rw [List.take_succ_eq_append_getElem hlti, List.getD_eq_getElem?_getD, List.getElem?_eq_getElem hlti]; rfl)
                  have HTL := hid (show (bits.take i).length = i by rw [List.length_take]; omega)
                  generalize bits.getD i 0 = b at c0 hb2 HTK
                  clear hcb
                  by_cases h8 : i % 8 = 0
                  · have hq8 : ((i : Int) % 8 == 0) = true := by rw [beq_iff_eq]; omega
                    obtain ⟨g, d, V, r1, r2⟩ := A.out.push (i := i) (by omega) HTL.out h8 (by omega)
                    have R1 := hid r1
                    have A2 := hid r2
                    have c1 : V.cell? ⟨gb, i, none⟩ = some (.int .i64 (b : Int)) := by
                      have h1 : W7.cell? ⟨gb, i, none⟩ = some (.int .i64 (b : Int)) := (A.out.be.cell (p := ⟨gb, i, none⟩) hgb).symm.trans c0
                      exact (A2.out.be.cell (p := ⟨gb, i, none⟩) hgb).trans h1
                    clear r1 r2 A h8
                    go_wp2_with (first | (at_builtin; refine wpList_app _ _ 26 R1.out (by rfl) (by rfl) (by rfl) (by rfl) (by rfl) ?_) | fail)
                    clear c0 R1 hq8 hltiz
                    have hm1 : i / 8 < i / 8 + 1 := Nat.lt_succ_self _
                    have k0 := A2.out.cell hm1
                    have k1 := A2.out.ow.frozenAt (i / 8)
                    have hgV : g < V.heap.size := (A2.out.ow.lt g rfl).2
                    have HOR := hid (Plain.byte_or (bits.take i) (fun x hx => HB2.out x (List.mem_of_mem_take hx)) b hb2)
                    rw [HTL.out] at HOR
                    have A3 := hid (fun z hz => (A2.out.put b hb2 z hz).drew 1)
                    rw [HTL.out] at A3
                    generalize Plain.byteOf (Plain.at0 (bits.take i)) (i / 8) = X at k0 HOR
                    obtain ⟨m, hmm⟩ : ∃ m, m = i / 8 := ⟨_, rfl⟩
                    obtain ⟨r, hrr⟩ : ∃ r, r = i % 8 := ⟨_, rfl⟩
                    obtain ⟨t7, ht7⟩ : ∃ t7, t7 = 7 - i % 8 := ⟨_, rfl⟩
                    obtain ⟨bt, hbt⟩ : ∃ bt, bt = b * 2 ^ (7 - i % 8) := ⟨_, rfl⟩
                    have hbt1 : bt ≤ 128 := by
                      rw [hbt]
                      have h1 : 2 ^ (7 - i % 8) ≤ 2 ^ 7 := Nat.pow_le_pow_right (by decide) (by omega)
                      have : b = 0 ∨ b = 1 := by omega
                      rcases this with rfl | rfl <;> omega
                    have htd : ((i : Int)).tdiv 8 = (m : Int) := by rw [Int.tdiv_eq_ediv_of_nonneg (by omega)]; omega
                    have hwm : IntKind.i64.wrap (m : Int) = (m : Int) := Plain.wrap_nat m (by omega)
                    have htm : ((i : Int)).tmod 8 = (r : Int) := by rw [Int.tmod_eq_emod_of_nonneg (by omega)]; omega
                    have hwr : IntKind.i64.wrap (r : Int) = (r : Int) := Plain.wrap_nat r (by omega)
                    have hsb : IntKind.i64.wrap (7 - (r : Int)) = (t7 : Int) := by rw [show (7 - (r : Int)) = (t7 : Int) by omega]; exact Plain.wrap_nat t7 (by omega)
                    have hsh : IntKind.i64.wrap ((b : Int) * 2 ^ t7) = (bt : Int) := by
                      have e : ((b : Int) * 2 ^ t7) = (bt : Int) := by rw [hbt, ht7]; simp
                      rw [e]; exact Plain.wrap_nat bt (by omega)
                    have hcv : IntKind.u8.wrap (bt : Int) = (bt : Int) := by simp only [IntKind.wrap, IntKind.bits, IntKind.signed]; simp; omega
                    have HEQ := hid (And.intro hmm hbt)
                    rw [← hbt] at HOR
                    rw [← hmm] at k0 k1 A3 HOR hm1 ⊢
                    have hi1 : (m : Int) < (m : Int) + 1 := by omega
                    have HBT := hid (show bt = b * 2 ^ t7 ∧ bt ≤ 128 ∧ t7 ≤ 7 from ⟨by rw [hbt, ht7], hbt1, by omega⟩)
                    have A4 := hid (fun (z : Int) (hz : z = Go.bits .or .u8 (X : Int) (bt : Int)) => show ByI W7 ((V.setCell ⟨g, m, none⟩ (.int .u8 z)).drew) (.slice (some ⟨g, 0, none⟩) (m + 1) d) (bits.take (i + 1)) ((i + 1 + 7) / 8) by
                      rw [HTK.out, show (i + 1 + 7) / 8 = m + 1 by omega]
                      exact A3.out z (hz.trans HOR.out))
                    clear hmm hrr ht7 hbt hbt1
                    go_region_with (fail)
                    clear k0 k1 hgV htd hwm htm hwr hsb hsh hcv hi1 hm1
                    go_wp2
                    go_roundg (bits.length - (i + 1))
                    case measure => omega
                    case rel => exact ⟨i + 1, by omega, by omega, by go_num, (show Aside _ from A4.out _ (by rw [Plain.w64 HBT.out.1 HBT.out.2.1 HBT.out.2.2]))⟩
                  · have hq8 : ((i : Int) % 8 == 0) = false := by rw [beq_eq_false_iff_ne]; omega
                    obtain ⟨g, d, rfl⟩ : ∃ g d, u21 = .slice (some ⟨g, 0, none⟩) ((i + 7) / 8) d := by
                      obtain ⟨g, d, e, _⟩ := A.out.ow.form (by omega)
                      exact ⟨g, d, e⟩
                    have hi8 : (i + 7) / 8 = i / 8 + 1 := by omega
                    rw [hi8] at A ⊢
                    have A2 := hid A.out
                    obtain ⟨V, hV⟩ : ∃ V, V = wr := ⟨_, rfl⟩
                    subst hV
                    clear A h8 hi8
                    go_upto_region 42 with fail
                    clear c0 hq8 hltiz
                    have hm1 : i / 8 < i / 8 + 1 := Nat.lt_succ_self _
                    have k0 := A2.out.cell hm1
                    have k1 := A2.out.ow.frozenAt (i / 8)
                    have hgV : g < V.heap.size := (A2.out.ow.lt g rfl).2
                    have HOR := hid (Plain.byte_or (bits.take i) (fun x hx => HB2.out x (List.mem_of_mem_take hx)) b hb2)
                    rw [HTL.out] at HOR
                    have A3 := hid (fun z hz => (A2.out.put b hb2 z hz).drew 1)
                    rw [HTL.out] at A3
                    generalize Plain.byteOf (Plain.at0 (bits.take i)) (i / 8) = X at k0 HOR
                    obtain ⟨m, hmm⟩ : ∃ m, m = i / 8 := ⟨_, rfl⟩
                    obtain ⟨r, hrr⟩ : ∃ r, r = i % 8 := ⟨_, rfl⟩
                    obtain ⟨t7, ht7⟩ : ∃ t7, t7 = 7 - i % 8 := ⟨_, rfl⟩
                    obtain ⟨bt, hbt⟩ : ∃ bt, bt = b * 2 ^ (7 - i % 8) := ⟨_, rfl⟩
                    have hbt1 : bt ≤ 128 := by
                      rw [hbt]
                      have h1 : 2 ^ (7 - i % 8) ≤ 2 ^ 7 := Nat.pow_le_pow_right (by decide) (by omega)
                      have : b = 0 ∨ b = 1 := by omega
                      rcases this with rfl | rfl <;> omega
                    have htd : ((i : Int)).tdiv 8 = (m : Int) := by rw [Int.tdiv_eq_ediv_of_nonneg (by omega)]; omega
                    have hwm : IntKind.i64.wrap (m : Int) = (m : Int) := Plain.wrap_nat m (by omega)
                    have htm : ((i : Int)).tmod 8 = (r : Int) := by rw [Int.tmod_eq_emod_of_nonneg (by omega)]; omega
                    have hwr : IntKind.i64.wrap (r : Int) = (r : Int) := Plain.wrap_nat r (by omega)
                    have hsb : IntKind.i64.wrap (7 - (r : Int)) = (t7 : Int) := by rw [show (7 - (r : Int)) = (t7 : Int) by omega]; exact Plain.wrap_nat t7 (by omega)
                    have hsh : IntKind.i64.wrap ((b : Int) * 2 ^ t7) = (bt : Int) := by
                      have e : ((b : Int) * 2 ^ t7) = (bt : Int) := by rw [hbt, ht7]; simp
                      rw [e]; exact Plain.wrap_nat bt (by omega)
                    have hcv : IntKind.u8.wrap (bt : Int) = (bt : Int) := by simp only [IntKind.wrap, IntKind.bits, IntKind.signed]; simp; omega
                    have HEQ := hid (And.intro hmm hbt)
                    rw [← hbt] at HOR
                    rw [← hmm] at k0 k1 A3 HOR hm1 ⊢
                    have hi1 : (m : Int) < (m : Int) + 1 := by omega
                    have HBT := hid (show bt = b * 2 ^ t7 ∧ bt ≤ 128 ∧ t7 ≤ 7 from ⟨by rw [hbt, ht7], hbt1, by omega⟩)
                    have A4 := hid (fun (z : Int) (hz : z = Go.bits .or .u8 (X : Int) (bt : Int)) => show ByI W7 ((V.setCell ⟨g, m, none⟩ (.int .u8 z)).drew) (.slice (some ⟨g, 0, none⟩) (m + 1) d) (bits.take (i + 1)) ((i + 1 + 7) / 8) by
                      rw [HTK.out, show (i + 1 + 7) / 8 = m + 1 by omega]
                      exact A3.out z (hz.trans HOR.out))
                    clear hmm hrr ht7 hbt hbt1
                    go_region_with (fail)
                    clear k0 k1 hgV htd hwm htm hwr hsb hsh hcv hi1 hm1
                    go_wp2
                    go_roundg (bits.length - (i + 1))
                    case measure => omega
                    case rel => exact ⟨i + 1, by omega, by omega, by go_num, (show Aside _ from A4.out _ (by rw [Plain.w64 HBT.out.1 HBT.out.2.1 HBT.out.2.2]))⟩
                · have hltiz : ¬ (i : Int) < (bits.length : Int) := by omega
                  have ei : i = bits.length := by omega
                  subst ei
                  have a := A.out
                  rw [List.take_length] at a
                  have R := hid (show RumP ⟨n, ls, t, ms, cap⟩ xn yn st w (.returned (.tuple #[u21, .int .i64 ((0 : Nat) : Int)])) wr from
                    ⟨_, by rw [HE.out.1], by rw [HE.out.2]; exact segB_of_owns a.ow, lies_owns a.ow, (BW0.out.trans (BWR.out.mono BW0.out.size)).trans (a.be.mono (BW0.out.trans (BWR.out.mono BW0.out.size)).size)⟩)
                  clear a A
                  go_wp2
                  go_ret2
                  exact R.out
    · have hne : ((st.length : Int) != (c.ls.length : Int)) = true := by rw [bne_iff_ne]; omega
      have HN := hid (Plain.rum_size (st := st) hE hlen)
      clear hE
      obtain ⟨n, ls, t, ms, cap⟩ := c
      dsimp only at *
      go_enter Try.func18, Try.ntmps18
      go_wp2_with fail
      refine KM.mono ?_
      rintro e w1 ⟨rfl, b1⟩
      have B1 := hid (B0.out.grow b1)
      obtain ⟨c0, c1, c2, c3, c4⟩ := B1.out.cc
      clear B0 KM b1
      go_wp2
      go_ret2
      exact rumP_no HN.out B1.out.be
end Go.Proofs.Ytkmnofmhjoehial

/- BookApart: what one branch is given hangs on what it wants alone, but for the reports: whatever calls, whichever branch, and whatever else it wants, as long as the reports are the same the others are given the same. No condition. -/
import Derived.Test.YtiolkeghgodggajRows
import Derived.WalkKit
import Derived.ProofKit
import Derived.OpenShut
import Derived.WalkSmall
import Derived.ShutString
import Derived.ChangeOld
import Derived.Below
import Derived.Test.YtiolkeghgodggajV5
namespace Go.Proofs.Ytiolkeghgodggaj
namespace bookApart
open Go.ChangeShapes Go.WideShapes Go.ChangeAt Go.RowKit Bo
set_option linter.unusedVariables false

theorem own : ownKnob Try.prog.godebug = none := by kernel_rfl
theorem laidOut : laidOutB Try.prog = true := by kernel_rfl

theorem ints_seg {H : Type} {enc : TypeId × Value → H} {W : World} {d : DataW H} {p : List MemPlace} {a : Option Addr} {len cap : Nat} (h : DataW.Trod enc Try.prog W 0 (fun _ => true) true 29 (.slice a len cap) d p) :
    ∃ l : List Int, l.length = len ∧ len ≤ cap ∧ cap ≤ 9223372036854775807 ∧ (∀ n ∈ l, (Lit.int .i64 n).wf = true) ∧ Lies W.heap.size (.slice a len cap) ∧ Seg W (.slice a len cap) l := by
  obtain ⟨fuel, hf⟩ := h
  rcases open_ints Try.underlying29 Try.underlying3 (by kernel_rfl) hf with ⟨hcs, _⟩ | ⟨x, l, c, zs, hcs, _, hl, hm, hz, _, hcell, hwz⟩
  · simp [Value.cells] at hcs
    obtain ⟨rfl, rfl, rfl⟩ := hcs
    exact row_seg (zs := []) (.inl ⟨rfl, rfl, rfl, rfl⟩)
  · simp [Value.cells] at hcs
    obtain ⟨rfl, rfl, rfl⟩ := hcs
    exact row_seg (.inr ⟨_, rfl, hl, hm, by simpa using hz, hcell, hwz⟩)

set_option maxHeartbeats 4000000 in
set_option maxRecDepth 100000 in
theorem walk (w : World) (a0 : Int) (w0 : -9223372036854775808 ≤ a0 ∧ a0 ≤ 9223372036854775807) (a1 : Int) (w1 : -9223372036854775808 ≤ a1 ∧ a1 ≤ 9223372036854775807) (v2 : Value) (l2 : List Plain.Ca) (s2 : SegC w v2 l2) (r2 : ∀ j, j < l2.length → InC (l2.getD j default)) (a3 : Int) (w3 : -9223372036854775808 ≤ a3 ∧ a3 ≤ 9223372036854775807) (v4 : Value) (l4 : List Int) (hm4 : l4.length ≤ 9223372036854775807) (hr4 : ∀ n ∈ l4, (Lit.int .i64 n).wf = true) (s4 : Seg w v4 l4) (y4 : Lies w.heap.size v4) :
    Calls Try.prog 6 #[.int .i64 a0, .int .i64 a1, v2, .int .i64 a3, v4] w fun e w' => e = .returned (.bool true) ∧ Below w.heap.size w w' := by
  have hq0 : 0 ≤ a0 % 30 ∧ a0 % 30 < 30 := by omega
  have hq1 : 0 ≤ a1 % 4 ∧ a1 % 4 < 4 := by omega
  have hq3 : 0 ≤ a3 % 3 ∧ a3 % 3 < 3 := by omega
  have K0 := fun W => picked_any a0 30 w0.1 w0.2 (by omega) (by omega) W
  have K1 := fun W => picked_any a1 4 w1.1 w1.2 (by omega) (by omega) W
  have K3 := fun W => picked_any a3 3 w3.1 w3.2 (by omega) (by omega) W
  obtain ⟨hm2, p2, cap2, rfl, hp2⟩ := s2
  have KC := calls_c p2 l2.length cap2 l2 hm2 w rfl hp2 r2
  clear hp2 r2
  obtain ⟨p4, c4, rfl, hw4⟩ := seg_wants s4 y4
  have HO := hid hw4
  have HR4 := hid hr4
  clear hw4 s4 y4 hr4
  have HMAY := hid (Plain.callsF_may l2)
  have hcl := Plain.callsF_len l2
  generalize Plain.callsF l2 = cs at *
  generalize a0 % 30 = top at *
  generalize a1 % 4 = tq at *
  obtain ⟨ww, hww⟩ : ∃ ww : Nat, a3 % 3 = (ww : Int) := ⟨(a3 % 3).toNat, by omega⟩
  rw [hww] at K3 hq3
  obtain ⟨tk, htk⟩ : ∃ tk : Nat, (tk : Int) = 1 + tq := ⟨(1 + tq).toNat, by omega⟩
  have hs1 : IntKind.i64.wrap (1 + tq) = (tk : Int) := by rw [IntKind.wrap_i64]; omega
  have HT := hid (show 1 ≤ tk ∧ tk ≤ 8 by omega)
  clear htk hww
  generalize hno : l4.length = no at *
  have HNO := hid hno
  clear hno
  go_enter Try.func6, Try.ntmps6
  go_wp2_with fail
  refine (K0 _).mono ?_
  rintro e wx ⟨rfl, hx⟩
  have hy := hx.symm
  clear hx K0
  subst hy
  go_wp2_with fail
  refine (K1 _).mono ?_
  rintro e wx ⟨rfl, hx⟩
  have hy := hx.symm
  clear hx K1
  subst hy
  go_wp2_with fail
  refine (K3 _).mono ?_
  rintro e wx ⟨rfl, hx⟩
  have hy := hx.symm
  clear hx K3
  subst hy
  go_wp2_with fail
  refine KC.mono ?_
  rintro e W1 ⟨q1, c1, rfl, hC1⟩
  obtain ⟨pq, cq, eq1, hnl1, hhd1⟩ := hC1.form
  injection eq1 with eq1a _ eq1b
  subst eq1a eq1b
  have HC1 := hid hhd1
  have HN1 := hid hnl1
  have B1 := hid hC1.be
  clear hC1 hhd1 hnl1 KC hs1 hq1
  generalize hncs : cs.length = n at *
  have HNC := hid hncs
  clear hncs
  go_wp2
  go_loopg [15, 16, 17] n (fun gg s15 s16 _ wx => ∃ (k : Nat) (q : Option Addr) (c : Nat), k ≤ n ∧ n - k ≤ gg ∧ s16 = .int .i64 k ∧ s15 = .slice q k c ∧ Aside (CI W1 wx (.slice q k c) (Plain.apL (ww : Int) l4 cs k)))
  case atStart => exact ⟨0, none, 0, Nat.zero_le _, by omega, rfl, rfl, (show Aside _ from CI.nil W1)⟩
  case round =>
    obtain ⟨k, q, c, hkk, hg, rfl, rfl, AA⟩ := hrel
    by_cases hlt : k < n
    · have hltz : (k : Int) < (n : Int) := by omega
      have hkl : k < cs.length := by rw [HNC.out]; exact hlt
      have HI := hid AA.out
      clear AA
      obtain ⟨b, off, rfl, hb, hc⟩ := holdsC (HC1.out.grow HI.out.be) (by omega)
      obtain ⟨c0, c1', c2⟩ := hc k hkl
      have ST := hid (Plain.apL_succ (ww : Int) l4 cs k)
      clear hc
      generalize cs.getD k default = x at c0 c1' c2 ST
      obtain ⟨xk, xw, xc⟩ := x
      dsimp only at c0 c1' c2
      have FIN := hid (fun y (hy : y = Plain.apC (ww : Int) l4 k ⟨xk, xw, xc⟩) => by
        have h1 := HI.out.grow ((Below.refl wr.heap.size wr).alloc (Nat.le_refl _) (boxC y))
        have h2 := h1.snoc (by rw [Plain.apL_len]; omega) y
        rw [hy, ← ST.out, Plain.apL_len] at h2
        rw [← hy] at h2
        exact h2)
      by_cases hx : xk = 2 ∧ xw = (ww : Int) ∧ k < no
      · obtain ⟨rfl, rfl, hko⟩ := hx
        have hkoz : (k : Int) < (no : Int) := by omega
        obtain ⟨ob, oo, rfl, hob, hoc⟩ := (HO.out.grow (show Below w.heap.size w wr from B1.out.trans (HI.out.be.mono B1.out.size))) (by rw [HNO.out]; omega)
        have co := hoc k (by rw [HNO.out]; exact hko)
        clear hoc
        have hrk := bounds_i64 (HR4.out _ (Plain.mem_getD (show k < l4.length by rw [HNO.out]; exact hko)))
        have ey : (⟨2, (ww : Int), l4.getD k 0 % 60⟩ : Plain.Ca) = Plain.apC (ww : Int) l4 k ⟨2, (ww : Int), xc⟩ := by
          unfold Plain.apC
          rw [if_pos ⟨rfl, rfl, by rw [HNO.out]; exact hko⟩]
        obtain ⟨pn, cn, U, hrun, hU⟩ := FIN.out _ ey
        have KP := fun W => picked_any (l4.getD k 0) 60 hrk.1 hrk.2 (by omega) (by omega) W
        have RUN := hid (show (Builtin.append_ #[39, 39] 39 #[.slice q k c, .slice (some ⟨wr.heap.size + 1, 0, none⟩) 1 1]).run Try.prog ((wr.alloc (.cells #[.int .i64 2, .int .i64 (ww : Int), .int .i64 (l4.getD k 0 % 60)] 52)).alloc (.cells #[.int .i64 2, .int .i64 (ww : Int), .int .i64 (l4.getD k 0 % 60)] 52)) = .ok (.slice pn (k + 1) cn) U by
          have e : (wr.alloc (boxC ⟨2, (ww : Int), l4.getD k 0 % 60⟩)).heap.size = wr.heap.size + 1 := by simp
          rw [← e]; exact hrun)
        have HU := hid hU
        have co2 : ∀ o : Obj, (wr.alloc o).cell? ⟨ob, oo + k, none⟩ = some (.int .i64 (l4.getD k 0)) := fun o => by rw [World.cell?_alloc_lt _ _ _ hob]; exact co
        clear hrun hU FIN ey HI ST hrk
        generalize l4.getD k 0 % 60 = vn at *
        generalize l4.getD k 0 = vo at *
        have g2 : ((ww : Int) == (ww : Int)) = true := by simp
        go_wp2_with fail
        refine (KP _).mono ?_
        rintro e wx ⟨rfl, hx⟩
        have hy := hx.symm
        clear hx KP co co2
        subst hy
        go_wp2_with (first | (at_builtin; refine wpList_app _ _ 39 RUN.out (by rfl) (by rfl) (by rfl) (by rfl) (by rfl) ?_) | fail)
        go_wp2
        go_roundg (n - (k + 1))
        case measure => omega
        case rel => exact ⟨k + 1, pn, cn, by omega, by omega, by go_num, rfl, (show Aside _ from HU.out)⟩
      · have ey : (⟨xk, xw, xc⟩ : Plain.Ca) = Plain.apC (ww : Int) l4 k ⟨xk, xw, xc⟩ := by
          unfold Plain.apC
          rw [if_neg (by rw [HNO.out]; exact hx)]
        obtain ⟨pn, cn, U, hrun, hU⟩ := FIN.out _ ey
        have RUN := hid (show (Builtin.append_ #[39, 39] 39 #[.slice q k c, .slice (some ⟨wr.heap.size + 1, 0, none⟩) 1 1]).run Try.prog ((wr.alloc (.cells #[.int .i64 xk, .int .i64 xw, .int .i64 xc] 52)).alloc (.cells #[.int .i64 xk, .int .i64 xw, .int .i64 xc] 52)) = .ok (.slice pn (k + 1) cn) U by
          have e : (wr.alloc (boxC ⟨xk, xw, xc⟩)).heap.size = wr.heap.size + 1 := by simp
          rw [← e]; exact hrun)
        have HU := hid hU
        clear hrun hU FIN ey HI ST
        by_cases hk2 : xk = 2
        · by_cases hkw : xw = (ww : Int)
          · have hko : ¬ k < no := fun y => hx ⟨hk2, hkw, y⟩
            have hkoz : ¬ (k : Int) < (no : Int) := by omega
            subst hk2 hkw
            have g2 : ((ww : Int) == (ww : Int)) = true := by simp
            clear hx
            go_wp2_with (first | (at_builtin; refine wpList_app _ _ 39 RUN.out (by rfl) (by rfl) (by rfl) (by rfl) (by rfl) ?_) | fail)
            go_wp2
            go_roundg (n - (k + 1))
            case measure => omega
            case rel => exact ⟨k + 1, pn, cn, by omega, by omega, by go_num, rfl, (show Aside _ from HU.out)⟩
          · have g2 : (xw == (ww : Int)) = false := by simpa using hkw
            subst hk2
            clear hx hkw
            go_wp2_with (first | (at_builtin; refine wpList_app _ _ 39 RUN.out (by rfl) (by rfl) (by rfl) (by rfl) (by rfl) ?_) | fail)
            go_wp2
            go_roundg (n - (k + 1))
            case measure => omega
            case rel => exact ⟨k + 1, pn, cn, by omega, by omega, by go_num, rfl, (show Aside _ from HU.out)⟩
        · have g1 : (xk == 2) = false := by simpa using hk2
          clear hx hk2
          go_wp2_with (first | (at_builtin; refine wpList_app _ _ 39 RUN.out (by rfl) (by rfl) (by rfl) (by rfl) (by rfl) ?_) | fail)
          go_wp2
          go_roundg (n - (k + 1))
          case measure => omega
          case rel => exact ⟨k + 1, pn, cn, by omega, by omega, by go_num, rfl, (show Aside _ from HU.out)⟩
    · have hltz : ¬ (k : Int) < (n : Int) := by omega
      have ek : n = k := by omega
      subst ek
      obtain ⟨pf, cf, ef, hnl, hhd⟩ := AA.out.form
      rw [Plain.apL_len] at ef
      injection ef with ef1 _ ef2
      subst ef1 ef2
      have KB1 := booked_c q1 n c1 cs top tk (by omega) HT.out (by omega) wr HNC.out (HC1.out.grow AA.out.be) HN1.out
      have HHD := hid hhd
      have HNL := hid hnl
      have BW := hid (B1.out.trans (AA.out.be.mono B1.out.size))
      have HC0 := hid (HC1.out.grow AA.out.be)
      clear AA hhd hnl
      go_wp2_with fail
      refine KB1.mono ?_
      rintro e W2 ⟨qa, ca, Da, rfl, hDa, hAa, hba⟩
      have KB2 := booked_c q n c (Plain.apL (ww : Int) l4 cs n) top tk (by omega) HT.out (by omega) W2 (Plain.apL_len _ _ _ _) (HHD.out.grow hba) HNL.out
      have HDa := hid hDa
      have HAa := hid hAa
      have BW2 := hid (BW.out.trans (hba.mono BW.out.size))
      have HC2 := hid (HC0.out.grow hba)
      clear hDa hAa hba KB1 HHD HNL BW HC0
      go_wp2_with fail
      refine KB2.mono ?_
      rintro e W4 ⟨qb, cb, Db, rfl, hDb, hAb, hbb⟩
      have HDb := hid hDb
      have HAb := hid hAb
      have HAa4 := hid (HAa.out.grow hbb)
      have HC4 := hid (HC2.out.grow hbb)
      have BW4 := hid (BW2.out.trans (hbb.mono BW2.out.size))
      have HLa := hid (show Da.length = n by
        have := congrArg List.length HDa.out
        rw [List.length_map, Plain.bookF_len, HNC.out] at this
        exact this)
      have HLb := hid (show Db.length = n by
        have := congrArg List.length HDb.out
        rw [List.length_map, Plain.bookF_len, Plain.apL_len] at this
        exact this)
      clear hDb hAb hbb KB2 HAa BW2 HC2
      go_wp2
      go_loopg [22, 23] n (fun gg s22 _ wx => ∃ k : Nat, k ≤ n ∧ n - k ≤ gg ∧ s22 = .int .i64 k ∧ Aside (∃ q, wx = W4.drewN q) ∧ Aside (∀ i, i < k → (Da.getD i default).d.report = (Db.getD i default).d.report))
      case atStart => exact ⟨0, Nat.zero_le _, by omega, rfl, (show Aside _ from ⟨0, rfl⟩), (show Aside _ from fun i hi => by omega)⟩
      case round =>
        obtain ⟨k, hkk, hg, rfl, I, IR⟩ := hrel
        by_cases hlt : k < n
        · have hltz : (k : Int) < (n : Int) := by omega
          have hka : k < Da.length := by rw [HLa.out]; exact hlt
          have hkb : k < Db.length := by rw [HLb.out]; exact hlt
          have hkc : k < cs.length := by rw [HNC.out]; exact hlt
          obtain ⟨b1, o1, rfl, _, g1⟩ := holdsU HAa4.out.hd (by omega)
          obtain ⟨b2, o2, rfl, _, g2⟩ := holdsU HAb.out.hd (by omega)
          obtain ⟨b3, o3, rfl, _, g3⟩ := holdsC HC4.out (by omega)
          have x1 := (g1 k hka).c1
          have x2 := (g1 k hka).c2
          have y1 := (g2 k hkb).c1
          have y2 := (g2 k hkb).c2
          have c0 := (g3 k hkc).c0
          have yb1 := HAa4.out.bs _ (getD_mem Da default hka)
          have yb2 := HAb.out.bs _ (getD_mem Db default hkb)
          have LK := hid (fun (hr : (Da.getD k default).d.report = (Db.getD k default).d.report) (h3 : (cs.getD k default).kind = 3) => by
            have := Plain.apart_law (cap := top) (tk := tk) (by omega) (by have := HT.out; omega) (w := ww) (by omega) l4 cs k hkc (fun i hi => by
              rw [HNC.out, ← HDa.out, ← HDb.out, getD_map RU.d Da default default (by rw [HLa.out]; omega), getD_map RU.d Db default default (by rw [HLb.out]; omega)]
              by_cases e : i = k
              · rw [e]; exact hr
              · exact IR.out i (by omega)) h3
            rw [HNC.out, ← HDa.out, ← HDb.out, getD_map RU.d Da default default hka, getD_map RU.d Db default default hkb] at this
            exact this)
          have IRk := hid (fun (hr : (Da.getD k default).d.report = (Db.getD k default).d.report) => show ∀ i, i < k + 1 → (Da.getD i default).d.report = (Db.getD i default).d.report from fun i hi => by
            by_cases e : i = k
            · rw [e]; exact hr
            · exact IR.out i (by omega))
          clear g1 g2 g3 IR
          generalize Da.getD k default = z1 at *
          generalize Db.getD k default = z2 at *
          generalize (cs.getD k default).kind = ck at *
          obtain ⟨⟨za, zb, zc⟩, zp, zq⟩ := z1
          obtain ⟨⟨ya, yb, yc⟩, yp, yq⟩ := z2
          dsimp only at x1 x2 y1 y2 yb1 yb2 LK IRk
          obtain ⟨q5, hq5⟩ := I.out
          have HQ := hid hq5
          have u2 : wr.cell? ⟨b1, o1 + k * 3 + 2, none⟩ = some (.int .i64 zc) := by rw [hq5]; simpa using x2
          have t2 : wr.cell? ⟨b2, o2 + k * 3 + 2, none⟩ = some (.int .i64 yc) := by rw [hq5]; simpa using y2
          clear hq5 I x2 y2
          by_cases hr : zc = yc
          · have hrn : (zc != yc) = false := by simpa using hr
            have LK2 := hid (LK.out hr)
            have IR2 := hid (IRk.out hr)
            clear LK IRk hr
            go_wp2
            go_quiet (fail)
            obtain ⟨wo, hwo⟩ : ∃ wo, wo = wr.drewN nq := ⟨_, rfl⟩
            have HQ0 := hid (show wo = W4.drewN (q5 + nq) by rw [hwo, HQ.out, drewN_add])
            rw [← hwo]
            clear hwo u2 t2 HQ hrn
            have d0 : wo.cell? ⟨b3, o3 + k * 3, none⟩ = some (.int .i64 ck) := by rw [HQ0.out]; simpa using c0
            by_cases h3 : ck = 3
            · subst h3
              obtain ⟨l1, l2', LJ⟩ := LK2.out rfl
              have HLJ := hid LJ
              rw [l1] at x1
              rw [l2'] at y1
              have HL1 := hid l1
              have HL2 := hid l2'
              have HY1 := hid yb1
              have HY2 := hid yb2
              clear LJ l1 l2' LK2 yb1 yb2
              go_wp2
              clear d0
              go_loopg [23] 3 (fun gg s23 wx => ∃ j : Nat, j ≤ 3 ∧ 3 - j ≤ gg ∧ s23 = .int .i64 j ∧ Aside (∃ q, wx = W4.drewN q))
              case atStart => exact ⟨0, Nat.zero_le _, by omega, rfl, (show Aside _ from ⟨_, HQ0.out⟩)⟩
              case round =>
                obtain ⟨j, hj3, hjg, rfl, I⟩ := hrel
                clear HQ0
                obtain ⟨q6, hq6⟩ := I.out
                by_cases hlj : j < 3
                · have hljz : (j : Int) < 3 := by omega
                  have hj0 : (0 : Int) ≤ (j : Int) := by omega
                  obtain ⟨gb1, go1, rfl, _, _, gc1⟩ := HY1.out.cl (by rw [HL1.out]; omega)
                  obtain ⟨gb2, go2, rfl, _, _, gc2⟩ := HY2.out.cl (by rw [HL2.out]; omega)
                  have xq : wr.cell? ⟨b1, o1 + k * 3 + 1, none⟩ = some (.slice (some ⟨gb1, go1, none⟩) 3 zq) := by rw [hq6]; simpa using x1
                  have yq1 : wr.cell? ⟨b2, o2 + k * 3 + 1, none⟩ = some (.slice (some ⟨gb2, go2, none⟩) 3 yq) := by rw [hq6]; simpa using y1
                  have v1 : wr.cell? ⟨gb1, go1 + j, none⟩ = some (.int .i64 (zb.getD j 0)) := by rw [hq6]; simpa using gc1 j (by rw [HL1.out]; exact hlj)
                  have v2 : wr.cell? ⟨gb2, go2 + j, none⟩ = some (.int .i64 (yb.getD j 0)) := by rw [hq6]; simpa using gc2 j (by rw [HL2.out]; exact hlj)
                  have hle := HLJ.out j
                  clear gc1 gc2
                  have HQ2 := hid hq6
                  clear hq6 I
                  generalize zb.getD j 0 = e1 at *
                  generalize yb.getD j 0 = e2 at *
                  by_cases hjw : j = ww
                  · have gjw : ((j : Int) != (ww : Int)) = false := by rw [hjw]; simp
                    clear hjw hle
                    go_wp2
                    go_quiet (fail)
                    go_wp2
                    go_roundg (3 - (j + 1))
                    case measure => omega
                    case rel => exact ⟨j + 1, by omega, by omega, by go_num, (show Aside _ from ⟨_, by rw [HQ2.out, drewN_add]⟩)⟩
                  · have gjw : ((j : Int) != (ww : Int)) = true := by simp; omega
                    have he12 := hle hjw
                    subst he12
                    have gee : (e1 != e1) = false := by simp
                    clear hjw hle
                    go_wp2
                    go_quiet (fail)
                    go_wp2
                    go_roundg (3 - (j + 1))
                    case measure => omega
                    case rel => exact ⟨j + 1, by omega, by omega, by go_num, (show Aside _ from ⟨_, by rw [HQ2.out, drewN_add]⟩)⟩
                · have hljz : ¬ (j : Int) < 3 := by omega
                  have HQ2 := hid hq6
                  clear hq6 I
                  go_wp2
                  go_roundg (n - (k + 1))
                  case measure => omega
                  case rel => exact ⟨k + 1, by omega, by omega, by go_num, (show Aside _ from ⟨_, HQ2.out⟩), (show Aside _ from IR2.out)⟩
            · have g3 : (ck != 3) = true := by simpa using h3
              clear h3 LK2
              go_wp2
              go_roundg (n - (k + 1))
              case measure => omega
              case rel => exact ⟨k + 1, by omega, by omega, by go_num, (show Aside _ from ⟨_, HQ0.out⟩), (show Aside _ from IR2.out)⟩
          · have hrn : (zc != yc) = true := by simpa using hr
            clear hr LK IRk
            go_wp2
            go_quiet (fail)
            have F := hid (show Below w.heap.size w (wr.drewN nq) by rw [HQ.out, drewN_add]; exact below_drewN BW4.out _)
            go_wp2
            go_ret
            exact ⟨rfl, F.out⟩
        · have hltz : ¬ (k : Int) < (n : Int) := by omega
          obtain ⟨q5, hq5⟩ := I.out
          have F := hid (show Below w.heap.size w wr by rw [hq5]; exact below_drewN BW4.out q5)
          clear hq5 I IR
          go_wp2
          go_ret
          exact ⟨rfl, F.out⟩

set_option maxRecDepth 100000 in
theorem lifted (os : Os) (started : os.Started) (H : Type) (enc : TypeId × Value → H) :
    ReturnsInHanded {} Try.checked os 6 .any (Rows.bookApartSpec.pre6 enc Try.prog Try.f6 Rows.bookApartRow.domain false) (Rows.bookApartSpec.post enc Try.prog Try.f6 false true false false) := by
  refine returnsInHanded_of_change (C := Try.checked) own started (by kernel_rfl) Try.func6
    (ChangeSpec.witness6 (enc := enc) (C := Try.checked) false ⟨#[], #[.int .i64 0, .int .i64 0, .slice none 0 0, .int .i64 0, .slice none 0 0], []⟩ 8 (by kernel_rfl) (by kernel_rfl) (by kernel_rfl) (by kernel_rfl)) ?_
  intro W base args ds gs before hval0 hW hcnd _
  have hval : ∀ (j : Nat) t v, Try.f6.params[j]? = some t → args[j]? = some v → Value.okWide Try.prog W .any base t v := hval0
  have hW' := hW
  obtain ⟨p, q, hA0, hV, rfl, hfz, hnd⟩ := hW
  have hA : DataW.TrodAll enc Try.prog W 0 (fun _ => true) true Try.f6.params.toList args.toList ds p := hA0
  rw [Try.params6] at hA hval
  obtain ⟨v0, vs0, d0, ds0, p0, q0, hargs, rfl, rfl, h0, r0⟩ := trodAll_cons hA
  obtain ⟨v1, vs1, d1, ds1, p1, q1, rfl, rfl, rfl, h1, r1⟩ := trodAll_cons r0
  obtain ⟨v2, vs2, d2, ds2, p2, q2, rfl, rfl, rfl, h2, r2⟩ := trodAll_cons r1
  obtain ⟨v3, vs3, d3, ds3, p3, q3, rfl, rfl, rfl, h3, r3⟩ := trodAll_cons r2
  obtain ⟨v4, vs4, d4, ds4, p4, q4, rfl, rfl, rfl, h4, r4⟩ := trodAll_cons r3
  obtain ⟨rfl, rfl, rfl⟩ := trodAll_nil r4
  obtain rfl : args = #[v0, v1, v2, v3, v4] := by cases args; simp_all
  obtain ⟨rfl, rfl⟩ := trodVars_none hV
  have k0 := h0
  have lt0 : ∀ x ∈ p0, x.block < W.heap.size := by obtain ⟨m, hm⟩ := k0; exact DataW.trod_lt m _ _ _ hm
  obtain ⟨a0, rfl, _, _, w0⟩ := open_int Try.underlying3 (hval 0 3 v0 rfl rfl) h0
  have k1 := h1
  have lt1 : ∀ x ∈ p1, x.block < W.heap.size := by obtain ⟨m, hm⟩ := k1; exact DataW.trod_lt m _ _ _ hm
  obtain ⟨a1, rfl, _, _, w1⟩ := open_int Try.underlying3 (hval 1 3 v1 rfl rfl) h1
  obtain ⟨a2, len2, cap2, rfl⟩ := okWide_slice Try.underlying47 (hval 2 47 v2 rfl rfl)
  have k2 := h2
  have lt2 : ∀ x ∈ p2, x.block < W.heap.size := by obtain ⟨m, hm⟩ := k2; exact DataW.trod_lt m _ _ _ hm
  obtain ⟨l2, s2, ri2⟩ := cas_open Try.underlying47 Try.underlying72 (by kernel_rfl) ⟨rfl, by intro j f hj; rcases j with _ | _ | _ | j <;> simp at hj <;> subst hj <;> exact ⟨rfl, by kernel_rfl, Try.underlying3⟩⟩ h2
  have k3 := h3
  have lt3 : ∀ x ∈ p3, x.block < W.heap.size := by obtain ⟨m, hm⟩ := k3; exact DataW.trod_lt m _ _ _ hm
  obtain ⟨a3, rfl, _, _, w3⟩ := open_int Try.underlying3 (hval 3 3 v3 rfl rfl) h3
  obtain ⟨a4, len4, cap4, rfl⟩ := okWide_slice Try.underlying29 (hval 4 29 v4 rfl rfl)
  have k4 := h4
  have lt4 : ∀ x ∈ p4, x.block < W.heap.size := by obtain ⟨m, hm⟩ := k4; exact DataW.trod_lt m _ _ _ hm
  obtain ⟨l4, hl4, hc4, hm4, hr4, y4, s4⟩ := ints_seg h4
  clear hA0 hval0
  refine (walk W a0 (bounds_i64 w0) a1 (bounds_i64 w1) _ l2 s2 ri2 a3 (bounds_i64 w3) _ l4 (by omega) hr4 s4 y4).mono fun e W' ⟨he, bel⟩ => ?_
  subst he
  exact ⟨_, rfl, _, _, _, [], _, [], hW', trodAll_mk1 (shut_bool Try.underlying4 _), (trodAll_cons_mk (Below.trod laidOut (by kernel_rfl) (of_decide_eq_true (by kernel_rfl)) k0 bel lt0) (trodAll_cons_mk (Below.trod laidOut (by kernel_rfl) (of_decide_eq_true (by kernel_rfl)) k1 bel lt1) (trodAll_cons_mk (Below.trod laidOut (by kernel_rfl) (of_decide_eq_true (by kernel_rfl)) k2 bel lt2) (trodAll_cons_mk (Below.trod laidOut (by kernel_rfl) (of_decide_eq_true (by kernel_rfl)) k3 bel lt3) (trodAll_cons_mk (Below.trod laidOut (by kernel_rfl) (of_decide_eq_true (by kernel_rfl)) k4 bel lt4) trodAll_mk0))))), rfl, bel.frame _, fun h => by cases h⟩

theorem over : Rows.bookApartRow.holds Try.pinned (OpenSpec.ofChange Rows.bookApartSpec) :=
  OpenClaim.holds_of_wide 6 Try.f6 rfl rfl rfl rfl rfl rfl rfl ⟨rfl, rfl, rfl, rfl, rfl⟩ rfl rfl rfl rfl rfl (by kernel_rfl) Try.func6 (by kernel_rfl)
    (of_decide_eq_true (by kernel_rfl)) (by unfold Func.isWrapper; first | (rw [if_pos (by decide +kernel)]; kernel_rfl) | (rw [if_neg (by decide +kernel)]; exact ⟨rfl, rfl⟩))
    (fun os started H enc _ => lifted os started H enc)

end bookApart

theorem bookApart_holds : Rows.BookApartSaid := bookApart.over
#print axioms bookApart_holds
end Go.Proofs.Ytiolkeghgodggaj

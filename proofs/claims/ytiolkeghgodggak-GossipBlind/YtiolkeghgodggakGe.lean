/-
  keep.Turns.
-/
import Derived.Test.YtiolkeghgodggakGd
namespace Go.Proofs.Ytiolkeghgodggak
open Go.RowKit Go.Shelf Go.Sort

set_option maxHeartbeats 8000000 in
set_option maxRecDepth 100000 in
theorem turns_c (p : Option Addr) (n cap lim : Nat) (l : List Plain.Tu) (hlim : lim ≤ 100) (hbig : n ≤ 9223372036854775807) (w : World) (hn : l.length = n) (hp : encT.Holds w p l) (hr : ∀ j, j < l.length → InT (l.getD j default)) :
    Calls Try.prog 14 #[.slice p n cap, .int .i64 (lim : Int)] w fun e w' => ∃ q c, e = .returned (.slice q (Plain.turnsF l lim).length c) ∧ TI w w' (.slice q (Plain.turnsF l lim).length c) (Plain.turnsF l lim) := by
  have HP := hid hp
  have HN := hid hn
  have HR := hid hr
  clear hp hn hr
  have T0 : Plain.turnsF (l.take 0) lim = [] := by simp [Plain.turnsF]
  go_enter Try.func14, Try.ntmps14
  go_wp2
  go_loopg [5, 6, 7] n (fun gg s5 s6 _ wx => ∃ (k : Nat) (q : Option Addr) (c : Nat), k ≤ n ∧ k ≤ lim ∧ n - k ≤ gg ∧ s6 = .int .i64 k ∧ s5 = .slice q k c ∧ Aside (TI w wx (.slice q k c) (Plain.turnsF (l.take k) lim)) ∧ Aside ((Plain.turnsF (l.take k) lim).length = k))
  case atStart => exact ⟨0, none, 0, Nat.zero_le _, Nat.zero_le _, by omega, rfl, rfl, (show Aside _ from by rw [T0]; exact TI.nil w), (show Aside _ from by rw [T0]; rfl)⟩
  case round =>
    obtain ⟨k, q, c, hkk, hk100, hg, rfl, rfl, A, AL⟩ := hrel
    by_cases hlt : k < n
    · have hltz : (k : Int) < (n : Int) := by omega
      by_cases hlt6 : k < lim
      · have hlt6z : (k : Int) < (lim : Int) := by omega
        have hll : k < l.length := by rw [HN.out]; exact hlt
        have HI := hid A.out
        have HL := hid AL.out
        clear A AL
        have HMv := HP.out.grow (show Below w.heap.size w wr from HI.out.be)
        obtain ⟨b, off, rfl, hb, hc⟩ := holdsT HMv (by omega)
        have HCT := hid (hc k hll)
        obtain ⟨c0, c1, c2, c3, c4, c5⟩ := hc k hll
        have hIn := HR.out k hll
        have ST := hid (Plain.turnsF_step l lim k hll hlt6)
        clear hc HMv
        generalize l.getD k default = r at c0 c1 c2 c3 c4 c5 ST hIn HCT
        generalize Plain.turnsF (l.take k) lim = cs at HI HL ST
        obtain ⟨mk, mw, mt, ml, my, mv⟩ := r
        dsimp only at c0 c1 c2 c3 c4 c5 hIn
        have K0 := fun W => picked_any mk 5 hIn.k.1 hIn.k.2 (by omega) (by omega) W
        have K1 := fun W => picked_any mw 4 hIn.w.1 hIn.w.2 (by omega) (by omega) W
        have K2 := fun W => picked_any mt 4 hIn.t.1 hIn.t.2 (by omega) (by omega) W
        have K3 := fun W => picked_any ml 3 hIn.l.1 hIn.l.2 (by omega) (by omega) W
        have K4 := fun W => picked_any my 5 hIn.y.1 hIn.y.2 (by omega) (by omega) W
        have K5 := fun W => picked_any mv 9 hIn.v.1 hIn.v.2 (by omega) (by omega) W
        clear hIn
        obtain ⟨y, hy⟩ : ∃ y, y = Plain.tuOf ⟨mk, mw, mt, ml, my, mv⟩ := ⟨_, rfl⟩
        rw [← hy] at ST
        unfold Plain.tuOf at hy
        dsimp only at hy
        have hk5 : 0 ≤ mk % 5 ∧ mk % 5 < 5 := by omega
        generalize mk % 5 = kd at *
        generalize mw % 4 = xw at *
        generalize mt % 4 = xt at *
        generalize ml % 3 = xl at *
        generalize my % 5 = xy at *
        generalize mv % 9 = xv at *
        have HY := hid hy
        clear hy
        have hne : ¬ b = wr.heap.size := by omega
        have hne' : ¬ wr.heap.size = b := by omega
        go_wp2
        go_cut [7] (fun s7 wx => s7 = .pointer (some ⟨wr.heap.size, 0, none⟩) ∧ Aside (wx.rowIs wr.heap.size 44 6 (tuF ⟨3, xw, xt, 0, 0, 0⟩)) ∧ Aside (Below wr.heap.size wr wx))
        case first =>
          go_region_held3 (fun w' => w'.cell? ⟨b, off + k * 6 + 1, none⟩ = some (.int .i64 mw) ∧ w'.cell? ⟨b, off + k * 6 + 2, none⟩ = some (.int .i64 mt)) (go_keep)
            (first | (go_at_call_of 19 (Value.int .i64 mw); refine (K1 _).mono ?_; rintro e w' ⟨rfl, rfl⟩) | (go_at_call_of 19 (Value.int .i64 mt); refine (K2 _).mono ?_; rintro e w' ⟨rfl, rfl⟩))
          all_goals (try go_wp2_with fail)
          all_goals go_meet
          all_goals exact ⟨rfl, (show Aside _ from (rowT_new wr ⟨3, xw, xt, 0, 0, 0⟩).of_block rfl), (show Aside _ from ((Below.refl _ _).alloc (Nat.le_refl _) _).drew)⟩
        case rest =>
          obtain ⟨rfl, HRT, HBT⟩ := hcut
          have hTB := HRT.out.lt
          obtain ⟨TB, hTBe⟩ : ∃ TB, TB = wr.heap.size := ⟨_, rfl⟩
          rw [← hTBe] at hne hne' HRT HBT hb hTB ⊢
          have HTB := hid hTBe
          clear hTBe
          obtain ⟨c0, c1, c2, c3, c4, c5⟩ := HCT.out.below HBT.out hb
          obtain ⟨d0, d1, d2, d3, d4, d5⟩ := rowT_cells HRT.out
          have z0 := HRT.out.frozen 0
          have z1 := HRT.out.frozen 1
          have z2 := HRT.out.frozen 2
          have z3 := HRT.out.frozen 3
          have z4 := HRT.out.frozen 4
          have z5 := HRT.out.frozen 5
          simp only [Nat.zero_add] at d1 d2 d3 d4 d5
          dsimp only at c0 c1 c2 c3 c4 c5 d0 d1 d2 d3 d4 d5
          go_wp2_with fail
          refine (K0 _).mono ?_
          rintro e wx ⟨rfl, hx⟩
          have hyx := hx.symm
          clear hx K0
          subst hyx
          go_upto_block 2 with fail
          go_cut [7] (fun s7 wx => s7 = .pointer (some ⟨TB, 0, none⟩) ∧ Aside (wx.rowIs TB 44 6 (tuF y)) ∧ Aside (Below TB wr wx))
          case first =>
            by_cases k01 : kd = 0 ∨ kd = 1
            · have EY := hid (show y = ⟨1, xw, 0, xl, xy, xv⟩ by rw [HY.out, if_pos k01])
              clear HY hk5
              have HG := hid (laidT HRT.out HBT.out ⟨1, xw, 0, xl, xy, xv⟩ y EY.out)
              rcases k01 with rfl | rfl
              all_goals
                go_wp2
                have w1 : ((((((wc.setCell ⟨TB, 0, none⟩ (.int .i64 1)).setCell ⟨TB, 1, none⟩ (.int .i64 xw)).setCell ⟨TB, 2, none⟩ (.int .i64 0)).setCell ⟨TB, 3, none⟩ (.int .i64 xl)).setCell ⟨TB, 4, none⟩ (.int .i64 xy)).setCell ⟨TB, 5, none⟩ (.int .i64 xv)).cell? ⟨TB, 1, none⟩ = some (.int .i64 xw) := (rowT_over HRT.out ⟨1, xw, 0, xl, xy, xv⟩).cell (i := 1) (by omega)
                go_region_held3 (fun w' => w'.cell? ⟨TB, 1, none⟩ = some (.int .i64 xw) ∧ w'.cell? ⟨b, off + k * 6 + 3, none⟩ = some (.int .i64 ml) ∧ w'.cell? ⟨b, off + k * 6 + 4, none⟩ = some (.int .i64 my) ∧ w'.cell? ⟨b, off + k * 6 + 5, none⟩ = some (.int .i64 mv)) (go_keep)
                  (first | (go_at_call_of 19 (Value.int .i64 ml); refine (K3 _).mono ?_; rintro e w' ⟨rfl, rfl⟩) | (go_at_call_of 19 (Value.int .i64 my); refine (K4 _).mono ?_; rintro e w' ⟨rfl, rfl⟩) | (go_at_call_of 19 (Value.int .i64 mv); refine (K5 _).mono ?_; rintro e w' ⟨rfl, rfl⟩))
                all_goals (try go_wp2_with fail)
                all_goals go_meet
                all_goals exact ⟨rfl, (HG.out _ rfl).1, (HG.out _ rfl).2⟩
            by_cases k2 : kd = 2
            · have EY := hid (show y = ⟨2, xw, 0, xl, xy, 0⟩ by rw [HY.out, if_neg k01, if_pos k2])
              clear HY hk5 k01
              have HG := hid (laidT HRT.out HBT.out ⟨2, xw, 0, xl, xy, 0⟩ y EY.out)
              subst k2
              go_wp2
              have w1 : ((((((wc.setCell ⟨TB, 0, none⟩ (.int .i64 2)).setCell ⟨TB, 1, none⟩ (.int .i64 xw)).setCell ⟨TB, 2, none⟩ (.int .i64 0)).setCell ⟨TB, 3, none⟩ (.int .i64 xl)).setCell ⟨TB, 4, none⟩ (.int .i64 xy)).setCell ⟨TB, 5, none⟩ (.int .i64 0)).cell? ⟨TB, 1, none⟩ = some (.int .i64 xw) := (rowT_over HRT.out ⟨2, xw, 0, xl, xy, 0⟩).cell (i := 1) (by omega)
              go_region_held3 (fun w' => w'.cell? ⟨TB, 1, none⟩ = some (.int .i64 xw) ∧ w'.cell? ⟨b, off + k * 6 + 3, none⟩ = some (.int .i64 ml) ∧ w'.cell? ⟨b, off + k * 6 + 4, none⟩ = some (.int .i64 my)) (go_keep)
                (first | (go_at_call_of 19 (Value.int .i64 ml); refine (K3 _).mono ?_; rintro e w' ⟨rfl, rfl⟩) | (go_at_call_of 19 (Value.int .i64 my); refine (K4 _).mono ?_; rintro e w' ⟨rfl, rfl⟩))
              all_goals (try go_wp2_with fail)
              all_goals go_meet
              all_goals exact ⟨rfl, (HG.out _ rfl).1, (HG.out _ rfl).2⟩
            · have EY := hid (show y = ⟨3, xw, xt, 0, 0, 0⟩ by rw [HY.out, if_neg k01, if_neg k2])
              have g0 : (kd == 0) = false := by simp; omega
              have g1 : (kd == 1) = false := by simp; omega
              have g2 : (kd == 2) = false := by simp; omega
              clear HY hk5 k01 k2
              go_wp2
              go_meet
              exact ⟨rfl, (show Aside _ from by rw [EY.out]; exact HRT.out), (show Aside _ from HBT.out)⟩
          case rest =>
            clear c0 c1 c2 c3 c4 c5 d0 d1 d2 d3 d4 d5 z0 z1 z2 z3 z4 z5 HRT HBT
            obtain ⟨rfl, HRU, HBU⟩ := hcut
            obtain ⟨d0, d1, d2, d3, d4, d5⟩ := rowT_cells HRU.out
            simp only [Nat.zero_add] at d1 d2 d3 d4 d5
            have I5 := hid (HI.out.grow (by rw [← HTB.out]; exact HBU.out))
            obtain ⟨pn, cn, U, hrun, hU⟩ := I5.out.snoc (by have := HL.out; omega) y
            rw [HL.out] at hrun hU
            have RUN := hid hrun
            have HU := hid hU
            clear hrun hU I5 HI HY K1 K2 K3 K4 K5 HRU HBU
            go_wp2_with (first | (at_builtin; refine wpList_app _ _ 23 RUN.out (by rfl) (by rfl) (by rfl) (by rfl) (by rfl) ?_) | fail)
            go_wp2
            go_roundg (n - (k + 1))
            case measure => omega
            case rel =>
              refine ⟨k + 1, pn, cn, by omega, by omega, by omega, by go_num, rfl, (show Aside _ from ?_), (show Aside _ from ?_)⟩
              · rw [ST.out]; exact HU.out
              · rw [ST.out, List.length_append, HL.out]; rfl
      · have hlt6z : ¬ (k : Int) < (lim : Int) := by omega
        have hfin := Plain.turnsF_take l lim k (.inr (by omega))
        have hA := A.out
        have hL := AL.out
        rw [hfin] at hA hL
        have HX := hid (show ∃ q' c', Ending.returned (Value.slice q k c) = .returned (.slice q' (Plain.turnsF l lim).length c') ∧ TI w wr (.slice q' (Plain.turnsF l lim).length c') (Plain.turnsF l lim) from ⟨q, c, by rw [hL], by rw [hL]; exact hA⟩)
        clear A AL hA hL hfin
        go_wp2
        go_ret
        exact HX.out
    · have hltz : ¬ (k : Int) < (n : Int) := by omega
      have hfin := Plain.turnsF_take l lim k (.inl (by rw [HN.out]; omega))
      have hA := A.out
      have hL := AL.out
      rw [hfin] at hA hL
      have HX := hid (show ∃ q' c', Ending.returned (Value.slice q k c) = .returned (.slice q' (Plain.turnsF l lim).length c') ∧ TI w wr (.slice q' (Plain.turnsF l lim).length c') (Plain.turnsF l lim) from ⟨q, c, by rw [hL], by rw [hL]; exact hA⟩)
      clear A AL hA hL hfin
      go_wp2
      go_ret
      exact HX.out
end Go.Proofs.Ytiolkeghgodggak

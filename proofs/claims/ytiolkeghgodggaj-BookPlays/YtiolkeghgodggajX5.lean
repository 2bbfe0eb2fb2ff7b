/-
  The document's BookPlayed.
-/
import Derived.Test.YtiolkeghgodggajX4
namespace Go.Proofs.Ytiolkeghgodggaj.Bo
open Go.RowKit Go.Shelf Go.Sort

namespace Plain
theorem caB_n (b : Bk) (c : Ca) : (caB b c).n = b.n := by
  unfold caB
  split
  · rfl
  split
  · exact roundB_n b
  split <;> rfl
theorem bkF_n (b : Bk) (l : List Ca) : (bkF b l).n = b.n := by
  induction l generalizing b with
  | nil => rfl
  | cons c l ih => show (bkF (caB b c) l).n = _; rw [ih, caB_n]
end Plain

set_option maxHeartbeats 4000000 in
set_option maxRecDepth 100000 in
theorem rplay_no (p : Option Addr) (n cap : Nat) (bn mo ti : Int) (l : List Plain.Ca) (hbig : n ≤ 9223372036854775807) (hE : Plain.bookE bn mo ti l ≠ 0) (w : World) (hn : l.length = n) :
    Calls Try.prog 15 #[.int .i64 bn, .int .i64 mo, .int .i64 ti, .slice p n cap] w fun e w' => PlayP bn mo ti l w e w' := by
  have P0 := hid (fun E (h : Plain.bookE bn mo ti l = E) (h0 : E ≠ 0) => playP_no h h0 w w (Below.refl _ _))
  have D0 : Plain.bookE bn mo ti l = if ((bn < 1 ∨ 8 < bn) ∨ (mo < 0 ∨ 1048576 < mo)) ∨ (ti < 1 ∨ 8 < ti) then 2 else if 300 < n then 1 else 0 := by unfold Plain.bookE; rw [hn]
  rw [D0] at hE
  rw [D0] at P0
  clear D0 hn
  by_cases h1 : bn < 1
  case pos =>
    have P1 := hid (P0.out 2 (by rw [if_pos (by omega)]) (by decide))
    clear P0 hE
    go_enter Try.func15, Try.ntmps15
    go_wp2
    go_ret2
    exact P1.out
  by_cases h2 : 8 < bn
  case pos =>
    have P1 := hid (P0.out 2 (by rw [if_pos (by omega)]) (by decide))
    clear P0 hE
    go_enter Try.func15, Try.ntmps15
    go_wp2
    go_ret2
    exact P1.out
  by_cases h3 : mo < 0
  case pos =>
    have P1 := hid (P0.out 2 (by rw [if_pos (by omega)]) (by decide))
    clear P0 hE
    go_enter Try.func15, Try.ntmps15
    go_wp2
    go_ret2
    exact P1.out
  by_cases h4 : 1048576 < mo
  case pos =>
    have P1 := hid (P0.out 2 (by rw [if_pos (by omega)]) (by decide))
    clear P0 hE
    go_enter Try.func15, Try.ntmps15
    go_wp2
    go_ret2
    exact P1.out
  by_cases h5 : ti < 1
  case pos =>
    have P1 := hid (P0.out 2 (by rw [if_pos (by omega)]) (by decide))
    clear P0 hE
    go_enter Try.func15, Try.ntmps15
    go_wp2
    go_ret2
    exact P1.out
  by_cases h6 : 8 < ti
  case pos =>
    have P1 := hid (P0.out 2 (by rw [if_pos (by omega)]) (by decide))
    clear P0 hE
    go_enter Try.func15, Try.ntmps15
    go_wp2
    go_ret2
    exact P1.out
  have h7 : 300 < n := by
    rw [if_neg (by omega)] at hE
    by_cases x : 300 < n
    · exact x
    · rw [if_neg x] at hE; exact absurd rfl hE
  have h7z : (300 : Int) < (n : Int) := by omega
  have P1 := hid (P0.out 1 (by rw [if_neg (by omega), if_pos h7]) (by decide))
  clear P0 hE
  go_enter Try.func15, Try.ntmps15
  go_wp2
  go_ret2
  exact P1.out

set_option maxHeartbeats 16000000 in
set_option maxRecDepth 100000 in
theorem rplay_yes (p : Option Addr) (n cap : Nat) (bn mo ti : Int) (l : List Plain.Ca) (hE : Plain.bookE bn mo ti l = 0) (w : World) (hn : l.length = n) (hp : encC.Holds w p l) :
    Calls Try.prog 15 #[.int .i64 bn, .int .i64 mo, .int .i64 ti, .slice p n cap] w fun e w' => PlayP bn mo ti l w e w' := by
  have D0 : Plain.bookE bn mo ti l = if ((bn < 1 ∨ 8 < bn) ∨ (mo < 0 ∨ 1048576 < mo)) ∨ (ti < 1 ∨ 8 < ti) then 2 else if 300 < n then 1 else 0 := by unfold Plain.bookE; rw [hn]
  have hall : (1 ≤ bn ∧ bn ≤ 8) ∧ (0 ≤ mo ∧ mo ≤ 1048576) ∧ (1 ≤ ti ∧ ti ≤ 8) ∧ n ≤ 300 := by
    rw [D0] at hE
    by_cases x : ((bn < 1 ∨ 8 < bn) ∨ (mo < 0 ∨ 1048576 < mo)) ∨ (ti < 1 ∨ 8 < ti)
    · rw [if_pos x] at hE; omega
    · rw [if_neg x] at hE
      by_cases y : 300 < n
      · rw [if_pos y] at hE; omega
      · omega
  clear D0
  obtain ⟨h1, h2, h3, h4⟩ := hall
  have HE := hid hE
  clear hE
  obtain ⟨bm, rfl⟩ : ∃ bm : Nat, bn = (bm : Int) := ⟨bn.toNat, by omega⟩
  obtain ⟨tk, rfl⟩ : ∃ tk : Nat, ti = (tk : Int) := ⟨ti.toNat, by omega⟩
  have hz : ¬ (300 : Int) < (n : Int) := by omega
  have x1 : ¬ (bm : Int) < 1 := by omega
  have x2 : ¬ (8 : Int) < (bm : Int) := by omega
  have x3 : ¬ mo < 0 := by omega
  have x4 : ¬ 1048576 < mo := by omega
  have x5 : ¬ (tk : Int) < 1 := by omega
  have x6 : ¬ (8 : Int) < (tk : Int) := by omega
  have K0 := newb_c bm tk mo (by omega) h2 (by omega) w
  have HP := hid hp
  have HN := hid hn
  clear hp hn
  go_enter Try.func15, Try.ntmps15
  go_wp2_with fail
  refine K0.mono ?_
  rintro e W0 ⟨R, A, G, S0, Q0, rfl, hb0, hbe0⟩
  have ST := hid (show QlI w W0 R A G S0 Q0 (.slice none 0 0) (Plain.Bk.new bm mo tk) [] from ⟨hb0, World.ownsRow_nil _ _ _ _, fun r hr => (nomatch hr), hbe0⟩)
  clear K0 hb0 hbe0 x3 x4 x5 x6
  go_wp2
  go_loopg [11, 13, 14, 46] n (fun gg s11 _ _ s46 wx => ∃ (k : Nat) (D : List RU) (pd : Option Addr) (cd : Nat), k ≤ n ∧ n - k ≤ gg ∧ s46 = .int .i64 k ∧ s11 = .slice pd D.length cd ∧ Aside (∃ S Q, QlI w wx R A G S Q (.slice pd D.length cd) (Plain.bkF (Plain.Bk.new bm mo tk) (l.take k)) D) ∧ Aside (D.map RU.d = Plain.bookF (Plain.Bk.new bm mo tk) (l.take k)))
  case atStart => exact ⟨0, [], none, 0, Nat.zero_le _, by omega, rfl, rfl, (show Aside _ from ⟨_, _, ST.out⟩), (show Aside _ from rfl)⟩
  case round =>
    obtain ⟨k, D, pd, cd, hkk, hg, rfl, rfl, A0, AD⟩ := hrel
    clear ST
    by_cases hlt : k < n
    · have hltz : (k : Int) < (n : Int) := by omega
      have hll : k < l.length := by rw [HN.out]; exact hlt
      obtain ⟨S, Q, hi⟩ := A0.out
      have HI := hid hi
      have HD := hid AD.out
      clear hi A0 AD
      have HMv := HP.out.grow (show Below w.heap.size w wr from HI.out.be)
      obtain ⟨bb, off, rfl, hb, hc⟩ := holdsC HMv (by omega)
      obtain ⟨c0, c1, c2⟩ := hc k hll
      clear hc HMv
      have RT := hid (Plain.bkF_take (Plain.Bk.new bm mo tk) l k hll)
      have PT := hid (Plain.bookF_take (Plain.Bk.new bm mo tk) l k hll)
      have hbn : (Plain.bkF (Plain.Bk.new bm mo tk) (l.take k)).n = bm := Plain.bkF_n _ _
      have HDL := hid (show D.length = k by
        have := congrArg List.length HD.out
        rw [List.length_map, Plain.bookF_len, List.length_take] at this
        omega)
      generalize l.getD k default = x at c0 c1 c2 RT PT
      generalize Plain.bkF (Plain.Bk.new bm mo tk) (l.take k) = b at HI RT PT hbn
      generalize Plain.bookF (Plain.Bk.new bm mo tk) (l.take k) = s at HD PT
      obtain ⟨WA, hWA⟩ : ∃ WA, WA = (wr.alloc (boxC x)).alloc (.cells #[.int .i64 0, .slice none 0 0, .int .i64 (-1)] 44) := ⟨_, rfl⟩
      have HX := hid (show XQ w WA wr.heap.size R A G S Q (.slice pd D.length cd) b D x ⟨⟨0, [], -1⟩, none, 0⟩ by rw [hWA]; exact XQ.start HI.out x)
      have hRl := HI.out.bk.row.lt
      have hAl := HI.out.bk.ra.lt
      clear HI
      obtain ⟨xk, xw, xc⟩ := x
      dsimp only at c0 c1 c2
      go_upto_block 2 with fail
      have eW : (wr.alloc (.cells #[.int .i64 xk, .int .i64 xw, .int .i64 xc] 52)).alloc (.cells #[.int .i64 0, .slice none 0 0, .int .i64 (-1)] 44) = WA := hWA.symm
      rw [eW]
      clear eW hWA c0 c1 c2
      go_cut [11] (fun s11 wx => s11 = .slice pd D.length cd ∧ Aside (Beh w wx wr.heap.size R A G (.slice pd D.length cd) b D ⟨xk, xw, xc⟩))
      case first =>
        have c0 : WA.cell? ⟨wr.heap.size, 0, none⟩ = some (.int .i64 xk) := HX.out.xb.c0
        have c1 : WA.cell? ⟨wr.heap.size, 1, none⟩ = some (.int .i64 xw) := HX.out.xb.c1
        have c2 : WA.cell? ⟨wr.heap.size, 2, none⟩ = some (.int .i64 xc) := HX.out.xb.c2
        have y0 : WA.cell? ⟨wr.heap.size + 1, 0, none⟩ = some (.int .i64 0) := HX.out.rb.cell (i := 0) (by omega)
        have z0 := HX.out.rb.frozen 0
        have r4 := HX.out.ql.bk.c4
        have r5 := HX.out.ql.bk.c5
        have r6 := HX.out.ql.bk.c6
        have f4 := HX.out.ql.bk.row.frozen 4
        have f5 := HX.out.ql.bk.row.frozen 5
        have hev : 0 ≤ b.reserve ∧ b.reserve ≤ 1048576 ∧ b.ever ≤ 1048576 ∧ 0 ≤ b.ever := by
          have h1 := Plain.reserve_bd HX.out.ql.bk.ok
          have h2 := HX.out.ql.bk.ok.em
          have h3 := HX.out.ql.bk.ok.ev
          have hs := Plain.sumN_nonneg (n := b.n) (f := fun i => b.given.getD i 0) (fun i hi => (HX.out.ql.bk.ok.gi i hi).1)
          rw [← Plain.sumL_list HX.out.ql.bk.ok.lg] at hs
          omega
        by_cases hk3 : xk = 3
        · subst hk3
          as_aux_lemma =>
            have K := gives_c w.heap.size R A G S Q b WA HX.out.ql.bk
            go_wp2_with fail
            refine K.mono ?_
            rintro e W1 ⟨S', Q', g, cc, rfl, hbk, hun, hr, hgg, hF, hf⟩
            have P0 := hid (beh_round (cc := cc) HX.out rfl hbk hun hr hgg hF hf)
            clear hbk hun hr hgg hF hf K HX
            clear hbn
            generalize Plain.reportB b = rep at *
            have w1 : W1.cell? ⟨wr.heap.size + 1, 1, none⟩ = some (.slice none 0 0) := P0.out.1.cell (i := 1) (by omega)
            have w2 : W1.cell? ⟨wr.heap.size + 1, 2, none⟩ = some (.int .i64 (-1)) := P0.out.1.cell (i := 2) (by omega)
            have v1 := P0.out.1.frozen 1
            have v2 := P0.out.1.frozen 2
            go_wp2
            go_meet
            case rel => exact ⟨rfl, (show Aside _ from P0.out.2)⟩
        have g3 : (xk == 3) = false := by simpa using hk3
        by_cases hk1 : xk = 1
        · subst hk1
          by_cases t1 : xc < 1
          · as_aux_lemma =>
              have P0 := hid (beh_no HX.out (E := 2) (by unfold Plain.caE; dsimp only; rw [if_neg (by omega), if_pos rfl, if_pos (by omega)]) (by decide) 0)
              clear HX
              go_wp2
              go_meet
              case rel => exact ⟨rfl, (show Aside _ from P0.out)⟩
          by_cases t2 : 1048576 < xc
          · as_aux_lemma =>
              have P0 := hid (beh_no HX.out (E := 2) (by unfold Plain.caE; dsimp only; rw [if_neg (by omega), if_pos rfl, if_pos (by omega)]) (by decide) 0)
              clear HX
              go_wp2
              go_meet
              case rel => exact ⟨rfl, (show Aside _ from P0.out)⟩
          have hsum : IntKind.i64.wrap (b.ever + xc) = b.ever + xc := by rw [IntKind.wrap_i64]; omega
          by_cases t3 : 1048576 < b.ever + xc
          · as_aux_lemma =>
              have P0 := hid (fun q => beh_no HX.out (E := 12) (by unfold Plain.caE; dsimp only; rw [if_neg (by omega), if_pos rfl, if_neg (by omega), if_pos t3]) (by decide) q)
              clear HX
              generalize b.ever = ev at *
              generalize b.reserve = re at *
              have d3 : decide (1048576 < ev + xc) = true := decide_eq_true t3
              go_wp2
              go_quiet (fail)
              obtain ⟨WQ, hWQ⟩ : ∃ WQ, WQ = WA.drewN nq := ⟨_, rfl⟩
              have P1 := hid (P0.out nq)
              rw [← hWQ] at P1 ⊢
              have c0 : WQ.cell? ⟨wr.heap.size, 0, none⟩ = some (.int .i64 1) := by rw [hWQ]; simpa using c0
              have y0 : WQ.cell? ⟨wr.heap.size + 1, 0, none⟩ = some (.int .i64 0) := by rw [hWQ]; simpa using y0
              have z0 : WQ.frozen? ⟨wr.heap.size + 1, 0, none⟩ = false := by rw [hWQ]; exact z0
              clear hWQ P0
              go_wp2
              go_meet
              case rel => exact ⟨rfl, (show Aside _ from P1.out)⟩
          · have hE0 : Plain.caE b ⟨1, xw, xc⟩ = 0 := by unfold Plain.caE; dsimp only; rw [if_neg (by omega), if_pos rfl, if_neg (by omega), if_neg t3]
            have hsum2 : IntKind.i64.wrap (b.reserve + xc) = b.reserve + xc := by rw [IntKind.wrap_i64]; omega
            have P0 := hid (fun q => beh_yes HX.out (by show (1 : Int) ≠ 3; decide) hE0 rfl (HX.out.ql.bk.stock rfl hE0).1 (HX.out.ql.bk.stock rfl hE0).2 q)
            dsimp only at P0
            clear HX
            generalize b.ever = ev at *
            generalize b.reserve = re at *
            have d3 : decide (1048576 < ev + xc) = false := decide_eq_false t3
            have n1 : ¬ R = wr.heap.size := by omega
            have n2 : ¬ wr.heap.size = R := by omega
            as_aux_lemma =>
              go_wp2
              go_quiet (fail)
              obtain ⟨WQ, hWQ⟩ : ∃ WQ, WQ = WA.drewN nq := ⟨_, rfl⟩
              rw [← hWQ]
              have c0 : WQ.cell? ⟨wr.heap.size, 0, none⟩ = some (.int .i64 1) := by rw [hWQ]; simpa using c0
              have c2 : WQ.cell? ⟨wr.heap.size, 2, none⟩ = some (.int .i64 xc) := by rw [hWQ]; simpa using c2
              have r4 : WQ.cell? ⟨R, 4, none⟩ = some (.int .i64 re) := by rw [hWQ]; simpa using r4
              have r5 : WQ.cell? ⟨R, 5, none⟩ = some (.int .i64 ev) := by rw [hWQ]; simpa using r5
              have f4 : WQ.frozen? ⟨R, 4, none⟩ = false := by rw [hWQ]; exact f4
              have f5 : WQ.frozen? ⟨R, 5, none⟩ = false := by rw [hWQ]; exact f5
              have P1 := hid (show Beh w ((WQ.setCell ⟨R, 5, none⟩ (.int .i64 (ev + xc))).setCell ⟨R, 4, none⟩ (.int .i64 (re + xc))).drew.drew wr.heap.size R A G (.slice pd D.length cd) b D ⟨1, xw, xc⟩ by rw [hWQ]; exact P0.out (nq + 2))
              clear hWQ P0
              go_wp2
              go_region
              go_wp2
              go_region
              all_goals
                go_wp2
                go_meet
                case rel => exact ⟨rfl, (show Aside _ from P1.out)⟩
        have g1 : (xk == 1) = false := by simpa using hk1
        by_cases hk2 : xk = 2
        · subst hk2
          by_cases t1 : xw < 0
          · as_aux_lemma =>
              have P0 := hid (fun q => beh_no HX.out (E := 2) (by unfold Plain.caE; dsimp only; rw [if_neg (by omega), if_neg (by omega), if_pos rfl, if_pos (by omega)]) (by decide) q)
              clear HX hbn r6
              go_wp2
              go_quiet (fail)
              obtain ⟨WQ, hWQ⟩ : ∃ WQ, WQ = WA.drewN nq := ⟨_, rfl⟩
              rw [← hWQ]
              have c0 : WQ.cell? ⟨wr.heap.size, 0, none⟩ = some (.int .i64 2) := by rw [hWQ]; simpa using c0
              have c1 : WQ.cell? ⟨wr.heap.size, 1, none⟩ = some (.int .i64 xw) := by rw [hWQ]; simpa using c1
              have c2 : WQ.cell? ⟨wr.heap.size, 2, none⟩ = some (.int .i64 xc) := by rw [hWQ]; simpa using c2
              have y0 : WQ.cell? ⟨wr.heap.size + 1, 0, none⟩ = some (.int .i64 0) := by rw [hWQ]; simpa using y0
              have z0 : WQ.frozen? ⟨wr.heap.size + 1, 0, none⟩ = false := by rw [hWQ]; exact z0
              have P1 := hid (P0.out nq)
              rw [← hWQ] at P1
              clear hWQ P0
              go_wp2
              go_meet
              case rel => exact ⟨rfl, (show Aside _ from P1.out)⟩
          by_cases t2 : (bm : Int) ≤ xw
          · as_aux_lemma =>
              have P0 := hid (fun q => beh_no HX.out (E := 2) (by unfold Plain.caE; dsimp only; rw [if_neg (by omega), if_neg (by omega), if_pos rfl, if_pos (by rw [hbn]; omega)]) (by decide) q)
              clear HX hbn r6
              go_wp2
              go_quiet (fail)
              obtain ⟨WQ, hWQ⟩ : ∃ WQ, WQ = WA.drewN nq := ⟨_, rfl⟩
              rw [← hWQ]
              have c0 : WQ.cell? ⟨wr.heap.size, 0, none⟩ = some (.int .i64 2) := by rw [hWQ]; simpa using c0
              have c1 : WQ.cell? ⟨wr.heap.size, 1, none⟩ = some (.int .i64 xw) := by rw [hWQ]; simpa using c1
              have c2 : WQ.cell? ⟨wr.heap.size, 2, none⟩ = some (.int .i64 xc) := by rw [hWQ]; simpa using c2
              have y0 : WQ.cell? ⟨wr.heap.size + 1, 0, none⟩ = some (.int .i64 0) := by rw [hWQ]; simpa using y0
              have z0 : WQ.frozen? ⟨wr.heap.size + 1, 0, none⟩ = false := by rw [hWQ]; exact z0
              have P1 := hid (P0.out nq)
              rw [← hWQ] at P1
              clear hWQ P0
              go_wp2
              go_meet
              case rel => exact ⟨rfl, (show Aside _ from P1.out)⟩
          by_cases t3 : xc < 0
          · as_aux_lemma =>
              have P0 := hid (fun q => beh_no HX.out (E := 2) (by unfold Plain.caE; dsimp only; rw [if_neg (by omega), if_neg (by omega), if_pos rfl, if_pos (by omega)]) (by decide) q)
              clear HX hbn r6
              go_wp2
              go_quiet (fail)
              obtain ⟨WQ, hWQ⟩ : ∃ WQ, WQ = WA.drewN nq := ⟨_, rfl⟩
              rw [← hWQ]
              have c0 : WQ.cell? ⟨wr.heap.size, 0, none⟩ = some (.int .i64 2) := by rw [hWQ]; simpa using c0
              have c1 : WQ.cell? ⟨wr.heap.size, 1, none⟩ = some (.int .i64 xw) := by rw [hWQ]; simpa using c1
              have c2 : WQ.cell? ⟨wr.heap.size, 2, none⟩ = some (.int .i64 xc) := by rw [hWQ]; simpa using c2
              have y0 : WQ.cell? ⟨wr.heap.size + 1, 0, none⟩ = some (.int .i64 0) := by rw [hWQ]; simpa using y0
              have z0 : WQ.frozen? ⟨wr.heap.size + 1, 0, none⟩ = false := by rw [hWQ]; exact z0
              have P1 := hid (P0.out nq)
              rw [← hWQ] at P1
              clear hWQ P0
              go_wp2
              go_meet
              case rel => exact ⟨rfl, (show Aside _ from P1.out)⟩
          by_cases t4 : 1048576 < xc
          · as_aux_lemma =>
              have P0 := hid (fun q => beh_no HX.out (E := 2) (by unfold Plain.caE; dsimp only; rw [if_neg (by omega), if_neg (by omega), if_pos rfl, if_pos (by omega)]) (by decide) q)
              clear HX hbn r6
              go_wp2
              go_quiet (fail)
              obtain ⟨WQ, hWQ⟩ : ∃ WQ, WQ = WA.drewN nq := ⟨_, rfl⟩
              rw [← hWQ]
              have c0 : WQ.cell? ⟨wr.heap.size, 0, none⟩ = some (.int .i64 2) := by rw [hWQ]; simpa using c0
              have c1 : WQ.cell? ⟨wr.heap.size, 1, none⟩ = some (.int .i64 xw) := by rw [hWQ]; simpa using c1
              have c2 : WQ.cell? ⟨wr.heap.size, 2, none⟩ = some (.int .i64 xc) := by rw [hWQ]; simpa using c2
              have y0 : WQ.cell? ⟨wr.heap.size + 1, 0, none⟩ = some (.int .i64 0) := by rw [hWQ]; simpa using y0
              have z0 : WQ.frozen? ⟨wr.heap.size + 1, 0, none⟩ = false := by rw [hWQ]; exact z0
              have P1 := hid (P0.out nq)
              rw [← hWQ] at P1
              clear hWQ P0
              go_wp2
              go_meet
              case rel => exact ⟨rfl, (show Aside _ from P1.out)⟩
          obtain ⟨i, rfl⟩ : ∃ i : Nat, xw = (i : Int) := ⟨xw.toNat, by omega⟩
          have hE0 : Plain.caE b ⟨2, (i : Int), xc⟩ = 0 := by unfold Plain.caE; dsimp only; rw [if_neg (by omega), if_neg (by omega), if_pos rfl, if_neg (by rw [hbn]; omega)]
          have hib : i < b.n := by rw [hbn]; omega
          have ra : WA.cell? ⟨A, i, none⟩ = some (.int .i64 (b.wants.getD i 0)) := HX.out.ql.bk.ra.cell (by rw [HX.out.ql.bk.ok.lw]; exact hib)
          have fa := HX.out.ql.bk.ra.frozen i
          have hiz : (i : Int) < (bm : Int) := by omega
          have hi0 : (0 : Int) ≤ (i : Int) := by omega
          rw [hbn] at r6
          have n1 : ¬ A = wr.heap.size := by omega
          have n2 : ¬ wr.heap.size = A := by omega
          by_cases t5 : b.wants.getD i 0 < xc
          · have P0 := hid (fun q => beh_yes HX.out (by show (2 : Int) ≠ 3; decide) hE0 rfl (HX.out.ql.bk.want rfl hE0 rfl t5).1 (HX.out.ql.bk.want rfl hE0 rfl t5).2 q)
            dsimp only at P0
            clear HX hbn hib hE0
            generalize b.wants.getD i 0 = wv at *
            have d5 : decide (wv < xc) = true := decide_eq_true t5
            as_aux_lemma =>
              go_wp2
              go_quiet (fail)
              obtain ⟨WQ, hWQ⟩ : ∃ WQ, WQ = WA.drewN nq := ⟨_, rfl⟩
              rw [← hWQ]
              have c0 : WQ.cell? ⟨wr.heap.size, 0, none⟩ = some (.int .i64 2) := by rw [hWQ]; simpa using c0
              have c1 : WQ.cell? ⟨wr.heap.size, 1, none⟩ = some (.int .i64 (i : Int)) := by rw [hWQ]; simpa using c1
              have c2 : WQ.cell? ⟨wr.heap.size, 2, none⟩ = some (.int .i64 xc) := by rw [hWQ]; simpa using c2
              have y0 : WQ.cell? ⟨wr.heap.size + 1, 0, none⟩ = some (.int .i64 0) := by rw [hWQ]; simpa using y0
              have z0 : WQ.frozen? ⟨wr.heap.size + 1, 0, none⟩ = false := by rw [hWQ]; exact z0
              have r6 : WQ.cell? ⟨R, 6, none⟩ = some (.slice (some ⟨A, 0, none⟩) bm bm) := by rw [hWQ]; simpa using r6
              have ra : WQ.cell? ⟨A, i, none⟩ = some (.int .i64 wv) := by rw [hWQ]; simpa using ra
              have fa : WQ.frozen? ⟨A, i, none⟩ = false := by rw [hWQ]; exact fa
              have P1 := hid (fun q => show Beh w ((WQ.setCell ⟨A, i, none⟩ (.int .i64 xc)).drewN q) wr.heap.size R A G (.slice pd D.length cd) b D ⟨2, (i : Int), xc⟩ by rw [hWQ]; have := P0.out (nq + q); rw [← drewN_add] at this; exact this)
              clear hWQ P0
              go_wp2
              go_quiet (fail)
              obtain ⟨WP, hWP⟩ : ∃ WP, WP = WQ.drewN nq := ⟨_, rfl⟩
              rw [← hWP]
              have c1 : WP.cell? ⟨wr.heap.size, 1, none⟩ = some (.int .i64 (i : Int)) := by rw [hWP]; simpa using c1
              have c2 : WP.cell? ⟨wr.heap.size, 2, none⟩ = some (.int .i64 xc) := by rw [hWP]; simpa using c2
              have r6 : WP.cell? ⟨R, 6, none⟩ = some (.slice (some ⟨A, 0, none⟩) bm bm) := by rw [hWP]; simpa using r6
              have ra : WP.cell? ⟨A, i, none⟩ = some (.int .i64 wv) := by rw [hWP]; simpa using ra
              have fa : WP.frozen? ⟨A, i, none⟩ = false := by rw [hWP]; exact fa
              have P2 := hid (show Beh w (WP.setCell ⟨A, i, none⟩ (.int .i64 xc)).drew wr.heap.size R A G (.slice pd D.length cd) b D ⟨2, (i : Int), xc⟩ by rw [hWP]; exact P1.out (nq + 1))
              clear hWP P1
              go_wp2
              go_region
              all_goals
                go_wp2
                go_meet
                case rel => exact ⟨rfl, (show Aside _ from P2.out)⟩
          · have P0 := hid (fun q => beh_yes HX.out (by show (2 : Int) ≠ 3; decide) hE0 rfl (HX.out.ql.bk.less rfl hE0 rfl t5) (Un.refl _ _) q)
            clear HX hbn hib hE0
            generalize b.wants.getD i 0 = wv at *
            have d5 : decide (wv < xc) = false := decide_eq_false t5
            as_aux_lemma =>
              go_wp2
              go_quiet (fail)
              obtain ⟨WQ, hWQ⟩ : ∃ WQ, WQ = WA.drewN nq := ⟨_, rfl⟩
              rw [← hWQ]
              have c0 : WQ.cell? ⟨wr.heap.size, 0, none⟩ = some (.int .i64 2) := by rw [hWQ]; simpa using c0
              have c1 : WQ.cell? ⟨wr.heap.size, 1, none⟩ = some (.int .i64 (i : Int)) := by rw [hWQ]; simpa using c1
              have c2 : WQ.cell? ⟨wr.heap.size, 2, none⟩ = some (.int .i64 xc) := by rw [hWQ]; simpa using c2
              have y0 : WQ.cell? ⟨wr.heap.size + 1, 0, none⟩ = some (.int .i64 0) := by rw [hWQ]; simpa using y0
              have z0 : WQ.frozen? ⟨wr.heap.size + 1, 0, none⟩ = false := by rw [hWQ]; exact z0
              have r6 : WQ.cell? ⟨R, 6, none⟩ = some (.slice (some ⟨A, 0, none⟩) bm bm) := by rw [hWQ]; simpa using r6
              have ra : WQ.cell? ⟨A, i, none⟩ = some (.int .i64 wv) := by rw [hWQ]; simpa using ra
              have P1 := hid (fun q => show Beh w (WQ.drewN q) wr.heap.size R A G (.slice pd D.length cd) b D ⟨2, (i : Int), xc⟩ by rw [hWQ, drewN_add]; exact P0.out (nq + q))
              clear hWQ P0
              go_wp2
              go_quiet (fail)
              have P2 := hid (P1.out nq)
              clear P1
              go_wp2
              go_meet
              case rel => exact ⟨rfl, (show Aside _ from P2.out)⟩
        · have g2 : (xk == 2) = false := by simpa using hk2
          as_aux_lemma =>
              have P0 := hid (fun q => beh_no HX.out (E := 3) (by unfold Plain.caE; dsimp only; rw [if_neg hk3, if_neg hk1, if_neg hk2]) (by decide) q)
              clear HX hbn r6
              go_wp2
              go_quiet (fail)
              obtain ⟨WQ, hWQ⟩ : ∃ WQ, WQ = WA.drewN nq := ⟨_, rfl⟩
              rw [← hWQ]
              have c0 : WQ.cell? ⟨wr.heap.size, 0, none⟩ = some (.int .i64 xk) := by rw [hWQ]; simpa using c0
              have c1 : WQ.cell? ⟨wr.heap.size, 1, none⟩ = some (.int .i64 xw) := by rw [hWQ]; simpa using c1
              have c2 : WQ.cell? ⟨wr.heap.size, 2, none⟩ = some (.int .i64 xc) := by rw [hWQ]; simpa using c2
              have y0 : WQ.cell? ⟨wr.heap.size + 1, 0, none⟩ = some (.int .i64 0) := by rw [hWQ]; simpa using y0
              have z0 : WQ.frozen? ⟨wr.heap.size + 1, 0, none⟩ = false := by rw [hWQ]; exact z0
              have P1 := hid (P0.out nq)
              rw [← hWQ] at P1
              clear hWQ P0
              go_wp2
              go_meet
              case rel => exact ⟨rfl, (show Aside _ from P1.out)⟩
      case rest =>
        obtain ⟨rfl, hcut2⟩ := hcut
        as_aux_lemma =>
          obtain ⟨S1, Q1, t, hq, hrb, hT, hN⟩ := hcut2.out
          have HT := hid hT
          obtain ⟨pn, cn, U, hrun, hU⟩ := hq.snoc (by have := HDL.out; omega) t hN
          have HU := hid hU
          have RUN := hid hrun
          clear hcut2 hT hN hU hrun hq HX
          obtain ⟨⟨tc, td, tr⟩, tp, tq⟩ := t
          have y0 : wc.cell? ⟨wr.heap.size + 1, 0, none⟩ = some (.int .i64 (tc : Nat)) := hrb.cell (i := 0) (by omega)
          have y1 : wc.cell? ⟨wr.heap.size + 1, 1, none⟩ = some (.slice tp td.length tq) := hrb.cell (i := 1) (by omega)
          have y2 : wc.cell? ⟨wr.heap.size + 1, 2, none⟩ = some (.int .i64 tr) := hrb.cell (i := 2) (by omega)
          clear hrb
          have hRun : (Builtin.append_ #[40, 40] 40 #[.slice pd D.length cd, .slice (some ⟨wc.heap.size, 0, none⟩) 1 1]).run Try.prog (wc.alloc (.cells #[.int .i64 (tc : Nat), .slice tp td.length tq, .int .i64 tr] 44)) = .ok (.slice pn (D.length + 1) cn) U := RUN.out
          have RUN2 := hid hRun
          clear RUN hRun
          go_wp2_with (first | (at_builtin; refine wpList_app _ _ 40 RUN2.out (by rfl) (by rfl) (by rfl) (by rfl) (by rfl) ?_) | fail)
          go_wp2
          go_roundg (n - (k + 1))
          case measure => omega
          case rel =>
            refine ⟨k + 1, D ++ [⟨⟨tc, td, tr⟩, tp, tq⟩], pn, cn, by omega, by omega, by go_num, ?_, (show Aside _ from ⟨S1, Q1, ?_⟩), (show Aside _ from ?_)⟩
            · rw [List.length_append]; rfl
            · rw [RT.out, List.length_append]; exact HU.out
            · rw [PT.out, List.map_append, HD.out, ← HT.out]; rfl
    · have hltz : ¬ (k : Int) < (n : Int) := by omega
      have ek : k = n := by omega
      have hall : l.take k = l := List.take_of_length_le (by rw [HN.out]; omega)
      obtain ⟨S, Q, hi⟩ := A0.out
      have hD := AD.out
      rw [hall] at hi hD
      have hDl : D.length = n := by
        have := congrArg List.length hD
        rw [List.length_map, Plain.bookF_len, HN.out] at this
        exact this
      obtain ⟨pd1, cd1, e3, fD, _, _⟩ := encU.owns hi.dw rfl
      injection e3 with e3 _ e3c
      subst e3 e3c
      have HX := hid (playP_yes (c := cd) HN.out HE.out hi.be (by rw [Int.toNat_natCast, Int.toNat_natCast]; exact hD) ⟨fD, fun r hr => (hi.bs r hr).free⟩)
      clear hi hD A0 AD hall fD
      generalize D.length = dl at *
      subst hDl
      go_wp2
      go_ret2
      exact HX.out

/-- The document's BookPlayed. -/
theorem rplay_c (p : Option Addr) (n cap : Nat) (bn mo ti : Int) (l : List Plain.Ca) (hbig : n ≤ 9223372036854775807) (w : World) (hn : l.length = n) (hp : encC.Holds w p l) :
    Calls Try.prog 15 #[.int .i64 bn, .int .i64 mo, .int .i64 ti, .slice p n cap] w fun e w' => PlayP bn mo ti l w e w' := by
  by_cases h : Plain.bookE bn mo ti l = 0
  · exact rplay_yes p n cap bn mo ti l h w hn hp
  · exact rplay_no p n cap bn mo ti l hbig h w hn
end Go.Proofs.Ytiolkeghgodggaj.Bo

/-
  book.Play.
-/
import Derived.Test.YtiolkeghgodggajY8
namespace Go.Proofs.Ytiolkeghgodggaj.Bo
open Go.RowKit Go.Shelf Go.Sort

set_option maxHeartbeats 4000000 in
set_option maxRecDepth 100000 in
theorem play_no (p : Option Addr) (n cap : Nat) (bn mo ti : Int) (l : List Plain.Ca) (hbig : n ≤ 9223372036854775807) (hE : Plain.bookE bn mo ti l ≠ 0) (w : World) (hn : l.length = n) :
    Calls Try.prog 14 #[.int .i64 bn, .int .i64 mo, .int .i64 ti, .slice p n cap] w fun e w' => PlayP bn mo ti l w e w' := by
  have P0 := hid (fun E w' (b : Below w.heap.size w w') (h : Plain.bookE bn mo ti l = E) (h0 : E ≠ 0) => playP_no h h0 w w' b)
  have D0 : Plain.bookE bn mo ti l = if ((bn < 1 ∨ 8 < bn) ∨ (mo < 0 ∨ 1048576 < mo)) ∨ (ti < 1 ∨ 8 < ti) then 2 else if 300 < n then 1 else 0 := by unfold Plain.bookE; rw [hn]
  rw [D0] at hE
  rw [D0] at P0
  clear D0 hn
  by_cases h1 : ((bn < 1 ∨ 8 < bn) ∨ (mo < 0 ∨ 1048576 < mo)) ∨ (ti < 1 ∨ 8 < ti)
  · have P1 := hid (fun w' b => P0.out 2 w' b (by rw [if_pos h1]) (by decide))
    have K1 := new_no bn mo ti h1 w
    clear P0 hE h1
    go_enter Try.func14, Try.ntmps14
    go_wp2_with fail
    refine K1.mono ?_
    rintro e wx ⟨rfl, bx⟩
    have B1 := hid (show Below w.heap.size w (wx.alloc (.cells zeroB 62)) from bx.alloc bx.size _)
    clear K1 bx
    go_wp2
    go_ret2
    exact P1.out _ B1.out
  · rw [if_neg h1] at hE
    have h4 : 300 < n := by
      by_cases x : 300 < n
      · exact x
      · rw [if_neg x] at hE; exact absurd rfl hE
    have h4z : (300 : Int) < (n : Int) := by omega
    have P1 := hid (fun w' b => P0.out 1 w' b (by rw [if_neg h1, if_pos h4]) (by decide))
    obtain ⟨bm, rfl⟩ : ∃ bm : Nat, bn = (bm : Int) := ⟨bn.toNat, by omega⟩
    obtain ⟨tk, rfl⟩ : ∃ tk : Nat, ti = (tk : Int) := ⟨ti.toNat, by omega⟩
    have K1 := new_yes bm tk mo (by omega) (by omega) (by omega) w
    clear P0 hE h1
    go_enter Try.func14, Try.ntmps14
    go_wp2_with fail
    refine K1.mono ?_
    rintro e wx ⟨A, G, rfl, hA, hG, gA, gG, ne, bx⟩
    have B1 := hid (show Below w.heap.size w (wx.alloc (.cells (cellsB mo tk A G bm) 62)) from bx.alloc bx.size _)
    clear K1 bx hA hG gA gG ne
    go_wp2
    go_ret2
    exact P1.out _ B1.out

set_option maxHeartbeats 4000000 in
set_option maxRecDepth 100000 in
theorem play_yes (p : Option Addr) (n cap : Nat) (bn mo ti : Int) (l : List Plain.Ca) (hE : Plain.bookE bn mo ti l = 0) (w : World) (hn : l.length = n) (hp : encC.Holds w p l) :
    Calls Try.prog 14 #[.int .i64 bn, .int .i64 mo, .int .i64 ti, .slice p n cap] w fun e w' => PlayP bn mo ti l w e w' := by
  have D0 : Plain.bookE bn mo ti l = if ((bn < 1 ∨ 8 < bn) ∨ (mo < 0 ∨ 1048576 < mo)) ∨ (ti < 1 ∨ 8 < ti) then 2 else if 300 < n then 1 else 0 := by unfold Plain.bookE; rw [hn]
  have hall : (1 ≤ bn ∧ bn ≤ 8) ∧ (0 ≤ mo ∧ mo ≤ 1048576) ∧ (1 ≤ ti ∧ ti ≤ 8) ∧ n ≤ 300 := by
    rw [D0] at hE
    by_cases x : ((bn < 1 ∨ 8 < bn) ∨ (mo < 0 ∨ 1048576 < mo)) ∨ (ti < 1 ∨ 8 < ti)
    · rw [if_pos x] at hE; omega
    · rw [if_neg x] at hE
      by_cases y : 300 < n
      · rw [if_pos y] at hE; omega
      · omega
  clear D0
  obtain ⟨h1, h2, h3, h4⟩ := hall
  have hz : ¬ (300 : Int) < (n : Int) := by omega
  have HE := hid hE
  clear hE
  obtain ⟨bm, rfl⟩ : ∃ bm : Nat, bn = (bm : Int) := ⟨bn.toNat, by omega⟩
  obtain ⟨tk, rfl⟩ : ∃ tk : Nat, ti = (tk : Int) := ⟨ti.toNat, by omega⟩
  have K1 := new_yes bm tk mo h1 h2 h3 w
  have hmk : ∀ W : World, (Instr.makeSlice 40 (.int .i64 (n : Int)) (.int .i64 (n : Int))).run Try.prog W = .ok (.slice (some ⟨W.heap.size, 0, none⟩) n n) (W.alloc (.cells (madeCells #[.int .i64 0, .slice none 0 0, .int .i64 0] (n * 3)) 44)) := fun W => by
    obtain ⟨i0, hi, hz0, hz1, hz2⟩ := info_parts Try.infoRu
    have := run_make (P := Try.prog) W 40 44 i0 _ Try.underlying40 hi hz0 .i64 .i64 (n : Int) (n : Int) (by omega) (Int.le_refl _) (by rw [hz2]; omega) (by omega)
    rw [hz1, show (Value.agg #[.int .i64 0, .slice none 0 0, .int .i64 0]).cells = #[.int .i64 0, .slice none 0 0, .int .i64 0] from rfl] at this
    simpa using this
  have HP := hid hp
  have HN := hid hn
  clear hp hn
  go_enter Try.func14, Try.ntmps14
  go_wp2_with fail
  refine K1.mono ?_
  rintro e wx ⟨A, G, rfl, hA, hG, gA, gG, ne, bx⟩
  obtain ⟨WR, hWR⟩ : ∃ WR, WR = wx.alloc (.cells (cellsB mo tk A G bm) 62) := ⟨_, rfl⟩
  have bR : Below w.heap.size w WR := by rw [hWR]; exact bx.alloc bx.size _
  have T0 := PlB.told0 WR n
  obtain ⟨WT, hWT⟩ : ∃ WT, WT = WR.alloc (.cells (madeCells #[.int .i64 0, .slice none 0 0, .int .i64 0] (n * 3)) 44) := ⟨_, rfl⟩
  have bT : Below WR.heap.size WR WT := by rw [hWT]; exact (Below.refl _ _).alloc (Nat.le_refl _) _
  have bxR : Below wx.heap.size wx WR := by rw [hWR]; exact (Below.refl _ _).alloc (Nat.le_refl _) _
  have sR : WR.heap.size = wx.heap.size + 1 := by rw [hWR]; simp
  have rR : WR.heap[wx.heap.size]? = some (.cells (cellsB mo tk A G bm) 62 (0, 0)) := by rw [hWR]; exact Deep.blk_alloc_new _ _
  have ST := hid (show PlB w WT WR.heap.size wx.heap.size A G (.slice none 0 0) (Plain.Bk.new bm mo tk) [] n 0 by
    rw [← hWT] at T0
    have hAl := hA.lt
    have hGl := hG.lt
    have hwx := bx.size
    refine ⟨BkI.fresh (by omega) (by omega) h2 (by omega) (by omega) (Win.of_all ⟨_, (bT.block _ (by omega)).trans rR, rfl, cellsB_at mo tk A G bm⟩) ((hA.of_block (bxR.block _ hAl)).of_block (bT.block _ (by omega))) ((hG.of_block (bxR.block _ hGl)).of_block (bT.block _ (by omega))) hwx gA gG (by omega) (by omega) ne (by decide), T0, fun r hr => (nomatch hr), bR.trans (bT.mono bR.size), fun x => ?_, by omega⟩
    rcases x with x | x | x | x
    · omega
    · omega
    · omega
    · simp [Value.ownBlock] at x)
  clear K1 hA hG gA gG ne bx bR T0 bT bxR rR
  have SR := hid sR
  clear sR
  go_wp2
  rw [← hWR, ← hWT]
  clear hWR hWT hmk
  obtain ⟨T, hT⟩ : ∃ T, T = WR.heap.size := ⟨_, rfl⟩
  rw [SR.out] at hT
  rw [SR.out, ← hT] at ST
  rw [← hT]
  clear hT
  generalize wx.heap.size = R at *
  go_loopg [13, 14, 33] n (fun gg _ _ s33 wx => ∃ k : Nat, k ≤ n ∧ n - k ≤ gg ∧ s33 = .int .i64 k ∧ Aside (∃ vl D N, PlB w wx T R A G vl (Plain.bkF (Plain.Bk.new bm mo tk) (l.take k)) D n N ∧ N ≤ k ∧ D.map RU.d = Plain.bookF (Plain.Bk.new bm mo tk) (l.take k)))
  case atStart => exact ⟨0, Nat.zero_le _, by omega, rfl, (show Aside _ from ⟨_, _, _, ST.out, Nat.le_refl _, rfl⟩)⟩
  case round =>
    obtain ⟨k, hkk, hg, rfl, A0⟩ := hrel
    clear ST
    by_cases hlt : k < n
    · have hltz : (k : Int) < (n : Int) := by omega
      have hll : k < l.length := by rw [HN.out]; exact hlt
      obtain ⟨vl, D, N, hi, hNk, hD⟩ := A0.out
      have HI0 := hid hi
      have HD := hid hD
      clear hi hD A0
      have HMv := HP.out.grow (show Below w.heap.size w wr from HI0.out.be)
      obtain ⟨b, off, rfl, hb, hc⟩ := holdsC HMv (by omega)
      obtain ⟨c0, c1, c2⟩ := hc k hll
      clear hc HMv
      have RT := hid (Plain.bkF_take (Plain.Bk.new bm mo tk) l k hll)
      have PT := hid (Plain.bookF_take (Plain.Bk.new bm mo tk) l k hll)
      have hDl : D.length = k := by
        have := congrArg List.length HD.out
        rw [List.length_map, Plain.bookF_len, List.length_take] at this
        omega
      have HDL := hid hDl
      clear hDl
      generalize l.getD k default = x at c0 c1 c2 RT PT
      generalize Plain.bkF (Plain.Bk.new bm mo tk) (l.take k) = bb at HI0 RT PT
      generalize Plain.bookF (Plain.Bk.new bm mo tk) (l.take k) = s at HD PT
      have HIa := hid (HI0.out.grow (wy := wr.alloc (boxC x)) ((Below.refl _ _).alloc (Nat.le_refl _) _))
      have K := do_any w.heap.size R 0 A G N winB vl bb x (by omega) (wr.alloc (boxC x)) HIa.out.bk
      clear HI0
      obtain ⟨xk, xw, xc⟩ := x
      dsimp only at c0 c1 c2
      go_wp2_with fail
      refine K.mono ?_
      rintro e W3 ⟨⟨⟨tc, td, tr⟩, tp, tq⟩, vl', N', rfl, hT, hI, hN', un, hs, hf⟩
      have HI3 := hid (HIa.out.call hI un hf)
      have HT := hid hT
      have hal : T < (wr.alloc (boxC ⟨xk, xw, xc⟩)).heap.size := HIa.out.tl.lt
      have HY := hid (show Ns (fun k => Fb R A G vl' k ∨ k = T) W3 tp tq td from hs.keep (Un.refl _ _) (fun k _ y => y.imp id (fun e => by rw [e]; exact hal)))
      clear hT hI un hs hf K HIa c0 c1 c2 hal
      have y0 := HI3.out.tl.cell (i := k * 3) (by omega)
      have y1 := HI3.out.tl.cell (i := k * 3 + 1) (by omega)
      have y2 := HI3.out.tl.cell (i := k * 3 + 2) (by omega)
      have z0 := HI3.out.tl.frozen (k * 3)
      have z1 := HI3.out.tl.frozen (k * 3 + 1)
      have z2 := HI3.out.tl.frozen (k * 3 + 2)
      go_wp2
      obtain ⟨W6, hW6⟩ : ∃ W6, W6 = ((W3.setCell ⟨T, k * 3, none⟩ (.int .i64 (tc : Nat))).setCell ⟨T, k * 3 + 1, none⟩ (.slice tp td.length tq)).setCell ⟨T, k * 3 + 2, none⟩ (.int .i64 tr) := ⟨_, rfl⟩
      rw [← hW6]
      have F6 := hid (show PlB w W6 T R A G vl' (Plain.caB bb ⟨xk, xw, xc⟩) (D ++ [⟨⟨tc, td, tr⟩, tp, tq⟩]) n N' by rw [hW6]; exact HI3.out.told k HDL.out ⟨⟨tc, td, tr⟩, tp, tq⟩ HY.out)
      clear hW6 y0 y1 y2 z0 z1 z2 HI3
      go_roundg (n - (k + 1))
      case measure => omega
      case rel =>
        refine ⟨k + 1, by omega, by omega, by go_num, (show Aside _ from ⟨vl', D ++ [⟨⟨tc, td, tr⟩, tp, tq⟩], N', ?_, by omega, ?_⟩)⟩
        · rw [RT.out]; exact F6.out
        · rw [PT.out, List.map_append, HD.out, ← HT.out]; rfl
    · have hltz : ¬ (k : Int) < (n : Int) := by omega
      have ek : k = n := by omega
      have hall : l.take k = l := List.take_of_length_le (by rw [HN.out]; omega)
      obtain ⟨vl, D, N, hi, hNk, hD⟩ := A0.out
      rw [hall] at hi hD
      have hDl : D.length = n := by
        have := congrArg List.length hD
        rw [List.length_map, Plain.bookF_len, HN.out] at this
        exact this
      have HX := hid (playP_yes (c := n) HN.out HE.out hi.be (by rw [Int.toNat_natCast, Int.toNat_natCast]; exact hD) ⟨hi.holds hDl, fun r hr => (hi.bs r hr).free⟩)
      clear hi hD A0 hall hDl
      go_wp2
      go_ret2
      exact HX.out

/-- book.Play. -/
theorem play_c (p : Option Addr) (n cap : Nat) (bn mo ti : Int) (l : List Plain.Ca) (hbig : n ≤ 9223372036854775807) (w : World) (hn : l.length = n) (hp : encC.Holds w p l) :
    Calls Try.prog 14 #[.int .i64 bn, .int .i64 mo, .int .i64 ti, .slice p n cap] w fun e w' => PlayP bn mo ti l w e w' := by
  by_cases h : Plain.bookE bn mo ti l = 0
  · exact play_yes p n cap bn mo ti l h w hn hp
  · exact play_no p n cap bn mo ti l hbig h w hn
end Go.Proofs.Ytiolkeghgodggaj.Bo

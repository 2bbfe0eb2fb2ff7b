/-
  book.Play.
-/
import Derived.Test.YtjdalbkpilenbajY8
namespace Go.Proofs.Ytjdalbkpilenbaj
open Go.RowKit Go.Shelf Go.Sort

theorem al3 (W : World) (o1 o2 o3 : Obj) : (((W.alloc o1).alloc o2).alloc o3).drew.heap[W.heap.size]? = some o1 ∧ (((W.alloc o1).alloc o2).alloc o3).drew.heap[W.heap.size + 1]? = some o2 ∧ (((W.alloc o1).alloc o2).alloc o3).drew.heap[W.heap.size + 1 + 1]? = some o3 ∧ Below W.heap.size W (((W.alloc o1).alloc o2).alloc o3).drew := by
  have s1 : (W.alloc o1).heap.size = W.heap.size + 1 := by simp
  have s2 : ((W.alloc o1).alloc o2).heap.size = W.heap.size + 1 + 1 := by simp
  have b2 : Below (W.alloc o1).heap.size (W.alloc o1) ((W.alloc o1).alloc o2) := (Below.refl _ _).alloc (Nat.le_refl _) _
  have b3 : Below ((W.alloc o1).alloc o2).heap.size ((W.alloc o1).alloc o2) (((W.alloc o1).alloc o2).alloc o3) := (Below.refl _ _).alloc (Nat.le_refl _) _
  refine ⟨?_, ?_, ?_, ((((Below.refl _ _).alloc (Nat.le_refl _) _).alloc (by omega) _).alloc (by omega) _).drew⟩
  · exact (b3.block _ (by omega)).trans ((b2.block _ (by omega)).trans (Deep.blk_alloc_new _ _))
  · have := Deep.blk_alloc_new (W.alloc o1) o2
    rw [s1] at this
    exact (b3.block _ (by omega)).trans this
  · have := Deep.blk_alloc_new ((W.alloc o1).alloc o2) o3
    rw [s2] at this
    exact this
/-- A broker who has nothing, and nothing was told. -/
theorem PlB.start {w W0 wx : World} {R A G n bm tk : Nat} {mo : Int} (h1 : 1 ≤ (bm : Int) ∧ (bm : Int) ≤ 8) (h2 : 0 ≤ mo ∧ mo ≤ 1048576) (h3 : 1 ≤ (tk : Int) ∧ (tk : Int) ≤ 8) (t0 : W0.rowIs w.heap.size 44 (n * 3) (toldF [])) (b0 : Below w.heap.size w W0) (hs : W0.heap.size = w.heap.size + 1) (b1 : Below W0.heap.size W0 wx)
    (hR : wx.heap[R]? = some (.cells #[.int .i64 mo, .int .i64 (tk : Int), .int .i64 0, .int .i64 0, .slice (some ⟨A, 0, none⟩) bm bm, .slice (some ⟨G, 0, none⟩) bm bm, .slice none 0 0, .int .i64 0] 63)) (hA : wx.heap[A]? = some (.cells (madeCells #[.int .i64 0] bm) 3)) (hG : wx.heap[G]? = some (.cells (madeCells #[.int .i64 0] bm) 3))
    (gR : W0.heap.size ≤ R) (gA : W0.heap.size ≤ A) (gG : W0.heap.size ≤ G) (RA : R ≠ A) (RG : R ≠ G) (AG : A ≠ G) : PlB w wx R A G (.slice none 0 0) (Plain.Bk.new bm mo tk) [] n 0 := by
  have mk : ∀ {b}, wx.heap[b]? = some (.cells (madeCells #[.int .i64 0] bm) 3) → wx.rowIs b 3 bm (fun _ => .int .i64 0) := fun h => ⟨_, h, size_madeCells _ _, fun i hi => by simp [madeCells, hi, Nat.mod_one]⟩
  refine ⟨BkI.fresh (by omega) (by omega) h2 (by omega) (by omega) ⟨_, hR, rfl, fun i hi => ?_⟩ (mk hA) (mk hG) (by omega) (by omega) (by omega) RA RG AG, t0.of_block (b1.block _ t0.lt), fun r hr => (nomatch hr), b0.trans (b1.mono b0.size)⟩
  have : i = 0 ∨ i = 1 ∨ i = 2 ∨ i = 3 ∨ i = 4 ∨ i = 5 ∨ i = 6 ∨ i = 7 := by omega
  rcases this with rfl | rfl | rfl | rfl | rfl | rfl | rfl | rfl <;> rfl

set_option maxHeartbeats 4000000 in
set_option maxRecDepth 100000 in
theorem play_no (p : Option Addr) (n cap : Nat) (bn mo ti : Int) (l : List Plain.Ca) (hbig : n ≤ 9223372036854775807) (hE : Plain.bookE bn mo ti l ≠ 0) (w : World) (hn : l.length = n) :
    Calls Try.prog 14 #[.int .i64 bn, .int .i64 mo, .int .i64 ti, .slice p n cap] w fun e w' => PlayP bn mo ti l w e w' := by
  have P0 := hid (fun E (h : Plain.bookE bn mo ti l = E) (h0 : E ≠ 0) => playP_no h h0 w w (Below.refl _ _))
  have D0 : Plain.bookE bn mo ti l = if ((bn < 1 ∨ 8 < bn) ∨ (mo < 0 ∨ 1048576 < mo)) ∨ (ti < 1 ∨ 8 < ti) then 2 else if 300 < n then 1 else 0 := by unfold Plain.bookE; rw [hn]
  rw [D0] at hE
  rw [D0] at P0
  clear D0 hn
  by_cases h1 : 1 ≤ bn ∧ bn ≤ 8
  case neg =>
    have P1 := hid (P0.out 2 (by rw [if_pos (by omega)]) (by decide))
    have K1 := from_f h1 w
    clear P0 hE h1
    go_enter Try.func14, Try.ntmps14
    go_wp2_with fail
    refine K1.mono ?_
    rintro e wx ⟨rfl, hx⟩
    have hy := hx.symm
    clear hx K1
    subst hy
    go_wp2
    go_ret2
    exact P1.out
  by_cases h2 : 0 ≤ mo ∧ mo ≤ 1048576
  case neg =>
    have P1 := hid (P0.out 2 (by rw [if_pos (by omega)]) (by decide))
    have K1 := from_t h1 w
    have K2 := from_f h2 w
    clear P0 hE h1 h2
    go_enter Try.func14, Try.ntmps14
    go_wp2_with fail
    refine K1.mono ?_
    rintro e wx ⟨rfl, hx⟩
    have hy := hx.symm
    clear hx K1
    subst hy
    go_wp2_with fail
    refine K2.mono ?_
    rintro e wx ⟨rfl, hx⟩
    have hy := hx.symm
    clear hx K2
    subst hy
    go_wp2
    go_ret2
    exact P1.out
  by_cases h3 : 1 ≤ ti ∧ ti ≤ 8
  case neg =>
    have P1 := hid (P0.out 2 (by rw [if_pos (by omega)]) (by decide))
    have K1 := from_t h1 w
    have K2 := from_t h2 w
    have K3 := from_f h3 w
    clear P0 hE h1 h2 h3
    go_enter Try.func14, Try.ntmps14
    go_wp2_with fail
    refine K1.mono ?_
    rintro e wx ⟨rfl, hx⟩
    have hy := hx.symm
    clear hx K1
    subst hy
    go_wp2_with fail
    refine K2.mono ?_
    rintro e wx ⟨rfl, hx⟩
    have hy := hx.symm
    clear hx K2
    subst hy
    go_wp2_with fail
    refine K3.mono ?_
    rintro e wx ⟨rfl, hx⟩
    have hy := hx.symm
    clear hx K3
    subst hy
    go_wp2
    go_ret2
    exact P1.out
  have h4 : 300 < n := by
    rw [if_neg (by omega)] at hE
    by_cases x : 300 < n
    · exact x
    · rw [if_neg x] at hE; exact absurd rfl hE
  have h4z : (300 : Int) < (n : Int) := by omega
  have P1 := hid (P0.out 1 (by rw [if_neg (by omega), if_pos h4]) (by decide))
  have K1 := from_t h1 w
  have K2 := from_t h2 w
  have K3 := from_t h3 w
  clear P0 hE h1 h2 h3
  go_enter Try.func14, Try.ntmps14
  go_wp2_with fail
  refine K1.mono ?_
  rintro e wx ⟨rfl, hx⟩
  have hy := hx.symm
  clear hx K1
  subst hy
  go_wp2_with fail
  refine K2.mono ?_
  rintro e wx ⟨rfl, hx⟩
  have hy := hx.symm
  clear hx K2
  subst hy
  go_wp2_with fail
  refine K3.mono ?_
  rintro e wx ⟨rfl, hx⟩
  have hy := hx.symm
  clear hx K3
  subst hy
  go_wp2
  go_ret2
  exact P1.out

set_option maxHeartbeats 4000000 in
set_option maxRecDepth 100000 in
theorem play_yes (p : Option Addr) (n cap : Nat) (bn mo ti : Int) (l : List Plain.Ca) (hE : Plain.bookE bn mo ti l = 0) (w : World) (hn : l.length = n) (hp : encC.Holds w p l) :
    Calls Try.prog 14 #[.int .i64 bn, .int .i64 mo, .int .i64 ti, .slice p n cap] w fun e w' => PlayP bn mo ti l w e w' := by
  have D0 : Plain.bookE bn mo ti l = if ((bn < 1 ∨ 8 < bn) ∨ (mo < 0 ∨ 1048576 < mo)) ∨ (ti < 1 ∨ 8 < ti) then 2 else if 300 < n then 1 else 0 := by unfold Plain.bookE; rw [hn]
  have hall : (1 ≤ bn ∧ bn ≤ 8) ∧ (0 ≤ mo ∧ mo ≤ 1048576) ∧ (1 ≤ ti ∧ ti ≤ 8) ∧ n ≤ 300 := by
    rw [D0] at hE
    by_cases x : ((bn < 1 ∨ 8 < bn) ∨ (mo < 0 ∨ 1048576 < mo)) ∨ (ti < 1 ∨ 8 < ti)
    · rw [if_pos x] at hE; omega
    · rw [if_neg x] at hE
      by_cases y : 300 < n
      · rw [if_pos y] at hE; omega
      · omega
  clear D0
  obtain ⟨h1, h2, h3, h4⟩ := hall
  have hz : ¬ (300 : Int) < (n : Int) := by omega
  have HE := hid hE
  clear hE
  obtain ⟨bm, rfl⟩ : ∃ bm : Nat, bn = (bm : Int) := ⟨bn.toNat, by omega⟩
  obtain ⟨tk, rfl⟩ : ∃ tk : Nat, ti = (tk : Int) := ⟨ti.toNat, by omega⟩
  have K1 := from_t h1 w
  have K2 := from_t h2 w
  have K3 := from_t h3 w
  have hmk : ∀ W : World, (Instr.makeSlice 40 (.int .i64 (n : Int)) (.int .i64 (n : Int))).run Try.prog W = .ok (.slice (some ⟨W.heap.size, 0, none⟩) n n) (W.alloc (.cells (madeCells #[.int .i64 0, .slice none 0 0, .int .i64 0] (n * 3)) 44)) := fun W => by
    obtain ⟨i0, hi, hz0, hz1, hz2⟩ := info_parts Try.infoRu
    have := run_make (P := Try.prog) W 40 44 i0 _ Try.underlying40 hi hz0 .i64 .i64 (n : Int) (n : Int) (by omega) (Int.le_refl _) (by rw [hz2]; omega) (by omega)
    rw [hz1, show (Value.agg #[.int .i64 0, .slice none 0 0, .int .i64 0]).cells = #[.int .i64 0, .slice none 0 0, .int .i64 0] from rfl] at this
    simpa using this
  have hmb := run_make_row' (P := Try.prog) 29 3 (.int .i64 0) 8 Try.underlying29 Try.infoInt rfl .i64 .i64 bm (by omega) (by omega)
  have T0 := hid (PlB.told0 w n)
  have HP := hid hp
  have HN := hid hn
  clear hp hn
  go_enter Try.func14, Try.ntmps14
  go_wp2_with fail
  refine K1.mono ?_
  rintro e wx ⟨rfl, hx⟩
  have hy := hx.symm
  clear hx K1
  subst hy
  go_wp2_with fail
  refine K2.mono ?_
  rintro e wx ⟨rfl, hx⟩
  have hy := hx.symm
  clear hx K2
  subst hy
  go_wp2_with fail
  refine K3.mono ?_
  rintro e wx ⟨rfl, hx⟩
  have hy := hx.symm
  clear hx K3
  subst hy
  go_wp2
  clear hmk
  obtain ⟨W0, hW0⟩ : ∃ W0, W0 = w.alloc (.cells (madeCells #[.int .i64 0, .slice none 0 0, .int .i64 0] (n * 3)) 44) := ⟨_, rfl⟩
  rw [← hW0] at T0 ⊢
  have B0 := hid (show Below w.heap.size w W0 by rw [hW0]; exact (Below.refl _ _).alloc (Nat.le_refl _) _)
  have hs0 := hid (show W0.heap.size = w.heap.size + 1 by rw [hW0]; simp)
  clear hW0
  go_cut [11] from 33 to 39 (fun s11 wx => ∃ R A G, s11 = .pointer (some ⟨R, 0, none⟩) ∧ PlB w wx R A G (.slice none 0 0) (Plain.Bk.new bm mo tk) [] n 0)
  case first =>
    go_region
    all_goals (try go_wp2_with fail)
    all_goals go_meet
    all_goals exact ⟨_, _, _, rfl, PlB.start h1 h2 h3 T0.out B0.out hs0.out (al3 _ _ _ _).2.2.2 (by first | exact (al3 _ _ _ _).2.2.1 | exact (al3 _ _ _ _).2.1 | exact (al3 _ _ _ _).1) (by first | exact (al3 _ _ _ _).2.2.1 | exact (al3 _ _ _ _).2.1 | exact (al3 _ _ _ _).1) (by first | exact (al3 _ _ _ _).2.2.1 | exact (al3 _ _ _ _).2.1 | exact (al3 _ _ _ _).1) (by omega) (by omega) (by omega) (by omega) (by omega) (by omega)⟩
  case rest =>
    obtain ⟨R, A, G, rfl, ST0⟩ := hcut
    have ST := hid ST0
    clear ST0 hmb T0 B0 hs0
    go_wp2
    go_loopg [12, 13, 42] n (fun gg _ _ s42 wx => ∃ k : Nat, k ≤ n ∧ n - k ≤ gg ∧ s42 = .int .i64 k ∧ Aside (∃ vl D N, PlB w wx R A G vl (Plain.bkF (Plain.Bk.new bm mo tk) (l.take k)) D n N ∧ N ≤ k ∧ D.map RU.d = Plain.bookF (Plain.Bk.new bm mo tk) (l.take k)))
    case atStart => exact ⟨0, Nat.zero_le _, by omega, rfl, (show Aside _ from ⟨_, _, _, ST.out, Nat.le_refl _, rfl⟩)⟩
    case round =>
      obtain ⟨k, hkk, hg, rfl, A0⟩ := hrel
      clear ST
      by_cases hlt : k < n
      · have hltz : (k : Int) < (n : Int) := by omega
        have hll : k < l.length := by rw [HN.out]; exact hlt
        obtain ⟨vl, D, N, hi, hNk, hD⟩ := A0.out
        have HI0 := hid hi
        have HD := hid hD
        clear hi hD A0
        have HMv := HP.out.grow (show Below w.heap.size w wr from HI0.out.be)
        obtain ⟨b, off, rfl, hb, hc⟩ := holdsC HMv (by omega)
        obtain ⟨c0, c1, c2⟩ := hc k hll
        clear hc HMv
        have RT := hid (Plain.bkF_take (Plain.Bk.new bm mo tk) l k hll)
        have PT := hid (Plain.bookF_take (Plain.Bk.new bm mo tk) l k hll)
        have hDl : D.length = k := by
          have := congrArg List.length HD.out
          rw [List.length_map, Plain.bookF_len, List.length_take] at this
          omega
        have HDL := hid hDl
        clear hDl
        generalize l.getD k default = x at c0 c1 c2 RT PT
        generalize Plain.bkF (Plain.Bk.new bm mo tk) (l.take k) = bb at HI0 RT PT
        generalize Plain.bookF (Plain.Bk.new bm mo tk) (l.take k) = s at HD PT
        have HIa := hid (HI0.out.grow (wy := wr.alloc (boxC x)) ((Below.refl _ _).alloc (Nat.le_refl _) _))
        have K := do_any (w.heap.size + 1) R A G N vl bb x (by omega) (wr.alloc (boxC x)) HIa.out.bk
        clear HI0
        obtain ⟨xk, xw, xc⟩ := x
        dsimp only at c0 c1 c2
        go_wp2_with fail
        refine K.mono ?_
        rintro e W3 ⟨⟨⟨tc, td, tr⟩, tp, tq⟩, vl', N', rfl, hT, hI, hN', un, hs, hf⟩
        have HI3 := hid (HIa.out.call hI un hf)
        have HT := hid hT
        have hal : w.heap.size < (wr.alloc (boxC ⟨xk, xw, xc⟩)).heap.size := HIa.out.tl.lt
        have HY := hid (show Ns (fun k => Fb R A G vl' k ∨ k = w.heap.size) W3 tp tq td from hs.keep (Un.refl _ _) (fun k _ y => y.imp id (fun e => by rw [e]; exact hal)))
        clear hT hI un hs hf K HIa c0 c1 c2 hal
        have y0 := HI3.out.tl.cell (i := k * 3) (by omega)
        have y1 := HI3.out.tl.cell (i := k * 3 + 1) (by omega)
        have y2 := HI3.out.tl.cell (i := k * 3 + 2) (by omega)
        have z0 := HI3.out.tl.frozen (k * 3)
        have z1 := HI3.out.tl.frozen (k * 3 + 1)
        have z2 := HI3.out.tl.frozen (k * 3 + 2)
        go_wp2
        obtain ⟨W6, hW6⟩ : ∃ W6, W6 = ((W3.setCell ⟨w.heap.size, k * 3, none⟩ (.int .i64 (tc : Nat))).setCell ⟨w.heap.size, k * 3 + 1, none⟩ (.slice tp td.length tq)).setCell ⟨w.heap.size, k * 3 + 2, none⟩ (.int .i64 tr) := ⟨_, rfl⟩
        rw [← hW6]
        have F6 := hid (show PlB w W6 R A G vl' (Plain.caB bb ⟨xk, xw, xc⟩) (D ++ [⟨⟨tc, td, tr⟩, tp, tq⟩]) n N' by rw [hW6]; exact HI3.out.told k HDL.out ⟨⟨tc, td, tr⟩, tp, tq⟩ HY.out)
        clear hW6 y0 y1 y2 z0 z1 z2 HI3
        go_roundg (n - (k + 1))
        case measure => omega
        case rel =>
          refine ⟨k + 1, by omega, by omega, by go_num, (show Aside _ from ⟨vl', D ++ [⟨⟨tc, td, tr⟩, tp, tq⟩], N', ?_, by omega, ?_⟩)⟩
          · rw [RT.out]; exact F6.out
          · rw [PT.out, List.map_append, HD.out, ← HT.out]; rfl
      · have hltz : ¬ (k : Int) < (n : Int) := by omega
        have ek : k = n := by omega
        have hall : l.take k = l := List.take_of_length_le (by rw [HN.out]; omega)
        obtain ⟨vl, D, N, hi, hNk, hD⟩ := A0.out
        rw [hall] at hi hD
        have hDl : D.length = n := by
          have := congrArg List.length hD
          rw [List.length_map, Plain.bookF_len, HN.out] at this
          exact this
        have HX := hid (playP_yes (c := n) HN.out HE.out hi.be (by rw [Int.toNat_natCast, Int.toNat_natCast]; exact hD) ⟨hi.holds hDl, fun r hr => (hi.bs r hr).free⟩)
        clear hi hD A0 hall hDl
        go_wp2
        go_ret2
        exact HX.out

/-- book.Play. -/
theorem play_c (p : Option Addr) (n cap : Nat) (bn mo ti : Int) (l : List Plain.Ca) (hbig : n ≤ 9223372036854775807) (w : World) (hn : l.length = n) (hp : encC.Holds w p l) :
    Calls Try.prog 14 #[.int .i64 bn, .int .i64 mo, .int .i64 ti, .slice p n cap] w fun e w' => PlayP bn mo ti l w e w' := by
  by_cases h : Plain.bookE bn mo ti l = 0
  · exact play_yes p n cap bn mo ti l h w hn hp
  · exact play_no p n cap bn mo ti l hbig h w hn
end Go.Proofs.Ytjdalbkpilenbaj

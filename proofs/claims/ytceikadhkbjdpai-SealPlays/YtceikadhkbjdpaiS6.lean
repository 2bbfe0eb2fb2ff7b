/-
  seal: open.
-/
import Derived.Test.YtceikadhkbjdpaiS5
import Derived.Deep.RegionHeld3
namespace Go.Proofs.Ytceikadhkbjdpai
open Go.RowKit Go.Shelf Go.Sort Go.Lib

theorem step_mapU {P : Program} {ops : Array Oper} {o : Oper} {a : Act} {w : World} {K : Act → World → Prop} {Q : Exit → Act → World → Prop} {E : Prop} (m x v : Operand) (t : TypeId)
    (ho : o.op = Op.mapUpdate t m x v) (m1 x1 v1 : Value) (hm : a.eval m = m1) (hx : a.eval x = x1) (hv : a.eval v = v1) {w' : World}
    (hr : (Instr.mapUpdate t m1 x1 v1).run P w = .ok () w') (hw : Region.wanted o (yielded ops a.tmps) = true) (h : K (a.put o.dst undef) w') : if Region.wanted o (yielded ops a.tmps) = true then o.wp P a w K Q else E := by
  rw [if_pos hw]
  unfold Oper.wp
  simp [execOp, ho, hm, hx, hv, hr, Result.andThen]
  exact h

theorem OfI.opened {B R M n k : Nat} {W W' : World} {vo : Value} {P : List RP} {o : Plain.Off} (h : OfI B R M W vo P o n) (hold : Plain.oldO o k = false) {f t : Int} (hf : (o.at k).frm = f) (ht : (o.at k).to = t)
    (hm : MapI W' M (n + 1) (fun a b => if f = a ∧ t = b then k + 1 else Plain.nextF o a b)) (hg : W.grownBy W' (some M)) : OfI B R M W' vo P { o with opened := o.opened ++ [k] } (n + 1) := by
  have hne : vo.ownBlock ≠ some M := fun e => by
    obtain ⟨es, ck, hb⟩ := h.mp.is_map
    rcases h.ow.2 with ⟨rfl, _⟩ | ⟨g, cap, cur, rfl, _, hg', _⟩
    · simp [Value.ownBlock] at e
    · simp only [Value.ownBlock, Option.some.injEq] at e
      subst e
      rw [hg'] at hb; cases hb
  refine ⟨h.row.of_block (hg.block R h.row.lt (fun e => h.ne (by injection e with e; exact e.symm))), h.ow.kept hg (.inr hne), fun r hr => (h.bs r hr).keep (h.kb (Kf.map hg)), h.po, hm.congr fun a b => ?_, h.geR, h.geM⟩
  rw [Plain.next_open hold, hf, ht]

abbrev zeroD : Obj := .cells #[.int .i64 0, .int .i64 0, .int .i64 0, .slice none 0 0] 44
set_option maxHeartbeats 4000000 in
set_option maxRecDepth 100000 in
theorem open_none (B R M n : Nat) (vo : Value) (P : List RP) (o : Plain.Off) (x : Plain.Le) (hE : Plain.leE o x = 6) (hid0 : x.id < 0 ∨ (P.length : Int) ≤ x.id) (w : World) (h : OfI B R M w vo P o n) :
    Calls Try.prog 28 #[.pointer (some ⟨R, 0, none⟩), .int .i64 x.to, .int .i64 x.id] w fun e w' => DoP B R M o x n w e w' := by
  have P0 := hid (fun w' gg => doP_no (w := w) (w' := w') hE (by decide) h gg)
  obtain ⟨WA, hWA⟩ : ∃ WA, WA = w.alloc zeroD := ⟨_, rfl⟩
  have rG : Hid (WA.rowIs w.heap.size 44 4 (odF ⟨⟨0, 0, 0, []⟩, none, 0⟩)) := hid (by rw [hWA]; exact rowD_new w ⟨⟨0, 0, 0, []⟩, none, 0⟩)
  have BA := hid (show Below w.heap.size w WA by rw [hWA]; exact (Below.refl _ _).alloc (Nat.le_refl _) _)
  have K := refused_c 6 WA
  have r0 := (h.grow BA.out).c0
  obtain ⟨po, co, rfl, hff⟩ := h.form
  clear hff h hE
  rw [hWA] at r0
  generalize P.length = np at *
  generalize x.id = id at *
  by_cases h0 : id < 0
  · clear hid0
    go_enter Try.func28, Try.ntmps28
    go_wp2_with fail
    rw [← hWA]
    clear hWA r0
    refine K.mono ?_
    rintro e W1 ⟨rfl, b1⟩
    have R1 := hid (rG.out.of_block (b1.block _ rG.out.lt))
    have B1 := hid (BA.out.trans (b1.mono BA.out.size))
    clear K b1 rG BA
    have y0 := R1.out.cell (i := 0) (by omega)
    have y1 := R1.out.cell (i := 1) (by omega)
    have y2 := R1.out.cell (i := 2) (by omega)
    have y3 := R1.out.cell (i := 3) (by omega)
    have z0 := R1.out.frozen 0
    have z1 := R1.out.frozen 1
    have z2 := R1.out.frozen 2
    have z3 := R1.out.frozen 3
    go_wp2
    (try simp only [Exit.inBlock, Exit.then])
    obtain ⟨W6, hW6⟩ : ∃ W6, W6 = (((W1.setCell ⟨w.heap.size, 0, none⟩ (.int .i64 6)).setCell ⟨w.heap.size, 1, none⟩ (.int .i64 0)).setCell ⟨w.heap.size, 2, none⟩ (.int .i64 0)).setCell ⟨w.heap.size, 3, none⟩ (.slice none 0 0) := ⟨_, rfl⟩
    rw [← hW6]
    have R6 : W6.rowIs (w.heap.size) 44 4 (odF ⟨⟨6, 0, 0, []⟩, none, 0⟩) := by rw [hW6]; exact putD_row R1.out ⟨⟨6, 0, 0, []⟩, none, 0⟩
    have B6 : Below w.heap.size w W6 := by rw [hW6]; exact putD_below B1.out (by omega) 0 ⟨⟨6, 0, 0, []⟩, none, 0⟩
    clear hW6
    exact bodyPost_D rfl (w.heap.size) ⟨⟨6, 0, 0, []⟩, none, 0⟩ rfl R6 rfl (P0.out _ B6)
  · have h1 : (np : Int) ≤ id := by omega
    clear hid0
    go_enter Try.func28, Try.ntmps28
    go_wp2_with fail
    rw [← hWA]
    clear hWA r0
    refine K.mono ?_
    rintro e W1 ⟨rfl, b1⟩
    have R1 := hid (rG.out.of_block (b1.block _ rG.out.lt))
    have B1 := hid (BA.out.trans (b1.mono BA.out.size))
    clear K b1 rG BA
    have y0 := R1.out.cell (i := 0) (by omega)
    have y1 := R1.out.cell (i := 1) (by omega)
    have y2 := R1.out.cell (i := 2) (by omega)
    have y3 := R1.out.cell (i := 3) (by omega)
    have z0 := R1.out.frozen 0
    have z1 := R1.out.frozen 1
    have z2 := R1.out.frozen 2
    have z3 := R1.out.frozen 3
    go_wp2
    (try simp only [Exit.inBlock, Exit.then])
    obtain ⟨W6, hW6⟩ : ∃ W6, W6 = (((W1.setCell ⟨w.heap.size, 0, none⟩ (.int .i64 6)).setCell ⟨w.heap.size, 1, none⟩ (.int .i64 0)).setCell ⟨w.heap.size, 2, none⟩ (.int .i64 0)).setCell ⟨w.heap.size, 3, none⟩ (.slice none 0 0) := ⟨_, rfl⟩
    rw [← hW6]
    have R6 : W6.rowIs (w.heap.size) 44 4 (odF ⟨⟨6, 0, 0, []⟩, none, 0⟩) := by rw [hW6]; exact putD_row R1.out ⟨⟨6, 0, 0, []⟩, none, 0⟩
    have B6 : Below w.heap.size w W6 := by rw [hW6]; exact putD_below B1.out (by omega) 0 ⟨⟨6, 0, 0, []⟩, none, 0⟩
    clear hW6
    exact bodyPost_D rfl (w.heap.size) ⟨⟨6, 0, 0, []⟩, none, 0⟩ rfl R6 rfl (P0.out _ B6)

/-- What lies there when the letter's cells are in a box. -/
theorem letter_box (w : World) (y : RP) : (w.alloc (.cells #[.int .i64 y.y.frm, .int .i64 y.y.to, .slice y.p y.y.data.length y.c] 79)).cell? ⟨w.heap.size, 0, none⟩ = some (.int .i64 y.y.frm) ∧
    (w.alloc (.cells #[.int .i64 y.y.frm, .int .i64 y.y.to, .slice y.p y.y.data.length y.c] 79)).cell? ⟨w.heap.size, 1, none⟩ = some (.int .i64 y.y.to) ∧
    (w.alloc (.cells #[.int .i64 y.y.frm, .int .i64 y.y.to, .slice y.p y.y.data.length y.c] 79)).cell? ⟨w.heap.size, 2, none⟩ = some (.slice y.p y.y.data.length y.c) := by
  refine ⟨?_, ?_, ?_⟩ <;> rw [World.cell?_alloc_at _ _ _ _ rfl] <;> rfl

set_option maxHeartbeats 4000000 in
set_option maxRecDepth 100000 in
theorem open_denied (B R M n : Nat) (vo : Value) (P : List RP) (o : Plain.Off) (x : Plain.Le) (hE : Plain.leE o x = 11) (k : Nat) (hk : k < P.length) (hxi : x.id = k) (hto : (P.getD k default).y.to ≠ x.to) (hb : P.length ≤ 1000) (w : World) (h : OfI B R M w vo P o n) :
    Calls Try.prog 28 #[.pointer (some ⟨R, 0, none⟩), .int .i64 x.to, .int .i64 x.id] w fun e w' => DoP B R M o x n w e w' := by
  have P0 := hid (fun w' gg => doP_no (w := w) (w' := w') hE (by decide) h gg)
  have BA0 := show Below w.heap.size w (w.alloc zeroD) from (Below.refl _ _).alloc (Nat.le_refl _) _
  have r0 := (h.grow BA0).c0
  obtain ⟨po, co, rfl, hff⟩ := (h.grow BA0).form
  obtain ⟨gb, rfl, hgl, hcc⟩ := hff (by omega)
  obtain ⟨c0, c1, c2⟩ := hcc k hk
  clear hff hcc
  obtain ⟨WB, hWB⟩ : ∃ WB, WB = (w.alloc zeroD).alloc (.cells #[.int .i64 (P.getD k default).y.frm, .int .i64 (P.getD k default).y.to, .slice (P.getD k default).p (P.getD k default).y.data.length (P.getD k default).c] 79) := ⟨_, rfl⟩
  have rG : Hid (WB.rowIs w.heap.size 44 4 (odF ⟨⟨0, 0, 0, []⟩, none, 0⟩)) := hid (by rw [hWB]; exact (rowD_new w ⟨⟨0, 0, 0, []⟩, none, 0⟩).alloc _)
  have BA := hid (show Below w.heap.size w WB by rw [hWB]; exact ((Below.refl _ _).alloc (Nat.le_refl _) _).alloc (by simp) _)
  have K := refused_c 11 WB
  clear h hE BA0
  have hkz : (k : Int) < (P.length : Int) := by omega
  have hk0 : ¬ (k : Int) < 0 := by omega
  generalize P.length = np at *
  rw [hxi]
  clear hxi
  generalize P.getD k default = y at *
  obtain ⟨⟨yf, yt, yd⟩, yp, yc⟩ := y
  dsimp only at c0 c1 c2 hto hWB
  generalize yd.length = m at *
  have hg : (yt != x.to) = true := by simpa using hto
  generalize x.to = xt at *
  go_enter Try.func28, Try.ntmps28
  go_wp2_with fail
  rw [← hWB]
  clear hWB r0 c0 c1 c2
  refine K.mono ?_
  rintro e W1 ⟨rfl, b1⟩
  have R1 := hid (rG.out.of_block (b1.block _ rG.out.lt))
  have B1 := hid (BA.out.trans (b1.mono BA.out.size))
  clear K b1 rG BA
  have y0 := R1.out.cell (i := 0) (by omega)
  have y1 := R1.out.cell (i := 1) (by omega)
  have y2 := R1.out.cell (i := 2) (by omega)
  have y3 := R1.out.cell (i := 3) (by omega)
  have z0 := R1.out.frozen 0
  have z1 := R1.out.frozen 1
  have z2 := R1.out.frozen 2
  have z3 := R1.out.frozen 3
  go_wp2
  (try simp only [Exit.inBlock, Exit.then])
  obtain ⟨W6, hW6⟩ : ∃ W6, W6 = (((W1.setCell ⟨w.heap.size, 0, none⟩ (.int .i64 11)).setCell ⟨w.heap.size, 1, none⟩ (.int .i64 0)).setCell ⟨w.heap.size, 2, none⟩ (.int .i64 0)).setCell ⟨w.heap.size, 3, none⟩ (.slice none 0 0) := ⟨_, rfl⟩
  rw [← hW6]
  have R6 : W6.rowIs (w.heap.size) 44 4 (odF ⟨⟨11, 0, 0, []⟩, none, 0⟩) := by rw [hW6]; exact putD_row R1.out ⟨⟨11, 0, 0, []⟩, none, 0⟩
  have B6 : Below w.heap.size w W6 := by rw [hW6]; exact putD_below B1.out (by omega) 0 ⟨⟨11, 0, 0, []⟩, none, 0⟩
  clear hW6
  exact bodyPost_D rfl (w.heap.size) ⟨⟨11, 0, 0, []⟩, none, 0⟩ rfl R6 rfl (P0.out _ B6)

set_option maxHeartbeats 4000000 in
set_option maxRecDepth 100000 in
theorem open_in (B R M n : Nat) (vo : Value) (P : List RP) (o : Plain.Off) (hgo : Plain.Good o) (hn : n ≤ 900) (x : Plain.Le) (hx2 : x.kind ≠ 1) (hE : Plain.leE o x = if Plain.oldO o x.id.toNat = true then 10 else 0) (k : Nat) (hk : k < P.length) (hxi : x.id = k) (hto : (P.getD k default).y.to = x.to) (hb : P.length ≤ 900) (w : World) (h : OfI B R M w vo P o n) :
    Calls Try.prog 28 #[.pointer (some ⟨R, 0, none⟩), .int .i64 x.to, .int .i64 x.id] w fun e w' => DoP B R M o x n w e w' := by
  have hat := h.at' hk
  have hrg := hgo.at (k := k) (by rw [h.len]; exact hk)
  rw [hat] at hrg
  obtain ⟨hrf, hrt, hrs⟩ := hrg
  have hold := Plain.old_next o k
  rw [hat] at hold
  rw [hxi, show ((k : Nat) : Int).toNat = k by omega] at hE
  have BA0 := show Below w.heap.size w (w.alloc zeroD) from (Below.refl _ _).alloc (Nat.le_refl _) _
  have r0 := (h.grow BA0).c0
  obtain ⟨po, co, rfl, hff⟩ := (h.grow BA0).form
  obtain ⟨gb, rfl, hgl, hcc⟩ := hff (by omega)
  obtain ⟨c0, c1, c2⟩ := hcc k hk
  clear hff hcc
  obtain ⟨WB, hWB⟩ : ∃ WB, WB = (w.alloc zeroD).alloc (.cells #[.int .i64 (P.getD k default).y.frm, .int .i64 (P.getD k default).y.to, .slice (P.getD k default).p (P.getD k default).y.data.length (P.getD k default).c] 79) := ⟨_, rfl⟩
  have rG0 : WB.rowIs w.heap.size 44 4 (odF ⟨⟨0, 0, 0, []⟩, none, 0⟩) := by rw [hWB]; exact (rowD_new w ⟨⟨0, 0, 0, []⟩, none, 0⟩).alloc _
  have hbx := letter_box (w.alloc zeroD) (P.getD k default)
  rw [← hWB, show (w.alloc zeroD).heap.size = w.heap.size + 1 by simp] at hbx
  have BB := show Below w.heap.size w WB by rw [hWB]; exact ((Below.refl _ _).alloc (Nat.le_refl _) _).alloc (by simp) _
  have hsB : WB.heap.size = w.heap.size + 1 + 1 := by rw [hWB]; simp
  obtain ⟨WC, hWC⟩ : ∃ WC, WC = WB.alloc (.cells #[.int .i64 (P.getD k default).y.frm, .int .i64 (P.getD k default).y.to] 88) := ⟨_, rfl⟩
  have BC := hid (show Below w.heap.size w WC by rw [hWC]; exact BB.alloc (by omega) _)
  have BBC := show Below WB.heap.size WB WC by rw [hWC]; exact (Below.refl _ _).alloc (Nat.le_refl _) _
  have rG := hid (show WC.rowIs w.heap.size 44 4 (odF ⟨⟨0, 0, 0, []⟩, none, 0⟩) by rw [hWC]; exact rG0.alloc _)
  have q0 : WC.cell? ⟨w.heap.size + 1 + 1, 0, none⟩ = some (.int .i64 (P.getD k default).y.frm) := by rw [hWC, ← hsB, World.cell?_alloc_at _ _ _ _ rfl]; rfl
  have q1 : WC.cell? ⟨w.heap.size + 1 + 1, 1, none⟩ = some (.int .i64 (P.getD k default).y.to) := by rw [hWC, ← hsB, World.cell?_alloc_at _ _ _ _ rfl]; rfl
  have X2 := hid (show WC.cell? ⟨w.heap.size + 1, 2, none⟩ = some (.slice (P.getD k default).p (P.getD k default).y.data.length (P.getD k default).c) from (BBC.cell (p := ⟨w.heap.size + 1, 2, none⟩) (by rw [hsB]; exact Nat.lt_succ_self _)).trans hbx.2.2)
  have HC := h.grow BC.out
  have r1 := HC.c1
  have look := fun q => (HC.drewN q).mp.look hrf hrt
  have BY := hid (HC.bs _ (getD_mem P default hk))
  have OC := hid HC
  have HW := hid h
  have hkz : (k : Int) < (P.length : Int) := by omega
  have hk0 : ¬ (k : Int) < 0 := by omega
  have hk9 : k ≤ 900 := by omega
  rw [hxi]
  clear hbx rG0 BB BBC BA0 h HC hsB hgl
  generalize hnp : P.length = np at *
  have HNP := hid hnp
  clear hnp
  obtain ⟨y, hy⟩ : ∃ y, y = P.getD k default := ⟨_, rfl⟩
  have HY := hid hy
  rw [← hy] at c0 c1 c2 hto hWB hWC q0 q1 X2 BY look hold hrf hrt hrs hat
  clear hy
  obtain ⟨⟨yf, yt, yd⟩, yp, yc⟩ := y
  dsimp only at c0 c1 c2 hto hWB hWC q0 q1 X2 BY look hold hrf hrt hrs hat
  subst hto
  generalize hym : yd.length = m at *
  have HM := hid hym
  clear hym
  have hg : (x.to != x.to) = false := by simp
  obtain ⟨xt, hxt⟩ : ∃ xt, xt = x.to := ⟨_, rfl⟩
  rw [← hxt] at look hold hrt hat c1 q1 hWB hWC hg HY ⊢
  obtain ⟨nx, hnx⟩ : ∃ nx, nx = Plain.nextF o yf xt := ⟨_, rfl⟩
  rw [← hnx] at look hold
  have HXT := hid hxt
  have HNX := hid hnx
  have HAT := hid hat
  clear hxt hnx hat
  by_cases hlt : k < nx
  · have P0 := hid (fun w' gg => doP_no (w := w) (w' := w') (hE.trans (by rw [hold, decide_eq_true hlt, if_pos rfl])) (by decide) HW.out gg)
    have hd : decide ((k : Int) < (nx : Int)) = true := decide_eq_true (by omega)
    have K := fun q => refused_c 10 (WC.drewN q)
    have rG2 := hid (fun q => rG.out.of_block (w' := WC.drewN q) rfl)
    have BC2 := hid (fun q => below_drewN BC.out q)
    clear hE hold OC HW X2 BY rG BC
    go_enter Try.func28, Try.ntmps28
    go_wp2_with fail
    rw [← hWB, ← hWC]
    clear hWB hWC r0 c0 c1 c2
    go_quiet (fail)
    go_wp2_with fail
    refine (K _).mono ?_
    rintro e W1 ⟨rfl, b1⟩
    have R1 := hid ((rG2.out nq).of_block (b1.block _ (rG2.out nq).lt))
    have B1 := hid ((BC2.out nq).trans (b1.mono (BC2.out nq).size))
    clear K b1 rG2 BC2 look q0 q1 r1
    have y0 := R1.out.cell (i := 0) (by omega)
    have y1 := R1.out.cell (i := 1) (by omega)
    have y2 := R1.out.cell (i := 2) (by omega)
    have y3 := R1.out.cell (i := 3) (by omega)
    have z0 := R1.out.frozen 0
    have z1 := R1.out.frozen 1
    have z2 := R1.out.frozen 2
    have z3 := R1.out.frozen 3
    go_wp2
    (try simp only [Exit.inBlock, Exit.then])
    obtain ⟨W6, hW6⟩ : ∃ W6, W6 = (((W1.setCell ⟨w.heap.size, 0, none⟩ (.int .i64 10)).setCell ⟨w.heap.size, 1, none⟩ (.int .i64 0)).setCell ⟨w.heap.size, 2, none⟩ (.int .i64 0)).setCell ⟨w.heap.size, 3, none⟩ (.slice none 0 0) := ⟨_, rfl⟩
    rw [← hW6]
    have R6 : W6.rowIs (w.heap.size) 44 4 (odF ⟨⟨10, 0, 0, []⟩, none, 0⟩) := by rw [hW6]; exact putD_row R1.out ⟨⟨10, 0, 0, []⟩, none, 0⟩
    have B6 : Below w.heap.size w W6 := by rw [hW6]; exact putD_below B1.out (by omega) 0 ⟨⟨10, 0, 0, []⟩, none, 0⟩
    clear hW6
    exact bodyPost_D rfl (w.heap.size) ⟨⟨10, 0, 0, []⟩, none, 0⟩ rfl R6 rfl (P0.out _ B6)
  · have hd : decide ((k : Int) < (nx : Int)) = false := decide_eq_false (by omega)
    have hE0 := hE.trans (by rw [hold, decide_eq_false hlt, if_neg (by decide)])
    go_enter Try.func28, Try.ntmps28
    go_wp2_with fail
    rw [← hWB, ← hWC]
    clear hWB hWC r0 c0 c1 c2
    go_quiet (fail)
    clear hd look
    obtain ⟨WD, hWD⟩ : ∃ WD, WD = WC.drewN nq := ⟨_, rfl⟩
    rw [← hWD]
    have OD := hid (show OfI B R M WD (.slice (some ⟨gb, 0, none⟩) np co) P o n by rw [hWD]; exact OC.out.drewN nq)
    have rGD := hid (show WD.rowIs w.heap.size 44 4 (odF ⟨⟨0, 0, 0, []⟩, none, 0⟩) by rw [hWD]; exact rG.out.of_block rfl)
    have BD := hid (show Below w.heap.size w WD by rw [hWD]; exact below_drewN BC.out nq)
    have XD := hid (show WD.cell? ⟨w.heap.size + 1, 2, none⟩ = some (.slice yp m yc) by rw [hWD]; simpa using X2.out)
    have YD := hid (show By B WD yp yc yd by rw [hWD]; exact BY.out.drewN nq)
    have q0 : WD.cell? ⟨w.heap.size + 1 + 1, 0, none⟩ = some (.int .i64 yf) := by rw [hWD]; simpa using q0
    have q1 : WD.cell? ⟨w.heap.size + 1 + 1, 1, none⟩ = some (.int .i64 xt) := by rw [hWD]; simpa using q1
    have r1 := OD.out.c1
    clear hWD OC rG BC X2 BY
    obtain ⟨WE, hrun, mE, gE⟩ := (show MapI WD.drew M n (Plain.nextF o) from (OD.out.drewN 1).mp).put (by omega) hrf hrt (k + 1) (by omega)
    rw [show (((k + 1 : Nat)) : Int) = IntKind.i64.wrap ((k : Int) + 1) by rw [IntKind.wrap_i64]; omega] at hrun
    have HME := hid mE
    have HGE := hid gE
    clear mE gE
    have OE := hid (OfI.opened (W := WD.drew) (k := k) (OD.out.drewN 1) (by rw [hold]; exact decide_eq_false hlt) (by rw [HAT.out]) (by rw [HAT.out]) HME.out HGE.out)
    have KE := hid (Kf.trans (Kf.of_below (B := B) (R := R) (M := M) (below_drewN BD.out 1)) (Kf.map HGE.out))
    have rGE := hid ((Kf.map (B := B) (R := R) HGE.out).rowIs (rGD.out.of_block (w' := WD.drew) rfl) (by decide) (by have := HW.out.row.lt; omega) (by have := HW.out.mp.lt; omega))
    have XE := hid (show WE.cell? ⟨w.heap.size + 1, 2, none⟩ = some (.slice yp m yc) by
      have e := HGE.out.block (w.heap.size + 1) (show w.heap.size + 1 < WD.heap.size from World.block_lt_of_cell? (w := WD) (h := XD.out)) (fun e => by injection e with e; have := HW.out.mp.lt; omega)
      rw [← XD.out]
      show WE.cell? _ = WD.drew.cell? _
      simp only [World.cell?, e])
    have YE := hid (By.keep (w := WD.drew) (YD.out.drewN 1) (OfI.kb (w := WD.drew) (OD.out.drewN 1) (Kf.map HGE.out)))
    go_wp2
    go_region
    all_goals
      clear hrun r1 q0 q1 hk0 HME HGE OD rGD XD YD BD
      have KC := clone_c B yp m yc yd HM.out (by omega) WE.drew (YE.out.drewN 1)
      have x2 := XE.out
      have OE2 := hid (show OfI B R M WE.drew _ P _ (n + 1) from OE.out.drewN 1)
      have XE2 := hid (show WE.drew.cell? ⟨w.heap.size + 1, 2, none⟩ = some (.slice yp m yc) by simpa using XE.out)
      have KE2 := hid (show Kf B R M w WE.drew from KE.out.trans (Kf.of_below (below_drewN (Below.refl _ _) 1)))
      have rG2 := hid (show WE.drew.rowIs w.heap.size 44 4 (odF ⟨⟨0, 0, 0, []⟩, none, 0⟩) from rGE.out.of_block rfl)
      clear OE XE KE rGE YE
      go_wp2
      go_region_held3 (fun w' => w'.cell? ⟨w.heap.size + 1, 2, none⟩ = some (.slice yp m yc)) (go_keep)
        ((go_at_call 37; refine KC.mono ?_; rintro e W5 ⟨p', c', rfl, hby, b5⟩; have Y5 := hid hby; have B5 := hid b5; clear hby b5; have R5 := hid (rG2.out.of_block (B5.out.block _ rG2.out.lt)); have x25 : W5.cell? ⟨w.heap.size + 1, 2, none⟩ = some (.slice yp m yc) := (B5.out.cell (p := ⟨w.heap.size + 1, 2, none⟩) (World.block_lt_of_cell? (w := WE.drew) (h := XE2.out))).trans XE2.out; have y0 := R5.out.cell (i := 0) (by omega); have y1 := R5.out.cell (i := 1) (by omega); have y2 := R5.out.cell (i := 2) (by omega); have y3 := R5.out.cell (i := 3) (by omega); have z0 := R5.out.frozen 0; have z1 := R5.out.frozen 1; have z2 := R5.out.frozen 2; have z3 := R5.out.frozen 3))
      all_goals
        go_wp2
        (try simp only [Exit.inBlock, Exit.then])
        obtain ⟨W6, hW6⟩ : ∃ W6, W6 = (((W5.setCell ⟨w.heap.size, 0, none⟩ (.int .i64 0)).setCell ⟨w.heap.size, 1, none⟩ (.int .i64 k)).setCell ⟨w.heap.size, 2, none⟩ (.int .i64 m)).setCell ⟨w.heap.size, 3, none⟩ (.slice p' m c') := ⟨_, rfl⟩
        rw [← hW6]
        have HS := show Plain.leS o x = { o with opened := o.opened ++ [k] } by unfold Plain.leS; rw [hE0, if_neg (by decide), if_neg hx2, hxi, show ((k : Nat) : Int).toNat = k by omega]
        have HT := show Plain.leT o x = ⟨0, k, m, yd⟩ by unfold Plain.leT; rw [hE0, if_neg (by decide), if_neg hx2, hxi, show ((k : Nat) : Int).toNat = k by omega, HAT.out]; dsimp only; rw [HM.out]
        have hm := HM.out
        subst hm
        have e6 : Only1 w.heap.size W5 W6 := by rw [hW6]; exact putD_only W5 w.heap.size 0 ⟨⟨0, k, yd.length, yd⟩, p', c'⟩
        have R6 : W6.rowIs w.heap.size 44 4 (odF ⟨⟨0, k, yd.length, yd⟩, p', c'⟩) := by rw [hW6]; exact putD_row R5.out ⟨⟨0, k, yd.length, yd⟩, p', c'⟩
        have hB := HW.out.hB
        have hRl := HW.out.row.lt
        have K6 := e6.kf (KE2.out.trans (Kf.of_below B5.out)) (Nat.le_refl _)
        have O6 := e6.off (OE2.out.grow B5.out) R5.out (by decide) (by decide) hB (by omega)
        have Y6 := Y5.out.keep (e6.kb R5.out (by decide) hB)
        refine bodyPost_D rfl w.heap.size ⟨⟨0, k, yd.length, yd⟩, p', c'⟩ rfl R6 rfl ⟨⟨⟨0, k, yd.length, yd⟩, p', c'⟩, .slice (some ⟨gb, 0, none⟩) np co, P, rfl, HT.symm, ?_, K6, Y6⟩
        rw [HS]
        exact O6
end Go.Proofs.Ytceikadhkbjdpai

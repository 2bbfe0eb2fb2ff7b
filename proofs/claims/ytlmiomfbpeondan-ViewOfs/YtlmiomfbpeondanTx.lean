/-
  view.see.
-/
import Derived.Test.YtlmiomfbpeondanTw
namespace Go.Proofs.Ytlmiomfbpeondan.Vi
open Go.RowKit Go.Shelf
def seeT (b : Bool) (t : Td) : Td := if b then t else ⟨0, t.who, ⟨0, 0, 0, 0, 0⟩, 0, t.sent, [], t.report⟩
abbrev zeroT : Nat → Value := (RT.mk ⟨0, 0, ⟨0, 0, 0, 0, 0⟩, 0, [], [], []⟩ none 0 none 0 none 0).cell
/-- What is seen, as it begins. -/
structure SeenI (W wx : World) (mb : Nat) (who : Int) (qs : Option Addr) (ds : Nat) (sent : List Ev) (qr : Option Addr) (dr : Nat) (report : List Int) : Prop where
  row : wx.rowIs mb 41 11 (RT.mk ⟨0, who, ⟨0, 0, 0, 0, 0⟩, 0, sent, [], report⟩ qs ds none 0 qr dr).cell
  s : Sl encV wx qs ds sent
  r : Sl encI wx qr dr report
  be : Below W.heap.size W wx
  lt : W.heap.size ≤ mb

/-- Eleven cells written one by one. -/
theorem chainRT (W : World) (g : Nat) (code who kc ki kf kh ku val : Int) (sent : List Ev) (frame report : List Int) (qs : Option Addr) (ds : Nat) (qf : Option Addr) (df : Nat) (qr : Option Addr) (dr : Nat) : (((((((((((W.setCell ⟨g, 0, none⟩ (.int .i64 code)).setCell ⟨g, 1, none⟩ (.int .i64 who)).setCell ⟨g, 2, none⟩ (.int .i64 kc)).setCell ⟨g, 3, none⟩ (.int .i64 ki)).setCell ⟨g, 4, none⟩ (.int .i64 kf)).setCell ⟨g, 5, none⟩ (.int .i64 kh)).setCell ⟨g, 6, none⟩ (.int .i64 ku)).setCell ⟨g, 7, none⟩ (.int .i64 val)).setCell ⟨g, 8, none⟩ (.slice qs sent.length ds)).setCell ⟨g, 9, none⟩ (.slice qf frame.length df)).setCell ⟨g, 10, none⟩ (.slice qr report.length dr)) = putT W g 0 (RT.mk ⟨code, who, ⟨kc, ki, kf, kh, ku⟩, val, sent, frame, report⟩ qs ds qf df qr dr).cell := by
  simp only [putT, RT.cell, Nat.zero_add]
theorem chainR0 (W : World) (g : Nat) (who : Int) (sent : List Ev) (report : List Int) (qs : Option Addr) (ds : Nat) (qr : Option Addr) (dr : Nat) : (((((((((((W.setCell ⟨g, 0, none⟩ (.int .i64 0)).setCell ⟨g, 1, none⟩ (.int .i64 who)).setCell ⟨g, 2, none⟩ (.int .i64 0)).setCell ⟨g, 3, none⟩ (.int .i64 0)).setCell ⟨g, 4, none⟩ (.int .i64 0)).setCell ⟨g, 5, none⟩ (.int .i64 0)).setCell ⟨g, 6, none⟩ (.int .i64 0)).setCell ⟨g, 7, none⟩ (.int .i64 0)).setCell ⟨g, 8, none⟩ (.slice qs sent.length ds)).setCell ⟨g, 9, none⟩ (.slice none 0 0)).setCell ⟨g, 10, none⟩ (.slice qr report.length dr)) = putT W g 0 (RT.mk ⟨0, who, ⟨0, 0, 0, 0, 0⟩, 0, sent, [], report⟩ qs ds none 0 qr dr).cell := by
  simp only [putT, RT.cell, Nat.zero_add, List.length_nil]
theorem putT0_row {W : World} {g : Nat} {f : Nat → Value} (h : W.rowIs g 41 11 f) (v : Nat → Value) : (putT W g 0 v).rowIs g 41 11 v :=
  (putT_row (o := 0) h v).congr fun j hj => by rw [if_pos ⟨Nat.zero_le _, by omega⟩, Nat.sub_zero]
theorem putT_kt {W : World} {g : Nat} {n : Nat} {f : Nat → Value} (h : W.rowIs g 41 n f) (o : Nat) (v : Nat → Value) : Kt W (putT W g o v) := Kt.of_one (row_told h) (putT_size W g o v) (putT_other W g o v)
theorem SeenI.made {W w2 : World} {who : Int} {qs : Option Addr} {ds : Nat} {sent : List Ev} {qr : Option Addr} {dr : Nat} {report : List Int} (hs : Sl encV w2 qs ds sent) (hr : Sl encI w2 qr dr report) (b : Below W.heap.size W w2) :
    SeenI W (w2.alloc (.cells #[.int .i64 0, .int .i64 who, .int .i64 0, .int .i64 0, .int .i64 0, .int .i64 0, .int .i64 0, .int .i64 0, .slice qs sent.length ds, .slice none 0 0, .slice qr report.length dr] 41)) w2.heap.size who qs ds sent qr dr report :=
  have k : Kt w2 (w2.alloc (.cells #[.int .i64 0, .int .i64 who, .int .i64 0, .int .i64 0, .int .i64 0, .int .i64 0, .int .i64 0, .int .i64 0, .slice qs sent.length ds, .slice none 0 0, .slice qr report.length dr] 41)) := Kt.of_below ((Below.refl _ _).alloc (Nat.le_refl _) _)
  ⟨rowT_new w2 (RT.mk ⟨0, who, ⟨0, 0, 0, 0, 0⟩, 0, sent, [], report⟩ qs ds none 0 qr dr).cell, hs.keep k, hr.keep k, b.alloc b.size _, b.size⟩
theorem SeenI.chain {W w2 : World} {g : Nat} {f : Nat → Value} {who : Int} {qs : Option Addr} {ds : Nat} {sent : List Ev} {qr : Option Addr} {dr : Nat} {report : List Int} (h : w2.rowIs g 41 11 f) (hs : Sl encV w2 qs ds sent) (hr : Sl encI w2 qr dr report) (b : Below W.heap.size W w2) (hg : W.heap.size ≤ g) :
    SeenI W ((((((((((((w2.setCell ⟨g, 0, none⟩ (.int .i64 0)).setCell ⟨g, 1, none⟩ (.int .i64 who)).setCell ⟨g, 2, none⟩ (.int .i64 0)).setCell ⟨g, 3, none⟩ (.int .i64 0)).setCell ⟨g, 4, none⟩ (.int .i64 0)).setCell ⟨g, 5, none⟩ (.int .i64 0)).setCell ⟨g, 6, none⟩ (.int .i64 0)).setCell ⟨g, 7, none⟩ (.int .i64 0)).setCell ⟨g, 8, none⟩ (.slice qs sent.length ds)).setCell ⟨g, 9, none⟩ (.slice none 0 0)).setCell ⟨g, 10, none⟩ (.slice qr report.length dr))) g who qs ds sent qr dr report := by
  rw [chainR0 w2 g who sent report qs ds qr dr]
  have k := putT_kt h 0 (RT.mk ⟨0, who, ⟨0, 0, 0, 0, 0⟩, 0, sent, [], report⟩ qs ds none 0 qr dr).cell
  exact ⟨putT0_row h _, hs.keep k, hr.keep k, b.trans ((putT_below hg _ _).mono (Nat.le_refl _)), hg⟩

theorem see8 {w : World} {g : Nat} {who : Int} {sent : List Ev} {report : List Int} {qs : Option Addr} {ds : Nat} {qr : Option Addr} {dr : Nat} (h : w.rowIs g 41 11 (RT.mk ⟨0, who, ⟨0, 0, 0, 0, 0⟩, 0, sent, [], report⟩ qs ds none 0 qr dr).cell) (code kc ki kf kh ku val : Int) (frame : List Int) (qf : Option Addr) (df : Nat) :
    ((((((((w.setCell ⟨g, 0, none⟩ (.int .i64 code)).setCell ⟨g, 2, none⟩ (.int .i64 kc)).setCell ⟨g, 3, none⟩ (.int .i64 ki)).setCell ⟨g, 4, none⟩ (.int .i64 kf)).setCell ⟨g, 5, none⟩ (.int .i64 kh)).setCell ⟨g, 6, none⟩ (.int .i64 ku)).setCell ⟨g, 7, none⟩ (.int .i64 val)).setCell ⟨g, 9, none⟩ (.slice qf frame.length df)).rowIs g 41 11 (RT.mk ⟨code, who, ⟨kc, ki, kf, kh, ku⟩, val, sent, frame, report⟩ qs ds qf df qr dr).cell ∧ Kt w ((((((((w.setCell ⟨g, 0, none⟩ (.int .i64 code)).setCell ⟨g, 2, none⟩ (.int .i64 kc)).setCell ⟨g, 3, none⟩ (.int .i64 ki)).setCell ⟨g, 4, none⟩ (.int .i64 kf)).setCell ⟨g, 5, none⟩ (.int .i64 kh)).setCell ⟨g, 6, none⟩ (.int .i64 ku)).setCell ⟨g, 7, none⟩ (.int .i64 val)).setCell ⟨g, 9, none⟩ (.slice qf frame.length df)) ∧ (∀ B, B ≤ g → Below B w ((((((((w.setCell ⟨g, 0, none⟩ (.int .i64 code)).setCell ⟨g, 2, none⟩ (.int .i64 kc)).setCell ⟨g, 3, none⟩ (.int .i64 ki)).setCell ⟨g, 4, none⟩ (.int .i64 kf)).setCell ⟨g, 5, none⟩ (.int .i64 kh)).setCell ⟨g, 6, none⟩ (.int .i64 ku)).setCell ⟨g, 7, none⟩ (.int .i64 val)).setCell ⟨g, 9, none⟩ (.slice qf frame.length df))) ∧ ∀ b, b ≠ g → ((((((((w.setCell ⟨g, 0, none⟩ (.int .i64 code)).setCell ⟨g, 2, none⟩ (.int .i64 kc)).setCell ⟨g, 3, none⟩ (.int .i64 ki)).setCell ⟨g, 4, none⟩ (.int .i64 kf)).setCell ⟨g, 5, none⟩ (.int .i64 kh)).setCell ⟨g, 6, none⟩ (.int .i64 ku)).setCell ⟨g, 7, none⟩ (.int .i64 val)).setCell ⟨g, 9, none⟩ (.slice qf frame.length df)).heap[b]? = w.heap[b]? := by
  have e0 := h.set 0 (.int .i64 code)
  have e2 := e0.set 2 (.int .i64 kc)
  have e3 := e2.set 3 (.int .i64 ki)
  have e4 := e3.set 4 (.int .i64 kf)
  have e5 := e4.set 5 (.int .i64 kh)
  have e6 := e5.set 6 (.int .i64 ku)
  have e7 := e6.set 7 (.int .i64 val)
  have e9 := e7.set 9 (.slice qf frame.length df)
  clear e0 e2 e3 e4 e5 e6 e7
  have ho : ∀ b, b ≠ g → ((((((((w.setCell ⟨g, 0, none⟩ (.int .i64 code)).setCell ⟨g, 2, none⟩ (.int .i64 kc)).setCell ⟨g, 3, none⟩ (.int .i64 ki)).setCell ⟨g, 4, none⟩ (.int .i64 kf)).setCell ⟨g, 5, none⟩ (.int .i64 kh)).setCell ⟨g, 6, none⟩ (.int .i64 ku)).setCell ⟨g, 7, none⟩ (.int .i64 val)).setCell ⟨g, 9, none⟩ (.slice qf frame.length df)).heap[b]? = w.heap[b]? := fun b hb => by
    rw [Below.heap_setCell _ ⟨g, _, none⟩ _ b hb, Below.heap_setCell _ ⟨g, _, none⟩ _ b hb, Below.heap_setCell _ ⟨g, _, none⟩ _ b hb, Below.heap_setCell _ ⟨g, _, none⟩ _ b hb, Below.heap_setCell _ ⟨g, _, none⟩ _ b hb, Below.heap_setCell _ ⟨g, _, none⟩ _ b hb, Below.heap_setCell _ ⟨g, _, none⟩ _ b hb, Below.heap_setCell _ ⟨g, _, none⟩ _ b hb]
  have hz : ((((((((w.setCell ⟨g, 0, none⟩ (.int .i64 code)).setCell ⟨g, 2, none⟩ (.int .i64 kc)).setCell ⟨g, 3, none⟩ (.int .i64 ki)).setCell ⟨g, 4, none⟩ (.int .i64 kf)).setCell ⟨g, 5, none⟩ (.int .i64 kh)).setCell ⟨g, 6, none⟩ (.int .i64 ku)).setCell ⟨g, 7, none⟩ (.int .i64 val)).setCell ⟨g, 9, none⟩ (.slice qf frame.length df)).heap.size = w.heap.size := by simp [World.setCell]
  refine ⟨e9.congr fun j hj => ?_, Kt.of_one (row_told h) hz ho, fun B hB => ⟨by simp only [set_os], by simp only [set_tape], by simp only [set_output], by rw [hz]; exact Nat.le_refl _, fun b hb => ho b (by omega)⟩, ho⟩
  have : j = 0 ∨ j = 1 ∨ j = 2 ∨ j = 3 ∨ j = 4 ∨ j = 5 ∨ j = 6 ∨ j = 7 ∨ j = 8 ∨ j = 9 ∨ j = 10 := by omega
  rcases this with rfl | rfl | rfl | rfl | rfl | rfl | rfl | rfl | rfl | rfl | rfl <;> simp [RT.cell]

set_option maxHeartbeats 4000000 in
set_option maxRecDepth 100000 in
theorem see_c (r : RT) (b : Bool) (w : World) (h : TdO w r) :
    Calls Try.prog 11 #[aggT r.cell, .bool b] w fun e w' => ∃ r' : RT, e = .returned (aggT r'.cell) ∧ r'.x = seeT b r.x ∧ TdI w' r' ∧ Below w.heap.size w w' := by
  obtain ⟨⟨code, who, ⟨kc, ki, kf, kh, ku⟩, val, sent, frame, report⟩, ps, cs, pf, cf, pr, cr⟩ := r
  have TB0 := hid (show ((w.alloc (boxT (RT.mk ⟨code, who, ⟨kc, ki, kf, kh, ku⟩, val, sent, frame, report⟩ ps cs pf cf pr cr).cell)).alloc (boxT zeroT)).rowIs w.heap.size 41 11 (RT.mk ⟨code, who, ⟨kc, ki, kf, kh, ku⟩, val, sent, frame, report⟩ ps cs pf cf pr cr).cell from (rowT_new w _).alloc _)
  have RB0 := hid (show ((w.alloc (boxT (RT.mk ⟨code, who, ⟨kc, ki, kf, kh, ku⟩, val, sent, frame, report⟩ ps cs pf cf pr cr).cell)).alloc (boxT zeroT)).rowIs (w.heap.size + 1) 41 11 zeroT from by
    have := rowT_new (w.alloc (boxT (RT.mk ⟨code, who, ⟨kc, ki, kf, kh, ku⟩, val, sent, frame, report⟩ ps cs pf cf pr cr).cell)) zeroT
    simpa using this)
  have BE0 := hid (show Below w.heap.size w ((w.alloc (boxT (RT.mk ⟨code, who, ⟨kc, ki, kf, kh, ku⟩, val, sent, frame, report⟩ ps cs pf cf pr cr).cell)).alloc (boxT zeroT)) from ((Below.refl _ _).alloc (Nat.le_refl _) _).alloc (by simp) _)
  obtain ⟨W, hW⟩ : ∃ W, W = (w.alloc (.cells #[.int .i64 code, .int .i64 who, .int .i64 kc, .int .i64 ki, .int .i64 kf, .int .i64 kh, .int .i64 ku, .int .i64 val, .slice ps sent.length cs, .slice pf frame.length cf, .slice pr report.length cr] 41)).alloc (.cells #[.int .i64 0, .int .i64 0, .int .i64 0, .int .i64 0, .int .i64 0, .int .i64 0, .int .i64 0, .int .i64 0, .slice none 0 0, .slice none 0 0, .slice none 0 0] 41) := ⟨_, rfl⟩
  have hsz : W.heap.size = w.heap.size + 2 := by rw [hW]; simp
  have TB0 := hid (show W.rowIs w.heap.size 41 11 _ from by rw [hW]; exact TB0.out)
  have RB0 := hid (show W.rowIs (w.heap.size + 1) 41 11 zeroT from by rw [hW]; exact RB0.out)
  have BE0 := hid (show Below w.heap.size w W from by rw [hW]; exact BE0.out)
  have HO := hid (h.grow (show Below w.heap.size w W from BE0.out))
  clear h
  obtain ⟨H, hH0⟩ : ∃ H, H = w.heap.size := ⟨_, rfl⟩
  have TB := hid (show W.rowIs H 41 11 (RT.mk ⟨code, who, ⟨kc, ki, kf, kh, ku⟩, val, sent, frame, report⟩ ps cs pf cf pr cr).cell by rw [hH0]; exact TB0.out)
  have RB := hid (show W.rowIs (H + 1) 41 11 zeroT by rw [hH0]; exact RB0.out)
  have BE := hid (show Below H w W by rw [hH0]; exact BE0.out)
  have hH := hid (show H < W.heap.size by omega)
  have hH1 := hid (show H + 1 < W.heap.size by omega)
  have HH := hid hH0
  have HW := hid hW
  clear TB0 RB0 BE0 hsz
  show Calls Try.prog 11 #[.agg #[.int .i64 code, .int .i64 who, .int .i64 kc, .int .i64 ki, .int .i64 kf, .int .i64 kh, .int .i64 ku, .int .i64 val, .slice ps sent.length cs, .slice pf frame.length cf, .slice pr report.length cr], .bool b] w _
  go_enter Try.func11, Try.ntmps11
  go_upto_region 1 with fail
  rw [← HW.out, ← HH.out]
  clear hW hH0
  have c1 : W.cell? ⟨H, 1, none⟩ = some (.int .i64 who) := TB.out.cell (i := 1) (by decide)
  have c8 : W.cell? ⟨H, 8, none⟩ = some (.slice ps sent.length cs) := TB.out.cell (i := 8) (by decide)
  have c10 : W.cell? ⟨H, 10, none⟩ = some (.slice pr report.length cr) := TB.out.cell (i := 10) (by decide)
  have hHlt := hH.out
  have neW : ¬ W.heap.size = H := by omega
  have KV := fun X (bx : Below W.heap.size W X) => freshV_c ps cs sent X (HO.out.s.grow bx) HO.out.sn HO.out.sl
  have KI := fun X (bx : Below W.heap.size W X) => freshI_c pr cr report X (HO.out.r.grow bx) HO.out.rn HO.out.rl
  have bA := hid (show Below W.heap.size W W.drew from (Below.refl _ _).drew)
  have bB := hid (show Below W.heap.size W (W.alloc (boxT zeroT)).drew from ((Below.refl _ _).alloc (Nat.le_refl _) _).drew)
  go_cut [5] (fun sa wx => ∃ mb qs ds qr dr, sa = .pointer (some ⟨mb, 0, none⟩) ∧ SeenI W wx mb who qs ds sent qr dr report)
  case first =>
    go_region_held3 (fun w' => w'.cell? ⟨H, 1, none⟩ = some (.int .i64 who) ∧ w'.cell? ⟨H, 8, none⟩ = some (.slice ps sent.length cs) ∧ w'.cell? ⟨H, 10, none⟩ = some (.slice pr report.length cr)) (go_keep)
      ((first
      | (go_at_call 22; first
      | (refine (KV _ bA.out).mono ?_; rintro e w1 ⟨qs, ds, rfl, sl, b⟩; have SV := hid sl; have B9 := hid (bA.out.trans (b.mono bA.out.size)); have x1 : w1.cell? ⟨H, 1, none⟩ = some (.int .i64 who) := (TB.out.of_block (B9.out.block _ hH.out)).cell (i := 1) (by decide); have x8 : w1.cell? ⟨H, 8, none⟩ = some (.slice ps sent.length cs) := (TB.out.of_block (B9.out.block _ hH.out)).cell (i := 8) (by decide); have x10 : w1.cell? ⟨H, 10, none⟩ = some (.slice pr report.length cr) := (TB.out.of_block (B9.out.block _ hH.out)).cell (i := 10) (by decide); have new1 : ¬ w1.heap.size = H := (by have := B9.out.size; have := hH.out; omega); have hs9 := B9.out.size; clear sl b)
      | (refine (KV _ bB.out).mono ?_; rintro e w1 ⟨qs, ds, rfl, sl, b⟩; have SV := hid sl; have B9 := hid (bB.out.trans (b.mono bB.out.size)); have x1 : w1.cell? ⟨H, 1, none⟩ = some (.int .i64 who) := (TB.out.of_block (B9.out.block _ hH.out)).cell (i := 1) (by decide); have x8 : w1.cell? ⟨H, 8, none⟩ = some (.slice ps sent.length cs) := (TB.out.of_block (B9.out.block _ hH.out)).cell (i := 8) (by decide); have x10 : w1.cell? ⟨H, 10, none⟩ = some (.slice pr report.length cr) := (TB.out.of_block (B9.out.block _ hH.out)).cell (i := 10) (by decide); have new1 : ¬ w1.heap.size = H := (by have := B9.out.size; have := hH.out; omega); have hs9 := B9.out.size; have RZ := hid (show w1.rowIs W.heap.size 41 11 zeroT from (show (W.alloc (boxT zeroT)).drew.rowIs W.heap.size 41 11 zeroT from rowT_new W zeroT).of_block (b.block _ (by simp))); have z0 := RZ.out.cell (i := 0) (by decide); have z1 := RZ.out.cell (i := 1) (by decide); have z2 := RZ.out.cell (i := 2) (by decide); have z3 := RZ.out.cell (i := 3) (by decide); have z4 := RZ.out.cell (i := 4) (by decide); have z5 := RZ.out.cell (i := 5) (by decide); have z6 := RZ.out.cell (i := 6) (by decide); have z7 := RZ.out.cell (i := 7) (by decide); have z8 := RZ.out.cell (i := 8) (by decide); have z9 := RZ.out.cell (i := 9) (by decide); have z10 := RZ.out.cell (i := 10) (by decide); have zf0 := RZ.out.frozen 0; have zf1 := RZ.out.frozen 1; have zf2 := RZ.out.frozen 2; have zf3 := RZ.out.frozen 3; have zf4 := RZ.out.frozen 4; have zf5 := RZ.out.frozen 5; have zf6 := RZ.out.frozen 6; have zf7 := RZ.out.frozen 7; have zf8 := RZ.out.frozen 8; have zf9 := RZ.out.frozen 9; have zf10 := RZ.out.frozen 10; clear sl b)
      | (refine (KV _ B9.out).mono ?_; rintro e w2 ⟨qs, ds, rfl, sl, b⟩; have SV := hid sl; have B8 := hid (B9.out.trans (b.mono (Below.size B9.out))); have B7 := B9; clear x1 x8 x10 hs9 B9; have B9 := B8; clear B8; have x1 : w2.cell? ⟨H, 1, none⟩ = some (.int .i64 who) := (TB.out.of_block (B9.out.block _ hH.out)).cell (i := 1) (by decide); have x8 : w2.cell? ⟨H, 8, none⟩ = some (.slice ps sent.length cs) := (TB.out.of_block (B9.out.block _ hH.out)).cell (i := 8) (by decide); have x10 : w2.cell? ⟨H, 10, none⟩ = some (.slice pr report.length cr) := (TB.out.of_block (B9.out.block _ hH.out)).cell (i := 10) (by decide); have new2 : ¬ w2.heap.size = H := (by have := B9.out.size; have := hH.out; omega); have hs9 := B9.out.size; have SI2 := hid (SI.out.keep (Kt.of_below b)); (first | (have RZ2 := hid (RZ.out.of_block (b.block _ RZ.out.lt)); clear z0 z1 z2 z3 z4 z5 z6 z7 z8 z9 z10 zf0 zf1 zf2 zf3 zf4 zf5 zf6 zf7 zf8 zf9 zf10; have y0 := RZ2.out.cell (i := 0) (by decide); have y1 := RZ2.out.cell (i := 1) (by decide); have y2 := RZ2.out.cell (i := 2) (by decide); have y3 := RZ2.out.cell (i := 3) (by decide); have y4 := RZ2.out.cell (i := 4) (by decide); have y5 := RZ2.out.cell (i := 5) (by decide); have y6 := RZ2.out.cell (i := 6) (by decide); have y7 := RZ2.out.cell (i := 7) (by decide); have y8 := RZ2.out.cell (i := 8) (by decide); have y9 := RZ2.out.cell (i := 9) (by decide); have y10 := RZ2.out.cell (i := 10) (by decide); have yf0 := RZ2.out.frozen 0; have yf1 := RZ2.out.frozen 1; have yf2 := RZ2.out.frozen 2; have yf3 := RZ2.out.frozen 3; have yf4 := RZ2.out.frozen 4; have yf5 := RZ2.out.frozen 5; have yf6 := RZ2.out.frozen 6; have yf7 := RZ2.out.frozen 7; have yf8 := RZ2.out.frozen 8; have yf9 := RZ2.out.frozen 9; have yf10 := RZ2.out.frozen 10) | skip); clear sl b)
      | (refine (KV _ (B9.out.alloc B9.out.size _)).mono ?_; rintro e w2 ⟨qs, ds, rfl, sl, b⟩; have SV := hid sl; have B8 := hid ((B9.out.alloc B9.out.size _).trans (b.mono (Below.size (B9.out.alloc B9.out.size _)))); have B7 := B9; clear x1 x8 x10 hs9 B9; have B9 := B8; clear B8; have x1 : w2.cell? ⟨H, 1, none⟩ = some (.int .i64 who) := (TB.out.of_block (B9.out.block _ hH.out)).cell (i := 1) (by decide); have x8 : w2.cell? ⟨H, 8, none⟩ = some (.slice ps sent.length cs) := (TB.out.of_block (B9.out.block _ hH.out)).cell (i := 8) (by decide); have x10 : w2.cell? ⟨H, 10, none⟩ = some (.slice pr report.length cr) := (TB.out.of_block (B9.out.block _ hH.out)).cell (i := 10) (by decide); have new2 : ¬ w2.heap.size = H := (by have := B9.out.size; have := hH.out; omega); have hs9 := B9.out.size; have SI2 := hid (SI.out.keep ((Kt.of_below ((Below.refl _ _).alloc (Nat.le_refl _) _)).trans (Kt.of_below b))); have RZ2 := hid (show w2.rowIs w1.heap.size 41 11 zeroT from (rowT_new w1 zeroT).of_block (b.block _ (by simp))); have y0 := RZ2.out.cell (i := 0) (by decide); have y1 := RZ2.out.cell (i := 1) (by decide); have y2 := RZ2.out.cell (i := 2) (by decide); have y3 := RZ2.out.cell (i := 3) (by decide); have y4 := RZ2.out.cell (i := 4) (by decide); have y5 := RZ2.out.cell (i := 5) (by decide); have y6 := RZ2.out.cell (i := 6) (by decide); have y7 := RZ2.out.cell (i := 7) (by decide); have y8 := RZ2.out.cell (i := 8) (by decide); have y9 := RZ2.out.cell (i := 9) (by decide); have y10 := RZ2.out.cell (i := 10) (by decide); have yf0 := RZ2.out.frozen 0; have yf1 := RZ2.out.frozen 1; have yf2 := RZ2.out.frozen 2; have yf3 := RZ2.out.frozen 3; have yf4 := RZ2.out.frozen 4; have yf5 := RZ2.out.frozen 5; have yf6 := RZ2.out.frozen 6; have yf7 := RZ2.out.frozen 7; have yf8 := RZ2.out.frozen 8; have yf9 := RZ2.out.frozen 9; have yf10 := RZ2.out.frozen 10; clear sl b)
      )
      | (go_at_call 23; first
      | (refine (KI _ bA.out).mono ?_; rintro e w1 ⟨qr, dr, rfl, sl, b⟩; have SI := hid sl; have B9 := hid (bA.out.trans (b.mono bA.out.size)); have x1 : w1.cell? ⟨H, 1, none⟩ = some (.int .i64 who) := (TB.out.of_block (B9.out.block _ hH.out)).cell (i := 1) (by decide); have x8 : w1.cell? ⟨H, 8, none⟩ = some (.slice ps sent.length cs) := (TB.out.of_block (B9.out.block _ hH.out)).cell (i := 8) (by decide); have x10 : w1.cell? ⟨H, 10, none⟩ = some (.slice pr report.length cr) := (TB.out.of_block (B9.out.block _ hH.out)).cell (i := 10) (by decide); have new1 : ¬ w1.heap.size = H := (by have := B9.out.size; have := hH.out; omega); have hs9 := B9.out.size; clear sl b)
      | (refine (KI _ bB.out).mono ?_; rintro e w1 ⟨qr, dr, rfl, sl, b⟩; have SI := hid sl; have B9 := hid (bB.out.trans (b.mono bB.out.size)); have x1 : w1.cell? ⟨H, 1, none⟩ = some (.int .i64 who) := (TB.out.of_block (B9.out.block _ hH.out)).cell (i := 1) (by decide); have x8 : w1.cell? ⟨H, 8, none⟩ = some (.slice ps sent.length cs) := (TB.out.of_block (B9.out.block _ hH.out)).cell (i := 8) (by decide); have x10 : w1.cell? ⟨H, 10, none⟩ = some (.slice pr report.length cr) := (TB.out.of_block (B9.out.block _ hH.out)).cell (i := 10) (by decide); have new1 : ¬ w1.heap.size = H := (by have := B9.out.size; have := hH.out; omega); have hs9 := B9.out.size; have RZ := hid (show w1.rowIs W.heap.size 41 11 zeroT from (show (W.alloc (boxT zeroT)).drew.rowIs W.heap.size 41 11 zeroT from rowT_new W zeroT).of_block (b.block _ (by simp))); have z0 := RZ.out.cell (i := 0) (by decide); have z1 := RZ.out.cell (i := 1) (by decide); have z2 := RZ.out.cell (i := 2) (by decide); have z3 := RZ.out.cell (i := 3) (by decide); have z4 := RZ.out.cell (i := 4) (by decide); have z5 := RZ.out.cell (i := 5) (by decide); have z6 := RZ.out.cell (i := 6) (by decide); have z7 := RZ.out.cell (i := 7) (by decide); have z8 := RZ.out.cell (i := 8) (by decide); have z9 := RZ.out.cell (i := 9) (by decide); have z10 := RZ.out.cell (i := 10) (by decide); have zf0 := RZ.out.frozen 0; have zf1 := RZ.out.frozen 1; have zf2 := RZ.out.frozen 2; have zf3 := RZ.out.frozen 3; have zf4 := RZ.out.frozen 4; have zf5 := RZ.out.frozen 5; have zf6 := RZ.out.frozen 6; have zf7 := RZ.out.frozen 7; have zf8 := RZ.out.frozen 8; have zf9 := RZ.out.frozen 9; have zf10 := RZ.out.frozen 10; clear sl b)
      | (refine (KI _ B9.out).mono ?_; rintro e w2 ⟨qr, dr, rfl, sl, b⟩; have SI := hid sl; have B8 := hid (B9.out.trans (b.mono (Below.size B9.out))); have B7 := B9; clear x1 x8 x10 hs9 B9; have B9 := B8; clear B8; have x1 : w2.cell? ⟨H, 1, none⟩ = some (.int .i64 who) := (TB.out.of_block (B9.out.block _ hH.out)).cell (i := 1) (by decide); have x8 : w2.cell? ⟨H, 8, none⟩ = some (.slice ps sent.length cs) := (TB.out.of_block (B9.out.block _ hH.out)).cell (i := 8) (by decide); have x10 : w2.cell? ⟨H, 10, none⟩ = some (.slice pr report.length cr) := (TB.out.of_block (B9.out.block _ hH.out)).cell (i := 10) (by decide); have new2 : ¬ w2.heap.size = H := (by have := B9.out.size; have := hH.out; omega); have hs9 := B9.out.size; have SV2 := hid (SV.out.keep (Kt.of_below b)); (first | (have RZ2 := hid (RZ.out.of_block (b.block _ RZ.out.lt)); clear z0 z1 z2 z3 z4 z5 z6 z7 z8 z9 z10 zf0 zf1 zf2 zf3 zf4 zf5 zf6 zf7 zf8 zf9 zf10; have y0 := RZ2.out.cell (i := 0) (by decide); have y1 := RZ2.out.cell (i := 1) (by decide); have y2 := RZ2.out.cell (i := 2) (by decide); have y3 := RZ2.out.cell (i := 3) (by decide); have y4 := RZ2.out.cell (i := 4) (by decide); have y5 := RZ2.out.cell (i := 5) (by decide); have y6 := RZ2.out.cell (i := 6) (by decide); have y7 := RZ2.out.cell (i := 7) (by decide); have y8 := RZ2.out.cell (i := 8) (by decide); have y9 := RZ2.out.cell (i := 9) (by decide); have y10 := RZ2.out.cell (i := 10) (by decide); have yf0 := RZ2.out.frozen 0; have yf1 := RZ2.out.frozen 1; have yf2 := RZ2.out.frozen 2; have yf3 := RZ2.out.frozen 3; have yf4 := RZ2.out.frozen 4; have yf5 := RZ2.out.frozen 5; have yf6 := RZ2.out.frozen 6; have yf7 := RZ2.out.frozen 7; have yf8 := RZ2.out.frozen 8; have yf9 := RZ2.out.frozen 9; have yf10 := RZ2.out.frozen 10) | skip); clear sl b)
      | (refine (KI _ (B9.out.alloc B9.out.size _)).mono ?_; rintro e w2 ⟨qr, dr, rfl, sl, b⟩; have SI := hid sl; have B8 := hid ((B9.out.alloc B9.out.size _).trans (b.mono (Below.size (B9.out.alloc B9.out.size _)))); have B7 := B9; clear x1 x8 x10 hs9 B9; have B9 := B8; clear B8; have x1 : w2.cell? ⟨H, 1, none⟩ = some (.int .i64 who) := (TB.out.of_block (B9.out.block _ hH.out)).cell (i := 1) (by decide); have x8 : w2.cell? ⟨H, 8, none⟩ = some (.slice ps sent.length cs) := (TB.out.of_block (B9.out.block _ hH.out)).cell (i := 8) (by decide); have x10 : w2.cell? ⟨H, 10, none⟩ = some (.slice pr report.length cr) := (TB.out.of_block (B9.out.block _ hH.out)).cell (i := 10) (by decide); have new2 : ¬ w2.heap.size = H := (by have := B9.out.size; have := hH.out; omega); have hs9 := B9.out.size; have SV2 := hid (SV.out.keep ((Kt.of_below ((Below.refl _ _).alloc (Nat.le_refl _) _)).trans (Kt.of_below b))); have RZ2 := hid (show w2.rowIs w1.heap.size 41 11 zeroT from (rowT_new w1 zeroT).of_block (b.block _ (by simp))); have y0 := RZ2.out.cell (i := 0) (by decide); have y1 := RZ2.out.cell (i := 1) (by decide); have y2 := RZ2.out.cell (i := 2) (by decide); have y3 := RZ2.out.cell (i := 3) (by decide); have y4 := RZ2.out.cell (i := 4) (by decide); have y5 := RZ2.out.cell (i := 5) (by decide); have y6 := RZ2.out.cell (i := 6) (by decide); have y7 := RZ2.out.cell (i := 7) (by decide); have y8 := RZ2.out.cell (i := 8) (by decide); have y9 := RZ2.out.cell (i := 9) (by decide); have y10 := RZ2.out.cell (i := 10) (by decide); have yf0 := RZ2.out.frozen 0; have yf1 := RZ2.out.frozen 1; have yf2 := RZ2.out.frozen 2; have yf3 := RZ2.out.frozen 3; have yf4 := RZ2.out.frozen 4; have yf5 := RZ2.out.frozen 5; have yf6 := RZ2.out.frozen 6; have yf7 := RZ2.out.frozen 7; have yf8 := RZ2.out.frozen 8; have yf9 := RZ2.out.frozen 9; have yf10 := RZ2.out.frozen 10; clear sl b)
      )))
    all_goals (try go_wp2_with fail)
    all_goals go_meet
    · exact ⟨_, _, _, _, _, rfl, SeenI.made SV2.out SI.out B9.out⟩
    · exact ⟨_, _, _, _, _, rfl, SeenI.chain RZ2.out SV2.out SI.out B9.out B7.out.size⟩
    · exact ⟨_, _, _, _, _, rfl, SeenI.chain RZ2.out SV2.out SI.out B9.out (Nat.le_refl _)⟩
  case rest =>
    obtain ⟨mb, qs, ds, qr, dr, rfl, hsee⟩ := hcut
    have SE := hid hsee
    have TC := hid (TB.out.of_block (hsee.be.block _ hH.out))
    have RC := hid (RB.out.of_block (hsee.be.block _ hH1.out))
    have OC := hid (HO.out.grow hsee.be)
    have nem : ¬ mb = H := by have := hsee.lt; have := hH.out; omega
    have nem1 : ¬ mb = H + 1 := by have := hsee.lt; have := hH1.out; omega
    have nem2 : ¬ H = mb := by omega
    have nem3 : ¬ H + 1 = mb := by omega
    clear hsee KV KI bA bB c1 c8 c10 hHlt neW
    cases b with
    | false =>
      have m0 : wc.cell? ⟨mb, 0, none⟩ = some (.int .i64 0) := SE.out.row.cell (i := 0) (by decide)
      have m1 : wc.cell? ⟨mb, 1, none⟩ = some (.int .i64 who) := SE.out.row.cell (i := 1) (by decide)
      have m2 : wc.cell? ⟨mb, 2, none⟩ = some (.int .i64 0) := SE.out.row.cell (i := 2) (by decide)
      have m3 : wc.cell? ⟨mb, 3, none⟩ = some (.int .i64 0) := SE.out.row.cell (i := 3) (by decide)
      have m4 : wc.cell? ⟨mb, 4, none⟩ = some (.int .i64 0) := SE.out.row.cell (i := 4) (by decide)
      have m5 : wc.cell? ⟨mb, 5, none⟩ = some (.int .i64 0) := SE.out.row.cell (i := 5) (by decide)
      have m6 : wc.cell? ⟨mb, 6, none⟩ = some (.int .i64 0) := SE.out.row.cell (i := 6) (by decide)
      have m7 : wc.cell? ⟨mb, 7, none⟩ = some (.int .i64 0) := SE.out.row.cell (i := 7) (by decide)
      have m8 : wc.cell? ⟨mb, 8, none⟩ = some (.slice qs sent.length ds) := SE.out.row.cell (i := 8) (by decide)
      have m9 : wc.cell? ⟨mb, 9, none⟩ = some (.slice none 0 0) := SE.out.row.cell (i := 9) (by decide)
      have m10 : wc.cell? ⟨mb, 10, none⟩ = some (.slice qr report.length dr) := SE.out.row.cell (i := 10) (by decide)
      have r0 := RC.out.cell (i := 0) (by decide)
      have r1 := RC.out.cell (i := 1) (by decide)
      have r2 := RC.out.cell (i := 2) (by decide)
      have r3 := RC.out.cell (i := 3) (by decide)
      have r4 := RC.out.cell (i := 4) (by decide)
      have r5 := RC.out.cell (i := 5) (by decide)
      have r6 := RC.out.cell (i := 6) (by decide)
      have r7 := RC.out.cell (i := 7) (by decide)
      have r8 := RC.out.cell (i := 8) (by decide)
      have r9 := RC.out.cell (i := 9) (by decide)
      have r10 := RC.out.cell (i := 10) (by decide)
      have f0 := RC.out.frozen 0
      have f1 := RC.out.frozen 1
      have f2 := RC.out.frozen 2
      have f3 := RC.out.frozen 3
      have f4 := RC.out.frozen 4
      have f5 := RC.out.frozen 5
      have f6 := RC.out.frozen 6
      have f7 := RC.out.frozen 7
      have f8 := RC.out.frozen 8
      have f9 := RC.out.frozen 9
      have f10 := RC.out.frozen 10
      obtain ⟨W6, hW6⟩ : ∃ W6, W6 = (((((((((((wc.setCell ⟨H + 1, 0, none⟩ (.int .i64 0)).setCell ⟨H + 1, 1, none⟩ (.int .i64 who)).setCell ⟨H + 1, 2, none⟩ (.int .i64 0)).setCell ⟨H + 1, 3, none⟩ (.int .i64 0)).setCell ⟨H + 1, 4, none⟩ (.int .i64 0)).setCell ⟨H + 1, 5, none⟩ (.int .i64 0)).setCell ⟨H + 1, 6, none⟩ (.int .i64 0)).setCell ⟨H + 1, 7, none⟩ (.int .i64 0)).setCell ⟨H + 1, 8, none⟩ (.slice qs sent.length ds)).setCell ⟨H + 1, 9, none⟩ (.slice none 0 0)).setCell ⟨H + 1, 10, none⟩ (.slice qr report.length dr)) := ⟨_, rfl⟩
      go_wp2
      rw [← hW6]
      have h6 : W6 = putT wc (H + 1) 0 (RT.mk ⟨0, who, ⟨0, 0, 0, 0, 0⟩, 0, sent, [], report⟩ qs ds none 0 qr dr).cell := by rw [hW6]; exact chainR0 wc (H + 1) who sent report qs ds qr dr
      clear hW6 m0 m1 m2 m3 m4 m5 m6 m7 m8 m9 m10 r0 r1 r2 r3 r4 r5 r6 r7 r8 r9 r10 f0 f1 f2 f3 f4 f5 f6 f7 f8 f9 f10
      have F6 := hid (show W6.rowIs (H + 1) 41 11 _ by rw [h6]; exact putT0_row RC.out _)
      have K6 := hid (show Kt wc W6 by rw [h6]; exact putT_kt RC.out 0 _)
      have B6 := hid (show Below H wc W6 by rw [h6]; exact putT_below (by omega) _ _)
      clear h6
      refine bodyPost_T rfl (H + 1) (RT.mk ⟨0, who, ⟨0, 0, 0, 0, 0⟩, 0, sent, [], report⟩ qs ds none 0 qr dr).cell rfl F6.out rfl ⟨_, rfl, rfl, ⟨SE.out.s.keep K6.out, Sl.none _ _, SE.out.r.keep K6.out⟩, ?_⟩
      rw [← HH.out]
      exact (BE.out.trans (SE.out.be.mono (by have := hH.out; omega))).trans B6.out
    | true =>
      have KB := fun X (bx : Below wc.heap.size wc X) => freshB_c pf cf frame X (OC.out.f.grow bx) OC.out.fn OC.out.fl
      have bA := hid (show Below wc.heap.size wc wc.drew from (Below.refl _ _).drew)
      have t0 : wc.cell? ⟨H, 0, none⟩ = some (.int .i64 code) := TC.out.cell (i := 0) (by decide); have t2 : wc.cell? ⟨H, 2, none⟩ = some (.int .i64 kc) := TC.out.cell (i := 2) (by decide); have t3 : wc.cell? ⟨H, 3, none⟩ = some (.int .i64 ki) := TC.out.cell (i := 3) (by decide); have t4 : wc.cell? ⟨H, 4, none⟩ = some (.int .i64 kf) := TC.out.cell (i := 4) (by decide); have t5 : wc.cell? ⟨H, 5, none⟩ = some (.int .i64 kh) := TC.out.cell (i := 5) (by decide); have t6 : wc.cell? ⟨H, 6, none⟩ = some (.int .i64 ku) := TC.out.cell (i := 6) (by decide); have t7 : wc.cell? ⟨H, 7, none⟩ = some (.int .i64 val) := TC.out.cell (i := 7) (by decide); have t9 : wc.cell? ⟨H, 9, none⟩ = some (.slice pf frame.length cf) := TC.out.cell (i := 9) (by decide)
      go_upto_region 3 with fail
      go_region_held3 (fun w' => w'.cell? ⟨H, 0, none⟩ = some (.int .i64 code) ∧ w'.cell? ⟨H, 2, none⟩ = some (.int .i64 kc) ∧ w'.cell? ⟨H, 3, none⟩ = some (.int .i64 ki) ∧ w'.cell? ⟨H, 4, none⟩ = some (.int .i64 kf) ∧ w'.cell? ⟨H, 5, none⟩ = some (.int .i64 kh) ∧ w'.cell? ⟨H, 6, none⟩ = some (.int .i64 ku) ∧ w'.cell? ⟨H, 7, none⟩ = some (.int .i64 val) ∧ w'.cell? ⟨H, 9, none⟩ = some (.slice pf frame.length cf)) (go_keep)
        ((go_at_call 24; refine (KB _ bA.out).mono ?_; rintro e w5 ⟨qf, df, rfl, sl, b⟩; have SF := hid sl; have B5 := hid (bA.out.trans b); have T5 := hid (TC.out.of_block (B5.out.block _ TC.out.lt)); have M5 := hid (SE.out.row.of_block (B5.out.block _ SE.out.row.lt)); have u0 : w5.cell? ⟨H, 0, none⟩ = some (.int .i64 code) := T5.out.cell (i := 0) (by decide); have u2 : w5.cell? ⟨H, 2, none⟩ = some (.int .i64 kc) := T5.out.cell (i := 2) (by decide); have u3 : w5.cell? ⟨H, 3, none⟩ = some (.int .i64 ki) := T5.out.cell (i := 3) (by decide); have u4 : w5.cell? ⟨H, 4, none⟩ = some (.int .i64 kf) := T5.out.cell (i := 4) (by decide); have u5 : w5.cell? ⟨H, 5, none⟩ = some (.int .i64 kh) := T5.out.cell (i := 5) (by decide); have u6 : w5.cell? ⟨H, 6, none⟩ = some (.int .i64 ku) := T5.out.cell (i := 6) (by decide); have u7 : w5.cell? ⟨H, 7, none⟩ = some (.int .i64 val) := T5.out.cell (i := 7) (by decide); have u9 : w5.cell? ⟨H, 9, none⟩ = some (.slice pf frame.length cf) := T5.out.cell (i := 9) (by decide); have m0 : w5.cell? ⟨mb, 0, none⟩ = some (.int .i64 0) := M5.out.cell (i := 0) (by decide); have m1 : w5.cell? ⟨mb, 1, none⟩ = some (.int .i64 who) := M5.out.cell (i := 1) (by decide); have m2 : w5.cell? ⟨mb, 2, none⟩ = some (.int .i64 0) := M5.out.cell (i := 2) (by decide); have m3 : w5.cell? ⟨mb, 3, none⟩ = some (.int .i64 0) := M5.out.cell (i := 3) (by decide); have m4 : w5.cell? ⟨mb, 4, none⟩ = some (.int .i64 0) := M5.out.cell (i := 4) (by decide); have m5 : w5.cell? ⟨mb, 5, none⟩ = some (.int .i64 0) := M5.out.cell (i := 5) (by decide); have m6 : w5.cell? ⟨mb, 6, none⟩ = some (.int .i64 0) := M5.out.cell (i := 6) (by decide); have m7 : w5.cell? ⟨mb, 7, none⟩ = some (.int .i64 0) := M5.out.cell (i := 7) (by decide); have m8 : w5.cell? ⟨mb, 8, none⟩ = some (.slice qs sent.length ds) := M5.out.cell (i := 8) (by decide); have m9 : w5.cell? ⟨mb, 9, none⟩ = some (.slice none 0 0) := M5.out.cell (i := 9) (by decide); have m10 : w5.cell? ⟨mb, 10, none⟩ = some (.slice qr report.length dr) := M5.out.cell (i := 10) (by decide); have n0 := M5.out.frozen 0; have n2 := M5.out.frozen 2; have n3 := M5.out.frozen 3; have n4 := M5.out.frozen 4; have n5 := M5.out.frozen 5; have n6 := M5.out.frozen 6; have n7 := M5.out.frozen 7; have n9 := M5.out.frozen 9; clear sl b))
      rename_i hlast
      clear hlast
      have e8 := see8 M5.out code kc ki kf kh ku val frame qf df
      obtain ⟨W5, hW5⟩ : ∃ W5, W5 = ((((((((w5.setCell ⟨mb, 0, none⟩ (.int .i64 code)).setCell ⟨mb, 2, none⟩ (.int .i64 kc)).setCell ⟨mb, 3, none⟩ (.int .i64 ki)).setCell ⟨mb, 4, none⟩ (.int .i64 kf)).setCell ⟨mb, 5, none⟩ (.int .i64 kh)).setCell ⟨mb, 6, none⟩ (.int .i64 ku)).setCell ⟨mb, 7, none⟩ (.int .i64 val)).setCell ⟨mb, 9, none⟩ (.slice qf frame.length df)) := ⟨_, rfl⟩
      rw [← hW5] at e8 ⊢
      have R8 := hid e8.1
      have K8 := hid e8.2.1
      have B8 := hid (e8.2.2.1 H (by have := SE.out.lt; have := hH.out; omega))
      have RC8 := hid ((RC.out.of_block (B5.out.block _ RC.out.lt)).of_block (e8.2.2.2 _ nem3))
      have S8 := hid ((SE.out.s.keep (Kt.of_below B5.out)).keep K8.out)
      have I8 := hid ((SE.out.r.keep (Kt.of_below B5.out)).keep K8.out)
      have F8 := hid (SF.out.keep K8.out)
      clear hW5 e8 t0 t2 t3 t4 t5 t6 t7 t9 u0 u2 u3 u4 u5 u6 u7 u9 m0 m1 m2 m3 m4 m5 m6 m7 m8 m9 m10 n0 n2 n3 n4 n5 n6 n7 n9
      have m0 : W5.cell? ⟨mb, 0, none⟩ = some (.int .i64 code) := R8.out.cell (i := 0) (by decide)
      have m1 : W5.cell? ⟨mb, 1, none⟩ = some (.int .i64 who) := R8.out.cell (i := 1) (by decide)
      have m2 : W5.cell? ⟨mb, 2, none⟩ = some (.int .i64 kc) := R8.out.cell (i := 2) (by decide)
      have m3 : W5.cell? ⟨mb, 3, none⟩ = some (.int .i64 ki) := R8.out.cell (i := 3) (by decide)
      have m4 : W5.cell? ⟨mb, 4, none⟩ = some (.int .i64 kf) := R8.out.cell (i := 4) (by decide)
      have m5 : W5.cell? ⟨mb, 5, none⟩ = some (.int .i64 kh) := R8.out.cell (i := 5) (by decide)
      have m6 : W5.cell? ⟨mb, 6, none⟩ = some (.int .i64 ku) := R8.out.cell (i := 6) (by decide)
      have m7 : W5.cell? ⟨mb, 7, none⟩ = some (.int .i64 val) := R8.out.cell (i := 7) (by decide)
      have m8 : W5.cell? ⟨mb, 8, none⟩ = some (.slice qs sent.length ds) := R8.out.cell (i := 8) (by decide)
      have m9 : W5.cell? ⟨mb, 9, none⟩ = some (.slice qf frame.length df) := R8.out.cell (i := 9) (by decide)
      have m10 : W5.cell? ⟨mb, 10, none⟩ = some (.slice qr report.length dr) := R8.out.cell (i := 10) (by decide)
      have r0 := RC8.out.cell (i := 0) (by decide)
      have r1 := RC8.out.cell (i := 1) (by decide)
      have r2 := RC8.out.cell (i := 2) (by decide)
      have r3 := RC8.out.cell (i := 3) (by decide)
      have r4 := RC8.out.cell (i := 4) (by decide)
      have r5 := RC8.out.cell (i := 5) (by decide)
      have r6 := RC8.out.cell (i := 6) (by decide)
      have r7 := RC8.out.cell (i := 7) (by decide)
      have r8 := RC8.out.cell (i := 8) (by decide)
      have r9 := RC8.out.cell (i := 9) (by decide)
      have r10 := RC8.out.cell (i := 10) (by decide)
      have f0 := RC8.out.frozen 0
      have f1 := RC8.out.frozen 1
      have f2 := RC8.out.frozen 2
      have f3 := RC8.out.frozen 3
      have f4 := RC8.out.frozen 4
      have f5 := RC8.out.frozen 5
      have f6 := RC8.out.frozen 6
      have f7 := RC8.out.frozen 7
      have f8 := RC8.out.frozen 8
      have f9 := RC8.out.frozen 9
      have f10 := RC8.out.frozen 10
      obtain ⟨W6, hW6⟩ : ∃ W6, W6 = (((((((((((W5.setCell ⟨H + 1, 0, none⟩ (.int .i64 code)).setCell ⟨H + 1, 1, none⟩ (.int .i64 who)).setCell ⟨H + 1, 2, none⟩ (.int .i64 kc)).setCell ⟨H + 1, 3, none⟩ (.int .i64 ki)).setCell ⟨H + 1, 4, none⟩ (.int .i64 kf)).setCell ⟨H + 1, 5, none⟩ (.int .i64 kh)).setCell ⟨H + 1, 6, none⟩ (.int .i64 ku)).setCell ⟨H + 1, 7, none⟩ (.int .i64 val)).setCell ⟨H + 1, 8, none⟩ (.slice qs sent.length ds)).setCell ⟨H + 1, 9, none⟩ (.slice qf frame.length df)).setCell ⟨H + 1, 10, none⟩ (.slice qr report.length dr)) := ⟨_, rfl⟩
      go_wp2
      rw [← hW6]
      have h6 : W6 = putT W5 (H + 1) 0 (RT.mk ⟨code, who, ⟨kc, ki, kf, kh, ku⟩, val, sent, frame, report⟩ qs ds qf df qr dr).cell := by rw [hW6]; exact chainRT W5 (H + 1) code who kc ki kf kh ku val sent frame report qs ds qf df qr dr
      clear hW6 m0 m1 m2 m3 m4 m5 m6 m7 m8 m9 m10 r0 r1 r2 r3 r4 r5 r6 r7 r8 r9 r10 f0 f1 f2 f3 f4 f5 f6 f7 f8 f9 f10
      have F6 := hid (show W6.rowIs (H + 1) 41 11 _ by rw [h6]; exact putT0_row RC8.out _)
      have K6 := hid (show Kt W5 W6 by rw [h6]; exact putT_kt RC8.out 0 _)
      have B6 := hid (show Below H W5 W6 by rw [h6]; exact putT_below (by omega) _ _)
      clear h6
      refine bodyPost_T rfl (H + 1) (RT.mk ⟨code, who, ⟨kc, ki, kf, kh, ku⟩, val, sent, frame, report⟩ qs ds qf df qr dr).cell rfl F6.out rfl ⟨_, rfl, rfl, ⟨S8.out.keep K6.out, F8.out.keep K6.out, I8.out.keep K6.out⟩, ?_⟩
      rw [← HH.out]
      exact (((BE.out.trans (SE.out.be.mono (by have := hH.out; omega))).trans (B5.out.mono (by have := hH.out; have := SE.out.be.size; omega))).trans B8.out).trans B6.out
end Go.Proofs.Ytlmiomfbpeondan.Vi


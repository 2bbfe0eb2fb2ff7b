/-
  The circle's write.
-/
import Derived.Test.YtdcgkeanghhopakGs
namespace Go.Proofs.Ytdcgkeanghhopak
open Go.RowKit Go.Shelf Go.Sort

/-- The cells of an entry, by their places. -/
def enF (e : Plain.En) (j : Nat) : Value := if j = 0 then .int .i64 e.key else if j = 1 then .int .i64 e.value else if j = 2 then .int .i64 e.time else if j = 3 then .int .i64 e.who else .bool e.gone
theorem rowE_new (w : World) (e : Plain.En) : (w.alloc (boxE e)).rowIs w.heap.size 46 5 (enF e) := by
  refine World.rowIs_alloc _ _ 46 _ fun i hi => ?_
  have hi4 : i < 5 := hi
  have : i = 0 ∨ i = 1 ∨ i = 2 ∨ i = 3 ∨ i = 4 := by omega
  rcases this with rfl | rfl | rfl | rfl | rfl <;> rfl
theorem rowE_cells {w : World} {b : Nat} {e : Plain.En} (h : w.rowIs b 46 5 (enF e)) : CellN w b 0 e :=
  ⟨h.cell (i := 0) (by omega), h.cell (i := 1) (by omega), h.cell (i := 2) (by omega), h.cell (i := 3) (by omega), h.cell (i := 4) (by omega)⟩
theorem rowE_over {w : World} {b : Nat} {f : Nat → Value} (h : w.rowIs b 46 5 f) (e : Plain.En) : (setE w b 0 e).rowIs b 46 5 (enF e) := by
  have e1 := ((((h.set 0 (.int .i64 e.key)).set 1 (.int .i64 e.value)).set 2 (.int .i64 e.time)).set 3 (.int .i64 e.who)).set 4 (.bool e.gone)
  refine e1.congr fun j hj => ?_
  have : j = 0 ∨ j = 1 ∨ j = 2 ∨ j = 3 ∨ j = 4 := by omega
  rcases this with rfl | rfl | rfl | rfl | rfl <;> rfl
/-- What a turn comes to, in memory. -/
def DoP (B C H : Nat) (R : Nat → Nat) (w0 : World) (lp : Option Addr) (lc n : Nat) (L : List Int) (s : Plain.Stt) (t : Plain.Tu) (w : World) (e : Ending) (w' : World) : Prop :=
  e = .returned (.int .i64 (Plain.tuE n L s t : Nat)) ∧ CcI B C H R w0 w' lp lc n L.length (Plain.tuS n L s t) ∧ Un (isR R n) w w'
theorem doP_no {B C H : Nat} {R : Nat → Nat} {w0 : World} {lp : Option Addr} {lc n : Nat} {L : List Int} {s : Plain.Stt} {t : Plain.Tu} {w w' : World} {E : Nat} (hE : Plain.tuE n L s t = E) (h0 : E ≠ 0) (hB : B ≤ w.heap.size) (I : CcI B C H R w0 w lp lc n L.length s) (b : Below w.heap.size w w') :
    DoP B C H R w0 lp lc n L s t w (.returned (.int .i64 (E : Nat))) w' := by
  refine ⟨by rw [hE], ?_, Un.of_below b⟩
  have e : Plain.tuS n L s t = s := by unfold Plain.tuS; rw [if_pos (by rw [hE]; exact h0)]
  rw [e]
  exact I.grow hB b
theorem Plain.put_may {n : Nat} {L : List Int} {T : Int} {s : Plain.Stt} {t : Plain.Tu} (h : Plain.Gok n L T s) (hn : n ≤ 8) (hT : 0 ≤ T ∧ T < 1000000) (hw : Plain.Wr n L s t) :
    Plain.mayL (s t.who.toNat t.label.toNat) = true ∧ Plain.mayL [Plain.entF (s t.who.toNat t.label.toNat) t] = true ∧ (Plain.mergeL (s t.who.toNat t.label.toNat) [Plain.entF (s t.who.toNat t.label.toNat) t]).length ≤ 8 := by
  have g := h.write hn hT hw
  have e : Plain.writeS s t t.who.toNat t.label.toNat = Plain.put (s t.who.toNat t.label.toNat) (Plain.entF (s t.who.toNat t.label.toNat) t) := by unfold Plain.writeS; rw [if_pos ⟨rfl, rfl⟩]
  refine ⟨h.mayL _ _, ?_, ?_⟩
  · refine (Plain.may_iff _).2 ⟨by simp, fun x hx => ?_, List.pairwise_singleton _ _⟩
    have hx' : x = Plain.entF (s t.who.toNat t.label.toNat) t := by simpa using hx
    have h1 := hw.wh; have h2 := hw.ke; have h3 := hw.va; have h4 := hw.kd
    have hm := Plain.maxT_le hT.1 (fun e he => (h.may t.who.toNat t.label.toNat e he).2.2.1)
    have hp := Plain.maxT_pos (s t.who.toNat t.label.toNat)
    rw [hx']
    unfold Plain.entF Plain.mayB
    dsimp only
    refine decide_eq_true ⟨by omega, by split <;> omega, by omega, by omega, fun hg => ?_⟩
    have := of_decide_eq_true hg
    rw [if_neg (by omega)]
  · have := g.len t.who.toNat t.label.toNat
    rw [e] at this
    exact this

set_option maxHeartbeats 8000000 in
set_option maxRecDepth 100000 in
theorem write_in (B C H : Nat) (R : Nat → Nat) (w0 : World) (lp : Option Addr) (lc n : Nat) (L : List Int) (s : Plain.Stt) (kd tz ke va : Int) (i j : Nat) (T : Int) (hk : kd = 1 ∨ kd = 2) (hn : n ≤ 8) (hL4 : L.length ≤ 4) (hL : ∀ x, x ∈ L → 0 ≤ x ∧ x < 256) (hG : Plain.Gok n L T s) (hT : 0 ≤ T ∧ T < 1000000)
    (hr : Plain.rfE n L ⟨kd, (i : Int), tz, (j : Int), ke, va⟩ = 0) (w : World) (hB : B ≤ w.heap.size) (I : CcI B C H R w0 w lp lc n L.length s) (NL : Nums w lp L) :
    Calls Try.prog 34 #[.pointer (some ⟨C, 0, none⟩), aggT ⟨kd, (i : Int), tz, (j : Int), ke, va⟩] w fun e w' => DoP B C H R w0 lp lc n L s ⟨kd, (i : Int), tz, (j : Int), ke, va⟩ w e w' := by
  have BA := hid (show Below w.heap.size w (w.alloc (boxT ⟨kd, (i : Int), tz, (j : Int), ke, va⟩)) from (Below.refl _ _).alloc (Nat.le_refl _) _)
  have I0 := hid (I.grow hB BA.out)
  have K0 := refuse_c C H n lp lc L ⟨kd, (i : Int), tz, (j : Int), ke, va⟩ hn hL4 hL _ I0.out.cell0 I0.out.cell1 (NL.grow BA.out)
  rw [hr] at K0
  obtain ⟨hw1, hl1, hk1, hv1, hrd⟩ := Plain.rf_ok hr
  dsimp only at hw1 hl1 hk1 hv1 hrd
  have hi : i < n := by omega
  have hj : j < L.length := by omega
  have hiz : (i : Int) < (n : Int) := by omega
  have hjz : (j : Int) < (L.length : Int) := by omega
  have HRF := hid hr
  have HK := hid hk
  have HI := hid I
  have HG := hid hG
  have HT := hid hT
  have HRD := hid hrd
  have HV := hid hv1
  have l8 : (s i j).length ≤ 8 := hG.len i j
  have hmx0 := Plain.maxT_pos (s i j)
  have hmx1 := Plain.maxT_le (l := s i j) hT.1 (fun e he => (hG.may i j e he).2.2.1)
  clear hr hk I hG hrd hv1 hL
  go_enter Try.func34, Try.ntmps34
  go_wp2_with fail
  refine K0.mono ?_
  rintro e w1 ⟨rfl, b1⟩
  have B1 := hid (BA.out.trans (b1.mono BA.out.size))
  have I1 := hid (I0.out.grow (Nat.le_trans hB BA.out.size) b1)
  obtain ⟨t0, t1, t2, t3, t4, t5⟩ := (boxT_at w ⟨kd, (i : Int), tz, (j : Int), ke, va⟩).below b1 (by simp)
  have CT := hid ((boxT_at w ⟨kd, (i : Int), tz, (j : Int), ke, va⟩).below b1 (by simp))
  simp only [Nat.zero_add] at t1 t2 t3 t4 t5
  have x0 := I1.out.cell1
  have xh := I1.out.cellH hi
  clear K0 I0 b1 BA
  dsimp only at t0 t1 t2 t3 t4 t5
  go_wp2
  go_quiet (fail)
  obtain ⟨w2, hw2⟩ : ∃ w2, w2 = w1.drewN nq := ⟨_, rfl⟩
  rw [← hw2]
  have B2 := hid (show Below w.heap.size w w2 by rw [hw2]; exact below_drewN B1.out _)
  have bx2 : Below w1.heap.size w1 w2 := by rw [hw2]; exact below_drewN (Below.refl _ _) _
  have I2 := hid (I1.out.grow (Nat.le_trans hB B1.out.size) bx2)
  have CT2 := hid (CT.out.below bx2 CT.out.lt)
  clear hw2 t0 t1 t2 t3 t4 t5 x0 xh I1 CT bx2 B1
  obtain ⟨t0, t1, t2, t3, t4, t5⟩ := CT2.out
  simp only [Nat.zero_add] at t1 t2 t3 t4 t5
  dsimp only at t0 t1 t2 t3 t4 t5
  have hT0 := CT2.out.lt
  obtain ⟨p2, c2, x2, sg2, ly2, _⟩ := I2.out.has hi hj
  have SG2 := hid sg2
  have LY2 := hid ly2
  clear sg2 ly2
  have KL := fun X (b : Below w2.heap.size w2 X) => latest_c (.slice p2 (s i j).length c2) (s i j) (by omega) X (SG2.out.below b LY2.out) (LY2.out.mono b.size)
  generalize hmx : Plain.maxT (s i j) = mx at KL hmx0 hmx1
  have HMX := hid hmx
  clear hmx
  have hmw : IntKind.i64.wrap (mx + 1) = mx + 1 := by rw [IntKind.wrap_i64]; omega
  have bA := hid (show Below w2.heap.size w2 w2.drew from (Below.refl _ _).drew)
  have bB := hid (show Below w2.heap.size w2 (w2.alloc (boxE default)).drew from ((Below.refl _ _).alloc (Nat.le_refl _) _).drew)
  have hRlt2 : R i < w2.heap.size := World.block_lt_of_cell? (w := w2) (h := x2)
  have ne1 : ¬ w2.heap.size = R i := by omega
  have ne2 : ¬ w2.heap.size = w.heap.size := by omega
  generalize hlen2 : (s i j).length = ln at *
  have HLN := hid hlen2
  clear hlen2
  have hb2 := B2.out.size
  generalize hsz : w.heap.size = T0 at *
  have HSZ := hid hsz
  clear hsz
  go_wp2
  go_cut [7] from 25 to 36 (fun s7 wx => ∃ mb, s7 = .pointer (some ⟨mb, 0, none⟩) ∧ w2.heap.size ≤ mb ∧ Aside (wx.rowIs mb 46 5 (enF ⟨ke, va, mx + 1, (i : Int), false⟩)) ∧ Aside (Below w2.heap.size w2 wx))
  case first =>
    go_region_held3 (fun w' => w'.cell? ⟨T0, 1, none⟩ = some (.int .i64 (i : Int)) ∧ w'.cell? ⟨T0, 4, none⟩ = some (.int .i64 ke) ∧ w'.cell? ⟨T0, 5, none⟩ = some (.int .i64 va) ∧ w'.cell? ⟨R i, j, none⟩ = some (.slice p2 ln c2)) (go_keep)
      ((go_at_call 44; first
      | (refine (KL _ bA.out).mono ?_; rintro e w' ⟨rfl, b⟩; have BB := hid (bA.out.trans b); have f1 := (BB.out.cell (p := ⟨T0, 1, none⟩) hT0).trans t1; have f4 := (BB.out.cell (p := ⟨T0, 4, none⟩) hT0).trans t4; have f5 := (BB.out.cell (p := ⟨T0, 5, none⟩) hT0).trans t5; have fx := (BB.out.cell (p := ⟨R i, j, none⟩) hRlt2).trans x2; have hsz' := BB.out.size; have ne3 : ¬ w'.heap.size = R i := (by omega); have ne4 : ¬ w'.heap.size = T0 := (by omega); clear b)
      | (refine (KL _ bB.out).mono ?_; rintro e w' ⟨rfl, b⟩; have BB := hid (bB.out.trans (b.mono bB.out.size)); have f1 := (BB.out.cell (p := ⟨T0, 1, none⟩) hT0).trans t1; have f4 := (BB.out.cell (p := ⟨T0, 4, none⟩) hT0).trans t4; have f5 := (BB.out.cell (p := ⟨T0, 5, none⟩) hT0).trans t5; have fx := (BB.out.cell (p := ⟨R i, j, none⟩) hRlt2).trans x2; have RZ := hid (show w'.rowIs w2.heap.size 46 5 (enF default) from (rowE_new w2 default).of_block (b.block _ (by simp))); obtain ⟨z0, z1, z2, z3, z4⟩ := rowE_cells RZ.out; have y0 := RZ.out.frozen 0; have y1 := RZ.out.frozen 1; have y2 := RZ.out.frozen 2; have y3 := RZ.out.frozen 3; have y4 := RZ.out.frozen 4; simp only [Nat.zero_add] at z1 z2 z3 z4; clear b)))
    all_goals (try go_wp2_with fail)
    all_goals go_meet
    all_goals first
      | exact ⟨_, rfl, BB.out.size, rowE_new _ ⟨ke, va, mx + 1, (i : Int), false⟩, BB.out.alloc BB.out.size _⟩
      | exact ⟨_, rfl, Nat.le_refl _, rowE_over RZ.out ⟨ke, va, mx + 1, (i : Int), false⟩, below_setE BB.out (Nat.le_refl _) ⟨ke, va, mx + 1, (i : Int), false⟩⟩
  case rest =>
    obtain ⟨mb, rfl, hmb, HRW, HBC⟩ := hcut
    have CT3 := hid (CT2.out.below HBC.out hT0)
    have I3 := hid (I2.out.grow (Nat.le_trans hB hb2) HBC.out)
    have B3 := hid (B2.out.trans (HBC.out.mono hb2))
    have R3 := hid HRW.out
    have hs23 := HBC.out.size
    have HMG := hid (show kd = 2 → Plain.lives ke (s i j) = true → Plain.Wr n L s ⟨kd, (i : Int), tz, (j : Int), ke, va⟩ from fun e hlv => ⟨HK.out, hw1, hl1, hk1, HV.out, by simpa using HRD.out, fun _ => by simpa using hlv⟩)
    clear t0 t1 t2 t3 t4 t5 KL bA bB ne1 ne2 hmw HRW HBC CT2 I2 x2 SG2 LY2 hRlt2
    obtain ⟨t0, t1, t2, t3, t4, t5⟩ := CT3.out
    simp only [Nat.zero_add] at t1 t2 t3 t4 t5
    dsimp only at t0 t1 t2 t3 t4 t5
    by_cases hk2 : kd = 2
    · subst hk2
      obtain ⟨p3, c3, x3, sg3, ly3, fz3⟩ := I3.out.has hi hj
      have KC := containsW T0 ke (.slice p3 (s i j).length c3) (s i j) wc (by omega) t4 (by rw [HLN.out]; omega) sg3 ly3
      rw [show (s i j).any (Plain.livB ke) = Plain.lives ke (s i j) from Plain.lives_any (HG.out.srt i j) ke, HLN.out] at KC
      rw [HLN.out] at x3
      clear sg3 ly3 fz3
      have hmf : ∀ (fn : Fn) (first cap : Array Value) (w : World), (Instr.makeFunc fn first cap).run Try.prog w = .ok (.func fn first cap) w := fun _ _ _ _ => rfl
      cases hlv : Plain.lives ke (s i j) with
      | false =>
        rw [hlv] at KC
        go_wp2_with fail
        refine KC.mono ?_
        rintro e w4 ⟨rfl, b4⟩
        have B4 := hid (B3.out.trans (b4.mono (by omega)))
        clear KC b4
        go_wp2
        go_ret
        exact doP_no (E := 6) (by rw [Plain.tuE_rf (.inr rfl), HRF.out]; show (if (2 : Int) = 2 ∧ Plain.lives ke (s (i : Int).toNat (j : Int).toNat) = false then 6 else 0) = 6; rw [Int.toNat_natCast, Int.toNat_natCast, if_pos ⟨rfl, hlv⟩]) (by decide) (by rw [HSZ.out]; exact hB) HI.out (by rw [HSZ.out]; exact B4.out)
      | true =>
        rw [hlv] at KC
        go_wp2_with fail
        refine KC.mono ?_
        rintro e w4 ⟨rfl, b4⟩
        have B4 := hid (B3.out.trans (b4.mono (by omega)))
        have R4 := hid (R3.out.of_block (b4.block _ R3.out.lt))
        obtain ⟨z0, z1, z2, z3, z4⟩ := rowE_cells R4.out
        have q1 := R4.out.frozen 1
        have q4 := R4.out.frozen 4
        simp only [Nat.zero_add] at z1 z2 z3 z4
        have hs4 := b4.size
        dsimp only at z0 z1 z2 z3 z4
        clear KC b4 hmf x3
        go_wp2
        obtain ⟨W5, hW5⟩ : ∃ W5, W5 = (w4.setCell ⟨mb, 1, none⟩ (.int .i64 0)).setCell ⟨mb, 4, none⟩ (.bool true) := ⟨_, rfl⟩
        rw [← hW5]
        have BW5 := hid (show Below T0 w W5 by rw [hW5]; exact (B4.out.setCell (p := ⟨mb, 1, none⟩) (by show T0 ≤ mb; omega) _).setCell (p := ⟨mb, 4, none⟩) (by show T0 ≤ mb; omega) _)
        obtain ⟨EE, hEE⟩ : ∃ EE : Plain.En, EE = ⟨ke, 0, mx + 1, (i : Int), true⟩ := ⟨_, rfl⟩
        have RR : W5.rowIs mb 46 5 (enF EE) := by
          rw [hW5, hEE]
          refine ((R4.out.set 1 (.int .i64 0)).set 4 (.bool true)).congr fun q hq => ?_
          have : q = 0 ∨ q = 1 ∨ q = 2 ∨ q = 3 ∨ q = 4 := by omega
          rcases this with rfl | rfl | rfl | rfl | rfl <;> rfl
        have HEE := hid (show Plain.entF (s i j) ⟨2, (i : Int), tz, (j : Int), ke, va⟩ = EE by rw [hEE]; unfold Plain.entF; rw [HMX.out]; rfl)
        have HWR := hid (HMG.out (by trivial) hlv)
        have hT5 : T0 ≤ W5.heap.size := by have := BW5.out.size; rw [HSZ.out] at this; exact this
        clear hW5 hEE z0 z1 z2 z3 z4 q1 q4 t0 t1 t2 t3 t4 t5
        have HWT := hid (Plain.write_ok HWR.out)
        have HMY0 := Plain.put_may HG.out hn HT.out HWR.out
        dsimp only at HMY0
        rw [Int.toNat_natCast, Int.toNat_natCast, HEE.out] at HMY0
        have HMY := hid HMY0
        have I5 := hid (HI.out.grow (by rw [HSZ.out]; exact hB) (by rw [HSZ.out]; exact BW5.out))
        have HTS := hid (show Plain.tuS n L s ⟨2, (i : Int), tz, (j : Int), ke, va⟩ = Plain.writeS s ⟨2, (i : Int), tz, (j : Int), ke, va⟩ by unfold Plain.tuS; rw [HWT.out, if_neg (by decide), if_neg (by show ¬ (2 : Int) = (3 : Int); decide)])
        have HR := hid RR
        have y0 := (rowE_cells RR).c0
        have y1 := (rowE_cells RR).c1
        have y2 := (rowE_cells RR).c2
        have y3 := (rowE_cells RR).c3
        have y4 := (rowE_cells RR).c4
        simp only [Nat.zero_add] at y1 y2 y3 y4
        have hmlt := RR.lt
        obtain ⟨p5, c5, x5, sg5, ly5, fz5⟩ := I5.out.has hi hj
        have hRlt : R i < W5.heap.size := World.block_lt_of_cell? (w := W5) (h := x5)
        have SG := hid sg5
        have LY := hid ly5
        have FZ := hid fz5
        clear sg5 ly5 fz5 RR HMY0
        have bC := hid (show Below W5.heap.size W5 (W5.alloc (boxE EE)).drew from ((Below.refl _ _).alloc (Nat.le_refl _) _).drew)
        have KM := fun X (b : Below W5.heap.size W5 X) (cx : CellN X W5.heap.size 0 EE) (hx : W5.heap.size < X.heap.size) => gmerge_c (.slice p5 (s i j).length c5) (.slice (some ⟨W5.heap.size, 0, none⟩) 1 1) (s i j) [EE] HMY.out.1 HMY.out.2.1 HMY.out.2.2 X (SG.out.below b LY.out) (LY.out.mono b.size) (.inr ⟨W5.heap.size, 0, 1, rfl, Nat.le_refl _, fun q hq => by have : q = 0 := (by simp at hq; omega); subst this; exact cx⟩) (lies_at hx)
        have HFIN := hid (fun w' (r : Value) (h1 : SegN w' r (Plain.mergeL (s i j) [EE])) (h2 : Lies w'.heap.size r) (b : Below W5.heap.size W5 w') => show DoP B C H R w0 lp lc n L s ⟨2, (i : Int), tz, (j : Int), ke, va⟩ w (.returned (.int .i64 (0 : Nat))) (w'.setCell ⟨R i, j, none⟩ r) from
          ⟨by rw [HWT.out], by
            rw [HTS.out]
            refine ((I5.out.grow (by omega) b).set hi h1 h2).congr fun a c _ _ => ?_
            by_cases hh : a = i ∧ c = j
            · rw [if_pos hh]
              unfold Plain.writeS
              rw [if_pos (by simpa using hh), hh.1, hh.2, HEE.out]
              rfl
            · rw [if_neg hh]
              unfold Plain.writeS
              rw [if_neg (by simpa using hh)], (Un.of_below (by rw [HSZ.out]; exact BW5.out.trans (b.mono (by omega)))).trans (Un.set ⟨i, hi, rfl⟩ _ _)⟩)
        have CX := hid (show CellN (W5.alloc (boxE EE)).drew W5.heap.size 0 EE from (box_at W5 EE).below (B := W5.heap.size + 1) ((Below.refl _ _).drew) (by omega))
        have hx : W5.heap.size < (W5.alloc (boxE EE)).drew.heap.size := by show W5.heap.size < (W5.alloc _).heap.size; simp
        have KM2 := hid (KM _ bC.out CX.out hx)
        have hneR : ¬ W5.heap.size = R i := by omega
        have hneM : ¬ W5.heap.size = mb := by omega
        rw [HLN.out] at x5 KM2
        clear KM hx CX
        generalize hml : (Plain.mergeL (s i j) [EE]).length = nl at KM2
        have HML := hid hml
        clear hml
        obtain ⟨ek, ev, et, eo, eg⟩ := EE
        dsimp only at y0 y1 y2 y3 y4
        go_wp2
        go_region_with
          ((go_at_call 46; refine KM2.out.mono ?_; rintro e w' ⟨pr, cr, rfl, hs, hl, b⟩; have BB := hid (bC.out.trans (b.mono bC.out.size)); have HS := hid hs; have HL2 := hid hl; have f0 := (BB.out.cell (p := ⟨R i, j, none⟩) hRlt).trans x5; have f1 := (BB.out.cell (p := ⟨mb, 0, none⟩) hmlt).trans y0; have f2 := (BB.out.cell (p := ⟨mb, 1, none⟩) hmlt).trans y1; have f3 := (BB.out.cell (p := ⟨mb, 2, none⟩) hmlt).trans y2; have f4 := (BB.out.cell (p := ⟨mb, 3, none⟩) hmlt).trans y3; have f5 := (BB.out.cell (p := ⟨mb, 4, none⟩) hmlt).trans y4; have fz : w'.frozen? ⟨R i, j, none⟩ = false := (by have e := BB.out.block (R i) hRlt; have z := FZ.out; simp only [World.frozen?] at z ⊢; rw [e]; exact z); clear b hs hl))
        all_goals (try go_wp2_with fail)
        all_goals go_ret
        all_goals exact HFIN.out _ _ HS.out HL2.out BB.out

    · obtain rfl : kd = 1 := by have := HK.out; omega
      have BW5 := hid B3.out
      have HWR := hid (show Plain.Wr n L s ⟨1, (i : Int), tz, (j : Int), ke, va⟩ from ⟨HK.out, hw1, hl1, hk1, HV.out, by simpa using HRD.out, fun e => by have e' : (1 : Int) = 2 := e; omega⟩)
      obtain ⟨EE, hEE⟩ : ∃ EE : Plain.En, EE = ⟨ke, va, mx + 1, (i : Int), false⟩ := ⟨_, rfl⟩
      have HEE := hid (show Plain.entF (s i j) ⟨1, (i : Int), tz, (j : Int), ke, va⟩ = EE by rw [hEE]; unfold Plain.entF; rw [HMX.out]; rfl)
      have RR := R3.out
      rw [← hEE] at RR
      obtain ⟨W5, hW5⟩ : ∃ W5, W5 = wc := ⟨_, rfl⟩
      go_wp2
      rw [← hW5]
      rw [← hW5] at BW5 RR
      have hT5 : T0 ≤ W5.heap.size := by have := BW5.out.size; rw [HSZ.out] at this; exact this
      clear hEE t1 t2 t3 t4 t5 t0
      clear hW5
      have HWT := hid (Plain.write_ok HWR.out)
      have HMY0 := Plain.put_may HG.out hn HT.out HWR.out
      dsimp only at HMY0
      rw [Int.toNat_natCast, Int.toNat_natCast, HEE.out] at HMY0
      have HMY := hid HMY0
      have I5 := hid (HI.out.grow (by rw [HSZ.out]; exact hB) (by rw [HSZ.out]; exact BW5.out))
      have HTS := hid (show Plain.tuS n L s ⟨1, (i : Int), tz, (j : Int), ke, va⟩ = Plain.writeS s ⟨1, (i : Int), tz, (j : Int), ke, va⟩ by unfold Plain.tuS; rw [HWT.out, if_neg (by decide), if_neg (by show ¬ (1 : Int) = (3 : Int); decide)])
      have HR := hid RR
      have y0 := (rowE_cells RR).c0
      have y1 := (rowE_cells RR).c1
      have y2 := (rowE_cells RR).c2
      have y3 := (rowE_cells RR).c3
      have y4 := (rowE_cells RR).c4
      simp only [Nat.zero_add] at y1 y2 y3 y4
      have hmlt := RR.lt
      obtain ⟨p5, c5, x5, sg5, ly5, fz5⟩ := I5.out.has hi hj
      have hRlt : R i < W5.heap.size := World.block_lt_of_cell? (w := W5) (h := x5)
      have SG := hid sg5
      have LY := hid ly5
      have FZ := hid fz5
      clear sg5 ly5 fz5 RR HMY0
      have bC := hid (show Below W5.heap.size W5 (W5.alloc (boxE EE)).drew from ((Below.refl _ _).alloc (Nat.le_refl _) _).drew)
      have KM := fun X (b : Below W5.heap.size W5 X) (cx : CellN X W5.heap.size 0 EE) (hx : W5.heap.size < X.heap.size) => gmerge_c (.slice p5 (s i j).length c5) (.slice (some ⟨W5.heap.size, 0, none⟩) 1 1) (s i j) [EE] HMY.out.1 HMY.out.2.1 HMY.out.2.2 X (SG.out.below b LY.out) (LY.out.mono b.size) (.inr ⟨W5.heap.size, 0, 1, rfl, Nat.le_refl _, fun q hq => by have : q = 0 := (by simp at hq; omega); subst this; exact cx⟩) (lies_at hx)
      have HFIN := hid (fun w' (r : Value) (h1 : SegN w' r (Plain.mergeL (s i j) [EE])) (h2 : Lies w'.heap.size r) (b : Below W5.heap.size W5 w') => show DoP B C H R w0 lp lc n L s ⟨1, (i : Int), tz, (j : Int), ke, va⟩ w (.returned (.int .i64 (0 : Nat))) (w'.setCell ⟨R i, j, none⟩ r) from
        ⟨by rw [HWT.out], by
          rw [HTS.out]
          refine ((I5.out.grow (by omega) b).set hi h1 h2).congr fun a c _ _ => ?_
          by_cases hh : a = i ∧ c = j
          · rw [if_pos hh]
            unfold Plain.writeS
            rw [if_pos (by simpa using hh), hh.1, hh.2, HEE.out]
            rfl
          · rw [if_neg hh]
            unfold Plain.writeS
            rw [if_neg (by simpa using hh)], (Un.of_below (by rw [HSZ.out]; exact BW5.out.trans (b.mono (by omega)))).trans (Un.set ⟨i, hi, rfl⟩ _ _)⟩)
      have CX := hid (show CellN (W5.alloc (boxE EE)).drew W5.heap.size 0 EE from (box_at W5 EE).below (B := W5.heap.size + 1) ((Below.refl _ _).drew) (by omega))
      have hx : W5.heap.size < (W5.alloc (boxE EE)).drew.heap.size := by show W5.heap.size < (W5.alloc _).heap.size; simp
      have KM2 := hid (KM _ bC.out CX.out hx)
      have hneR : ¬ W5.heap.size = R i := by omega
      have hneM : ¬ W5.heap.size = mb := by omega
      rw [HLN.out] at x5 KM2
      clear KM hx CX
      generalize hml : (Plain.mergeL (s i j) [EE]).length = nl at KM2
      have HML := hid hml
      clear hml
      obtain ⟨ek, ev, et, eo, eg⟩ := EE
      dsimp only at y0 y1 y2 y3 y4
      go_wp2
      go_region_with
        ((go_at_call 46; refine KM2.out.mono ?_; rintro e w' ⟨pr, cr, rfl, hs, hl, b⟩; have BB := hid (bC.out.trans (b.mono bC.out.size)); have HS := hid hs; have HL2 := hid hl; have f0 := (BB.out.cell (p := ⟨R i, j, none⟩) hRlt).trans x5; have f1 := (BB.out.cell (p := ⟨mb, 0, none⟩) hmlt).trans y0; have f2 := (BB.out.cell (p := ⟨mb, 1, none⟩) hmlt).trans y1; have f3 := (BB.out.cell (p := ⟨mb, 2, none⟩) hmlt).trans y2; have f4 := (BB.out.cell (p := ⟨mb, 3, none⟩) hmlt).trans y3; have f5 := (BB.out.cell (p := ⟨mb, 4, none⟩) hmlt).trans y4; have fz : w'.frozen? ⟨R i, j, none⟩ = false := (by have e := BB.out.block (R i) hRlt; have z := FZ.out; simp only [World.frozen?] at z ⊢; rw [e]; exact z); clear b hs hl))
      all_goals (try go_wp2_with fail)
      all_goals go_ret
      all_goals exact HFIN.out _ _ HS.out HL2.out BB.out


set_option maxHeartbeats 2000000 in
set_option maxRecDepth 100000 in
theorem write_no (B C H : Nat) (R : Nat → Nat) (w0 : World) (lp : Option Addr) (lc n : Nat) (L : List Int) (s : Plain.Stt) (t : Plain.Tu) (hk : t.kind = 1 ∨ t.kind = 2) (hn : n ≤ 8) (hL4 : L.length ≤ 4) (hL : ∀ x, x ∈ L → 0 ≤ x ∧ x < 256)
    (hr : Plain.rfE n L t ≠ 0) (w : World) (hB : B ≤ w.heap.size) (I : CcI B C H R w0 w lp lc n L.length s) (NL : Nums w lp L) :
    Calls Try.prog 34 #[.pointer (some ⟨C, 0, none⟩), aggT t] w fun e w' => DoP B C H R w0 lp lc n L s t w e w' := by
  have BA := hid (show Below w.heap.size w (w.alloc (boxT t)) from (Below.refl _ _).alloc (Nat.le_refl _) _)
  have I0 := hid (I.grow hB BA.out)
  have K0 := refuse_c C H n lp lc L t hn hL4 hL _ I0.out.cell0 I0.out.cell1 (NL.grow BA.out)
  have HF := hid (fun w' b => doP_no (t := t) (w' := w') (E := Plain.rfE n L t) (by rw [Plain.tuE_rf hk, if_pos hr]) hr hB I b)
  generalize Plain.rfE n L t = r at K0 HF hr
  have hb : ((r : Int) != 0) = true := by rw [bne_iff_ne]; omega
  clear hr hk I hL NL I0
  go_enter Try.func34, Try.ntmps34
  go_wp2_with fail
  refine K0.mono ?_
  rintro e w1 ⟨rfl, b1⟩
  have B1 := hid (BA.out.trans (b1.mono BA.out.size))
  clear b1 K0 BA
  go_wp2
  go_ret
  exact HF.out _ B1.out
/-- The circle's write. -/
theorem write_c (B C H : Nat) (R : Nat → Nat) (w0 : World) (lp : Option Addr) (lc n : Nat) (L : List Int) (s : Plain.Stt) (t : Plain.Tu) (T : Int) (hk : t.kind = 1 ∨ t.kind = 2) (hn : n ≤ 8) (hL4 : L.length ≤ 4) (hL : ∀ x, x ∈ L → 0 ≤ x ∧ x < 256) (hG : Plain.Gok n L T s) (hT : 0 ≤ T ∧ T < 1000000)
    (w : World) (hB : B ≤ w.heap.size) (I : CcI B C H R w0 w lp lc n L.length s) (NL : Nums w lp L) :
    Calls Try.prog 34 #[.pointer (some ⟨C, 0, none⟩), aggT t] w fun e w' => DoP B C H R w0 lp lc n L s t w e w' := by
  by_cases hr : Plain.rfE n L t = 0
  · obtain ⟨h1, h2, _⟩ := Plain.rf_ok hr
    obtain ⟨kd, wh, tz, la, ke, va⟩ := t
    dsimp only at h1 h2 hk
    obtain ⟨i, rfl⟩ : ∃ i : Nat, wh = (i : Int) := ⟨wh.toNat, by omega⟩
    obtain ⟨j, rfl⟩ : ∃ j : Nat, la = (j : Int) := ⟨la.toNat, by omega⟩
    exact write_in B C H R w0 lp lc n L s kd tz ke va i j T hk hn hL4 hL hG hT hr w hB I NL
  · exact write_no B C H R w0 lp lc n L s t hk hn hL4 hL hr w hB I NL
end Go.Proofs.Ytdcgkeanghhopak

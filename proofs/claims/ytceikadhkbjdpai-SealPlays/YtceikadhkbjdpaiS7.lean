/-
  seal: do.
-/
import Derived.Test.YtceikadhkbjdpaiS6
namespace Go.Proofs.Ytceikadhkbjdpai
open Go.RowKit Go.Shelf Go.Sort Go.Lib

theorem party_t {n : Int} (h : 0 ≤ n ∧ n ≤ 8) (w : World) : Calls Try.prog 26 #[.int .i64 n] w fun e w' => e = .returned (.bool true) ∧ w' = w := by
  have := party_c n w
  rw [show partyB n = true from decide_eq_true h] at this
  exact this
theorem party_f {n : Int} (h : n < 0 ∨ 8 < n) (w : World) : Calls Try.prog 26 #[.int .i64 n] w fun e w' => e = .returned (.bool false) ∧ w' = w := by
  have := party_c n w
  rw [show partyB n = false from decide_eq_false (by omega)] at this
  exact this

set_option maxHeartbeats 4000000 in
set_option maxRecDepth 100000 in
theorem do_kind (B R M n : Nat) (vo : Value) (P : List RP) (o : Plain.Off) (r : RL) (hk : r.x.kind ≠ 1 ∧ r.x.kind ≠ 2) (w : World) (h : OfI B R M w vo P o n) :
    Calls Try.prog 22 #[.pointer (some ⟨R, 0, none⟩), aggL r] w fun e w' => DoP B R M o r.x n w e w' := by
  have P0 := hid (fun w' gg => doP_no (w := w) (w' := w') (x := r.x) (E := 3) (by unfold Plain.leE; rw [if_pos hk]) (by decide) h gg)
  obtain ⟨WA, hWA⟩ : ∃ WA, WA = (w.alloc (boxL r)).alloc zeroD := ⟨_, rfl⟩
  have rG : Hid (WA.rowIs (w.heap.size + 1) 44 4 (odF ⟨⟨0, 0, 0, []⟩, none, 0⟩)) := hid (by
    have := rowD_new (w.alloc (boxL r)) ⟨⟨0, 0, 0, []⟩, none, 0⟩
    rw [hWA]
    simpa using this)
  have BA := hid (show Below w.heap.size w WA by rw [hWA]; exact ((Below.refl _ _).alloc (Nat.le_refl _) _).alloc (by simp) _)
  have HG := hid (show w.heap.size + 1 ≠ R ∧ w.heap.size + 1 ≠ M ∧ B ≤ w.heap.size + 1 from ⟨by have := h.row.lt; omega, by have := h.mp.lt; omega, by have := h.hB; omega⟩)
  have K := refused_c 3 WA
  clear h HG
  obtain ⟨⟨xk, xf, xt, xi, xd⟩, xp, xc⟩ := r
  dsimp only at hk
  have g1 : (xk != 1) = true := by simpa using hk.1
  have g2 : (xk != 2) = true := by simpa using hk.2
  generalize xd.length = m at *
  go_enter Try.func22, Try.ntmps22
  go_wp2_with fail
  rw [← hWA]
  clear hWA
  refine K.mono ?_
  rintro e W1 ⟨rfl, b1⟩
  have R1 := hid (rG.out.of_block (b1.block _ rG.out.lt))
  have B1 := hid (BA.out.trans (b1.mono BA.out.size))
  clear K b1 rG BA
  have y0 := R1.out.cell (i := 0) (by omega)
  have y1 := R1.out.cell (i := 1) (by omega)
  have y2 := R1.out.cell (i := 2) (by omega)
  have y3 := R1.out.cell (i := 3) (by omega)
  have z0 := R1.out.frozen 0
  have z1 := R1.out.frozen 1
  have z2 := R1.out.frozen 2
  have z3 := R1.out.frozen 3
  go_wp2
  (try simp only [Exit.inBlock, Exit.then])
  obtain ⟨W6, hW6⟩ : ∃ W6, W6 = (((W1.setCell ⟨w.heap.size + 1, 0, none⟩ (.int .i64 3)).setCell ⟨w.heap.size + 1, 1, none⟩ (.int .i64 0)).setCell ⟨w.heap.size + 1, 2, none⟩ (.int .i64 0)).setCell ⟨w.heap.size + 1, 3, none⟩ (.slice none 0 0) := ⟨_, rfl⟩
  rw [← hW6]
  have R6 : W6.rowIs (w.heap.size + 1) 44 4 (odF ⟨⟨3, 0, 0, []⟩, none, 0⟩) := by rw [hW6]; exact putD_row R1.out ⟨⟨3, 0, 0, []⟩, none, 0⟩
  have B6 : Below w.heap.size w W6 := by rw [hW6]; exact putD_below B1.out (by omega) 0 ⟨⟨3, 0, 0, []⟩, none, 0⟩
  clear hW6
  exact bodyPost_D rfl (w.heap.size + 1) ⟨⟨3, 0, 0, []⟩, none, 0⟩ rfl R6 rfl (P0.out _ B6)

set_option maxHeartbeats 4000000 in
set_option maxRecDepth 100000 in
theorem do_post (B R M n : Nat) (vo : Value) (P : List RP) (o : Plain.Off) (hgo : Plain.Good o) (hb : P.length ≤ 900) (r : RL) (hk : r.x.kind = 1) (w : World) (h : OfI B R M w vo P o n) (hy : By B w r.p r.c r.x.data) :
    Calls Try.prog 22 #[.pointer (some ⟨R, 0, none⟩), aggL r] w fun e w' => DoP B R M o r.x n w e w' := by
  obtain ⟨WA, hWA⟩ : ∃ WA, WA = (w.alloc (boxL r)).alloc zeroD := ⟨_, rfl⟩
  have rG : Hid (WA.rowIs (w.heap.size + 1) 44 4 (odF ⟨⟨0, 0, 0, []⟩, none, 0⟩)) := hid (by
    have := rowD_new (w.alloc (boxL r)) ⟨⟨0, 0, 0, []⟩, none, 0⟩
    rw [hWA]
    simpa using this)
  have BA := hid (show Below w.heap.size w WA by rw [hWA]; exact ((Below.refl _ _).alloc (Nat.le_refl _) _).alloc (by simp) _)
  have HG := hid (show w.heap.size + 1 ≠ R ∧ w.heap.size + 1 ≠ M ∧ B ≤ w.heap.size + 1 from ⟨by have := h.row.lt; omega, by have := h.mp.lt; omega, by have := h.hB; omega⟩)
  by_cases hf : 0 ≤ r.x.frm ∧ r.x.frm ≤ 8
  · have KF := fun W => party_t hf W
    by_cases ht : 0 ≤ r.x.to ∧ r.x.to ≤ 8
    · have KT := fun W => party_t ht W
      have hE : Plain.leE o r.x = if 256 < r.x.data.length then 1 else 0 := by unfold Plain.leE; rw [if_neg (by omega), if_neg (by omega), if_pos hk]
      have K := post_c B R M n vo P o hgo (by omega) r.x r.p r.c hk hE WA (h.grow BA.out) (hy.grow BA.out)
      clear h hy hE hf ht
      obtain ⟨⟨xk, xf, xt, xi, xd⟩, xp, xc⟩ := r
      dsimp only at *
      subst hk
      go_enter Try.func22, Try.ntmps22
      go_wp2_with (first | (go_at_call_of 26 (Value.int .i64 xf); refine (KF _).mono ?_; rintro e w' ⟨rfl, rfl⟩) | (go_at_call_of 26 (Value.int .i64 xt); refine (KT _).mono ?_; rintro e w' ⟨rfl, rfl⟩) | fail)
      rw [← hWA]
      clear hWA KF KT
      refine K.mono ?_
      rintro e W1 ⟨⟨⟨tc, ti, ts, td⟩, tp, tq⟩, vo1, P1, rfl, hT, hO, hK, hY⟩
      have O1 := hid hO
      have K1 := hid (Kf.trans (Kf.of_below BA.out) hK)
      have Y1 := hid hY
      have HT := hid hT
      have R1 := hid (hK.rowIs rG.out (by decide) HG.out.1 HG.out.2.1)
      clear hT hO hK hY K rG BA
      have y0 := R1.out.cell (i := 0) (by omega)
      have y1 := R1.out.cell (i := 1) (by omega)
      have y2 := R1.out.cell (i := 2) (by omega)
      have y3 := R1.out.cell (i := 3) (by omega)
      have z0 := R1.out.frozen 0
      have z1 := R1.out.frozen 1
      have z2 := R1.out.frozen 2
      have z3 := R1.out.frozen 3
      go_wp2
      (try simp only [Exit.inBlock, Exit.then])
      obtain ⟨W6, hW6⟩ : ∃ W6, W6 = (((W1.setCell ⟨w.heap.size + 1, 0, none⟩ (.int .i64 (tc : Nat))).setCell ⟨w.heap.size + 1, 1, none⟩ (.int .i64 ti)).setCell ⟨w.heap.size + 1, 2, none⟩ (.int .i64 ts)).setCell ⟨w.heap.size + 1, 3, none⟩ (.slice tp td.length tq) := ⟨_, rfl⟩
      rw [← hW6]
      have e6 : Only1 (w.heap.size + 1) W1 W6 := by rw [hW6]; exact putD_only W1 (w.heap.size + 1) 0 ⟨⟨tc, ti, ts, td⟩, tp, tq⟩
      have R6 : W6.rowIs (w.heap.size + 1) 44 4 (odF ⟨⟨tc, ti, ts, td⟩, tp, tq⟩) := by rw [hW6]; exact putD_row R1.out ⟨⟨tc, ti, ts, td⟩, tp, tq⟩
      exact bodyPost_D rfl (w.heap.size + 1) ⟨⟨tc, ti, ts, td⟩, tp, tq⟩ rfl R6 rfl ⟨⟨⟨tc, ti, ts, td⟩, tp, tq⟩, vo1, P1, rfl, HT.out, e6.off O1.out R1.out (by decide) (by decide) HG.out.2.2 HG.out.1, e6.kf K1.out (Nat.le_succ _), Y1.out.keep (e6.kb R1.out (by decide) HG.out.2.2)⟩
    · have KT := fun W => party_f (n := r.x.to) (by omega) W
      have P0 := hid (fun w' gg => doP_no (w := w) (w' := w') (x := r.x) (E := 2) (by unfold Plain.leE; rw [if_neg (by omega), if_pos (by omega)]) (by decide) h gg)
      have K := refused_c 2 WA
      clear h hy hf ht HG
      obtain ⟨⟨xk, xf, xt, xi, xd⟩, xp, xc⟩ := r
      dsimp only at *
      subst hk
      go_enter Try.func22, Try.ntmps22
      go_wp2_with (first | (go_at_call_of 26 (Value.int .i64 xf); refine (KF _).mono ?_; rintro e w' ⟨rfl, rfl⟩) | (go_at_call_of 26 (Value.int .i64 xt); refine (KT _).mono ?_; rintro e w' ⟨rfl, rfl⟩) | fail)
      rw [← hWA]
      clear hWA KF KT
      refine K.mono ?_
      rintro e W1 ⟨rfl, b1⟩
      have R1 := hid (rG.out.of_block (b1.block _ rG.out.lt))
      have B1 := hid (BA.out.trans (b1.mono BA.out.size))
      clear K b1 rG BA
      have y0 := R1.out.cell (i := 0) (by omega)
      have y1 := R1.out.cell (i := 1) (by omega)
      have y2 := R1.out.cell (i := 2) (by omega)
      have y3 := R1.out.cell (i := 3) (by omega)
      have z0 := R1.out.frozen 0
      have z1 := R1.out.frozen 1
      have z2 := R1.out.frozen 2
      have z3 := R1.out.frozen 3
      go_wp2
      (try simp only [Exit.inBlock, Exit.then])
      obtain ⟨W6, hW6⟩ : ∃ W6, W6 = (((W1.setCell ⟨w.heap.size + 1, 0, none⟩ (.int .i64 2)).setCell ⟨w.heap.size + 1, 1, none⟩ (.int .i64 0)).setCell ⟨w.heap.size + 1, 2, none⟩ (.int .i64 0)).setCell ⟨w.heap.size + 1, 3, none⟩ (.slice none 0 0) := ⟨_, rfl⟩
      rw [← hW6]
      have R6 : W6.rowIs (w.heap.size + 1) 44 4 (odF ⟨⟨2, 0, 0, []⟩, none, 0⟩) := by rw [hW6]; exact putD_row R1.out ⟨⟨2, 0, 0, []⟩, none, 0⟩
      have B6 : Below w.heap.size w W6 := by rw [hW6]; exact putD_below B1.out (by omega) 0 ⟨⟨2, 0, 0, []⟩, none, 0⟩
      clear hW6
      exact bodyPost_D rfl (w.heap.size + 1) ⟨⟨2, 0, 0, []⟩, none, 0⟩ rfl R6 rfl (P0.out _ B6)
  · have KF := fun W => party_f (n := r.x.frm) (by omega) W
    have P0 := hid (fun w' gg => doP_no (w := w) (w' := w') (x := r.x) (E := 2) (by unfold Plain.leE; rw [if_neg (by omega), if_pos (by omega)]) (by decide) h gg)
    have K := refused_c 2 WA
    clear h hy hf HG
    obtain ⟨⟨xk, xf, xt, xi, xd⟩, xp, xc⟩ := r
    dsimp only at *
    subst hk
    go_enter Try.func22, Try.ntmps22
    go_wp2_with (first | (go_at_call_of 26 (Value.int .i64 xf); refine (KF _).mono ?_; rintro e w' ⟨rfl, rfl⟩) | fail)
    rw [← hWA]
    clear hWA KF
    refine K.mono ?_
    rintro e W1 ⟨rfl, b1⟩
    have R1 := hid (rG.out.of_block (b1.block _ rG.out.lt))
    have B1 := hid (BA.out.trans (b1.mono BA.out.size))
    clear K b1 rG BA
    have y0 := R1.out.cell (i := 0) (by omega)
    have y1 := R1.out.cell (i := 1) (by omega)
    have y2 := R1.out.cell (i := 2) (by omega)
    have y3 := R1.out.cell (i := 3) (by omega)
    have z0 := R1.out.frozen 0
    have z1 := R1.out.frozen 1
    have z2 := R1.out.frozen 2
    have z3 := R1.out.frozen 3
    go_wp2
    (try simp only [Exit.inBlock, Exit.then])
    obtain ⟨W6, hW6⟩ : ∃ W6, W6 = (((W1.setCell ⟨w.heap.size + 1, 0, none⟩ (.int .i64 2)).setCell ⟨w.heap.size + 1, 1, none⟩ (.int .i64 0)).setCell ⟨w.heap.size + 1, 2, none⟩ (.int .i64 0)).setCell ⟨w.heap.size + 1, 3, none⟩ (.slice none 0 0) := ⟨_, rfl⟩
    rw [← hW6]
    have R6 : W6.rowIs (w.heap.size + 1) 44 4 (odF ⟨⟨2, 0, 0, []⟩, none, 0⟩) := by rw [hW6]; exact putD_row R1.out ⟨⟨2, 0, 0, []⟩, none, 0⟩
    have B6 : Below w.heap.size w W6 := by rw [hW6]; exact putD_below B1.out (by omega) 0 ⟨⟨2, 0, 0, []⟩, none, 0⟩
    clear hW6
    exact bodyPost_D rfl (w.heap.size + 1) ⟨⟨2, 0, 0, []⟩, none, 0⟩ rfl R6 rfl (P0.out _ B6)

theorem open_any (B R M n : Nat) (vo : Value) (P : List RP) (o : Plain.Off) (hgo : Plain.Good o) (hn : n ≤ 900) (hb : P.length ≤ 900) (x : Plain.Le) (hk : x.kind = 2) (ht : 0 ≤ x.to ∧ x.to ≤ 8) (w : World) (h : OfI B R M w vo P o n) :
    Calls Try.prog 28 #[.pointer (some ⟨R, 0, none⟩), .int .i64 x.to, .int .i64 x.id] w fun e w' => DoP B R M o x n w e w' := by
  have hE : Plain.leE o x = if x.id < 0 ∨ (P.length : Int) ≤ x.id then 6 else if (o.at x.id.toNat).to ≠ x.to then 11 else if Plain.oldO o x.id.toNat = true then 10 else 0 := by
    unfold Plain.leE
    rw [if_neg (by omega), if_neg (by omega), if_neg (by omega), h.len]
  by_cases h0 : x.id < 0 ∨ (P.length : Int) ≤ x.id
  · exact open_none B R M n vo P o x (by rw [hE, if_pos h0]) h0 w h
  rw [if_neg h0] at hE
  obtain ⟨k, hk'⟩ : ∃ k : Nat, x.id = k := ⟨x.id.toNat, by omega⟩
  have hkl : k < P.length := by omega
  rw [hk', show ((k : Nat) : Int).toNat = k by omega, h.at' hkl] at hE
  by_cases h1 : (P.getD k default).y.to ≠ x.to
  · exact open_denied B R M n vo P o x (by rw [hE, if_pos h1]) k hkl hk' h1 (by omega) w h
  · exact open_in B R M n vo P o hgo hn x (by omega) (by rw [hE, if_neg h1, hk', show ((k : Nat) : Int).toNat = k by omega]) k hkl hk' (Classical.not_not.1 h1) hb w h

set_option maxHeartbeats 4000000 in
set_option maxRecDepth 100000 in
theorem do_open (B R M n : Nat) (vo : Value) (P : List RP) (o : Plain.Off) (hgo : Plain.Good o) (hn : n ≤ 900) (hb : P.length ≤ 900) (r : RL) (hk : r.x.kind = 2) (w : World) (h : OfI B R M w vo P o n) :
    Calls Try.prog 22 #[.pointer (some ⟨R, 0, none⟩), aggL r] w fun e w' => DoP B R M o r.x n w e w' := by
  obtain ⟨WA, hWA⟩ : ∃ WA, WA = (w.alloc (boxL r)).alloc zeroD := ⟨_, rfl⟩
  have rG : Hid (WA.rowIs (w.heap.size + 1) 44 4 (odF ⟨⟨0, 0, 0, []⟩, none, 0⟩)) := hid (by
    have := rowD_new (w.alloc (boxL r)) ⟨⟨0, 0, 0, []⟩, none, 0⟩
    rw [hWA]
    simpa using this)
  have BA := hid (show Below w.heap.size w WA by rw [hWA]; exact ((Below.refl _ _).alloc (Nat.le_refl _) _).alloc (by simp) _)
  have HG := hid (show w.heap.size + 1 ≠ R ∧ w.heap.size + 1 ≠ M ∧ B ≤ w.heap.size + 1 from ⟨by have := h.row.lt; omega, by have := h.mp.lt; omega, by have := h.hB; omega⟩)
  by_cases ht : 0 ≤ r.x.to ∧ r.x.to ≤ 8
  · have KT := fun W => party_t ht W
    have K := open_any B R M n vo P o hgo hn hb r.x hk ht WA (h.grow BA.out)
    clear h ht
    obtain ⟨⟨xk, xf, xt, xi, xd⟩, xp, xc⟩ := r
    dsimp only at *
    subst hk
    go_enter Try.func22, Try.ntmps22
    go_wp2_with (first | (go_at_call_of 26 (Value.int .i64 xt); refine (KT _).mono ?_; rintro e w' ⟨rfl, rfl⟩) | fail)
    rw [← hWA]
    clear hWA KT
    refine K.mono ?_
    rintro e W1 ⟨⟨⟨tc, ti, ts, td⟩, tp, tq⟩, vo1, P1, rfl, hT, hO, hK, hY⟩
    have O1 := hid hO
    have K1 := hid (Kf.trans (Kf.of_below BA.out) hK)
    have Y1 := hid hY
    have HT := hid hT
    have R1 := hid (hK.rowIs rG.out (by decide) HG.out.1 HG.out.2.1)
    clear hT hO hK hY K rG BA
    have y0 := R1.out.cell (i := 0) (by omega)
    have y1 := R1.out.cell (i := 1) (by omega)
    have y2 := R1.out.cell (i := 2) (by omega)
    have y3 := R1.out.cell (i := 3) (by omega)
    have z0 := R1.out.frozen 0
    have z1 := R1.out.frozen 1
    have z2 := R1.out.frozen 2
    have z3 := R1.out.frozen 3
    go_wp2
    (try simp only [Exit.inBlock, Exit.then])
    obtain ⟨W6, hW6⟩ : ∃ W6, W6 = (((W1.setCell ⟨w.heap.size + 1, 0, none⟩ (.int .i64 (tc : Nat))).setCell ⟨w.heap.size + 1, 1, none⟩ (.int .i64 ti)).setCell ⟨w.heap.size + 1, 2, none⟩ (.int .i64 ts)).setCell ⟨w.heap.size + 1, 3, none⟩ (.slice tp td.length tq) := ⟨_, rfl⟩
    rw [← hW6]
    have e6 : Only1 (w.heap.size + 1) W1 W6 := by rw [hW6]; exact putD_only W1 (w.heap.size + 1) 0 ⟨⟨tc, ti, ts, td⟩, tp, tq⟩
    have R6 : W6.rowIs (w.heap.size + 1) 44 4 (odF ⟨⟨tc, ti, ts, td⟩, tp, tq⟩) := by rw [hW6]; exact putD_row R1.out ⟨⟨tc, ti, ts, td⟩, tp, tq⟩
    exact bodyPost_D rfl (w.heap.size + 1) ⟨⟨tc, ti, ts, td⟩, tp, tq⟩ rfl R6 rfl ⟨⟨⟨tc, ti, ts, td⟩, tp, tq⟩, vo1, P1, rfl, HT.out, e6.off O1.out R1.out (by decide) (by decide) HG.out.2.2 HG.out.1, e6.kf K1.out (Nat.le_succ _), Y1.out.keep (e6.kb R1.out (by decide) HG.out.2.2)⟩
  · have KT := fun W => party_f (n := r.x.to) (by omega) W
    have P0 := hid (fun w' gg => doP_no (w := w) (w' := w') (x := r.x) (E := 2) (by unfold Plain.leE; rw [if_neg (by omega), if_pos (by omega)]) (by decide) h gg)
    have K := refused_c 2 WA
    clear h ht HG
    obtain ⟨⟨xk, xf, xt, xi, xd⟩, xp, xc⟩ := r
    dsimp only at *
    subst hk
    go_enter Try.func22, Try.ntmps22
    go_wp2_with (first | (go_at_call_of 26 (Value.int .i64 xt); refine (KT _).mono ?_; rintro e w' ⟨rfl, rfl⟩) | fail)
    rw [← hWA]
    clear hWA KT
    refine K.mono ?_
    rintro e W1 ⟨rfl, b1⟩
    have R1 := hid (rG.out.of_block (b1.block _ rG.out.lt))
    have B1 := hid (BA.out.trans (b1.mono BA.out.size))
    clear K b1 rG BA
    have y0 := R1.out.cell (i := 0) (by omega)
    have y1 := R1.out.cell (i := 1) (by omega)
    have y2 := R1.out.cell (i := 2) (by omega)
    have y3 := R1.out.cell (i := 3) (by omega)
    have z0 := R1.out.frozen 0
    have z1 := R1.out.frozen 1
    have z2 := R1.out.frozen 2
    have z3 := R1.out.frozen 3
    go_wp2
    (try simp only [Exit.inBlock, Exit.then])
    obtain ⟨W6, hW6⟩ : ∃ W6, W6 = (((W1.setCell ⟨w.heap.size + 1, 0, none⟩ (.int .i64 2)).setCell ⟨w.heap.size + 1, 1, none⟩ (.int .i64 0)).setCell ⟨w.heap.size + 1, 2, none⟩ (.int .i64 0)).setCell ⟨w.heap.size + 1, 3, none⟩ (.slice none 0 0) := ⟨_, rfl⟩
    rw [← hW6]
    have R6 : W6.rowIs (w.heap.size + 1) 44 4 (odF ⟨⟨2, 0, 0, []⟩, none, 0⟩) := by rw [hW6]; exact putD_row R1.out ⟨⟨2, 0, 0, []⟩, none, 0⟩
    have B6 : Below w.heap.size w W6 := by rw [hW6]; exact putD_below B1.out (by omega) 0 ⟨⟨2, 0, 0, []⟩, none, 0⟩
    clear hW6
    exact bodyPost_D rfl (w.heap.size + 1) ⟨⟨2, 0, 0, []⟩, none, 0⟩ rfl R6 rfl (P0.out _ B6)

/-- A move. -/
theorem do_any (B R M n : Nat) (vo : Value) (P : List RP) (o : Plain.Off) (hgo : Plain.Good o) (hn : n ≤ 900) (hb : P.length ≤ 900) (r : RL) (w : World) (h : OfI B R M w vo P o n) (hy : By B w r.p r.c r.x.data) :
    Calls Try.prog 22 #[.pointer (some ⟨R, 0, none⟩), aggL r] w fun e w' => DoP B R M o r.x n w e w' := by
  by_cases h1 : r.x.kind = 1
  · exact do_post B R M n vo P o hgo hb r h1 w h hy
  by_cases h2 : r.x.kind = 2
  · exact do_open B R M n vo P o hgo hn hb r h2 w h
  · exact do_kind B R M n vo P o r ⟨h1, h2⟩ w h
end Go.Proofs.Ytceikadhkbjdpai

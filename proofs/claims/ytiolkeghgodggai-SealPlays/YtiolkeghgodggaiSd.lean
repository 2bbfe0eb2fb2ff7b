/-
  seal: do.
-/
import Derived.Test.YtiolkeghgodggaiS7
namespace Go.Proofs.Ytiolkeghgodggai.Se
open Go.RowKit Go.Shelf Go.Sort Go.Lib

/-- What is told is laid into its box and returned. -/
theorem do_end {R oo n : Nat} {XX : Win} {vo vm : Value} {o : Plain.Off} {x : Plain.Le} {w WA W1 W6 : World} {G : Nat} {r : RD} (hG : w.heap.size ≤ G) (hR : G ≠ R) (BA : Below w.heap.size w WA) (rA : WA.rowIs G 44 4 (odF ⟨⟨0, 0, 0, []⟩, none, 0⟩)) {vo' vm' : Value} {P : List RP} (hT : r.d = Plain.leT o x) (hO : OfI R oo XX W1 vo' vm' P (Plain.leS o x) (n + 1)) (hK : Kp (ownS vo vm) R WA W1) (hY : By 0 W1 r.p r.c r.d.data) (hN : ∀ k, ownS vo' vm' k → ownS vo vm k ∨ WA.heap.size ≤ k)
    (hL : ∀ k, ownS vo vm k → k < w.heap.size) (h6 : W6 = putD W1 G 0 r) : W6.rowIs G 44 4 (odF r) ∧ DoP R oo XX vo vm o x n w (.returned (aggD r)) W6 := by
  have r1 : W1.rowIs G 44 4 (odF ⟨⟨0, 0, 0, []⟩, none, 0⟩) := hK.rowIs rA (fun e => by have := hL G e; omega) hR
  have e6 : Only1 G W1 W6 := by rw [h6]; exact putD_only W1 G 0 r
  refine ⟨by rw [h6]; exact putD_row r1 r, r, vo', vm', P, rfl, hT, e6.off hO r1 (by decide) (by decide) hR, e6.kp ((Kp.of_below BA).trans hK) hG, hY.keep (e6.kb r1 (by decide) (Nat.zero_le _)), fun k hk => (hN k hk).imp id (fun y => Nat.le_trans BA.size y)⟩

set_option maxHeartbeats 4000000 in
set_option maxRecDepth 100000 in
theorem do_c (R oo n : Nat) (XX : Win) (vo vm : Value) (P : List RP) (o : Plain.Off) (hgo : Plain.Good o) (hb : P.length ≤ 90000) (hn : n ≤ 90000) (r : RL) (C : Nat) (w : World) (h : OfI R oo XX w vo vm P o n) (hy : By C w r.p r.c r.x.data) :
    Calls Try.prog 22 #[.pointer (some ⟨R, oo, none⟩), aggL r] w fun e w' => DoP R oo XX vo vm o r.x n w e w' := by
  obtain ⟨WA, hWA⟩ : ∃ WA, WA = (w.alloc (boxL r)).alloc zeroD := ⟨_, rfl⟩
  have rG := hid (show WA.rowIs (w.heap.size + 1) 44 4 (odF ⟨⟨0, 0, 0, []⟩, none, 0⟩) by
    have := rowD_new (w.alloc (boxL r)) ⟨⟨0, 0, 0, []⟩, none, 0⟩
    rw [hWA]
    simpa using this)
  have BA := hid (show Below w.heap.size w WA by rw [hWA]; exact ((Below.refl _ _).alloc (Nat.le_refl _) _).alloc (by simp) _)
  have HA := hid (h.grow BA.out)
  have HL := hid (fun (k : Nat) (hk : ownS vo vm k) => h.own_lt hk)
  have HR := hid (show w.heap.size + 1 ≠ R by have := h.row.lt; omega)
  have YA := hid (hy.grow BA.out)
  have HH := hid h
  have hcm : r.x.data.length ≤ 9223372036854775807 := Nat.le_trans hy.le hy.cm
  clear h hy
  by_cases k1 : r.x.kind = 1
  · have K := post_c R oo n XX vo vm P o hgo (by omega) r.x r.p r.c C k1 WA HA.out YA.out
    clear HA YA HH
    obtain ⟨⟨xk, xf, xt, xi, xd⟩, xp, xc⟩ := r
    dsimp only at k1 K hWA hcm
    subst k1
    go_enter Try.func22, Try.ntmps22
    go_wp2_with fail
    rw [← hWA]
    clear hWA
    refine K.mono ?_
    rintro e W1 ⟨⟨⟨tc, ti, ts, td⟩, tp, tq⟩, vo', vm', P', rfl, hT, hO, hK, hY, hN⟩
    have HE := hid (fun W6 h6 => do_end (W6 := W6) (Nat.le_succ _) HR.out BA.out rG.out hT hO hK hY hN HL.out h6)
    have r1 : Hid (W1.rowIs (w.heap.size + 1) 44 4 (odF ⟨⟨0, 0, 0, []⟩, none, 0⟩)) := hid (hK.rowIs rG.out (fun e => by have := HL.out _ e; omega) HR.out)
    clear K hT hO hK hY hN rG BA
    have y0 := r1.out.cell (i := 0) (by omega)
    have y1 := r1.out.cell (i := 1) (by omega)
    have y2 := r1.out.cell (i := 2) (by omega)
    have y3 := r1.out.cell (i := 3) (by omega)
    have z0 := r1.out.frozen 0
    have z1 := r1.out.frozen 1
    have z2 := r1.out.frozen 2
    have z3 := r1.out.frozen 3
    go_wp2
    (try simp only [Exit.inBlock, Exit.then])
    obtain ⟨W6, hW6⟩ : ∃ W6, W6 = (((W1.setCell ⟨w.heap.size + 1, 0, none⟩ (.int .i64 (tc : Nat))).setCell ⟨w.heap.size + 1, 1, none⟩ (.int .i64 ti)).setCell ⟨w.heap.size + 1, 2, none⟩ (.int .i64 ts)).setCell ⟨w.heap.size + 1, 3, none⟩ (.slice tp td.length tq) := ⟨_, rfl⟩
    rw [← hW6]
    obtain ⟨R6, Q6⟩ := HE.out W6 (by rw [hW6]; rfl)
    clear hW6
    exact bodyPost_D rfl (w.heap.size + 1) ⟨⟨tc, ti, ts, td⟩, tp, tq⟩ rfl R6 rfl Q6
  · by_cases k2 : r.x.kind = 2
    · have K := open_c R oo n XX vo vm P o hgo hb hn r.x k2 WA HA.out
      clear HA YA HH
      obtain ⟨⟨xk, xf, xt, xi, xd⟩, xp, xc⟩ := r
      dsimp only at k2 K hWA hcm
      subst k2
      clear k1
      go_enter Try.func22, Try.ntmps22
      go_wp2_with fail
      rw [← hWA]
      clear hWA
      refine K.mono ?_
      rintro e W1 ⟨⟨⟨tc, ti, ts, td⟩, tp, tq⟩, vo', vm', P', rfl, hT, hO, hK, hY, hN⟩
      have HE := hid (fun W6 h6 => do_end (W6 := W6) (Nat.le_succ _) HR.out BA.out rG.out hT hO hK hY hN HL.out h6)
      have r1 : Hid (W1.rowIs (w.heap.size + 1) 44 4 (odF ⟨⟨0, 0, 0, []⟩, none, 0⟩)) := hid (hK.rowIs rG.out (fun e => by have := HL.out _ e; omega) HR.out)
      clear K hT hO hK hY hN rG BA
      have y0 := r1.out.cell (i := 0) (by omega)
      have y1 := r1.out.cell (i := 1) (by omega)
      have y2 := r1.out.cell (i := 2) (by omega)
      have y3 := r1.out.cell (i := 3) (by omega)
      have z0 := r1.out.frozen 0
      have z1 := r1.out.frozen 1
      have z2 := r1.out.frozen 2
      have z3 := r1.out.frozen 3
      go_wp2
      (try simp only [Exit.inBlock, Exit.then])
      obtain ⟨W6, hW6⟩ : ∃ W6, W6 = (((W1.setCell ⟨w.heap.size + 1, 0, none⟩ (.int .i64 (tc : Nat))).setCell ⟨w.heap.size + 1, 1, none⟩ (.int .i64 ti)).setCell ⟨w.heap.size + 1, 2, none⟩ (.int .i64 ts)).setCell ⟨w.heap.size + 1, 3, none⟩ (.slice tp td.length tq) := ⟨_, rfl⟩
      rw [← hW6]
      obtain ⟨R6, Q6⟩ := HE.out W6 (by rw [hW6]; rfl)
      clear hW6
      exact bodyPost_D rfl (w.heap.size + 1) ⟨⟨tc, ti, ts, td⟩, tp, tq⟩ rfl R6 rfl Q6
    · have P0 := hid (fun w' gg => doP_no (w := w) (w' := w') (x := r.x) (E := 3) (by unfold Plain.leE; rw [if_pos ⟨k1, k2⟩]) (by decide) HH.out gg)
      have K := refused_c 3 WA
      clear HA YA HH
      obtain ⟨⟨xk, xf, xt, xi, xd⟩, xp, xc⟩ := r
      dsimp only at k1 k2 hWA hcm
      have g1 : (xk == 1) = false := by simpa using k1
      have g2 : (xk == 2) = false := by simpa using k2
      clear k1 k2
      go_enter Try.func22, Try.ntmps22
      go_wp2_with fail
      rw [← hWA]
      clear hWA
      refine K.mono ?_
      rintro e W1 ⟨rfl, b1⟩
      have R1 := hid (rG.out.of_block (b1.block _ rG.out.lt))
      have B1 := hid (BA.out.trans (b1.mono BA.out.size))
      clear K b1 rG BA
      have y0 := R1.out.cell (i := 0) (by omega)
      have y1 := R1.out.cell (i := 1) (by omega)
      have y2 := R1.out.cell (i := 2) (by omega)
      have y3 := R1.out.cell (i := 3) (by omega)
      have z0 := R1.out.frozen 0
      have z1 := R1.out.frozen 1
      have z2 := R1.out.frozen 2
      have z3 := R1.out.frozen 3
      go_wp2
      (try simp only [Exit.inBlock, Exit.then])
      obtain ⟨W6, hW6⟩ : ∃ W6, W6 = (((W1.setCell ⟨w.heap.size + 1, 0, none⟩ (.int .i64 3)).setCell ⟨w.heap.size + 1, 1, none⟩ (.int .i64 0)).setCell ⟨w.heap.size + 1, 2, none⟩ (.int .i64 0)).setCell ⟨w.heap.size + 1, 3, none⟩ (.slice none 0 0) := ⟨_, rfl⟩
      rw [← hW6]
      have R6 : W6.rowIs (w.heap.size + 1) 44 4 (odF ⟨⟨3, 0, 0, []⟩, none, 0⟩) := by rw [hW6]; exact putD_row R1.out ⟨⟨3, 0, 0, []⟩, none, 0⟩
      have B6 : Below w.heap.size w W6 := by rw [hW6]; exact putD_below B1.out (by omega) 0 ⟨⟨3, 0, 0, []⟩, none, 0⟩
      clear hW6
      exact bodyPost_D rfl (w.heap.size + 1) ⟨⟨3, 0, 0, []⟩, none, 0⟩ rfl R6 rfl (P0.out _ B6)
end Go.Proofs.Ytiolkeghgodggai.Se

/-
  book: do.
-/
import Derived.Test.YtiolkeghgodggajY6
namespace Go.Proofs.Ytiolkeghgodggaj.Bo
open Go.RowKit Go.Shelf Go.Sort

/-- What a call leaves that tells no grants. -/
theorem doP_co {B R oo A G N H : Nat} {XX : Win} {vl : Value} {b : Plain.Bk} {c : Plain.Ca} {w w1 W W' : World} (hk : c.kind ≠ 3) (un1 : Un (Fb R A G vl) w w1) (h : BkI B R oo XX A G W vl (Plain.caB b c) N) (un : Un (Fb R A G vl) w1 W) (up : Un (· = H) W W') (hH : w.heap.size ≤ H) (hne : ∀ k, Fb R A G vl k → k ≠ H) :
    DoP B R oo XX A G N vl b c w (.returned (aggU ⟨⟨Plain.caE b c, [], -1⟩, none, 0⟩)) W' := by
  have hT : Plain.caT b c = ⟨Plain.caE b c, [], -1⟩ := by
    unfold Plain.caT
    by_cases h0 : Plain.caE b c ≠ 0
    · rw [if_pos h0]
    · rw [if_neg h0, if_neg hk, Classical.not_not.1 h0]
  have lv : ∀ j, j < W.heap.size → j ≠ H → W'.heap[j]? = W.heap[j]? := fun j hj hne => up.block j hj hne
  have uw := un1.trans un
  refine ⟨_, vl, N, rfl, hT.symm, ⟨h.row.of_block (lv R h.row.lt (hne _ (.inl rfl))), h.ra.of_block (lv A h.ra.lt (hne _ (.inr (.inl rfl)))), h.rg.of_block (lv G h.rg.lt (hne _ (.inr (.inr (.inl rfl))))), h.ok, h.n1, h.n8, h.rd, ?_, h.hR, h.hA, h.hG, h.RA, h.RG, h.AG, h.tk, h.le⟩, Nat.le_succ _, ?_, Ns.nil _ _, fun _ _ x => x⟩
  · rcases h.lv with x | ⟨L, x1, x2, x3⟩
    · exact .inl x
    · exact .inr ⟨L, x1, x2.of_block (lv L x2.lt (hne _ (.inr (.inr (.inr (by rw [x1]; rfl)))))), x3⟩
  · refine ⟨up.os.trans uw.os, up.tape.trans uw.tape, up.output.trans uw.output, Nat.le_trans uw.size up.size, fun k hk hF => ?_⟩
    rw [lv k (Nat.lt_of_lt_of_le hk uw.size) (by omega)]
    exact uw.block k hk hF

set_option maxHeartbeats 4000000 in
set_option maxRecDepth 100000 in
theorem do_co (B R oo A G N : Nat) (XX : Win) (vl : Value) (b : Plain.Bk) (c : Plain.Ca) (hk : c.kind = 1 ∨ c.kind = 2) (w : World) (h : BkI B R oo XX A G w vl b N) :
    Calls Try.prog 22 #[.pointer (some ⟨R, oo, none⟩), aggC c] w fun e w' => DoP B R oo XX A G N vl b c w e w' := by
  obtain ⟨WA, hWA⟩ : ∃ WA, WA = (w.alloc (boxC c)).alloc zeroU := ⟨_, rfl⟩
  have rG : Hid (WA.rowIs (w.heap.size + 1) 44 3 (ruF ⟨⟨0, [], 0⟩, none, 0⟩)) := hid (by
    have := rowU_new (w.alloc (boxC c)) ⟨⟨0, [], 0⟩, none, 0⟩
    rw [hWA]
    simpa using this)
  have BA := hid (show Below w.heap.size w WA by rw [hWA]; exact ((Below.refl _ _).alloc (Nat.le_refl _) _).alloc (by simp) _)
  have HA := hid (h.grow BA.out)
  have HNE := hid (show ∀ k, Fb R A G vl k → k ≠ w.heap.size + 1 from fun k hk => by have := h.lt k hk; omega)
  have FIN := hid (fun (W : World) (hI : BkI B R oo XX A G W vl (Plain.caB b c) N) (un : Un (Fb R A G vl) WA W) => doP_co (H := w.heap.size + 1) (by omega) (Un.of_below BA.out) hI un (putU_un W _ 0 ⟨⟨Plain.caE b c, [], -1⟩, none, 0⟩ rfl) (by omega) HNE.out)
  have K1 := fun h1 => stock_c B R oo A G N XX vl b c h1 WA HA.out
  have K2 := fun h2 => want_c B R oo A G N XX vl b c h2 WA HA.out
  have GB := hid (show w.heap.size + 1 < WA.heap.size ∧ ¬ Fb R A G vl (w.heap.size + 1) from ⟨rG.out.lt, fun x => HNE.out _ x rfl⟩)
  have d1 : WA.cell? ⟨w.heap.size, 1, none⟩ = some (.int .i64 c.who) := by rw [hWA, World.cell?_alloc_lt _ _ _ (by simp), World.cell?_alloc_at _ _ _ _ rfl]; rfl
  have d2 : WA.cell? ⟨w.heap.size, 2, none⟩ = some (.int .i64 c.count) := by rw [hWA, World.cell?_alloc_lt _ _ _ (by simp), World.cell?_alloc_at _ _ _ _ rfl]; rfl
  have HW := hid hWA
  clear hWA h HA HNE BA
  rcases hk with hk | hk
  · have K := K1 hk
    clear K1 K2
    have HK := hid hk
    obtain ⟨ck, cw, cc⟩ := c
    dsimp only at *
    subst hk
    go_enter Try.func22, Try.ntmps22
    go_wp2_with fail
    have eW : (w.alloc (.cells #[.int .i64 1, .int .i64 cw, .int .i64 cc] 52)).alloc (.cells #[.int .i64 0, .slice none 0 0, .int .i64 0] 44) = WA := HW.out.symm
    rw [eW]
    clear eW
    refine K.mono ?_
    rintro e W1 ⟨rfl, hI, un⟩
    have R1 := hid (rG.out.of_block (un.block _ GB.out.1 GB.out.2))
    have HX := hid (FIN.out W1 hI un)
    clear K hI un FIN
    generalize Plain.caE b ⟨1, cw, cc⟩ = E at *
    have y0 : W1.cell? ⟨w.heap.size + 1, 0, none⟩ = some (.int .i64 0) := R1.out.cell (i := 0) (by omega)
    have y1 : W1.cell? ⟨w.heap.size + 1, 1, none⟩ = some (.slice none 0 0) := R1.out.cell (i := 1) (by omega)
    have y2 : W1.cell? ⟨w.heap.size + 1, 2, none⟩ = some (.int .i64 0) := R1.out.cell (i := 2) (by omega)
    have z0 := R1.out.frozen 0
    have z1 := R1.out.frozen 1
    have z2 := R1.out.frozen 2
    go_wp2
    (try simp only [Exit.inBlock, Exit.then])
    obtain ⟨W6, hW6⟩ : ∃ W6, W6 = ((W1.setCell ⟨w.heap.size + 1, 0, none⟩ (.int .i64 (E : Nat))).setCell ⟨w.heap.size + 1, 1, none⟩ (.slice none 0 0)).setCell ⟨w.heap.size + 1, 2, none⟩ (.int .i64 (-1)) := ⟨_, rfl⟩
    rw [← hW6]
    have e6 : W6 = putU W1 (w.heap.size + 1) 0 ⟨⟨E, [], -1⟩, none, 0⟩ := by rw [hW6]; rfl
    rw [← e6] at HX
    have R6 : W6.rowIs (w.heap.size + 1) 44 3 (ruF ⟨⟨E, [], -1⟩, none, 0⟩) := by rw [e6]; exact putU_row R1.out _
    clear hW6 e6
    exact bodyPost_U rfl (w.heap.size + 1) ⟨⟨E, [], -1⟩, none, 0⟩ rfl R6 rfl HX.out
  · have K := K2 hk
    clear K1 K2
    have HK := hid hk
    obtain ⟨ck, cw, cc⟩ := c
    dsimp only at *
    subst hk
    go_enter Try.func22, Try.ntmps22
    go_wp2_with fail
    have eW : (w.alloc (.cells #[.int .i64 2, .int .i64 cw, .int .i64 cc] 52)).alloc (.cells #[.int .i64 0, .slice none 0 0, .int .i64 0] 44) = WA := HW.out.symm
    rw [eW]
    clear eW
    refine K.mono ?_
    rintro e W1 ⟨rfl, hI, un⟩
    have R1 := hid (rG.out.of_block (un.block _ GB.out.1 GB.out.2))
    have HX := hid (FIN.out W1 hI un)
    clear K hI un FIN
    generalize Plain.caE b ⟨2, cw, cc⟩ = E at *
    have y0 : W1.cell? ⟨w.heap.size + 1, 0, none⟩ = some (.int .i64 0) := R1.out.cell (i := 0) (by omega)
    have y1 : W1.cell? ⟨w.heap.size + 1, 1, none⟩ = some (.slice none 0 0) := R1.out.cell (i := 1) (by omega)
    have y2 : W1.cell? ⟨w.heap.size + 1, 2, none⟩ = some (.int .i64 0) := R1.out.cell (i := 2) (by omega)
    have z0 := R1.out.frozen 0
    have z1 := R1.out.frozen 1
    have z2 := R1.out.frozen 2
    go_wp2
    (try simp only [Exit.inBlock, Exit.then])
    obtain ⟨W6, hW6⟩ : ∃ W6, W6 = ((W1.setCell ⟨w.heap.size + 1, 0, none⟩ (.int .i64 (E : Nat))).setCell ⟨w.heap.size + 1, 1, none⟩ (.slice none 0 0)).setCell ⟨w.heap.size + 1, 2, none⟩ (.int .i64 (-1)) := ⟨_, rfl⟩
    rw [← hW6]
    have e6 : W6 = putU W1 (w.heap.size + 1) 0 ⟨⟨E, [], -1⟩, none, 0⟩ := by rw [hW6]; rfl
    rw [← e6] at HX
    have R6 : W6.rowIs (w.heap.size + 1) 44 3 (ruF ⟨⟨E, [], -1⟩, none, 0⟩) := by rw [e6]; exact putU_row R1.out _
    clear hW6 e6
    exact bodyPost_U rfl (w.heap.size + 1) ⟨⟨E, [], -1⟩, none, 0⟩ rfl R6 rfl HX.out

set_option maxHeartbeats 4000000 in
set_option maxRecDepth 100000 in
theorem do_kind (B R oo A G N : Nat) (XX : Win) (vl : Value) (b : Plain.Bk) (c : Plain.Ca) (hk : c.kind ≠ 1 ∧ c.kind ≠ 2 ∧ c.kind ≠ 3) (w : World) (h : BkI B R oo XX A G w vl b N) :
    Calls Try.prog 22 #[.pointer (some ⟨R, oo, none⟩), aggC c] w fun e w' => DoP B R oo XX A G N vl b c w e w' := by
  have hE : Plain.caE b c = 3 := by unfold Plain.caE; rw [if_neg hk.2.2, if_neg hk.1, if_neg hk.2.1]
  have hB : Plain.caB b c = b := by unfold Plain.caB; rw [hE, if_pos (by decide)]
  obtain ⟨WA, hWA⟩ : ∃ WA, WA = (w.alloc (boxC c)).alloc (.cells #[.int .i64 3, .slice none 0 0, .int .i64 (-1)] 44) := ⟨_, rfl⟩
  have b1 : Below w.heap.size w (w.alloc (boxC c)) := (Below.refl _ _).alloc (Nat.le_refl _) _
  have rG : Hid (WA.rowIs (w.heap.size + 1) 44 3 (ruF ⟨⟨3, [], -1⟩, none, 0⟩)) := hid (by
    have := rowU_new (w.alloc (boxC c)) ⟨⟨3, [], -1⟩, none, 0⟩
    rw [hWA]
    simpa using this)
  have HX := hid (doP_co (H := w.heap.size + 1) (W' := WA) hk.2.2 (Un.of_below b1) (by rw [hB]; exact h.grow b1) (Un.refl _ _) (by rw [hWA]; exact Un.of_below ((Below.refl _ _).alloc (Nat.le_refl _) _)) (by omega) (fun k hk => by have := h.lt k hk; omega))
  rw [hE] at HX
  have HW := hid hWA
  clear h b1 hE hB hWA
  obtain ⟨ck, cw, cc⟩ := c
  dsimp only at *
  have g1 : (ck == 1) = false := by simpa using hk.1
  have g2 : (ck == 2) = false := by simpa using hk.2.1
  have g3 : (ck == 3) = false := by simpa using hk.2.2
  clear hk
  go_enter Try.func22, Try.ntmps22
  go_wp2
  (try simp only [Exit.inBlock, Exit.then])
  have eW : (w.alloc (.cells #[.int .i64 ck, .int .i64 cw, .int .i64 cc] 52)).alloc (.cells #[.int .i64 3, .slice none 0 0, .int .i64 (-1)] 44) = WA := HW.out.symm
  rw [eW]
  clear eW
  exact bodyPost_U rfl (w.heap.size + 1) ⟨⟨3, [], -1⟩, none, 0⟩ rfl rG.out rfl HX.out

/-- What was told, laid into a box of its own. -/
theorem doP_put {B R oo A G N H : Nat} {XX : Win} {vl : Value} {b : Plain.Bk} {c : Plain.Ca} {w w1 W : World} {r : RU} {vl' : Value} {N' : Nat} (un1 : Un (Fb R A G vl) w w1) (hT : r.d = Plain.caT b c) (h : BkI B R oo XX A G W vl' (Plain.caB b c) N') (hN : N' ≤ N + 1) (un : Un (Fb R A G vl) w1 W) (hs : Ns (fun k => Fb R A G vl' k ∨ k < w1.heap.size) W r.p r.c r.d.grants)
    (hf : ∀ k, k < w1.heap.size → Fb R A G vl' k → Fb R A G vl k) (hH : w.heap.size ≤ H) (hne : ∀ k, Fb R A G vl' k → k ≠ H) (hsz : H < w1.heap.size) :
    DoP B R oo XX A G N vl b c w (.returned (aggU r)) (putU W H 0 r) := by
  have up := putU_un (F := (· = H)) W H 0 r rfl
  have lv : ∀ j, j < W.heap.size → j ≠ H → (putU W H 0 r).heap[j]? = W.heap[j]? := fun j hj hne => up.block j hj hne
  have uw := un1.trans un
  refine ⟨r, vl', N', rfl, hT, ⟨h.row.of_block (lv R h.row.lt (hne _ (.inl rfl))), h.ra.of_block (lv A h.ra.lt (hne _ (.inr (.inl rfl)))), h.rg.of_block (lv G h.rg.lt (hne _ (.inr (.inr (.inl rfl))))), h.ok, h.n1, h.n8, h.rd, ?_, h.hR, h.hA, h.hG, h.RA, h.RG, h.AG, h.tk, h.le⟩, hN, ?_, ?_, fun k hk x => hf k (by omega) x⟩
  · rcases h.lv with x | ⟨L, x1, x2, x3⟩
    · exact .inl x
    · exact .inr ⟨L, x1, x2.of_block (lv L x2.lt (hne _ (.inr (.inr (.inr (by rw [x1]; rfl)))))), x3⟩
  · refine ⟨up.os.trans uw.os, up.tape.trans uw.tape, up.output.trans uw.output, Nat.le_trans uw.size up.size, fun k hk hF => ?_⟩
    rw [lv k (Nat.lt_of_lt_of_le hk uw.size) (by omega)]
    exact uw.block k hk hF
  · exact hs.keep (putU_un (F := fun k => Fb R A G vl' k ∨ k < w1.heap.size) W H 0 r (.inr hsz)) (fun k _ x => x.imp id (fun y => by omega))

set_option maxHeartbeats 4000000 in
set_option maxRecDepth 100000 in
theorem do_round (B R oo A G N : Nat) (XX : Win) (vl : Value) (b : Plain.Bk) (c : Plain.Ca) (hk : c.kind = 3) (hN : N ≤ 1000) (w : World) (h : BkI B R oo XX A G w vl b N) :
    Calls Try.prog 22 #[.pointer (some ⟨R, oo, none⟩), aggC c] w fun e w' => DoP B R oo XX A G N vl b c w e w' := by
  obtain ⟨WA, hWA⟩ : ∃ WA, WA = (w.alloc (boxC c)).alloc zeroU := ⟨_, rfl⟩
  have rG : Hid (WA.rowIs (w.heap.size + 1) 44 3 (ruF ⟨⟨0, [], 0⟩, none, 0⟩)) := hid (by
    have := rowU_new (w.alloc (boxC c)) ⟨⟨0, [], 0⟩, none, 0⟩
    rw [hWA]
    simpa using this)
  have BA := hid (show Below w.heap.size w WA by rw [hWA]; exact ((Below.refl _ _).alloc (Nat.le_refl _) _).alloc (by simp) _)
  have HA := hid (h.grow BA.out)
  have HNE := hid (show ∀ k, Fb R A G vl k → k ≠ w.heap.size + 1 from fun k hk => by have := h.lt k hk; omega)
  have K := round_c B R oo A G N XX vl b c hk hN WA HA.out
  have FIN := hid (fun (W : World) (r : RU) vl' N' (hT : r.d = Plain.caT b c) (hI : BkI B R oo XX A G W vl' (Plain.caB b c) N') (hN' : N' ≤ N + 1) (un : Un (Fb R A G vl) WA W) (hs : Ns (fun k => Fb R A G vl' k ∨ k < WA.heap.size) W r.p r.c r.d.grants) (hf : ∀ k, k < WA.heap.size → Fb R A G vl' k → Fb R A G vl k) =>
    doP_put (H := w.heap.size + 1) (Un.of_below BA.out) hT hI hN' un hs hf (by omega) (fun k hk e => by
      have h1 := rG.out.lt
      exact HNE.out k (hf k (by omega) hk) e) rG.out.lt)
  have HW := hid hWA
  have GB := hid (show ¬ Fb R A G vl (w.heap.size + 1) from fun x => HNE.out _ x rfl)
  clear hWA h HA HNE BA
  obtain ⟨ck, cw, cc⟩ := c
  dsimp only at *
  subst hk
  go_enter Try.func22, Try.ntmps22
  go_wp2_with fail
  have eW : (w.alloc (.cells #[.int .i64 3, .int .i64 cw, .int .i64 cc] 52)).alloc (.cells #[.int .i64 0, .slice none 0 0, .int .i64 0] 44) = WA := HW.out.symm
  rw [eW]
  clear eW
  refine K.mono ?_
  rintro e W1 ⟨⟨⟨E, gs, rp⟩, p, q⟩, vl', N', rfl, hT, hI, hN', un, hs, hf⟩
  have R1 := hid (rG.out.of_block (un.block _ rG.out.lt GB.out))
  have HX := hid (FIN.out W1 ⟨⟨E, gs, rp⟩, p, q⟩ vl' N' hT hI hN' un hs hf)
  clear K hT hI un FIN hs hf
  have y0 : W1.cell? ⟨w.heap.size + 1, 0, none⟩ = some (.int .i64 0) := R1.out.cell (i := 0) (by omega)
  have y1 : W1.cell? ⟨w.heap.size + 1, 1, none⟩ = some (.slice none 0 0) := R1.out.cell (i := 1) (by omega)
  have y2 : W1.cell? ⟨w.heap.size + 1, 2, none⟩ = some (.int .i64 0) := R1.out.cell (i := 2) (by omega)
  have z0 := R1.out.frozen 0
  have z1 := R1.out.frozen 1
  have z2 := R1.out.frozen 2
  go_wp2
  (try simp only [Exit.inBlock, Exit.then])
  obtain ⟨W6, hW6⟩ : ∃ W6, W6 = ((W1.setCell ⟨w.heap.size + 1, 0, none⟩ (.int .i64 (E : Nat))).setCell ⟨w.heap.size + 1, 1, none⟩ (.slice p gs.length q)).setCell ⟨w.heap.size + 1, 2, none⟩ (.int .i64 rp) := ⟨_, rfl⟩
  rw [← hW6]
  have e6 : W6 = putU W1 (w.heap.size + 1) 0 ⟨⟨E, gs, rp⟩, p, q⟩ := by rw [hW6]; rfl
  rw [← e6] at HX
  have R6 : W6.rowIs (w.heap.size + 1) 44 3 (ruF ⟨⟨E, gs, rp⟩, p, q⟩) := by rw [e6]; exact putU_row R1.out _
  clear hW6 e6
  exact bodyPost_U rfl (w.heap.size + 1) ⟨⟨E, gs, rp⟩, p, q⟩ rfl R6 rfl HX.out

/-- A call. -/
theorem do_any (B R oo A G N : Nat) (XX : Win) (vl : Value) (b : Plain.Bk) (c : Plain.Ca) (hN : N ≤ 1000) (w : World) (h : BkI B R oo XX A G w vl b N) :
    Calls Try.prog 22 #[.pointer (some ⟨R, oo, none⟩), aggC c] w fun e w' => DoP B R oo XX A G N vl b c w e w' := by
  by_cases h3 : c.kind = 3
  · exact do_round B R oo A G N XX vl b c h3 hN w h
  by_cases h1 : c.kind = 1
  · exact do_co B R oo A G N XX vl b c (.inl h1) w h
  by_cases h2 : c.kind = 2
  · exact do_co B R oo A G N XX vl b c (.inr h2) w h
  · exact do_kind B R oo A G N XX vl b c ⟨h1, h2, h3⟩ w h
end Go.Proofs.Ytiolkeghgodggaj.Bo

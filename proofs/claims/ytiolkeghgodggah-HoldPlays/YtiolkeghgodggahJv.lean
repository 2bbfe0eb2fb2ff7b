/-
  The document's Confirm and Cancel (written by genjv.py).
-/
import Derived.Test.YtiolkeghgodggahJt
import Derived.Test.YtiolkeghgodggahJq
namespace Go.Proofs.Ytiolkeghgodggah.Hd
open Go.RowKit Go.Shelf

set_option maxHeartbeats 8000000 in
set_option maxRecDepth 100000 in
theorem ord_confirm (B R : Nat) (vc vl : Value) (r : Plain.Rk) (g : Int) (hv : Plain.Hv r g) (hb : r.cs.length ≤ 900) (c l i : Int) (i1 : -9223372036854775808 ≤ i) (i2 : i ≤ 9223372036854775807) (w : World) (h : RkI B w R vc vl r) :
    Calls Try.prog 30 #[.pointer (some ⟨R, 0, none⟩), aggO ⟨4, c, l, i⟩] w fun e w' => OrdPost B R vc vl r ⟨4, c, l, i⟩ w e w' := by
  have hE := Plain.ordE_end (r := r) (o := ⟨4, c, l, i⟩) (.inl rfl)
  dsimp only at hE
  have hI : Plain.ordI r ⟨4, c, l, i⟩ = 0 := by unfold Plain.ordI; rw [if_neg (fun x => by have := x.2; dsimp only at this; omega)]
  have hR : Plain.ordR r ⟨4, c, l, i⟩ = { r with used := r.used + r.cs.getD (i - 1).toNat 0, ls := r.ls.set (i - 1).toNat 0 } := by
    unfold Plain.ordR
    dsimp only
    rw [if_neg (by omega), if_neg (by omega), if_neg (by omega), if_neg (by omega)]
    rw [if_pos rfl]
  obtain ⟨⟨f1, f2⟩, ⟨u1, u2⟩, _⟩ := hv.bds
  have hln := hv.ln
  have HCT := hid hv.ct
  obtain ⟨W, hW⟩ : ∃ W, W = w.alloc (boxO ⟨4, c, l, i⟩) := ⟨_, rfl⟩
  have O0 : Hid (OI B R vc vl w ⟨4, c, l, i⟩ W vc vl r) := hid (by rw [hW]; exact OI.start h)
  have BW := hid (show Below w.heap.size w W by rw [hW]; exact (Below.refl _ _).alloc (Nat.le_refl _) _)
  obtain ⟨pc, cc, pl, cl, ec, el, hfc, hfl⟩ := O0.out.rk.forms
  have HH := hid h
  have HE := hid hE
  have HIR := hid (And.intro hI hR)
  clear h hE hI hR hv hfc hfl
  have r2 := O0.out.rk.c2
  have r3 := O0.out.rk.c3
  have x3 := O0.out.b3
  dsimp only at x3
  rw [ec] at r2
  rw [el] at r3
  generalize hn : r.cs.length = n at *
  have hm : r.ls.length = n := hln.symm
  rw [hm] at r3 el
  have HN := hid hn
  have HM := hid hm
  clear hn hm hln
  by_cases ha : i < 1
  · have hd : decide (i < 1) = true := by rw [decide_eq_true_iff]; exact ha
    have P := hid (fun w' gg => ordPost_no (w := w) (w' := w') (E := 6) (HE.out.trans (by rw [if_pos (.inl ha)])) (by decide) HH.out gg)
    go_enter Try.func30, Try.ntmps30
    go_wp2
    rw [← hW]
    clear hW
    go_quiet (fail)
    go_wp2
    go_ret2
    exact P.out _ (below_drewN BW.out _)
  have hda : decide (i < 1) = false := by rw [decide_eq_false_iff_not]; exact ha
  by_cases hz : (n : Int) < i
  · have hd : decide ((n : Int) < i) = true := by rw [decide_eq_true_iff]; exact hz
    have P := hid (fun w' gg => ordPost_no (w := w) (w' := w') (E := 6) (HE.out.trans (by rw [if_pos (.inr hz)])) (by decide) HH.out gg)
    go_enter Try.func30, Try.ntmps30
    go_wp2
    rw [← hW]
    clear hW
    go_quiet (fail)
    go_wp2
    go_ret2
    exact P.out _ (below_drewN BW.out _)
  have hdz : decide ((n : Int) < i) = false := by rw [decide_eq_false_iff_not]; exact hz
  obtain ⟨j, hj⟩ : ∃ j : Nat, j = (i - 1).toNat := ⟨_, rfl⟩
  have hij : i - 1 = (j : Int) := by omega
  have hjn : j < n := by omega
  have hjz : (j : Int) < (n : Int) := by omega
  have hwj : IntKind.i64.wrap (i - 1) = (j : Int) := by rw [IntKind.wrap_i64]; omega
  rw [if_neg (by omega), ← hj] at HE
  rw [← hj] at HIR
  have HJ := hid hj
  clear hj
  go_enter Try.func30, Try.ntmps30
  go_wp2
  rw [← hW]
  clear hW
  go_quiet (fail)
  obtain ⟨W1, hW1⟩ : ∃ W1, W1 = W.drewN nq := ⟨_, rfl⟩
  rw [← hW1]
  have O1 : Hid (OI B R vc vl w ⟨4, c, l, i⟩ W1 vc vl r) := hid (by rw [hW1]; exact O0.out.drewN nq)
  have BW1 := hid (show Below w.heap.size w W1 by rw [hW1]; exact below_drewN BW.out nq)
  clear hW1 r2 r3 x3 O0 BW hda hdz
  obtain ⟨pc', cc', pl', cl', ec', el', hfc, hfl⟩ := O1.out.rk.forms
  rw [HN.out] at hfc ec'
  rw [HM.out] at hfl el'
  obtain ⟨gc, egc, _, _, hcc⟩ := hfc (by omega)
  obtain ⟨gl, egl, _, _, hll⟩ := hfl (by omega)
  have hcc := hid hcc
  have cL := (hll j hjn).1
  have fL := (hll j hjn).2
  rw [egc] at ec'
  rw [egl] at el'
  clear hfc hfl hll egc egl
  have r2 := O1.out.rk.c2
  have r3 := O1.out.rk.c3
  have x3 := O1.out.b3
  dsimp only at x3
  rw [ec'] at r2
  rw [el'] at r3
  obtain ⟨x, hx⟩ : ∃ x, x = r.ls.getD j 0 := ⟨_, rfl⟩
  rw [← hx] at cL HE
  clear hx
  by_cases hx0 : x = 0
  · have P := hid (fun w' gg => ordPost_no (w := w) (w' := w') (E := 10) (HE.out.trans (by rw [if_pos hx0])) (by decide) HH.out gg)
    have hd : (x == 0) = true := by rw [hx0]; rfl
    go_wp2
    go_quiet (fail)
    go_wp2
    go_ret2
    exact P.out _ (below_drewN BW1.out _)
  have HE0 := hid (HE.out.trans (by rw [if_neg hx0]))
  have hd : (x == 0) = false := by rw [beq_eq_false_iff_ne]; exact hx0
  go_wp2
  go_quiet (fail)
  obtain ⟨W2, hW2⟩ : ∃ W2, W2 = W1.drewN nq := ⟨_, rfl⟩
  rw [← hW2]
  have O2 : Hid (OI B R vc vl w ⟨4, c, l, i⟩ W2 vc (.slice (some ⟨gl, 0, none⟩) r.ls.length cl') r) := hid (by rw [HM.out, ← el', hW2]; exact O1.out.drewN nq)
  have cL2 : W2.cell? ⟨gl, j, none⟩ = some (.int .i64 x) := by rw [hW2]; simpa using cL
  have fL2 : W2.frozen? ⟨gl, j, none⟩ = false := by rw [hW2]; exact fL
  clear hW2 r2 r3 x3 cL fL O1 BW1 hd hcc
  have r3 := O2.out.rk.c3
  rw [HM.out] at r3
  have x3 := O2.out.b3
  dsimp only at x3
  go_wp2
  go_region
  all_goals
    obtain ⟨W3, hW3⟩ : ∃ W3, W3 = (W2.setCell ⟨gl, j, none⟩ (.int .i64 0)).drew := ⟨_, rfl⟩
    rw [← hW3]
    have O3 : Hid (OI B R vc vl w ⟨4, c, l, i⟩ W3 vc (.slice (some ⟨gl, 0, none⟩) r.ls.length cl') { r with ls := r.ls.set j 0 }) := hid (by rw [hW3]; exact (O2.out.left j 0).drewN 1)
    clear hW3 r3 x3 cL2 fL2 O2
    obtain ⟨pd, cd, _, _, ed, _, hfd, _⟩ := O3.out.rk.forms
    dsimp only at ed hfd
    rw [HN.out] at ed hfd
    obtain ⟨gd, egd, _, _, hcd⟩ := hfd (by omega)
    rw [egd] at ed
    have cD := hcd j hjn
    clear hfd hcd egd
    have r1 := O3.out.rk.c1
    have r2 := O3.out.rk.c2
    have x0 := O3.out.b0
    have x3 := O3.out.b3
    have z := O3.out.f1
    dsimp only at r1 x0 x3
    rw [ed] at r2
    have yb := HCT.out (r.cs.getD j 0) (by
      rw [List.getD_eq_getElem?_getD, List.getElem?_eq_getElem (by rw [HN.out]; exact hjn)]
      exact List.getElem_mem _)
    obtain ⟨y, hy⟩ : ∃ y, y = r.cs.getD j 0 := ⟨_, rfl⟩
    rw [← hy] at cD yb
    obtain ⟨yb1, yb2⟩ := yb
    obtain ⟨t, ht⟩ : ∃ t, t = r.used := ⟨_, rfl⟩
    have tb1 : 0 ≤ t := by rw [ht]; assumption
    have tb2 : t ≤ 1048576 := by rw [ht]; assumption
    rw [← ht] at r1
    obtain ⟨t', ht'⟩ : ∃ t', t' = t + y := ⟨_, rfl⟩
    have hw1 : IntKind.i64.wrap (t + y) = t' := by rw [ht', IntKind.wrap_i64]; omega
    have HT := hid (show t' = r.used + r.cs.getD j 0 by rw [ht', ht, hy])
    clear ht' ht hy
    go_wp2
    go_region
    all_goals
      obtain ⟨W4, hW4⟩ : ∃ W4, W4 = (W3.setCell ⟨R, 1, none⟩ (.int .i64 t')).drew := ⟨_, rfl⟩
      rw [← hW4]
      have O4 : Hid (OI B R vc vl w ⟨4, c, l, i⟩ W4 vc (.slice (some ⟨gl, 0, none⟩) r.ls.length cl') { r with used := t', ls := r.ls.set j 0 }) := hid (by rw [hW4]; exact (O3.out.used t').drewN 1)
      clear hW4 r1 r2 x0 x3 z cD O3 hw1
      go_wp2
      go_ret2
      exact ordPost_yes HE0.out HIR.out.1 (by rw [HIR.out.2, ← HT.out]) O4.out.rk O4.out.on

set_option maxHeartbeats 8000000 in
set_option maxRecDepth 100000 in
theorem ord_cancel (B R : Nat) (vc vl : Value) (r : Plain.Rk) (g : Int) (hv : Plain.Hv r g) (hb : r.cs.length ≤ 900) (c l i : Int) (i1 : -9223372036854775808 ≤ i) (i2 : i ≤ 9223372036854775807) (w : World) (h : RkI B w R vc vl r) :
    Calls Try.prog 30 #[.pointer (some ⟨R, 0, none⟩), aggO ⟨5, c, l, i⟩] w fun e w' => OrdPost B R vc vl r ⟨5, c, l, i⟩ w e w' := by
  have hE := Plain.ordE_end (r := r) (o := ⟨5, c, l, i⟩) (.inr rfl)
  dsimp only at hE
  have hI : Plain.ordI r ⟨5, c, l, i⟩ = 0 := by unfold Plain.ordI; rw [if_neg (fun x => by have := x.2; dsimp only at this; omega)]
  have hR : Plain.ordR r ⟨5, c, l, i⟩ = { r with free := r.free + r.cs.getD (i - 1).toNat 0, ls := r.ls.set (i - 1).toNat 0 } := by
    unfold Plain.ordR
    dsimp only
    rw [if_neg (by omega), if_neg (by omega), if_neg (by omega), if_neg (by omega)]
    rw [if_neg (by omega), if_pos rfl]
  obtain ⟨⟨f1, f2⟩, ⟨u1, u2⟩, _⟩ := hv.bds
  have hln := hv.ln
  have HCT := hid hv.ct
  obtain ⟨W, hW⟩ : ∃ W, W = w.alloc (boxO ⟨5, c, l, i⟩) := ⟨_, rfl⟩
  have O0 : Hid (OI B R vc vl w ⟨5, c, l, i⟩ W vc vl r) := hid (by rw [hW]; exact OI.start h)
  have BW := hid (show Below w.heap.size w W by rw [hW]; exact (Below.refl _ _).alloc (Nat.le_refl _) _)
  obtain ⟨pc, cc, pl, cl, ec, el, hfc, hfl⟩ := O0.out.rk.forms
  have HH := hid h
  have HE := hid hE
  have HIR := hid (And.intro hI hR)
  clear h hE hI hR hv hfc hfl
  have r2 := O0.out.rk.c2
  have r3 := O0.out.rk.c3
  have x3 := O0.out.b3
  dsimp only at x3
  rw [ec] at r2
  rw [el] at r3
  generalize hn : r.cs.length = n at *
  have hm : r.ls.length = n := hln.symm
  rw [hm] at r3 el
  have HN := hid hn
  have HM := hid hm
  clear hn hm hln
  by_cases ha : i < 1
  · have hd : decide (i < 1) = true := by rw [decide_eq_true_iff]; exact ha
    have P := hid (fun w' gg => ordPost_no (w := w) (w' := w') (E := 6) (HE.out.trans (by rw [if_pos (.inl ha)])) (by decide) HH.out gg)
    go_enter Try.func30, Try.ntmps30
    go_wp2
    rw [← hW]
    clear hW
    go_quiet (fail)
    go_wp2
    go_ret2
    exact P.out _ (below_drewN BW.out _)
  have hda : decide (i < 1) = false := by rw [decide_eq_false_iff_not]; exact ha
  by_cases hz : (n : Int) < i
  · have hd : decide ((n : Int) < i) = true := by rw [decide_eq_true_iff]; exact hz
    have P := hid (fun w' gg => ordPost_no (w := w) (w' := w') (E := 6) (HE.out.trans (by rw [if_pos (.inr hz)])) (by decide) HH.out gg)
    go_enter Try.func30, Try.ntmps30
    go_wp2
    rw [← hW]
    clear hW
    go_quiet (fail)
    go_wp2
    go_ret2
    exact P.out _ (below_drewN BW.out _)
  have hdz : decide ((n : Int) < i) = false := by rw [decide_eq_false_iff_not]; exact hz
  obtain ⟨j, hj⟩ : ∃ j : Nat, j = (i - 1).toNat := ⟨_, rfl⟩
  have hij : i - 1 = (j : Int) := by omega
  have hjn : j < n := by omega
  have hjz : (j : Int) < (n : Int) := by omega
  have hwj : IntKind.i64.wrap (i - 1) = (j : Int) := by rw [IntKind.wrap_i64]; omega
  rw [if_neg (by omega), ← hj] at HE
  rw [← hj] at HIR
  have HJ := hid hj
  clear hj
  go_enter Try.func30, Try.ntmps30
  go_wp2
  rw [← hW]
  clear hW
  go_quiet (fail)
  obtain ⟨W1, hW1⟩ : ∃ W1, W1 = W.drewN nq := ⟨_, rfl⟩
  rw [← hW1]
  have O1 : Hid (OI B R vc vl w ⟨5, c, l, i⟩ W1 vc vl r) := hid (by rw [hW1]; exact O0.out.drewN nq)
  have BW1 := hid (show Below w.heap.size w W1 by rw [hW1]; exact below_drewN BW.out nq)
  clear hW1 r2 r3 x3 O0 BW hda hdz
  obtain ⟨pc', cc', pl', cl', ec', el', hfc, hfl⟩ := O1.out.rk.forms
  rw [HN.out] at hfc ec'
  rw [HM.out] at hfl el'
  obtain ⟨gc, egc, _, _, hcc⟩ := hfc (by omega)
  obtain ⟨gl, egl, _, _, hll⟩ := hfl (by omega)
  have hcc := hid hcc
  have cL := (hll j hjn).1
  have fL := (hll j hjn).2
  rw [egc] at ec'
  rw [egl] at el'
  clear hfc hfl hll egc egl
  have r2 := O1.out.rk.c2
  have r3 := O1.out.rk.c3
  have x3 := O1.out.b3
  dsimp only at x3
  rw [ec'] at r2
  rw [el'] at r3
  obtain ⟨x, hx⟩ : ∃ x, x = r.ls.getD j 0 := ⟨_, rfl⟩
  rw [← hx] at cL HE
  clear hx
  by_cases hx0 : x = 0
  · have P := hid (fun w' gg => ordPost_no (w := w) (w' := w') (E := 10) (HE.out.trans (by rw [if_pos hx0])) (by decide) HH.out gg)
    have hd : (x == 0) = true := by rw [hx0]; rfl
    go_wp2
    go_quiet (fail)
    go_wp2
    go_ret2
    exact P.out _ (below_drewN BW1.out _)
  have HE0 := hid (HE.out.trans (by rw [if_neg hx0]))
  have hd : (x == 0) = false := by rw [beq_eq_false_iff_ne]; exact hx0
  go_wp2
  go_quiet (fail)
  obtain ⟨W2, hW2⟩ : ∃ W2, W2 = W1.drewN nq := ⟨_, rfl⟩
  rw [← hW2]
  have O2 : Hid (OI B R vc vl w ⟨5, c, l, i⟩ W2 vc (.slice (some ⟨gl, 0, none⟩) r.ls.length cl') r) := hid (by rw [HM.out, ← el', hW2]; exact O1.out.drewN nq)
  have cL2 : W2.cell? ⟨gl, j, none⟩ = some (.int .i64 x) := by rw [hW2]; simpa using cL
  have fL2 : W2.frozen? ⟨gl, j, none⟩ = false := by rw [hW2]; exact fL
  clear hW2 r2 r3 x3 cL fL O1 BW1 hd hcc
  have r3 := O2.out.rk.c3
  rw [HM.out] at r3
  have x3 := O2.out.b3
  dsimp only at x3
  go_wp2
  go_region
  all_goals
    obtain ⟨W3, hW3⟩ : ∃ W3, W3 = (W2.setCell ⟨gl, j, none⟩ (.int .i64 0)).drew := ⟨_, rfl⟩
    rw [← hW3]
    have O3 : Hid (OI B R vc vl w ⟨5, c, l, i⟩ W3 vc (.slice (some ⟨gl, 0, none⟩) r.ls.length cl') { r with ls := r.ls.set j 0 }) := hid (by rw [hW3]; exact (O2.out.left j 0).drewN 1)
    clear hW3 r3 x3 cL2 fL2 O2
    obtain ⟨pd, cd, _, _, ed, _, hfd, _⟩ := O3.out.rk.forms
    dsimp only at ed hfd
    rw [HN.out] at ed hfd
    obtain ⟨gd, egd, _, _, hcd⟩ := hfd (by omega)
    rw [egd] at ed
    have cD := hcd j hjn
    clear hfd hcd egd
    have r0 := O3.out.rk.c0
    have r2 := O3.out.rk.c2
    have x0 := O3.out.b0
    have x3 := O3.out.b3
    have z := O3.out.f0
    dsimp only at r0 x0 x3
    rw [ed] at r2
    have yb := HCT.out (r.cs.getD j 0) (by
      rw [List.getD_eq_getElem?_getD, List.getElem?_eq_getElem (by rw [HN.out]; exact hjn)]
      exact List.getElem_mem _)
    obtain ⟨y, hy⟩ : ∃ y, y = r.cs.getD j 0 := ⟨_, rfl⟩
    rw [← hy] at cD yb
    obtain ⟨yb1, yb2⟩ := yb
    obtain ⟨t, ht⟩ : ∃ t, t = r.free := ⟨_, rfl⟩
    have tb1 : 0 ≤ t := by rw [ht]; assumption
    have tb2 : t ≤ 1048576 := by rw [ht]; assumption
    rw [← ht] at r0
    obtain ⟨t', ht'⟩ : ∃ t', t' = t + y := ⟨_, rfl⟩
    have hw1 : IntKind.i64.wrap (t + y) = t' := by rw [ht', IntKind.wrap_i64]; omega
    have HT := hid (show t' = r.free + r.cs.getD j 0 by rw [ht', ht, hy])
    clear ht' ht hy
    go_wp2
    go_region
    all_goals
      obtain ⟨W4, hW4⟩ : ∃ W4, W4 = (W3.setCell ⟨R, 0, none⟩ (.int .i64 t')).drew := ⟨_, rfl⟩
      rw [← hW4]
      have O4 : Hid (OI B R vc vl w ⟨5, c, l, i⟩ W4 vc (.slice (some ⟨gl, 0, none⟩) r.ls.length cl') { r with free := t', ls := r.ls.set j 0 }) := hid (by rw [hW4]; exact (O3.out.free t').drewN 1)
      clear hW4 r0 r2 x0 x3 z cD O3 hw1
      go_wp2
      go_ret2
      exact ordPost_yes HE0.out HIR.out.1 (by rw [HIR.out.2, ← HT.out]) O4.out.rk O4.out.on

end Go.Proofs.Ytiolkeghgodggah.Hd

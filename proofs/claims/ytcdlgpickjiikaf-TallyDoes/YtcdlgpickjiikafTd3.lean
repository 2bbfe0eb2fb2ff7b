/-
  The document's Do of kind 3.
-/
import Derived.Test.YtcdlgpickjiikafTdh
namespace Go.Proofs.Ytcdlgpickjiikaf
open Go.RowKit Go.Sort

set_option maxHeartbeats 4000000 in
set_option maxRecDepth 100000 in
theorem rdo_3 (vm vu : Value) (t : Plain.Ta) (wh to ct : Int) (w : World) (h : HasT w vm vu t) (M : Hid (Plain.mayT t = true)) :
    Calls Try.prog 21 #[aggT vm vu, aggD ⟨3, wh, to, ct⟩] w fun e w' => ∃ x y, e = .returned (.tuple #[aggT x y, .int .i64 (Plain.doE t ⟨3, wh, to, ct⟩ : Nat)]) ∧ HasP (w.heap.size ≤ ·) w' x y (Plain.doV t ⟨3, wh, to, ct⟩) ∧ Below w.heap.size w w' := by
  have I0 := hid (DK.start h ⟨3, wh, to, ct⟩)
  have hk : (⟨3, wh, to, ct⟩ : Plain.De).kind = 1 ∨ (⟨3, wh, to, ct⟩ : Plain.De).kind = 2 ∨ (⟨3, wh, to, ct⟩ : Plain.De).kind = 3 := .inr (.inr rfl)
  obtain ⟨pu, cu, rfl, _⟩ := h.u.form
  have hub := h.u.b
  have SQ := hid (Plain.mayT_iff.1 M.out)
  have ER := hid (fun E (h0 : E ≠ 0) (he : Plain.refE t (⟨3, wh, to, ct⟩ : Plain.De) = E) => (show Plain.doE t (⟨3, wh, to, ct⟩ : Plain.De) = E ∧ Plain.doV t (⟨3, wh, to, ct⟩ : Plain.De) = ⟨[], []⟩ from
    have e1 : Plain.doE t (⟨3, wh, to, ct⟩ : Plain.De) = E := by unfold Plain.doE; rw [if_neg (by rw [he]; exact h0), he]
    ⟨e1, by unfold Plain.doV; rw [if_neg (by rw [e1]; exact h0)]⟩))
  have RG := hid (fun (hr : ¬ ((0 ≤ wh ∧ wh < t.used.length) ∧ ((⟨3, wh, to, ct⟩ : Plain.De).kind = 2 → (0 ≤ to ∧ to < t.used.length) ∧ to ≠ wh) ∧ 1 ≤ ct ∧ ct ≤ 1048576)) => ER.out 2 (by omega) (Plain.refE_range M.out hk hr))
  clear h
  generalize hn : t.used.length = n at *
  have HN := hid hn
  clear hn
  by_cases a1 : wh < 0
  · have e2 := RG.out (fun h => by have := h.1.1; omega)
    rw [e2.1, e2.2]
    clear e2 RG ER hk
    go_enter Try.func21, Try.ntmps21
    go_wp2_with fail
    refine (rmay_g _ _ t _ I0.out.di.sd.st.has).mono ?_
    rw [M.out]
    rintro e w1 ⟨rfl, q1, os1, h1⟩
    have I1 := hid (I0.out.step (w' := w1) (by rw [h1]; exact grow_below _ _ _))
    clear h1 I0
    have x0 := I1.out.di.sd.st.x0
    have x1 := I1.out.di.sd.st.x1
    obtain ⟨y0, y1, y2, y3⟩ := I1.out.di.sd.d
    simp only [Nat.zero_add] at y1 y2 y3
    have n0 := I1.out.nn.c0
    have n1 := I1.out.nn.c1
    have d0 := I1.out.di.res.c0
    have d1 := I1.out.di.res.c1
    have d2 := I1.out.di.res.frozen 0
    have d3 := I1.out.di.res.frozen 1
    have d4 := I1.out.di.res.lt
    go_wp2
    (try simp only [Exit.inBlock, Exit.then])
    refine bodyPost_ret (v := .tuple #[aggT (.slice none 0 0) (.slice none 0 0), .int .i64 2]) ?_ rfl ⟨_, _, rfl, HasP.nil _ _, below_res I1.out.di.sd.st.bel I1.out.di.r0⟩
    exact results_tally2 (p := 4) (u := 5) rfl _ _ (w.heap.size + 1 + 1) _ _ rfl (I1.out.di.res.set _ _)
  by_cases a2 : (n : Int) ≤ wh
  · have e2 := RG.out (fun h => by have := h.1.2; omega)
    rw [e2.1, e2.2]
    clear e2 RG ER hk
    go_enter Try.func21, Try.ntmps21
    go_wp2_with fail
    refine (rmay_g _ _ t _ I0.out.di.sd.st.has).mono ?_
    rw [M.out]
    rintro e w1 ⟨rfl, q1, os1, h1⟩
    have I1 := hid (I0.out.step (w' := w1) (by rw [h1]; exact grow_below _ _ _))
    clear h1 I0
    have x0 := I1.out.di.sd.st.x0
    have x1 := I1.out.di.sd.st.x1
    obtain ⟨y0, y1, y2, y3⟩ := I1.out.di.sd.d
    simp only [Nat.zero_add] at y1 y2 y3
    have n0 := I1.out.nn.c0
    have n1 := I1.out.nn.c1
    have d0 := I1.out.di.res.c0
    have d1 := I1.out.di.res.c1
    have d2 := I1.out.di.res.frozen 0
    have d3 := I1.out.di.res.frozen 1
    have d4 := I1.out.di.res.lt
    go_wp2
    (try simp only [Exit.inBlock, Exit.then])
    refine bodyPost_ret (v := .tuple #[aggT (.slice none 0 0) (.slice none 0 0), .int .i64 2]) ?_ rfl ⟨_, _, rfl, HasP.nil _ _, below_res I1.out.di.sd.st.bel I1.out.di.r0⟩
    exact results_tally2 (p := 4) (u := 5) rfl _ _ (w.heap.size + 1 + 1) _ _ rfl (I1.out.di.res.set _ _)
  by_cases a3 : ct < 1
  · have e2 := RG.out (fun h => by have := h.2.2.1; omega)
    rw [e2.1, e2.2]
    clear e2 RG ER hk
    go_enter Try.func21, Try.ntmps21
    go_wp2_with fail
    refine (rmay_g _ _ t _ I0.out.di.sd.st.has).mono ?_
    rw [M.out]
    rintro e w1 ⟨rfl, q1, os1, h1⟩
    have I1 := hid (I0.out.step (w' := w1) (by rw [h1]; exact grow_below _ _ _))
    clear h1 I0
    have x0 := I1.out.di.sd.st.x0
    have x1 := I1.out.di.sd.st.x1
    obtain ⟨y0, y1, y2, y3⟩ := I1.out.di.sd.d
    simp only [Nat.zero_add] at y1 y2 y3
    have n0 := I1.out.nn.c0
    have n1 := I1.out.nn.c1
    have d0 := I1.out.di.res.c0
    have d1 := I1.out.di.res.c1
    have d2 := I1.out.di.res.frozen 0
    have d3 := I1.out.di.res.frozen 1
    have d4 := I1.out.di.res.lt
    go_wp2
    (try simp only [Exit.inBlock, Exit.then])
    refine bodyPost_ret (v := .tuple #[aggT (.slice none 0 0) (.slice none 0 0), .int .i64 2]) ?_ rfl ⟨_, _, rfl, HasP.nil _ _, below_res I1.out.di.sd.st.bel I1.out.di.r0⟩
    exact results_tally2 (p := 4) (u := 5) rfl _ _ (w.heap.size + 1 + 1) _ _ rfl (I1.out.di.res.set _ _)
  by_cases a4 : 1048576 < ct
  · have e2 := RG.out (fun h => by have := h.2.2.2; omega)
    rw [e2.1, e2.2]
    clear e2 RG ER hk
    go_enter Try.func21, Try.ntmps21
    go_wp2_with fail
    refine (rmay_g _ _ t _ I0.out.di.sd.st.has).mono ?_
    rw [M.out]
    rintro e w1 ⟨rfl, q1, os1, h1⟩
    have I1 := hid (I0.out.step (w' := w1) (by rw [h1]; exact grow_below _ _ _))
    clear h1 I0
    have x0 := I1.out.di.sd.st.x0
    have x1 := I1.out.di.sd.st.x1
    obtain ⟨y0, y1, y2, y3⟩ := I1.out.di.sd.d
    simp only [Nat.zero_add] at y1 y2 y3
    have n0 := I1.out.nn.c0
    have n1 := I1.out.nn.c1
    have d0 := I1.out.di.res.c0
    have d1 := I1.out.di.res.c1
    have d2 := I1.out.di.res.frozen 0
    have d3 := I1.out.di.res.frozen 1
    have d4 := I1.out.di.res.lt
    go_wp2
    (try simp only [Exit.inBlock, Exit.then])
    refine bodyPost_ret (v := .tuple #[aggT (.slice none 0 0) (.slice none 0 0), .int .i64 2]) ?_ rfl ⟨_, _, rfl, HasP.nil _ _, below_res I1.out.di.sd.st.bel I1.out.di.r0⟩
    exact results_tally2 (p := 4) (u := 5) rfl _ _ (w.heap.size + 1 + 1) _ _ rfl (I1.out.di.res.set _ _)
  clear RG
  have hr : (0 ≤ (⟨3, wh, to, ct⟩ : Plain.De).who ∧ (⟨3, wh, to, ct⟩ : Plain.De).who < (n : Int)) ∧ ((⟨3, wh, to, ct⟩ : Plain.De).kind = 2 → (0 ≤ (⟨3, wh, to, ct⟩ : Plain.De).to ∧ (⟨3, wh, to, ct⟩ : Plain.De).to < (n : Int)) ∧ (⟨3, wh, to, ct⟩ : Plain.De).to ≠ (⟨3, wh, to, ct⟩ : Plain.De).who) ∧ 1 ≤ (⟨3, wh, to, ct⟩ : Plain.De).count ∧ (⟨3, wh, to, ct⟩ : Plain.De).count ≤ 1048576 := ⟨by simp only []; omega, fun h => by simp at h, by simp only []; omega, by simp only []; omega⟩
  rw [← HN.out] at hr
  obtain ⟨o, rfl⟩ := Int.eq_ofNat_of_zero_le (show 0 ≤ wh by omega)
  have ho : o < n := by omega
  by_cases hl : Plain.leftT t o < ct
  · have e2 := ER.out 9 (by omega) (Plain.refE_less M.out hk hr ⟨by simp, by simpa using hl⟩)
    rw [e2.1, e2.2]
    clear e2 ER hk hr
    go_enter Try.func21, Try.ntmps21
    go_wp2_with fail
    refine (rmay_g _ _ t _ I0.out.di.sd.st.has).mono ?_
    rw [M.out]
    rintro e w1 ⟨rfl, q1, os1, h1⟩
    have I1 := hid (I0.out.step (w' := w1) (by rw [h1]; exact grow_below _ _ _))
    clear h1 I0
    have x0 := I1.out.di.sd.st.x0
    have x1 := I1.out.di.sd.st.x1
    obtain ⟨y0, y1, y2, y3⟩ := I1.out.di.sd.d
    simp only [Nat.zero_add] at y1 y2 y3
    have KL := fun m os => rleft_g _ _ t _ SQ.out (o : Int) (by omega) (by omega) (Sort.grow (w1.drewN m) os) (I1.out.di.sd.st.has.grown m os)
    simp only [Int.toNat_natCast] at KL
    generalize Plain.leftT t o = z at *
    have b0 : decide (z < ct) = true := by simp only [decide_eq_true_eq]; omega
    have z0 := fun m os => cell_grown (a := ⟨w.heap.size, 0, none⟩) I1.out.di.sd.st.lt x0 m os
    have z1 := fun m os => cell_grown (a := ⟨w.heap.size, 1, none⟩) I1.out.di.sd.st.lt x1 m os
    have z2 := fun m os => cell_grown (a := ⟨w.heap.size + 1, 0, none⟩) I1.out.di.sd.lt y0 m os
    have z3 := fun m os => cell_grown (a := ⟨w.heap.size + 1, 1, none⟩) I1.out.di.sd.lt y1 m os
    have z4 := fun m os => cell_grown (a := ⟨w.heap.size + 1, 3, none⟩) I1.out.di.sd.lt y3 m os
    have mixed : Try.prog.follows .mixedOrders = true := by kernel_rfl
    go_wp2
    go_quiet_grown ((go_at_call 34; exact Calls.grown_of (KL _ _)))
    obtain ⟨w2, hw2⟩ : ∃ w2, w2 = Sort.grow (w1.drewN nq) osq := ⟨_, rfl⟩
    have I2 := hid (I1.out.step (w' := w2) (by rw [hw2]; exact grow_below _ _ _))
    rw [← hw2]
    clear hw2 z0 z1 z2 z3 z4 KL I1
    clear x0 x1 y0 y1 y2 y3
    have x0 := I2.out.di.sd.st.x0
    have x1 := I2.out.di.sd.st.x1
    obtain ⟨y0, y1, y2, y3⟩ := I2.out.di.sd.d
    simp only [Nat.zero_add] at y1 y2 y3
    have n0 := I2.out.nn.c0
    have n1 := I2.out.nn.c1
    have d0 := I2.out.di.res.c0
    have d1 := I2.out.di.res.c1
    have d2 := I2.out.di.res.frozen 0
    have d3 := I2.out.di.res.frozen 1
    have d4 := I2.out.di.res.lt
    go_wp2
    (try simp only [Exit.inBlock, Exit.then])
    refine bodyPost_ret (v := .tuple #[aggT (.slice none 0 0) (.slice none 0 0), .int .i64 9]) ?_ rfl ⟨_, _, rfl, HasP.nil _ _, below_res I2.out.di.sd.st.bel I2.out.di.r0⟩
    exact results_tally2 (p := 4) (u := 5) rfl _ _ (w.heap.size + 1 + 1) _ _ rfl (I2.out.di.res.set _ _)
  have hz : Plain.refE t (⟨3, (o : Int), to, ct⟩ : Plain.De) = 0 := Plain.refE_zero M.out hk hr (fun h => hl (by simpa using h.2))
  have OK := hid (Plain.refE_ok hz)
  have bc := Plain.cellD_bd OK.out
  have HDE := hid (show Plain.doE t (⟨3, (o : Int), to, ct⟩ : Plain.De) = if 1048576 < Plain.cellD t (⟨3, (o : Int), to, ct⟩ : Plain.De) + ct then 12 else 0 by unfold Plain.doE; rw [if_pos hz])
  clear ER hk hr hz
  have EC := hid (show Plain.cellD t (⟨3, (o : Int), to, ct⟩ : Plain.De) = Plain.us t o by unfold Plain.cellD Plain.plD; simp)
  have ED := hid (show Plain.doT t (⟨3, (o : Int), to, ct⟩ : Plain.De) = ⟨t.moves, t.used.set o (Plain.us t o + ct)⟩ by unfold Plain.doT Plain.plD; simp)
  rw [EC.out] at bc HDE
  go_enter Try.func21, Try.ntmps21
  go_wp2_with fail
  refine (rmay_g _ _ t _ I0.out.di.sd.st.has).mono ?_
  rw [M.out]
  rintro e w1 ⟨rfl, q1, os1, h1⟩
  have I1 := hid (I0.out.step (w' := w1) (by rw [h1]; exact grow_below _ _ _))
  clear h1 I0
  have x0 := I1.out.di.sd.st.x0
  have x1 := I1.out.di.sd.st.x1
  obtain ⟨y0, y1, y2, y3⟩ := I1.out.di.sd.d
  simp only [Nat.zero_add] at y1 y2 y3
  have KL := fun m os => rleft_g _ _ t _ SQ.out (o : Int) (by omega) (by omega) (Sort.grow (w1.drewN m) os) (I1.out.di.sd.st.has.grown m os)
  simp only [Int.toNat_natCast] at KL
  generalize Plain.leftT t o = z at *
  have b0 : decide (z < ct) = false := by simp only [decide_eq_false_iff_not]; omega
  have z0 := fun m os => cell_grown (a := ⟨w.heap.size, 0, none⟩) I1.out.di.sd.st.lt x0 m os
  have z1 := fun m os => cell_grown (a := ⟨w.heap.size, 1, none⟩) I1.out.di.sd.st.lt x1 m os
  have z2 := fun m os => cell_grown (a := ⟨w.heap.size + 1, 0, none⟩) I1.out.di.sd.lt y0 m os
  have z3 := fun m os => cell_grown (a := ⟨w.heap.size + 1, 1, none⟩) I1.out.di.sd.lt y1 m os
  have z4 := fun m os => cell_grown (a := ⟨w.heap.size + 1, 3, none⟩) I1.out.di.sd.lt y3 m os
  have mixed : Try.prog.follows .mixedOrders = true := by kernel_rfl
  go_wp2
  go_quiet_grown ((go_at_call 34; exact Calls.grown_of (KL _ _)))
  obtain ⟨w2, hw2⟩ : ∃ w2, w2 = Sort.grow (w1.drewN nq) osq := ⟨_, rfl⟩
  have I2 := hid (I1.out.step (w' := w2) (by rw [hw2]; exact grow_below _ _ _))
  rw [← hw2]
  clear hw2 z0 z1 z2 z3 z4 KL I1
  clear x0 x1 y0 y1 y2 y3
  have x0 := I2.out.di.sd.st.x0
  have x1 := I2.out.di.sd.st.x1
  go_wp2_with fail
  refine (own_c _ _ t n (HN.out ▸ SQ.out) _ I2.out.di.sd.st.has).mono ?_
  rintro e w3 ⟨b, bu, cb, cu', G, C, rfl, ow, b3⟩
  clear x0 x1
  have J := hid (show DL w (w3.alloc (boxT (.slice (some ⟨b, 0, none⟩) n cb) (.slice (some ⟨bu, 0, none⟩) n cu'))) w2.heap.size n b bu cb cu' (w.heap.size + 1 + 1) w3.heap.size w.heap.size (w.heap.size + 1) (w.heap.size + 1 + 1 + 1) G C vm (.slice pu n cu) t t ⟨3, (o : Int), to, ct⟩ from
    have J0 := (I2.out.step b3).step ((Below.refl _ _).alloc (Nat.le_refl _) (boxT (.slice (some ⟨b, 0, none⟩) n cb) (.slice (some ⟨bu, 0, none⟩) n cu')))
    ⟨⟨J0.di, ow.grow ((Below.refl _ _).alloc (Nat.le_refl _) _), Deep.blk_alloc_new _ _, I2.out.di.sd.st.bel.size, I2.out.di.res.lt, I2.out.di.sd.lt, b3.size, ow.u.lt, fun i hi => (ow.m i hi).lt⟩, J0.nn, I2.out.nn.lt⟩)
  have XB := hid (show w.heap.size < w2.heap.size from I2.out.di.sd.st.lt)
  clear ow b3 I2
  obtain ⟨y0, y1, y2, y3⟩ := J.out.dj.di.sd.d
  simp only [Nat.zero_add] at y1 y2 y3
  go_wp2
  clear y0 y1 y2 y3
  obtain ⟨W, hW⟩ : ∃ W, W = w3.alloc (boxT (.slice (some ⟨b, 0, none⟩) n cb) (.slice (some ⟨bu, 0, none⟩) n cu')) := ⟨_, rfl⟩
  rw [← hW] at J ⊢
  clear hW
  have q0 := J.out.dj.box.c0
  have q1 := J.out.dj.box.c1
  obtain ⟨y0, y1, y2, y3⟩ := J.out.dj.di.sd.d
  simp only [Nat.zero_add] at y1 y2 y3
  have oz : (o : Int) < (n : Int) := by omega
  have c9 : W.cell? ⟨bu, o, none⟩ = some (.int .i64 (Plain.us t o)) := (J.out.dj.own.u).cell (i := o) (by rw [J.out.dj.own.lt]; exact ho)
  have c8 := (J.out.dj.own.u).frozen o
  have c7 := (J.out.dj.own.u).lt
  have NX := hid (J.out.set XB.out J.out.dj.own.Bu J.out.dj.hu (show OwnT (W.setCell ⟨bu, o, none⟩ (.int .i64 (Plain.us t o + ct))) _ _ _ _ _ _ _ from J.out.dj.own.setU o ho _))
  rw [← ED.out] at NX
  generalize Plain.us t o = x at *
  go_region
  obtain ⟨W4, hW4⟩ : ∃ W4, W4 = (W.setCell ⟨bu, o, none⟩ (.int .i64 (x + ct))).drew := ⟨_, rfl⟩
  have cx : W4.cell? ⟨bu, o, none⟩ = some (.int .i64 (x + ct)) := by
    rw [hW4]
    simp
    exact World.cell?_setCell_same W _ _ c9
  rw [← hW4] at NX ⊢
  clear hW4 c9 c8 c7 J
  clear q0 q1 y0 y1 y2 y3
  have q0 := NX.out.dj.box.c0
  have q1 := NX.out.dj.box.c1
  obtain ⟨y0, y1, y2, y3⟩ := NX.out.dj.di.sd.d
  simp only [Nat.zero_add] at y1 y2 y3
  have N5 := NX
  clear q0 q1 y0 y1 y2 y3
  clear NX
  have LO := hid N5.out.dj.lo
  have NB := hid (show w.heap.size + 1 + 1 ≠ b ∧ w.heap.size + 1 + 1 ≠ bu ∧ (∀ i, i < n → w.heap.size + 1 + 1 ≠ G i) from ⟨by have := N5.out.dj.rB; have := N5.out.dj.own.B0; omega, by have := N5.out.dj.rB; have := N5.out.dj.own.Bu; omega, fun i hi => by have := N5.out.dj.rB; have := N5.out.dj.own.Bg i hi; omega⟩)
  by_cases hov : 1048576 < x + ct
  · have HD := hid (show Plain.doE t (⟨3, (o : Int), to, ct⟩ : Plain.De) = 12 by rw [HDE.out, if_pos hov])
    have HV := hid (show Plain.doV t (⟨3, (o : Int), to, ct⟩ : Plain.De) = ⟨[], []⟩ by unfold Plain.doV; rw [if_neg (by rw [HD.out]; omega)])
    have q0 := N5.out.dj.box.c0
    have q1 := N5.out.dj.box.c1
    obtain ⟨y0, y1, y2, y3⟩ := N5.out.dj.di.sd.d
    simp only [Nat.zero_add] at y1 y2 y3
    have n0 := N5.out.nn.c0
    have n1 := N5.out.nn.c1
    have d0 := N5.out.dj.di.res.c0
    have d1 := N5.out.dj.di.res.c1
    have d2 := N5.out.dj.di.res.frozen 0
    have d3 := N5.out.dj.di.res.frozen 1
    have d4 := N5.out.dj.di.res.lt
    go_wp2
    (try simp only [Exit.inBlock, Exit.then])
    refine bodyPost_ret (v := .tuple #[aggT (.slice none 0 0) (.slice none 0 0), .int .i64 12]) ?_ rfl ⟨_, _, by rw [HD.out]; rfl, by rw [HV.out]; exact HasP.nil _ _, below_res N5.out.dj.di.sd.st.bel N5.out.dj.di.r0⟩
    exact results_tally2 (p := 4) (u := 5) rfl _ _ (w.heap.size + 1 + 1) _ _ rfl (N5.out.dj.di.res.set _ _)
  · have HD := hid (show Plain.doE t (⟨3, (o : Int), to, ct⟩ : Plain.De) = 0 by rw [HDE.out, if_neg hov])
    have HV := hid (show Plain.doV t (⟨3, (o : Int), to, ct⟩ : Plain.De) = Plain.doT t (⟨3, (o : Int), to, ct⟩ : Plain.De) by unfold Plain.doV; rw [if_pos HD.out])
    have q0 := N5.out.dj.box.c0
    have q1 := N5.out.dj.box.c1
    obtain ⟨y0, y1, y2, y3⟩ := N5.out.dj.di.sd.d
    simp only [Nat.zero_add] at y1 y2 y3
    have n0 := N5.out.nn.c0
    have n1 := N5.out.nn.c1
    have d0 := N5.out.dj.di.res.c0
    have d1 := N5.out.dj.di.res.c1
    have d2 := N5.out.dj.di.res.frozen 0
    have d3 := N5.out.dj.di.res.frozen 1
    have d4 := N5.out.dj.di.res.lt
    go_wp2
    (try simp only [Exit.inBlock, Exit.then])
    refine bodyPost_ret (v := .tuple #[aggT (.slice (some ⟨b, 0, none⟩) n cb) (.slice (some ⟨bu, 0, none⟩) n cu'), .int .i64 0]) ?_ rfl ⟨_, _, by rw [HD.out]; rfl, by rw [HV.out]; exact ((N5.out.dj.own.base LO.out).res _ _ NB.out.1 NB.out.2.1 NB.out.2.2).hasP _ _, below_res N5.out.dj.di.sd.st.bel N5.out.dj.di.r0⟩
    exact results_tally2 (p := 4) (u := 5) rfl _ _ (w.heap.size + 1 + 1) _ _ rfl (N5.out.dj.di.res.set _ _)
end Go.Proofs.Ytcdlgpickjiikaf

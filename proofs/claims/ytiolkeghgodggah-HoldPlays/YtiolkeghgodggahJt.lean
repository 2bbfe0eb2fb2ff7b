/-
  The document's orders: Gain, Sell, Refund (written by genjt.py).
-/
import Derived.Test.YtiolkeghgodggahJs
namespace Go.Proofs.Ytiolkeghgodggah.Hd
open Go.RowKit Go.Shelf

theorem cell_other {w : World} {a b : Addr} {v x : Value} (h : w.cell? b = some x) (hne : b.block ≠ a.block) : (w.setCell a v).cell? b = some x :=
  (World.cell?_of_block (w := w) (Below.heap_setCell w a v b.block hne)).trans h
theorem CellO.other {w : World} {b o : Nat} {d : Plain.Or} {a : Addr} {v : Value} (h : CellO w b o d) (hne : b ≠ a.block) : CellO (w.setCell a v) b o d :=
  ⟨cell_other h.c0 hne, cell_other h.c1 hne, cell_other h.c2 hne, cell_other h.c3 hne⟩
theorem CellO.drewN {w : World} {b o : Nat} {d : Plain.Or} (h : CellO w b o d) (q : Nat) : CellO (w.drewN q) b o d :=
  ⟨by simpa using h.c0, by simpa using h.c1, by simpa using h.c2, by simpa using h.c3⟩
theorem RkI.drewN {B : Nat} {w : World} {R : Nat} {vc vl : Value} {r : Plain.Rk} (h : RkI B w R vc vl r) (q : Nat) : RkI B (w.drewN q) R vc vl r := h.grow (below_drewN (Below.refl _ _) q)
namespace Plain
theorem Hv.bds {r : Rk} {g : Int} (h : Hv r g) : (0 ≤ r.free ∧ r.free ≤ 1048576) ∧ (0 ≤ r.used ∧ r.used ≤ 1048576) ∧ (0 ≤ r.held ∧ r.held ≤ 1048576) := by
  have := h.held; have := h.sm; have := h.fr; have := h.us; have := h.gb
  omega
end Plain
def ordF (o : Plain.Or) (j : Nat) : Value := if j = 0 then .int .i64 o.kind else if j = 1 then .int .i64 o.count else if j = 2 then .int .i64 o.life else .int .i64 o.id
/-- What lies in memory when an order is looked at: the rack, the order's box, and all else as it was. -/
structure OI (B R : Nat) (vc vl : Value) (w : World) (o : Plain.Or) (W : World) (vc' vl' : Value) (r : Plain.Rk) : Prop where
  rk : RkI B W R vc' vl' r
  bx : W.rowIs w.heap.size 44 4 (ordF o)
  on : Only w W (Mine R vc vl)
  lt : R < w.heap.size
  nw : ∀ k, vc'.ownBlock = some k ∨ vl'.ownBlock = some k → Mine R vc vl k ∨ w.heap.size ≤ k
namespace OI
variable {B R : Nat} {vc vl vc' vl' : Value} {w W : World} {o : Plain.Or} {r : Plain.Rk}
theorem start (h : RkI B w R vc vl r) : OI B R vc vl w o (w.alloc (boxO o)) vc vl r := by
  refine ⟨h.grow ((Below.refl _ _).alloc (Nat.le_refl _) _), World.rowIs_alloc w _ 44 _ fun i hi => ?_, Only.of_below ((Below.refl _ _).alloc (Nat.le_refl _) _), h.row.lt, fun k hk => .inl ?_⟩
  · have hi4 : i < 4 := hi
    have : i = 0 ∨ i = 1 ∨ i = 2 ∨ i = 3 := by omega
    rcases this with rfl | rfl | rfl | rfl <;> rfl
  · rcases hk with e | e
    · exact .inr (.inl e)
    · exact .inr (.inr e)
theorem drewN (h : OI B R vc vl w o W vc' vl' r) (q : Nat) : OI B R vc vl w o (W.drewN q) vc' vl' r := ⟨h.rk.drewN q, h.bx.of_block rfl, h.on.drewN q, h.lt, h.nw⟩
theorem free (h : OI B R vc vl w o W vc' vl' r) (x : Int) : OI B R vc vl w o (W.setCell ⟨R, 0, none⟩ (.int .i64 x)) vc' vl' { r with free := x } :=
  ⟨h.rk.free x, h.bx.setOther (a := ⟨R, 0, none⟩) (by have := h.lt; show w.heap.size ≠ R; omega) _, h.on.set (a := ⟨R, 0, none⟩) (.inl rfl) _, h.lt, h.nw⟩
theorem used (h : OI B R vc vl w o W vc' vl' r) (x : Int) : OI B R vc vl w o (W.setCell ⟨R, 1, none⟩ (.int .i64 x)) vc' vl' { r with used := x } :=
  ⟨h.rk.used x, h.bx.setOther (a := ⟨R, 1, none⟩) (by have := h.lt; show w.heap.size ≠ R; omega) _, h.on.set (a := ⟨R, 1, none⟩) (.inl rfl) _, h.lt, h.nw⟩
/-- A store into the ticks. -/
theorem left {gl cl : Nat} (h : OI B R vc vl w o W vc' (.slice (some ⟨gl, 0, none⟩) r.ls.length cl) r) (i : Nat) (x : Int) :
    OI B R vc vl w o (W.setCell ⟨gl, i, none⟩ (.int .i64 x)) vc' (.slice (some ⟨gl, 0, none⟩) r.ls.length cl) { r with ls := r.ls.set i x } := by
  have hne : w.heap.size ≠ gl := fun e => row_owns_ne h.bx h.rk.ol (by decide) (by simp [Value.ownBlock, e])
  refine ⟨h.rk.left i x, h.bx.setOther (a := ⟨gl, i, none⟩) hne _, ⟨h.on.os, h.on.tape, h.on.output, by simpa using h.on.size, fun k hk hp => ?_⟩, h.lt, h.nw⟩
  refine (Below.heap_setCell W ⟨gl, i, none⟩ _ k ?_).trans (h.on.block k hk hp)
  intro e
  rcases h.nw k (.inr (by simp [Value.ownBlock, e])) with m | m
  · exact hp m
  · omega
theorem f0 (h : OI B R vc vl w o W vc' vl' r) : W.frozen? ⟨R, 0, none⟩ = false := h.rk.row.frozen 0
theorem f1 (h : OI B R vc vl w o W vc' vl' r) : W.frozen? ⟨R, 1, none⟩ = false := h.rk.row.frozen 1
theorem b0 (h : OI B R vc vl w o W vc' vl' r) : W.cell? ⟨w.heap.size, 0, none⟩ = some (.int .i64 o.kind) := h.bx.cell (i := 0) (by omega)
theorem b1 (h : OI B R vc vl w o W vc' vl' r) : W.cell? ⟨w.heap.size, 1, none⟩ = some (.int .i64 o.count) := h.bx.cell (i := 1) (by omega)
theorem b2 (h : OI B R vc vl w o W vc' vl' r) : W.cell? ⟨w.heap.size, 2, none⟩ = some (.int .i64 o.life) := h.bx.cell (i := 2) (by omega)
theorem b3 (h : OI B R vc vl w o W vc' vl' r) : W.cell? ⟨w.heap.size, 3, none⟩ = some (.int .i64 o.id) := h.bx.cell (i := 3) (by omega)
end OI

set_option maxHeartbeats 4000000 in
set_option maxRecDepth 100000 in
/-- Gain. -/
theorem ord_gain (B R : Nat) (vc vl : Value) (r : Plain.Rk) (g : Int) (hv : Plain.Hv r g) (hb : r.cs.length ≤ 1000) (c l i : Int) (c1 : 1 ≤ c) (c2 : c ≤ 1048576) (w : World) (h : RkI B w R vc vl r) :
    Calls Try.prog 30 #[.pointer (some ⟨R, 0, none⟩), aggO ⟨1, c, l, i⟩] w fun e w' => OrdPost B R vc vl r ⟨1, c, l, i⟩ w e w' := by
  have hE : Plain.ordE r ⟨1, c, l, i⟩ = if 1048576 < r.free + r.held + r.used + c then 12 else 0 := by
    unfold Plain.ordE
    dsimp only
    rw [if_neg (by omega), if_neg (fun x => by have := x.2; omega), if_pos rfl]
  have hI : Plain.ordI r ⟨1, c, l, i⟩ = 0 := by unfold Plain.ordI; rw [if_neg (fun x => by have := x.2; dsimp only at this; omega)]
  have hR : Plain.ordR r ⟨1, c, l, i⟩ = { r with free := r.free + c } := by
    unfold Plain.ordR
    dsimp only
    rw [if_pos rfl]
  obtain ⟨⟨f1, f2⟩, ⟨u1, u2⟩, ⟨d1, d2⟩⟩ := hv.bds
  obtain ⟨W, hW⟩ : ∃ W, W = w.alloc (boxO ⟨1, c, l, i⟩) := ⟨_, rfl⟩
  have O0 : Hid (OI B R vc vl w ⟨1, c, l, i⟩ W vc vl r) := hid (by rw [hW]; exact OI.start h)
  have BW := hid (show Below w.heap.size w W by rw [hW]; exact (Below.refl _ _).alloc (Nat.le_refl _) _)
  have KH := fun q => held_c B R vc vl r g hv hb (W.drewN q) (O0.out.drewN q).rk
  have HH := hid h
  have HE := hid hE
  have HIR := hid (And.intro hI hR)
  clear h hE hI hR hv
  have r0 := O0.out.rk.c0
  have r1 := O0.out.rk.c1
  have x1 := O0.out.b1
  dsimp only at x1
  obtain ⟨f, hf⟩ : ∃ f, f = r.free := ⟨_, rfl⟩
  obtain ⟨u, hu⟩ : ∃ u, u = r.used := ⟨_, rfl⟩
  obtain ⟨d, hd⟩ : ∃ d, d = r.held := ⟨_, rfl⟩
  rw [← hf] at r0 f1 f2
  rw [← hu] at r1 u1 u2
  rw [← hd] at KH d1 d2
  have HF := hid hf
  have HS := hid (show r.free + r.held + r.used + c = f + d + u + c by rw [hf, hu, hd])
  clear hf hu hd
  rw [HS.out] at HE
  go_enter Try.func30, Try.ntmps30
  go_wp2
  rw [← hW]
  clear hW HS
  by_cases hlt : 1048576 < f + d + u + c
  · have hd : decide (1048576 < f + d + u + c) = true := by rw [decide_eq_true_iff]; exact hlt
    have P := hid (fun w' gg => ordPost_no (w := w) (w' := w') (E := 12) (HE.out.trans (by rw [if_pos hlt])) (by decide) HH.out gg)
    go_quiet ((go_at_call 31; exact Calls.quiet_of_same (KH _)))
    go_wp2
    go_ret2
    exact P.out _ (below_drewN BW.out _)
  · have hd : decide (1048576 < f + d + u + c) = false := by rw [decide_eq_false_iff_not]; exact hlt
    have HE0 := hid (HE.out.trans (by rw [if_neg hlt]))
    go_quiet ((go_at_call 31; exact Calls.quiet_of_same (KH _)))
    obtain ⟨W2, hW2⟩ : ∃ W2, W2 = W.drewN nq := ⟨_, rfl⟩
    rw [← hW2]
    have O2 : Hid (OI B R vc vl w ⟨1, c, l, i⟩ W2 vc vl r) := hid (by rw [hW2]; exact O0.out.drewN nq)
    clear hW2 r0 r1 x1 hd BW O0 KH
    have r0 := O2.out.rk.c0
    have x1 := O2.out.b1
    have z0 := O2.out.f0
    rw [← HF.out] at r0
    dsimp only at x1
    obtain ⟨f', hf'⟩ : ∃ f', f' = f + c := ⟨_, rfl⟩
    have hw1 : IntKind.i64.wrap (f + c) = f' := by rw [hf', IntKind.wrap_i64]; omega
    have HF' := hid (show f' = r.free + c by rw [hf', HF.out])
    clear hf'
    go_wp2
    go_region
    all_goals
      obtain ⟨W3, hW3⟩ : ∃ W3, W3 = (W2.setCell ⟨R, 0, none⟩ (.int .i64 f')).drew := ⟨_, rfl⟩
      rw [← hW3]
      have O3 : Hid (OI B R vc vl w ⟨1, c, l, i⟩ W3 vc vl { r with free := f' }) := hid (by rw [hW3]; exact (O2.out.free f').drewN 1)
      clear hW3 r0 x1 z0 hw1 O2
      go_wp2
      go_ret2
      exact ordPost_yes HE0.out HIR.out.1 (by rw [HIR.out.2, ← HF'.out]) O3.out.rk O3.out.on
set_option maxHeartbeats 4000000 in
set_option maxRecDepth 100000 in
/-- Sell. -/
theorem ord_sell (B R : Nat) (vc vl : Value) (r : Plain.Rk) (g : Int) (hv : Plain.Hv r g) (c l i : Int) (c1 : 1 ≤ c) (c2 : c ≤ 1048576) (w : World) (h : RkI B w R vc vl r) :
    Calls Try.prog 30 #[.pointer (some ⟨R, 0, none⟩), aggO ⟨2, c, l, i⟩] w fun e w' => OrdPost B R vc vl r ⟨2, c, l, i⟩ w e w' := by
  have hE : Plain.ordE r ⟨2, c, l, i⟩ = if r.free < c then 9 else 0 := by
    unfold Plain.ordE
    dsimp only
    rw [if_neg (by omega), if_neg (fun x => by have := x.2; omega), if_neg (by omega)]
    rw [if_pos rfl]
  have hI : Plain.ordI r ⟨2, c, l, i⟩ = 0 := by unfold Plain.ordI; rw [if_neg (fun x => by have := x.2; dsimp only at this; omega)]
  have hR : Plain.ordR r ⟨2, c, l, i⟩ = { r with free := r.free - c, used := r.used + c } := by
    unfold Plain.ordR
    dsimp only
    rw [if_neg (by omega)]
    rw [if_pos rfl]
  obtain ⟨⟨f1, f2⟩, ⟨u1, u2⟩, _⟩ := hv.bds
  obtain ⟨W, hW⟩ : ∃ W, W = w.alloc (boxO ⟨2, c, l, i⟩) := ⟨_, rfl⟩
  have O0 : Hid (OI B R vc vl w ⟨2, c, l, i⟩ W vc vl r) := hid (by rw [hW]; exact OI.start h)
  have BW := hid (show Below w.heap.size w W by rw [hW]; exact (Below.refl _ _).alloc (Nat.le_refl _) _)
  have HH := hid h
  have HE := hid hE
  have HIR := hid (And.intro hI hR)
  clear h hE hI hR hv
  have r0 := O0.out.rk.c0
  have r1 := O0.out.rk.c1
  have x1 := O0.out.b1
  dsimp only at x1
  obtain ⟨f, hf⟩ : ∃ f, f = r.free := ⟨_, rfl⟩
  obtain ⟨u, hu⟩ : ∃ u, u = r.used := ⟨_, rfl⟩
  rw [← hf] at r0 f1 f2
  rw [← hu] at r1 u1 u2
  have HF := hid hf
  have HU := hid hu
  clear hf hu
  go_enter Try.func30, Try.ntmps30
  go_wp2
  rw [← hW]
  clear hW
  by_cases hlt : f < c
  · have hd : decide (f < c) = true := by rw [decide_eq_true_iff]; exact hlt
    have P := hid (fun w' gg => ordPost_no (w := w) (w' := w') (E := 9) (HE.out.trans (by rw [← HF.out, if_pos hlt])) (by decide) HH.out gg)
    go_quiet (fail)
    go_wp2
    go_ret2
    exact P.out _ (below_drewN BW.out _)
  · have hd : decide (f < c) = false := by rw [decide_eq_false_iff_not]; exact hlt
    have HE0 := hid (HE.out.trans (by rw [← HF.out, if_neg hlt]))
    go_quiet (fail)
    obtain ⟨W2, hW2⟩ : ∃ W2, W2 = W.drewN nq := ⟨_, rfl⟩
    rw [← hW2]
    have O2 : Hid (OI B R vc vl w ⟨2, c, l, i⟩ W2 vc vl r) := hid (by rw [hW2]; exact O0.out.drewN nq)
    clear hW2 r0 r1 x1 hd BW O0
    have r0 := O2.out.rk.c0
    have x1 := O2.out.b1
    have z0 := O2.out.f0
    rw [← HF.out] at r0
    dsimp only at x1
    obtain ⟨f', hf'⟩ : ∃ f', f' = f - c := ⟨_, rfl⟩
    have hw1 : IntKind.i64.wrap (f - c) = f' := by rw [hf', IntKind.wrap_i64]; omega
    have HF' := hid (show f' = r.free - c by rw [hf', HF.out])
    clear hf'
    go_wp2
    go_region
    all_goals
      obtain ⟨W3, hW3⟩ : ∃ W3, W3 = (W2.setCell ⟨R, 0, none⟩ (.int .i64 f')).drew := ⟨_, rfl⟩
      rw [← hW3]
      have O3 : Hid (OI B R vc vl w ⟨2, c, l, i⟩ W3 vc vl { r with free := f' }) := hid (by rw [hW3]; exact (O2.out.free f').drewN 1)
      clear hW3 r0 x1 z0 hw1 O2
      have r1 := O3.out.rk.c1
      have x1 := O3.out.b1
      have z1 := O3.out.f1
      dsimp only at r1 x1
      rw [← HU.out] at r1
      obtain ⟨u', hu'⟩ : ∃ u', u' = u + c := ⟨_, rfl⟩
      have hw1 : IntKind.i64.wrap (u + c) = u' := by rw [hu', IntKind.wrap_i64]; omega
      have HU' := hid (show u' = r.used + c by rw [hu', HU.out])
      clear hu'
      go_wp2
      go_region
      all_goals
        obtain ⟨W4, hW4⟩ : ∃ W4, W4 = (W3.setCell ⟨R, 1, none⟩ (.int .i64 u')).drew := ⟨_, rfl⟩
        rw [← hW4]
        have O4 : Hid (OI B R vc vl w ⟨2, c, l, i⟩ W4 vc vl { r with free := f', used := u' }) := hid (by rw [hW4]; exact (O3.out.used u').drewN 1)
        clear hW4 r1 x1 z1 hw1 O3
        go_wp2
        go_ret2
        exact ordPost_yes HE0.out HIR.out.1 (by rw [HIR.out.2, ← HF'.out, ← HU'.out]) O4.out.rk O4.out.on
set_option maxHeartbeats 4000000 in
set_option maxRecDepth 100000 in
/-- Refund. -/
theorem ord_refund (B R : Nat) (vc vl : Value) (r : Plain.Rk) (g : Int) (hv : Plain.Hv r g) (c l i : Int) (c1 : 1 ≤ c) (c2 : c ≤ 1048576) (w : World) (h : RkI B w R vc vl r) :
    Calls Try.prog 30 #[.pointer (some ⟨R, 0, none⟩), aggO ⟨6, c, l, i⟩] w fun e w' => OrdPost B R vc vl r ⟨6, c, l, i⟩ w e w' := by
  have hE : Plain.ordE r ⟨6, c, l, i⟩ = if r.used < c then 9 else 0 := by
    unfold Plain.ordE
    dsimp only
    rw [if_neg (by omega), if_neg (fun x => by have := x.2; omega), if_neg (by omega)]
    rw [if_neg (by omega), if_pos rfl]
  have hI : Plain.ordI r ⟨6, c, l, i⟩ = 0 := by unfold Plain.ordI; rw [if_neg (fun x => by have := x.2; dsimp only at this; omega)]
  have hR : Plain.ordR r ⟨6, c, l, i⟩ = { r with free := r.free + c, used := r.used - c } := by
    unfold Plain.ordR
    dsimp only
    rw [if_neg (by omega)]
    rw [if_neg (by omega), if_pos rfl]
  obtain ⟨⟨f1, f2⟩, ⟨u1, u2⟩, _⟩ := hv.bds
  obtain ⟨W, hW⟩ : ∃ W, W = w.alloc (boxO ⟨6, c, l, i⟩) := ⟨_, rfl⟩
  have O0 : Hid (OI B R vc vl w ⟨6, c, l, i⟩ W vc vl r) := hid (by rw [hW]; exact OI.start h)
  have BW := hid (show Below w.heap.size w W by rw [hW]; exact (Below.refl _ _).alloc (Nat.le_refl _) _)
  have HH := hid h
  have HE := hid hE
  have HIR := hid (And.intro hI hR)
  clear h hE hI hR hv
  have r0 := O0.out.rk.c0
  have r1 := O0.out.rk.c1
  have x1 := O0.out.b1
  dsimp only at x1
  obtain ⟨f, hf⟩ : ∃ f, f = r.free := ⟨_, rfl⟩
  obtain ⟨u, hu⟩ : ∃ u, u = r.used := ⟨_, rfl⟩
  rw [← hf] at r0 f1 f2
  rw [← hu] at r1 u1 u2
  have HF := hid hf
  have HU := hid hu
  clear hf hu
  go_enter Try.func30, Try.ntmps30
  go_wp2
  rw [← hW]
  clear hW
  by_cases hlt : u < c
  · have hd : decide (u < c) = true := by rw [decide_eq_true_iff]; exact hlt
    have P := hid (fun w' gg => ordPost_no (w := w) (w' := w') (E := 9) (HE.out.trans (by rw [← HU.out, if_pos hlt])) (by decide) HH.out gg)
    go_quiet (fail)
    go_wp2
    go_ret2
    exact P.out _ (below_drewN BW.out _)
  · have hd : decide (u < c) = false := by rw [decide_eq_false_iff_not]; exact hlt
    have HE0 := hid (HE.out.trans (by rw [← HU.out, if_neg hlt]))
    go_quiet (fail)
    obtain ⟨W2, hW2⟩ : ∃ W2, W2 = W.drewN nq := ⟨_, rfl⟩
    rw [← hW2]
    have O2 : Hid (OI B R vc vl w ⟨6, c, l, i⟩ W2 vc vl r) := hid (by rw [hW2]; exact O0.out.drewN nq)
    clear hW2 r0 r1 x1 hd BW O0
    have r0 := O2.out.rk.c0
    have x1 := O2.out.b1
    have z0 := O2.out.f0
    rw [← HF.out] at r0
    dsimp only at x1
    obtain ⟨f', hf'⟩ : ∃ f', f' = f + c := ⟨_, rfl⟩
    have hw1 : IntKind.i64.wrap (f + c) = f' := by rw [hf', IntKind.wrap_i64]; omega
    have HF' := hid (show f' = r.free + c by rw [hf', HF.out])
    clear hf'
    go_wp2
    go_region
    all_goals
      obtain ⟨W3, hW3⟩ : ∃ W3, W3 = (W2.setCell ⟨R, 0, none⟩ (.int .i64 f')).drew := ⟨_, rfl⟩
      rw [← hW3]
      have O3 : Hid (OI B R vc vl w ⟨6, c, l, i⟩ W3 vc vl { r with free := f' }) := hid (by rw [hW3]; exact (O2.out.free f').drewN 1)
      clear hW3 r0 x1 z0 hw1 O2
      have r1 := O3.out.rk.c1
      have x1 := O3.out.b1
      have z1 := O3.out.f1
      dsimp only at r1 x1
      rw [← HU.out] at r1
      obtain ⟨u', hu'⟩ : ∃ u', u' = u - c := ⟨_, rfl⟩
      have hw1 : IntKind.i64.wrap (u - c) = u' := by rw [hu', IntKind.wrap_i64]; omega
      have HU' := hid (show u' = r.used - c by rw [hu', HU.out])
      clear hu'
      go_wp2
      go_region
      all_goals
        obtain ⟨W4, hW4⟩ : ∃ W4, W4 = (W3.setCell ⟨R, 1, none⟩ (.int .i64 u')).drew := ⟨_, rfl⟩
        rw [← hW4]
        have O4 : Hid (OI B R vc vl w ⟨6, c, l, i⟩ W4 vc vl { r with free := f', used := u' }) := hid (by rw [hW4]; exact (O3.out.used u').drewN 1)
        clear hW4 r1 x1 z1 hw1 O3
        go_wp2
        go_ret2
        exact ordPost_yes HE0.out HIR.out.1 (by rw [HIR.out.2, ← HF'.out, ← HU'.out]) O4.out.rk O4.out.on
end Go.Proofs.Ytiolkeghgodggah.Hd

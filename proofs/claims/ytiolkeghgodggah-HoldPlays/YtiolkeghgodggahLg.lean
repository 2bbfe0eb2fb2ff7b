/-
  A stock's Now and Take.
-/
import Derived.Test.YtiolkeghgodggahLf
import Derived.Deep.RegionHeld3
import Derived.Deep.DeepCutAuto
import Derived.Deep.CutBlock
namespace Go.Proofs.Ytiolkeghgodggah.Hd
open Go.RowKit Go.Shelf Go.Sort

abbrev boxS (s : Plain.St) : Obj := .cells #[.int .i64 (s.code : Nat), .int .i64 s.id, .int .i64 s.free, .int .i64 s.held, .int .i64 s.used] 36
abbrev box0 : Obj := .cells #[.int .i64 0, .int .i64 0, .int .i64 0, .int .i64 0, .int .i64 0] 36
def stF (s : Plain.St) (j : Nat) : Value := if j = 0 then .int .i64 (s.code : Nat) else if j = 1 then .int .i64 s.id else if j = 2 then .int .i64 s.free else if j = 3 then .int .i64 s.held else .int .i64 s.used
theorem row5 {c : Array Value} {v0 v1 v2 v3 v4 : Value} (hs : c.size = 5) (h0 : c[0]? = some v0) (h1 : c[1]? = some v1) (h2 : c[2]? = some v2) (h3 : c[3]? = some v3) (h4 : c[4]? = some v4) : c = #[v0, v1, v2, v3, v4] := by
  apply Array.ext_getElem?
  intro i
  match i with
  | 0 => simpa using h0
  | 1 => simpa using h1
  | 2 => simpa using h2
  | 3 => simpa using h3
  | 4 => simpa using h4
  | i + 5 => rw [Array.getElem?_eq_none (by omega), Array.getElem?_eq_none (by simp)]
/-- What is told, returned from its box. -/
theorem bodyPost_S {fn : Func} {p : Tmp} {Q : Ending → World → Prop} {a : Act} {w : World} (h : fn.results = #[.cell p 36]) (G : Nat) (s : Plain.St) (hp : a.tmps.getD p undef = .pointer (some ⟨G, 0, none⟩))
    (hg : w.rowIs G 36 5 (stF s)) (hd : a.defers = []) (hR : Q (.returned (aggS s)) w) : bodyPost Try.prog fn Q .ret a w := by
  obtain ⟨c, hb, hs, hc⟩ := hg
  have e := row5 hs (hc 0 (by omega)) (hc 1 (by omega)) (hc 2 (by omega)) (hc 3 (by omega)) (hc 4 (by omega))
  subst e
  exact bodyPost_ret (results_cell_row (P := Try.prog) h _ _ G 36 _ (0, 0) _ hp hb Try.underlying36 rfl (by kernel_rfl)) hd hR
theorem rowS_new (w : World) (s : Plain.St) : (w.alloc (boxS s)).rowIs w.heap.size 36 5 (stF s) := by
  refine World.rowIs_alloc w _ 36 _ fun i hi => ?_
  have hi5 : i < 5 := hi
  have : i = 0 ∨ i = 1 ∨ i = 2 ∨ i = 3 ∨ i = 4 := by omega
  rcases this with rfl | rfl | rfl | rfl | rfl <;> rfl
theorem rowS_zero (w : World) : (w.alloc box0).rowIs w.heap.size 36 5 (stF ⟨0, 0, 0, 0, 0⟩) := rowS_new w ⟨0, 0, 0, 0, 0⟩
/-- What is laid over the cells of one that is told. -/
def putS (W : World) (g o : Nat) (t : Plain.St) : World :=
  ((((W.setCell ⟨g, o, none⟩ (.int .i64 (t.code : Nat))).setCell ⟨g, o + 1, none⟩ (.int .i64 t.id)).setCell ⟨g, o + 2, none⟩ (.int .i64 t.free)).setCell ⟨g, o + 3, none⟩ (.int .i64 t.held)).setCell ⟨g, o + 4, none⟩ (.int .i64 t.used)
theorem putS_other (W : World) (g o : Nat) (t : Plain.St) (b : Nat) (hb : b ≠ g) : (putS W g o t).heap[b]? = W.heap[b]? := by
  unfold putS
  rw [Below.heap_setCell _ ⟨g, _, none⟩ _ b hb, Below.heap_setCell _ ⟨g, _, none⟩ _ b hb, Below.heap_setCell _ ⟨g, _, none⟩ _ b hb, Below.heap_setCell _ ⟨g, _, none⟩ _ b hb, Below.heap_setCell _ ⟨g, _, none⟩ _ b hb]
theorem putS_size (W : World) (g o : Nat) (t : Plain.St) : (putS W g o t).heap.size = W.heap.size := by simp [putS, World.setCell]
theorem putS_os (W : World) (g o : Nat) (t : Plain.St) : (putS W g o t).os = W.os := rfl
theorem putS_tape (W : World) (g o : Nat) (t : Plain.St) : (putS W g o t).tape = W.tape := rfl
theorem putS_output (W : World) (g o : Nat) (t : Plain.St) : (putS W g o t).output = W.output := rfl
theorem putS_below {B : Nat} {W0 W : World} (h : Below B W0 W) {g : Nat} (hg : B ≤ g) (o : Nat) (t : Plain.St) : Below B W0 (putS W g o t) :=
  ⟨(putS_os _ _ _ _).trans h.os, (putS_tape _ _ _ _).trans h.tape, (putS_output _ _ _ _).trans h.output, by rw [putS_size]; exact h.size, fun k hk => (putS_other W g o t k (by omega)).trans (h.block k hk)⟩
theorem putS_row {W : World} {G : Nat} {f : Nat → Value} (h : W.rowIs G 36 5 f) (s : Plain.St) : (putS W G 0 s).rowIs G 36 5 (stF s) := by
  have e0 := h.set 0 (.int .i64 (s.code : Nat))
  have e1 := e0.set 1 (.int .i64 s.id)
  have e2 := e1.set 2 (.int .i64 s.free)
  have e3 := e2.set 3 (.int .i64 s.held)
  have e4 := e3.set 4 (.int .i64 s.used)
  clear e0 e1 e2 e3
  unfold putS
  rw [Nat.zero_add, Nat.zero_add, Nat.zero_add, Nat.zero_add]
  refine e4.congr fun j hj => ?_
  have : j = 0 ∨ j = 1 ∨ j = 2 ∨ j = 3 ∨ j = 4 := by omega
  unfold stF
  rcases this with rfl | rfl | rfl | rfl | rfl <;> simp

set_option maxHeartbeats 4000000 in
set_option maxRecDepth 100000 in
/-- Now. -/
theorem now_c (ZZ : Nat → Prop) (R oo : Nat) (XX : Win) (vo : Value) (f u m : Int) (l : List Plain.Pt) (hc : ∀ p, p ∈ l → 0 ≤ p.count) (hs : Plain.sumP l ≤ 1048576) (hb : l.length ≤ 1000) (w : World) (h : BrI ZZ R oo XX w vo f u m l) :
    Calls Try.prog 29 #[.pointer (some ⟨R, oo, none⟩)] w fun e w' => e = .returned (aggS ⟨0, 0, f, Plain.sumP l, u⟩) ∧ Below w.heap.size w w' := by
  obtain ⟨W, hW⟩ : ∃ W, W = w.alloc box0 := ⟨_, rfl⟩
  have bel : Below w.heap.size w W := by rw [hW]; exact (Below.refl _ _).alloc (Nat.le_refl _) _
  have rw0 : W.rowIs w.heap.size 36 5 (stF ⟨0, 0, 0, 0, 0⟩) := by rw [hW]; exact rowS_zero w
  have HB := hid ((h.grow bel).drewN 1)
  have r0 : W.drew.cell? ⟨R, oo, none⟩ = some (.int .i64 f) := HB.out.c0
  have r1 : W.drew.cell? ⟨R, oo + 1, none⟩ = some (.int .i64 u) := HB.out.c1
  have KH := hheld_g ZZ R oo XX vo f u m l hc hs hb W.drew HB.out
  have HW0 := hid rw0
  have BW := hid bel
  obtain ⟨d, hd⟩ : ∃ d, d = Plain.sumP l := ⟨_, rfl⟩
  rw [← hd] at KH ⊢
  have hRn : R ≠ w.heap.size := fun e => by have := h.lt; omega
  have hRm : ¬ w.heap.size = R := fun e => hRn e.symm
  clear hd h hc hs hb bel rw0
  go_enter Try.func29, Try.ntmps29
  go_wp2
  rw [← hW]
  clear hW
  go_region_held3 (fun w' => w'.cell? ⟨R, oo, none⟩ = some (.int .i64 f) ∧ w'.cell? ⟨R, oo + 1, none⟩ = some (.int .i64 u)) (go_keep)
    ((go_at_call 41; refine KH.mono ?_; rintro e W5 ⟨rfl, q5, os5, hw5⟩; have b5 : Hid (Below W.drew.heap.size W.drew W5) := hid (by rw [hw5]; exact below_grow (Below.refl _ _) (Nat.le_refl _) _ _); clear hw5; have HI5 := hid (HB.out.grow b5.out); have r05 := HI5.out.c0; have r15 := HI5.out.c1; have R5 : Hid (W5.rowIs w.heap.size 36 5 (stF ⟨0, 0, 0, 0, 0⟩)) := hid (HW0.out.of_block (b5.out.block _ HW0.out.lt)); have y0 := R5.out.cell (i := 0) (by omega); have y1 := R5.out.cell (i := 1) (by omega); have y2 := R5.out.cell (i := 2) (by omega); have y3 := R5.out.cell (i := 3) (by omega); have y4 := R5.out.cell (i := 4) (by omega); have z0 := R5.out.frozen 0; have z1 := R5.out.frozen 1; have z2 := R5.out.frozen 2; have z3 := R5.out.frozen 3; have z4 := R5.out.frozen 4))
  all_goals
    obtain ⟨W6, hW6⟩ : ∃ W6, W6 = ((((W5.setCell ⟨w.heap.size, 0, none⟩ (.int .i64 0)).setCell ⟨w.heap.size, 1, none⟩ (.int .i64 0)).setCell ⟨w.heap.size, 2, none⟩ (.int .i64 f)).setCell ⟨w.heap.size, 3, none⟩ (.int .i64 d)).setCell ⟨w.heap.size, 4, none⟩ (.int .i64 u) := ⟨_, rfl⟩
    rw [← hW6]
    have F6 : W6.rowIs w.heap.size 36 5 (stF ⟨0, 0, f, d, u⟩) := by rw [hW6]; exact putS_row R5.out ⟨0, 0, f, d, u⟩
    have B6 : Below w.heap.size w W6 := by rw [hW6]; exact putS_below (BW.out.trans ((below_drewN (Below.refl _ _) 1).trans (b5.out.mono BW.out.size))) (Nat.le_refl _) 0 ⟨0, 0, f, d, u⟩
    clear hW6
    clear y0 y1 y2 y3 y4 z0 z1 z2 z3 z4 r05 r15 R5 HI5
    go_wp2
    exact bodyPost_S rfl w.heap.size ⟨0, 0, f, d, u⟩ rfl F6 rfl ⟨rfl, B6⟩

/-- What a stock that takes an order comes to. -/
def TakeP (ZZ : Nat → Prop) (R oo : Nat) (XX : Win) (r : Plain.Rk) (o : Plain.Or) (w : World) (e : Ending) (w' : World) : Prop :=
  e = .returned (aggS (Plain.toldR r o)) ∧ (∃ vo', BrR ZZ R oo XX w' vo' (Plain.stepR r o)) ∧ Kp ZZ R w w'

set_option maxHeartbeats 4000000 in
set_option maxRecDepth 100000 in
/-- Take. -/
theorem take_c (ZZ : Nat → Prop) (R oo : Nat) (XX : Win) (vo : Value) (r : Plain.Rk) (g : Int) (hv : Plain.Hv r g) (hm : r.cs.length ≤ 1000) (o : Plain.Or) (w : World) (h : BrR ZZ R oo XX w vo r) :
    Calls Try.prog 19 #[.pointer (some ⟨R, oo, none⟩), aggO o] w fun e w' => TakeP ZZ R oo XX r o w e w' := by
  obtain ⟨W, hW⟩ : ∃ W, W = (w.alloc (boxQ o)).alloc box0 := ⟨_, rfl⟩
  have bel : Below w.heap.size w W := by rw [hW]; exact ((Below.refl _ _).alloc (Nat.le_refl _) _).alloc (by simp) _
  have hsz : W.heap.size = w.heap.size + 2 := by rw [hW]; simp
  have rw0 : W.rowIs (w.heap.size + 1) 36 5 (stF ⟨0, 0, 0, 0, 0⟩) := by
    have := rowS_zero (w.alloc (boxQ o))
    rw [show (w.alloc (boxQ o)).heap.size = w.heap.size + 1 by simp] at this
    rw [hW]; exact this
  have q0 : W.rowIs w.heap.size 44 4 (fun j => if j = 0 then .int .i64 o.kind else if j = 1 then .int .i64 o.count else if j = 2 then .int .i64 o.life else .int .i64 o.id) := by
    rw [hW]
    refine World.rowIs.alloc (World.rowIs_alloc w _ 44 _ fun i hi => ?_) _
    have hi4 : i < 4 := hi
    have : i = 0 ∨ i = 1 ∨ i = 2 ∨ i = 3 := by omega
    rcases this with rfl | rfl | rfl | rfl <;> rfl
  have HB := hid (BrI.grow h bel)
  have HZ := hid (BrI.near_le h bel.size)
  have K := do_any (Near W vo) R oo XX vo r g hv hm o W HB.out.near
  have hv2 := hv.step o
  have hne : ¬ Near W vo (w.heap.size + 1) := fun x => x.elim (fun e => by have := BrI.own_lt h e; omega) (fun e => by omega)
  have hRlt := BrI.lt h
  have HW0 := hid rw0
  have BW := hid bel
  have HV := hid hv2
  have HN := hid hne
  have HS := hid hsz
  have x0 : W.cell? ⟨w.heap.size, 0, none⟩ = some (.int .i64 o.kind) := q0.cell (i := 0) (by omega)
  have x1 : W.cell? ⟨w.heap.size, 1, none⟩ = some (.int .i64 o.count) := q0.cell (i := 1) (by omega)
  have x2 : W.cell? ⟨w.heap.size, 2, none⟩ = some (.int .i64 o.life) := q0.cell (i := 2) (by omega)
  have x3 : W.cell? ⟨w.heap.size, 3, none⟩ = some (.int .i64 o.id) := q0.cell (i := 3) (by omega)
  have HR := hid hRlt
  clear h hv hv2 bel rw0 q0 hsz hne hRlt
  go_enter Try.func19, Try.ntmps19
  go_wp2_with fail
  rw [← hW]
  clear hW
  refine K.mono ?_
  rintro e W1 ⟨rfl, ⟨vo', br⟩, kp⟩
  have R1 : Hid (W1.rowIs (w.heap.size + 1) 36 5 (stF ⟨0, 0, 0, 0, 0⟩)) := hid (kp.rowIs HW0.out HN.out (by have := HR.out; omega))
  have B1 := hid (BrI.mono br HZ.out)
  have K1 := hid ((Kp.of_below BW.out).trans (kp.mono HZ.out))
  have S1 := hid (Nat.le_trans (Nat.le_of_eq HS.out.symm) kp.size)
  clear K kp br x0 x1 x2 x3 HW0 HB HN HZ BW HS
  obtain ⟨r', hr'⟩ : ∃ r', r' = Plain.stepR r o := ⟨_, rfl⟩
  obtain ⟨I, hI⟩ : ∃ I, I = Plain.ordI r o := ⟨_, rfl⟩
  obtain ⟨E, hE⟩ : ∃ E, E = Plain.ordE r o := ⟨_, rfl⟩
  have HT := hid (show Plain.toldR r o = ⟨E, I, r'.free, Plain.sumP (Plain.openF 0 r'.cs r'.ls), r'.used⟩ by rw [hr', hI, hE, Plain.sumP_open]; rfl)
  have HQ := hid hr'
  rw [← hI, ← hE]
  rw [← hr'] at B1 HV
  clear hr' hI hE
  obtain ⟨hf, hu, hs1⟩ := HV.out.bdsL
  obtain ⟨hp1, hp2, hp3⟩ := HV.out.ptsL
  have KN := now_c ZZ R oo XX vo' r'.free r'.used _ _ hp1 (by rw [Plain.sumP_open]; exact hs1.2) (by omega) W1 B1.out
  clear hp1 hp2 hp3 hf hu hs1 HV hm
  obtain ⟨d, hd⟩ : ∃ d, d = Plain.sumP (Plain.openF 0 r'.cs r'.ls) := ⟨_, rfl⟩
  rw [← hd] at KN HT
  clear hd
  obtain ⟨f, hf⟩ : ∃ f, f = r'.free := ⟨_, rfl⟩
  obtain ⟨u, hu⟩ : ∃ u, u = r'.used := ⟨_, rfl⟩
  rw [← hf, ← hu] at KN HT
  clear hf hu
  go_wp2_with fail
  refine KN.mono ?_
  rintro e W2 ⟨rfl, b2⟩
  have R2 : Hid (W2.rowIs (w.heap.size + 1) 36 5 (stF ⟨0, 0, 0, 0, 0⟩)) := hid (R1.out.of_block (b2.block _ R1.out.lt))
  have B2 := hid (BrI.grow B1.out b2)
  have K2 := hid (K1.out.trans (Kp.of_below b2))
  clear KN b2 R1 B1 K1
  dsimp only
  go_upto_region 4 with fail
  obtain ⟨W3, hW3⟩ : ∃ W3, W3 = W2.alloc (boxS ⟨E, I, f, d, u⟩) := ⟨_, rfl⟩
  have b3 : Below W2.heap.size W2 W3 := by rw [hW3]; exact (Below.refl _ _).alloc (Nat.le_refl _) _
  have n3 : W3.rowIs W2.heap.size 36 5 (stF ⟨E, I, f, d, u⟩) := by rw [hW3]; exact rowS_new W2 _
  have R3 : Hid (W3.rowIs (w.heap.size + 1) 36 5 (stF ⟨0, 0, 0, 0, 0⟩)) := hid (R2.out.of_block (b3.block _ R2.out.lt))
  have B3 := hid (BrI.grow B2.out b3)
  have K3 := hid (K2.out.trans (Kp.of_below b3))
  rw [← hW3]
  clear hW3 b3 R2 B2 K2
  have v0 : W3.cell? ⟨W2.heap.size, 0, none⟩ = some (.int .i64 E) := n3.cell (i := 0) (by omega)
  have v1 : W3.cell? ⟨W2.heap.size, 1, none⟩ = some (.int .i64 I) := n3.cell (i := 1) (by omega)
  have v2 : W3.cell? ⟨W2.heap.size, 2, none⟩ = some (.int .i64 f) := n3.cell (i := 2) (by omega)
  have v3 : W3.cell? ⟨W2.heap.size, 3, none⟩ = some (.int .i64 d) := n3.cell (i := 3) (by omega)
  have v4 : W3.cell? ⟨W2.heap.size, 4, none⟩ = some (.int .i64 u) := n3.cell (i := 4) (by omega)
  clear n3
  have y0 := R3.out.cell (i := 0) (by omega)
  have y1 := R3.out.cell (i := 1) (by omega)
  have y2 := R3.out.cell (i := 2) (by omega)
  have y3 := R3.out.cell (i := 3) (by omega)
  have y4 := R3.out.cell (i := 4) (by omega)
  have z0 := R3.out.frozen 0
  have z1 := R3.out.frozen 1
  have z2 := R3.out.frozen 2
  have z3 := R3.out.frozen 3
  have z4 := R3.out.frozen 4
  go_wp2
  (try simp only [Exit.inBlock, Exit.then])
  obtain ⟨W6, hW6⟩ : ∃ W6, W6 = ((((W3.setCell ⟨w.heap.size + 1, 0, none⟩ (.int .i64 E)).setCell ⟨w.heap.size + 1, 1, none⟩ (.int .i64 I)).setCell ⟨w.heap.size + 1, 2, none⟩ (.int .i64 f)).setCell ⟨w.heap.size + 1, 3, none⟩ (.int .i64 d)).setCell ⟨w.heap.size + 1, 4, none⟩ (.int .i64 u) := ⟨_, rfl⟩
  rw [← hW6]
  have F6 : W6.rowIs (w.heap.size + 1) 36 5 (stF ⟨E, I, f, d, u⟩) := by rw [hW6]; exact putS_row R3.out ⟨E, I, f, d, u⟩
  have B6 : BrR ZZ R oo XX W6 vo' r' := by
    rw [hW6]
    have e := putS_other W3 (w.heap.size + 1) 0 ⟨E, I, f, d, u⟩
    have hne : R ≠ w.heap.size + 1 := by have := HR.out; omega
    refine ⟨B3.out.row.of_block (e _ hne), owns_block B3.out.ow fun b hb => e b (fun x => ?_), B3.out.own, fun k hk => B3.out.up k (by rw [← putS_size W3 (w.heap.size + 1) 0 ⟨E, I, f, d, u⟩]; exact hk), B3.out.ne, B3.out.le⟩
    exact row_owns_ne R3.out B3.out.ow (by decide) (by rw [hb, x])
  have K6 : Kp ZZ R w W6 := by
    rw [hW6]
    have e := putS_other W3 (w.heap.size + 1) 0 ⟨E, I, f, d, u⟩
    exact ⟨(putS_os W3 (w.heap.size + 1) 0 ⟨E, I, f, d, u⟩).trans K3.out.os, (putS_tape W3 (w.heap.size + 1) 0 ⟨E, I, f, d, u⟩).trans K3.out.tape, (putS_output W3 (w.heap.size + 1) 0 ⟨E, I, f, d, u⟩).trans K3.out.output, Nat.le_trans K3.out.size (Nat.le_of_eq (putS_size W3 (w.heap.size + 1) 0 ⟨E, I, f, d, u⟩).symm), fun k hk h1 h2 => (e k (by omega)).trans (K3.out.block k hk h1 h2)⟩
  clear hW6
  refine bodyPost_S rfl (w.heap.size + 1) ⟨E, I, f, d, u⟩ rfl F6 rfl ⟨?_, ⟨vo', ?_⟩, K6⟩
  · rw [HT.out]
  · rw [← HQ.out]; exact B6
end Go.Proofs.Ytiolkeghgodggah.Hd

/-
  seal: Seen, IsOld.
-/
import Derived.Test.YtiolkeghgodggaiS5
import Derived.Deep.DeepCutAuto
import Derived.Deep.CutBlock
namespace Go.Proofs.Ytiolkeghgodggai.Se
open Go.RowKit Go.Shelf Go.Sort Go.Lib

namespace Plain
/-- What anyone may know of a letter. -/
structure Ev where
  id : Int
  frm : Int
  tow : Int
  size : Int
  deriving DecidableEq, Inhabited
def noEv : Ev := ⟨0, 0, 0, 0⟩
def seenE (o : Off) (i : Int) : Nat := if i < 0 ∨ (o.posted.length : Int) ≤ i then 6 else 0
def seenV (o : Off) (i : Int) : Ev := if i < 0 ∨ (o.posted.length : Int) ≤ i then noEv else ⟨i, (o.at i.toNat).frm, (o.at i.toNat).«to», (o.at i.toNat).data.length⟩
end Plain
abbrev aggV (x : Plain.Ev) : Value := .agg #[.int .i64 x.id, .int .i64 x.frm, .int .i64 x.tow, .int .i64 x.size]
abbrev boxV (x : Plain.Ev) : Obj := .cells #[.int .i64 x.id, .int .i64 x.frm, .int .i64 x.tow, .int .i64 x.size] 85
def evF (x : Plain.Ev) (j : Nat) : Value := if j = 0 then .int .i64 x.id else if j = 1 then .int .i64 x.frm else if j = 2 then .int .i64 x.tow else .int .i64 x.size
theorem rowV_new (w : World) (x : Plain.Ev) : (w.alloc (boxV x)).rowIs w.heap.size 85 4 (evF x) := by
  refine World.rowIs_alloc _ _ 85 _ fun i hi => ?_
  have hi4 : i < 4 := hi
  have : i = 0 ∨ i = 1 ∨ i = 2 ∨ i = 3 := by omega
  rcases this with rfl | rfl | rfl | rfl <;> rfl
theorem bodyPost_V {fn : Func} {p u : Tmp} {Q : Ending → World → Prop} {a : Act} {w : World} (h : fn.results = #[.cell p 85, .tmp u]) (G : Nat) (x : Plain.Ev) (v : Value) (hp : a.tmps.getD p undef = .pointer (some ⟨G, 0, none⟩)) (hu : a.tmps.getD u undef = v)
    (hg : w.rowIs G 85 4 (evF x)) (hd : a.defers = []) (hR : Q (.returned (.tuple #[aggV x, v])) w) : bodyPost Try.prog fn Q .ret a w := by
  obtain ⟨c, hb, hs, hc⟩ := hg
  have e := row4 hs (hc 0 (by omega)) (hc 1 (by omega)) (hc 2 (by omega)) (hc 3 (by omega))
  subst e
  refine bodyPost_ret ?_ hd hR
  rw [results_cell_tmp h, hp, hu]
  have hl := run_loadVar_row (P := Try.prog) w G 85 85 _ (0, 0) _ hb Try.underlying85 rfl (by kernel_rfl)
  simp [asAddr, hl, evF]
def putV (W : World) (g : Nat) (x : Plain.Ev) : World :=
  (((W.setCell ⟨g, 0, none⟩ (.int .i64 x.id)).setCell ⟨g, 1, none⟩ (.int .i64 x.frm)).setCell ⟨g, 2, none⟩ (.int .i64 x.tow)).setCell ⟨g, 3, none⟩ (.int .i64 x.size)
theorem putV_only (W : World) (g : Nat) (x : Plain.Ev) : Only1 g W (putV W g x) :=
  (((Only1.set W 0 _).trans (Only1.set _ 1 _)).trans (Only1.set _ 2 _)).trans (Only1.set _ 3 _)
theorem putV_row {W : World} {G : Nat} {f : Nat → Value} (h : W.rowIs G 85 4 f) (x : Plain.Ev) : (putV W G x).rowIs G 85 4 (evF x) := by
  have e0 := h.set 0 (.int .i64 x.id)
  have e1 := e0.set 1 (.int .i64 x.frm)
  have e2 := e1.set 2 (.int .i64 x.tow)
  have e3 := e2.set 3 (.int .i64 x.size)
  unfold putV
  refine e3.congr fun j hj => ?_
  have : j = 0 ∨ j = 1 ∨ j = 2 ∨ j = 3 := by omega
  unfold evF
  rcases this with rfl | rfl | rfl | rfl <;> simp

set_option maxHeartbeats 4000000 in
set_option maxRecDepth 100000 in
/-- Seen. -/
theorem seen_c (R oo n : Nat) (XX : Win) (vo vm : Value) (P : List RP) (o : Plain.Off) (hb : P.length ≤ 100000) (i : Int) (w : World) (h : OfI R oo XX w vo vm P o n) :
    Calls Try.prog 31 #[.pointer (some ⟨R, oo, none⟩), .int .i64 i] w fun e w' => e = .returned (.tuple #[aggV (Plain.seenV o i), .int .i64 (Plain.seenE o i : Nat)]) ∧ Below w.heap.size w w' := by
  obtain ⟨WA, hWA⟩ : ∃ WA, WA = w.alloc (.cells #[.int .i64 0, .int .i64 0, .int .i64 0, .int .i64 0] 85) := ⟨_, rfl⟩
  have rG := hid (show WA.rowIs w.heap.size 85 4 (evF Plain.noEv) by rw [hWA]; exact rowV_new w Plain.noEv)
  have BA := hid (show Below w.heap.size w WA by rw [hWA]; exact (Below.refl _ _).alloc (Nat.le_refl _) _)
  have HA := h.grow BA.out
  have r0 := HA.c0
  have hpl := h.len
  unfold Plain.seenV Plain.seenE
  rw [hpl]
  obtain ⟨po, co, rfl, hff⟩ := HA.form
  rw [hWA] at r0
  have z0 := rG.out.frozen 0
  have z1 := rG.out.frozen 1
  have z2 := rG.out.frozen 2
  have z3 := rG.out.frozen 3
  rw [hWA] at z0 z1 z2 z3
  have HAT := hid (fun k (hk : k < P.length) => h.at' hk)
  clear hpl h HA
  by_cases hno : i < 0 ∨ (P.length : Int) ≤ i
  · rw [if_pos hno, if_pos hno]
    clear hff HAT
    generalize P.length = np at *
    by_cases h0 : i < 0
    · clear hno
      go_enter Try.func31, Try.ntmps31
      go_wp2
      rw [← hWA]
      (try simp only [Exit.inBlock, Exit.then])
      exact bodyPost_V rfl w.heap.size Plain.noEv (.int .i64 6) rfl rfl rG.out rfl ⟨rfl, BA.out⟩
    · have h1 : (np : Int) ≤ i := by omega
      clear hno
      go_enter Try.func31, Try.ntmps31
      go_wp2
      rw [← hWA]
      (try simp only [Exit.inBlock, Exit.then])
      exact bodyPost_V rfl w.heap.size Plain.noEv (.int .i64 6) rfl rfl rG.out rfl ⟨rfl, BA.out⟩
  · rw [if_neg hno, if_neg hno]
    obtain ⟨k, rfl⟩ : ∃ k : Nat, i = k := ⟨i.toNat, by omega⟩
    have hk : k < P.length := by omega
    obtain ⟨gb, rfl, hgl, hcc⟩ := hff (by omega)
    obtain ⟨c0, c1, c2⟩ := hcc k hk
    have ea := HAT.out k hk
    rw [show ((k : Nat) : Int).toNat = k by omega, ea]
    clear hff hcc HAT ea hno
    have hkz : (k : Int) < (P.length : Int) := by omega
    have hk0 : ¬ (k : Int) < 0 := by omega
    have hkn : ¬ (P.length : Int) ≤ (k : Int) := by omega
    have hk9 : k ≤ 100000 := by omega
    generalize P.length = np at *
    generalize P.getD k default = y at *
    obtain ⟨⟨yf, yt, yd⟩, yp, yc⟩ := y
    dsimp only at c0 c1 c2 ⊢
    obtain ⟨m, hm⟩ : ∃ m, m = yd.length := ⟨_, rfl⟩
    rw [← hm] at c2 ⊢
    clear hm
    rw [hWA] at c0 c1 c2
    go_enter Try.func31, Try.ntmps31
    go_upto_region 4 with fail
    rw [← hWA]
    have HSA := hid (show WA.heap.size = w.heap.size + 1 by rw [hWA]; simp)
    clear hWA c0 c1 c2 r0
    obtain ⟨WB, hWB⟩ : ∃ WB, WB = WA.alloc (.cells #[.int .i64 yf, .int .i64 yt, .slice yp m yc] 83) := ⟨_, rfl⟩
    rw [← hWB]
    have hbx : WB.cell? ⟨w.heap.size + 1, 0, none⟩ = some (.int .i64 yf) ∧ WB.cell? ⟨w.heap.size + 1, 1, none⟩ = some (.int .i64 yt) ∧ WB.cell? ⟨w.heap.size + 1, 2, none⟩ = some (.slice yp m yc) := by
      rw [hWB, ← HSA.out]
      refine ⟨?_, ?_, ?_⟩ <;> rw [World.cell?_alloc_at _ _ _ _ rfl] <;> rfl
    have RB := hid (show WB.rowIs w.heap.size 85 4 (evF Plain.noEv) by rw [hWB]; exact rG.out.alloc _)
    have BB := hid (show Below w.heap.size w WB by rw [hWB]; exact BA.out.alloc BA.out.size _)
    clear hWB rG BA z0 z1 z2 z3
    obtain ⟨x0, x1, x2⟩ := hbx
    have y0 := RB.out.cell (i := 0) (by omega)
    have y1 := RB.out.cell (i := 1) (by omega)
    have y2 := RB.out.cell (i := 2) (by omega)
    have y3 := RB.out.cell (i := 3) (by omega)
    have z0 := RB.out.frozen 0
    have z1 := RB.out.frozen 1
    have z2 := RB.out.frozen 2
    have z3 := RB.out.frozen 3
    go_wp2
    (try simp only [Exit.inBlock, Exit.then])
    obtain ⟨W6, hW6⟩ : ∃ W6, W6 = (((WB.setCell ⟨w.heap.size, 0, none⟩ (.int .i64 k)).setCell ⟨w.heap.size, 1, none⟩ (.int .i64 yf)).setCell ⟨w.heap.size, 2, none⟩ (.int .i64 yt)).setCell ⟨w.heap.size, 3, none⟩ (.int .i64 m) := ⟨_, rfl⟩
    rw [← hW6]
    have R6 : W6.rowIs w.heap.size 85 4 (evF ⟨k, yf, yt, m⟩) := by rw [hW6]; exact putV_row RB.out ⟨k, yf, yt, m⟩
    have B6 : Below w.heap.size w W6 := by rw [hW6]; exact (putV_only WB w.heap.size ⟨k, yf, yt, m⟩).below BB.out (Nat.le_refl _)
    clear hW6
    exact bodyPost_V rfl w.heap.size ⟨k, yf, yt, m⟩ (.int .i64 0) rfl rfl R6 rfl ⟨rfl, B6⟩

theorem bodyPost_K {fn : Func} {p : Tmp} {Q : Ending → World → Prop} {a : Act} {w : World} (h : fn.results = #[.cell p 89]) (G : Nat) (f t : Int) (hp : a.tmps.getD p undef = .pointer (some ⟨G, 0, none⟩))
    (hg : w.heap[G]? = some (.cells #[.int .i64 f, .int .i64 t] 89 (0, 0))) (hd : a.defers = []) (hR : Q (.returned (keyV f t)) w) : bodyPost Try.prog fn Q .ret a w :=
  bodyPost_ret (results_cell_row (P := Try.prog) h _ _ G 89 _ (0, 0) _ hp hg Try.underlying89 rfl (by kernel_rfl)) hd hR
set_option maxHeartbeats 400000 in
theorem way_c (x : Plain.Ev) (w : World) : Calls Try.prog 33 #[aggV x] w fun e w' => e = .returned (keyV x.frm x.tow) ∧ Below w.heap.size w w' := by
  obtain ⟨xi, xf, xt, xs⟩ := x
  go_enter Try.func33, Try.ntmps33
  go_wp2
  (try simp only [Exit.inBlock, Exit.then])
  obtain ⟨W1, hW1⟩ : ∃ W1, W1 = w.alloc (boxV ⟨xi, xf, xt, xs⟩) := ⟨_, rfl⟩
  rw [← hW1]
  have hs : W1.heap.size = w.heap.size + 1 := by rw [hW1]; simp
  have hb := Deep.blk_alloc_new W1 (.cells #[.int .i64 xf, .int .i64 xt] 89)
  rw [hs] at hb
  exact bodyPost_K rfl (w.heap.size + 1) xf xt rfl hb rfl ⟨rfl, by rw [hW1]; exact ((Below.refl _ _).alloc (Nat.le_refl _) _).alloc (by simp) _⟩

set_option maxHeartbeats 4000000 in
set_option maxRecDepth 100000 in
/-- IsOld. -/
theorem isOld_c (R oo n : Nat) (XX : Win) (vo vm : Value) (P : List RP) (o : Plain.Off) (x : Plain.Ev) (hf : 0 ≤ x.frm ∧ x.frm ≤ 8) (ht : 0 ≤ x.tow ∧ x.tow ≤ 8) (w : World) (h : OfI R oo XX w vo vm P o n) :
    Calls Try.prog 32 #[.pointer (some ⟨R, oo, none⟩), aggV x] w fun e w' => e = .returned (.bool (decide (x.id < (Plain.nextF o x.frm x.tow : Nat)))) ∧ Below w.heap.size w w' := by
  obtain ⟨WA, hWA⟩ : ∃ WA, WA = w.alloc (boxV x) := ⟨_, rfl⟩
  have rG := show WA.rowIs w.heap.size 85 4 (evF x) by rw [hWA]; exact rowV_new w x
  have BA := hid (show Below w.heap.size w WA by rw [hWA]; exact (Below.refl _ _).alloc (Nat.le_refl _) _)
  have HA := hid ((h.grow BA.out).drewN 1)
  have r1 : WA.drew.cell? ⟨R, oo + 1, none⟩ = some vm := HA.out.c1
  have x0 : WA.drew.cell? ⟨w.heap.size, 0, none⟩ = some (.int .i64 x.id) := rG.cell (i := 0) (by omega)
  have x1 : WA.drew.cell? ⟨w.heap.size, 1, none⟩ = some (.int .i64 x.frm) := rG.cell (i := 1) (by omega)
  have x2 : WA.drew.cell? ⟨w.heap.size, 2, none⟩ = some (.int .i64 x.tow) := rG.cell (i := 2) (by omega)
  have x3 : WA.drew.cell? ⟨w.heap.size, 3, none⟩ = some (.int .i64 x.size) := rG.cell (i := 3) (by omega)
  have KW := way_c x WA.drew
  have HX := hid (fun W (g : Below WA.drew.heap.size WA.drew W) => show W.cell? ⟨R, oo + 1, none⟩ = some vm ∧ W.cell? ⟨w.heap.size, 0, none⟩ = some (.int .i64 x.id) ∧ W.cell? ⟨w.heap.size, 1, none⟩ = some (.int .i64 x.frm) ∧ W.cell? ⟨w.heap.size, 2, none⟩ = some (.int .i64 x.tow) ∧ W.cell? ⟨w.heap.size, 3, none⟩ = some (.int .i64 x.size) by
    have hlt : w.heap.size < WA.drew.heap.size := rG.lt
    exact ⟨(HA.out.grow g).c1, (g.cell (p := ⟨w.heap.size, 0, none⟩) hlt).trans x0, (g.cell (p := ⟨w.heap.size, 1, none⟩) hlt).trans x1, (g.cell (p := ⟨w.heap.size, 2, none⟩) hlt).trans x2, (g.cell (p := ⟨w.heap.size, 3, none⟩) hlt).trans x3⟩)
  have HL := hid (fun W (g : Below WA.drew.heap.size WA.drew W) => ((HA.out.grow g).mp.look hf ht))
  obtain ⟨nx, hnx⟩ : ∃ nx, nx = Plain.nextF o x.frm x.tow := ⟨_, rfl⟩
  rw [← hnx] at HL ⊢
  clear hnx h rG
  obtain ⟨xi, xf, xt, xs⟩ := x
  dsimp only at *
  go_enter Try.func32, Try.ntmps32
  go_wp2
  rw [← hWA]
  clear hWA
  go_region_held3 (fun w' => w'.cell? ⟨R, oo + 1, none⟩ = some vm ∧ w'.cell? ⟨w.heap.size, 0, none⟩ = some (.int .i64 xi) ∧ w'.cell? ⟨w.heap.size, 1, none⟩ = some (.int .i64 xf) ∧ w'.cell? ⟨w.heap.size, 2, none⟩ = some (.int .i64 xt) ∧ w'.cell? ⟨w.heap.size, 3, none⟩ = some (.int .i64 xs)) (go_keep)
    ((go_at_call 33; refine KW.mono ?_; rintro e W5 ⟨rfl, b5⟩; have B5 := hid b5; clear b5; obtain ⟨r15, x05, x15, x25, x35⟩ := HX.out W5 B5.out; have look := HL.out W5 B5.out))
  all_goals
    clear KW look x05 x15 x25 x35 r15
    go_wp2
    go_ret
    exact ⟨rfl, BA.out.trans ((below_drewN (Below.refl _ _) 1).trans (B5.out.mono BA.out.size))⟩
end Go.Proofs.Ytiolkeghgodggai.Se

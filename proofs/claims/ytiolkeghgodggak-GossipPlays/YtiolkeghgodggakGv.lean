/-
  A store's put, Write, erase.
-/
import Derived.Test.YtiolkeghgodggakGs
import Derived.Test.YtiolkeghgodggakXr
namespace Go.Proofs.Ytiolkeghgodggak
open Go.RowKit Go.Shelf Go.Sort

/-- The cells of an entry, by their places. -/
def enF (e : Plain.En) (j : Nat) : Value := if j = 0 then .int .i64 e.key else if j = 1 then .int .i64 e.value else if j = 2 then .int .i64 e.time else if j = 3 then .int .i64 e.who else .bool e.gone
theorem rowE_new (w : World) (e : Plain.En) : (w.alloc (boxE e)).rowIs w.heap.size 46 5 (enF e) := by
  refine World.rowIs_alloc _ _ 46 _ fun i hi => ?_
  have hi4 : i < 5 := hi
  have : i = 0 ∨ i = 1 ∨ i = 2 ∨ i = 3 ∨ i = 4 := by omega
  rcases this with rfl | rfl | rfl | rfl | rfl <;> rfl
theorem rowE_cells {w : World} {b : Nat} {e : Plain.En} (h : w.rowIs b 46 5 (enF e)) : CellN w b 0 e :=
  ⟨h.cell (i := 0) (by omega), h.cell (i := 1) (by omega), h.cell (i := 2) (by omega), h.cell (i := 3) (by omega), h.cell (i := 4) (by omega)⟩
theorem rowE_tw {w : World} {b : Nat} {ke va t0 w0 t1 w1 : Int} {g : Bool} (h : w.rowIs b 46 5 (enF ⟨ke, va, t0, w0, g⟩)) : ((w.setCell ⟨b, 2, none⟩ (.int .i64 t1)).setCell ⟨b, 3, none⟩ (.int .i64 w1)).rowIs b 46 5 (enF ⟨ke, va, t1, w1, g⟩) := by
  refine ((h.set 2 _).set 3 _).congr fun j hj => ?_
  have : j = 0 ∨ j = 1 ∨ j = 2 ∨ j = 3 ∨ j = 4 := by omega
  rcases this with rfl | rfl | rfl | rfl | rfl <;> rfl
namespace Plain
def wrE (L : List Int) (who : Nat) (la ke va : Int) : Nat := if va < 0 ∨ 255 < va then 2 else rfS L who la ke
def wrS (L : List Int) (who : Nat) (s : Nat → List En) (la ke va : Int) : Nat → List En := if wrE L who la ke va ≠ 0 then s else fun b => if b = la.toNat then put (s la.toNat) (entW (s la.toNat) ke va who false) else s b
def erS (L : List Int) (who : Nat) (s : Nat → List En) (la ke : Int) : Nat → List En := if valE L who s la ke ≠ 0 then s else fun b => if b = la.toNat then put (s la.toNat) (entW (s la.toNat) ke 0 who true) else s b
end Plain
/-- What a store leaves that writes. -/
def PutP (R oo : Nat) (XX : Win) (H who : Nat) (lp : Option Addr) (lc : Nat) (L : List Int) (s : Nat → List Plain.En) (w w' : World) : Prop :=
  StI R oo XX H w' who lp lc L s ∧ Kp (fun _ => False) H w w'

set_option maxHeartbeats 8000000 in
set_option maxRecDepth 100000 in
/-- put. -/
theorem put_c (R oo : Nat) (XX : Win) (H who : Nat) (lp : Option Addr) (lc : Nat) (L : List Int) (s : Nat → List Plain.En) (j : Nat) (ke va T : Int) (gone : Bool) (hw : who < 8) (_hL4 : L.length ≤ 4) (hj : j < L.length) (hT : 0 ≤ T ∧ T < 1000000) (hk : 0 ≤ ke ∧ ke < 8) (hv : 0 ≤ va ∧ va ≤ 255) (hg : gone = true → va = 0) (hS : Plain.Sok T s) (w : World) (h : StI R oo XX H w who lp lc L s) :
    Calls Try.prog 49 #[.pointer (some ⟨R, oo, none⟩), .int .i64 (j : Int), aggE ⟨ke, va, 0, 0, gone⟩] w fun e w' => e = .returned (.tuple #[]) ∧ PutP R oo XX H who lp lc L (fun b => if b = j then Plain.put (s j) (Plain.entW (s j) ke va who gone) else s b) w w' := by
  obtain ⟨WA, hWA⟩ : ∃ WA, WA = w.alloc (boxE ⟨ke, va, 0, 0, gone⟩) := ⟨_, rfl⟩
  have BA := hid (show Below w.heap.size w WA by rw [hWA]; exact (Below.refl _ _).alloc (Nat.le_refl _) _)
  have RA := hid (show WA.rowIs w.heap.size 46 5 (enF ⟨ke, va, 0, 0, gone⟩) by rw [hWA]; exact rowE_new w _)
  have H0 := h.grow BA.out
  obtain ⟨hb1, hb2, hb3⟩ := Plain.entW_may hS hT hw hk hv hg j
  have hmx0 := Plain.maxT_pos (s j)
  have hmx1 := Plain.maxT_le (l := s j) hT.1 (fun e he => (hS.may j e he).2.2.1)
  have l8 := hS.len j
  have hml := hS.mayL j
  obtain ⟨p, c, xjw, sg, ly, _⟩ := h.has hj
  have xj : WA.cell? ⟨H, j, none⟩ = some (.slice p (s j).length c) := (BA.out.cell (p := ⟨H, j, none⟩) h.ltH).trans xjw
  have x2 := H0.c2
  have hjz : (j : Int) < (L.length : Int) := by omega
  have HH := hid h
  have SG := hid sg
  have LY := hid ly
  have HB2 := hid hb2
  have HB3 := hid hb3
  have HML := hid hml
  obtain ⟨m, hm⟩ : ∃ m, m = L.length := ⟨_, rfl⟩
  have HM := hid hm
  rw [← hm] at x2 hjz
  have HJ := hid hj
  have KL := latest_c (.slice p (s j).length c) (s j) (by omega) WA.drew (sg.below (below_drewN BA.out 1) ly) (ly.mono BA.out.size)
  obtain ⟨mx, hmx⟩ : ∃ mx, mx = Plain.maxT (s j) := ⟨_, rfl⟩
  rw [← hmx] at KL hmx0 hmx1
  have HMX := hid hmx
  rw [hWA] at xj x2
  clear h hS hb1 hb2 hb3 hml H0 sg ly hm hmx hj hv hg hk xjw
  obtain ⟨ln, hln⟩ : ∃ ln, ln = (s j).length := ⟨_, rfl⟩
  have HLN := hid hln
  rw [← hln] at xj KL l8 SG LY
  clear hln
  go_enter Try.func49, Try.ntmps49
  go_upto_region 2 with fail
  rw [← hWA] at xj x2 ⊢
  clear hWA xj x2
  have HA := hid (HH.out.grow BA.out)
  have r0 : WA.drew.cell? ⟨R, oo, none⟩ = some (.int .i64 (who : Nat)) := HA.out.c0
  have hRn : ¬ R = w.heap.size := by have := HH.out.lt; omega
  have hRm : ¬ w.heap.size = R := by omega
  have hwr : IntKind.i64.wrap (mx + 1) = mx + 1 := by rw [IntKind.wrap_i64]; omega
  go_region_held3 (fun w' => w'.cell? ⟨R, oo, none⟩ = some (.int .i64 (who : Nat))) (go_keep)
    ((go_at_call 55; refine KL.mono ?_; rintro e W5 ⟨rfl, b5⟩; have B5 := hid (show Below WA.heap.size WA W5 from (below_drewN (Below.refl _ _) 1).trans b5); clear b5; have H5 := hid (HA.out.grow B5.out); have r05 := H5.out.c0; have R5 := hid (RA.out.of_block (B5.out.block _ RA.out.lt)); have y2 := R5.out.cell (i := 2) (by omega); have y3 := R5.out.cell (i := 3) (by omega); have z2 := R5.out.frozen 2; have z3 := R5.out.frozen 3))
  all_goals
    obtain ⟨W6, hW6⟩ : ∃ W6, W6 = (W5.setCell ⟨w.heap.size, 2, none⟩ (.int .i64 (mx + 1))).setCell ⟨w.heap.size, 3, none⟩ (.int .i64 (who : Nat)) := ⟨_, rfl⟩
    rw [← hW6]
    have R6 := hid (show W6.rowIs w.heap.size 46 5 (enF ⟨ke, va, mx + 1, (who : Nat), gone⟩) by rw [hW6]; exact rowE_tw R5.out)
    have B6 := hid (show Below w.heap.size w W6 by rw [hW6]; exact ((BA.out.trans (B5.out.mono BA.out.size)).setCell (Nat.le_refl _) _).setCell (Nat.le_refl _) _)
    have H6 := hid (HH.out.grow B6.out)
    clear hW6 R5 H5 B5 y2 y3 z2 z3 r05 r0 KL HA RA
    have q2 : W6.cell? ⟨R, oo + 2, none⟩ = some (.slice (some ⟨H, 0, none⟩) m m) := by rw [HM.out]; exact H6.out.c2
    obtain ⟨EE, hEE⟩ : ∃ EE : Plain.En, EE = ⟨ke, va, mx + 1, (who : Nat), gone⟩ := ⟨_, rfl⟩
    have HEE := hid (show Plain.entW (s j) ke va who gone = EE by rw [hEE]; unfold Plain.entW; rw [← HMX.out])
    have HER := hid hEE
    rw [← hEE] at R6
    clear hEE
    obtain ⟨y0, y1, y2, y3, y4⟩ := rowE_cells R6.out
    simp only [Nat.zero_add] at y1 y2 y3 y4
    obtain ⟨_, _, xj6, _, _, fz6⟩ := H6.out.has HJ.out
    have FZ := hid fz6
    have hHlt : H < W6.heap.size := H6.out.ltH
    have hRlt : R < W6.heap.size := H6.out.lt
    have hmlt := R6.out.lt
    have hHR : ¬ H = R := fun e => H6.out.RH e.symm
    have hRH : ¬ R = H := H6.out.RH
    have hHb : ¬ H = w.heap.size := by have := HH.out.ltH; omega
    have hbH : ¬ w.heap.size = H := fun e => hHb e.symm
    have bC := hid (show Below W6.heap.size W6 (W6.alloc (boxE EE)).drew from ((Below.refl _ _).alloc (Nat.le_refl _) _).drew)
    have CX : CellN (W6.alloc (boxE EE)).drew W6.heap.size 0 EE := (box_at W6 EE).below (B := W6.heap.size + 1) ((Below.refl _ _).drew) (by omega)
    have hx : W6.heap.size < (W6.alloc (boxE EE)).drew.heap.size := by show W6.heap.size < (W6.alloc _).heap.size; simp
    have KM2 := hid (gmerge_c (.slice p ln c) (.slice (some ⟨W6.heap.size, 0, none⟩) 1 1) (s j) [EE] HML.out (by rw [← HEE.out]; exact HB2.out) (by rw [← HEE.out]; exact HB3.out) (W6.alloc (boxE EE)).drew (SG.out.below (B6.out.trans (bC.out.mono B6.out.size)) LY.out) (LY.out.mono (Nat.le_trans B6.out.size bC.out.size)) (.inr ⟨W6.heap.size, 0, 1, rfl, Nat.le_refl _, fun q hq => by have : q = 0 := (by simp at hq; omega); subst this; exact CX⟩) (lies_at hx))
    have HFIN := hid (fun w' (r : Value) (h1 : SegN w' r (Plain.mergeL (s j) [EE])) (h2 : Lies w'.heap.size r) (b : Below W6.heap.size W6 w') => show PutP R oo XX H who lp lc L (fun b => if b = j then Plain.put (s j) (Plain.entW (s j) ke va who gone) else s b) w (w'.setCell ⟨H, j, none⟩ r) from
      ⟨by rw [HEE.out]; exact (H6.out.grow b).set h1 h2, (Kp.of_below (B6.out.trans (b.mono B6.out.size))).trans (Kp.setR _ _)⟩)
    clear CX hx fz6 xj6
    obtain ⟨nl, hnl⟩ : ∃ nl, nl = (Plain.mergeL (s j) [EE]).length := ⟨_, rfl⟩
    rw [← hnl] at KM2
    clear hnl
    obtain ⟨ek, ev, et, eo, eg⟩ := EE
    dsimp only at y0 y1 y2 y3 y4
    go_wp2
    go_region_held3 (fun w' => w'.cell? ⟨R, oo + 2, none⟩ = some (.slice (some ⟨H, 0, none⟩) m m) ∧ w'.cell? ⟨w.heap.size, 0, none⟩ = some (.int .i64 ek) ∧ w'.cell? ⟨w.heap.size, 1, none⟩ = some (.int .i64 ev) ∧ w'.cell? ⟨w.heap.size, 2, none⟩ = some (.int .i64 et) ∧ w'.cell? ⟨w.heap.size, 3, none⟩ = some (.int .i64 eo) ∧ w'.cell? ⟨w.heap.size, 4, none⟩ = some (.bool eg)) (go_keep)
      ((go_at_call 51; refine KM2.out.mono ?_; rintro e w' ⟨pr, cr, rfl, hs, hl, b⟩; have BB := hid (bC.out.trans (b.mono bC.out.size)); have HS := hid hs; have HL2 := hid hl; have q2' := (BB.out.cell (p := ⟨R, oo + 2, none⟩) hRlt).trans q2; have f1 := (BB.out.cell (p := ⟨w.heap.size, 0, none⟩) hmlt).trans y0; have f2 := (BB.out.cell (p := ⟨w.heap.size, 1, none⟩) hmlt).trans y1; have f3 := (BB.out.cell (p := ⟨w.heap.size, 2, none⟩) hmlt).trans y2; have f4 := (BB.out.cell (p := ⟨w.heap.size, 3, none⟩) hmlt).trans y3; have f5 := (BB.out.cell (p := ⟨w.heap.size, 4, none⟩) hmlt).trans y4; obtain ⟨_, _, xjj, _, _, fz⟩ := (H6.out.grow BB.out).has HJ.out; clear b hs hl))
    all_goals
      go_end0
      exact ⟨rfl, HFIN.out _ _ HS.out HL2.out BB.out⟩

set_option maxHeartbeats 4000000 in
set_option maxRecDepth 100000 in
/-- Write. -/
theorem write_c (R oo : Nat) (XX : Win) (H who : Nat) (lp : Option Addr) (lc : Nat) (L : List Int) (s : Nat → List Plain.En) (la ke va T : Int) (hw : who < 8) (hL4 : L.length ≤ 4) (hL : ∀ x, x ∈ L → 0 ≤ x ∧ x < 256) (hT : 0 ≤ T ∧ T < 1000000) (hS : Plain.Sok T s) (w : World) (h : StI R oo XX H w who lp lc L s) :
    Calls Try.prog 37 #[.pointer (some ⟨R, oo, none⟩), .int .i64 la, .int .i64 ke, .int .i64 va] w fun e w' => e = .returned (.int .i64 (Plain.wrE L who la ke va : Nat)) ∧ PutP R oo XX H who lp lc L (Plain.wrS L who s la ke va) w w' := by
  unfold Plain.wrE Plain.wrS Plain.wrE
  by_cases hv : 0 ≤ va ∧ va < 256
  case neg =>
    rw [if_pos (by omega), if_pos (by decide)]
    have K := fun W => place_f hv W
    have HP := hid (show PutP R oo XX H who lp lc L s w w from ⟨h, Kp.refl _ _ _⟩)
    clear h hS hL
    go_enter Try.func37, Try.ntmps37
    go_wp2_with (first | (go_at_call 36; refine (K _).mono ?_; rintro e wx ⟨rfl, hx⟩; have hy := hx.symm; clear hx; subst hy) | fail)
    go_ret
    exact ⟨rfl, HP.out⟩
  rw [if_neg (by omega)]
  have K := fun W => place_t hv W
  have KR := refuse_c R oo XX H who lp lc L s la ke hw hL4 hL w h
  by_cases hrf : Plain.rfS L who la ke ≠ 0
  · rw [if_pos hrf]
    have HP := hid (fun w' (b : Below w.heap.size w w') => show PutP R oo XX H who lp lc L s w w' from ⟨h.grow b, Kp.of_below b⟩)
    clear h hS hL
    generalize Plain.rfS L who la ke = E at *
    have hE : ((E : Int) != 0) = true := by simpa using hrf
    go_enter Try.func37, Try.ntmps37
    go_wp2_with (first | (go_at_call 36; refine (K _).mono ?_; rintro e wx ⟨rfl, hx⟩; have hy := hx.symm; clear hx; subst hy) | fail)
    refine KR.mono ?_
    rintro e w1 ⟨rfl, b1⟩
    have HP1 := hid (HP.out w1 b1)
    clear KR b1 HP
    go_wp2
    go_ret
    exact ⟨rfl, HP1.out⟩
  rw [if_neg hrf]
  have hr0 : Plain.rfS L who la ke = 0 := Classical.not_not.1 hrf
  rw [hr0] at KR
  rw [hr0]
  have hin : (0 ≤ la ∧ la < L.length) ∧ (0 ≤ ke ∧ ke < 8) := by
    unfold Plain.rfS at hr0
    by_cases x : (la < 0 ∨ (L.length : Int) ≤ la) ∨ (ke < 0 ∨ 7 < ke)
    · rw [if_pos x] at hr0; omega
    · omega
  obtain ⟨j, rfl⟩ : ∃ j : Nat, la = (j : Int) := ⟨la.toNat, by omega⟩
  rw [Int.toNat_natCast]
  have KP := fun W (b : Below w.heap.size w W) => put_c R oo XX H who lp lc L s j ke va T false hw hL4 (by omega) hT hin.2 (by omega) (fun e => by cases e) hS W (h.grow b)
  clear h hS hL hrf hr0 hin
  go_enter Try.func37, Try.ntmps37
  go_wp2_with (first | (go_at_call 36; refine (K _).mono ?_; rintro e wx ⟨rfl, hx⟩; have hy := hx.symm; clear hx; subst hy) | fail)
  refine KR.mono ?_
  rintro e w1 ⟨rfl, b1⟩
  have KP1 := KP w1 b1
  have B1 := hid b1
  clear KR b1 KP
  go_wp2_with fail
  refine KP1.mono ?_
  rintro e w2 ⟨rfl, hst, hkp⟩
  have HP := hid (show PutP R oo XX H who lp lc L _ w w2 from ⟨hst, (Kp.of_below B1.out).trans hkp⟩)
  clear KP1 hst hkp
  go_wp2
  go_ret
  exact ⟨rfl, HP.out⟩

set_option maxHeartbeats 4000000 in
set_option maxRecDepth 100000 in
/-- erase. -/
theorem erase_c (R oo : Nat) (XX : Win) (H who : Nat) (lp : Option Addr) (lc : Nat) (L : List Int) (s : Nat → List Plain.En) (la ke T : Int) (hw : who < 8) (hL4 : L.length ≤ 4) (hL : ∀ x, x ∈ L → 0 ≤ x ∧ x < 256) (hT : 0 ≤ T ∧ T < 1000000) (hS : Plain.Sok T s) (w : World) (h : StI R oo XX H w who lp lc L s) :
    Calls Try.prog 38 #[.pointer (some ⟨R, oo, none⟩), .int .i64 la, .int .i64 ke] w fun e w' => e = .returned (.int .i64 (Plain.valE L who s la ke : Nat)) ∧ PutP R oo XX H who lp lc L (Plain.erS L who s la ke) w w' := by
  unfold Plain.erS
  have KV := value_c R oo XX H who lp lc L s la ke T hw hL4 hL hS w h
  by_cases hrf : Plain.valE L who s la ke ≠ 0
  · rw [if_pos hrf]
    have HP := hid (fun w' (b : Below w.heap.size w w') => show PutP R oo XX H who lp lc L s w w' from ⟨h.grow b, Kp.of_below b⟩)
    clear h hS hL
    generalize Plain.valE L who s la ke = E at *
    generalize Plain.valV L who s la ke = V at *
    have hE : ((E : Int) != 0) = true := by simpa using hrf
    go_enter Try.func38, Try.ntmps38
    go_wp2_with fail
    refine KV.mono ?_
    rintro e w1 ⟨rfl, b1⟩
    have HP1 := hid (HP.out w1 b1)
    clear KV b1 HP
    go_wp2
    go_ret
    exact ⟨rfl, HP1.out⟩
  rw [if_neg hrf]
  have hr0 : Plain.valE L who s la ke = 0 := Classical.not_not.1 hrf
  rw [hr0] at KV
  rw [hr0]
  have hin : (0 ≤ la ∧ la < L.length) ∧ (0 ≤ ke ∧ ke < 8) := by
    unfold Plain.valE at hr0
    by_cases y : Plain.rfS L who la ke ≠ 0
    · rw [if_pos y] at hr0; exact absurd hr0 y
    have hr1 : Plain.rfS L who la ke = 0 := Classical.not_not.1 y
    unfold Plain.rfS at hr1
    by_cases x : (la < 0 ∨ (L.length : Int) ≤ la) ∨ (ke < 0 ∨ 7 < ke)
    · rw [if_pos x] at hr1; omega
    · omega
  obtain ⟨j, rfl⟩ : ∃ j : Nat, la = (j : Int) := ⟨la.toNat, by omega⟩
  rw [Int.toNat_natCast]
  have KP := fun W (b : Below w.heap.size w W) => put_c R oo XX H who lp lc L s j ke 0 T true hw hL4 (by omega) hT hin.2 (by omega) (fun _ => rfl) hS W (h.grow b)
  clear h hS hL hrf hr0 hin
  generalize Plain.valV L who s (j : Int) ke = V at *
  go_enter Try.func38, Try.ntmps38
  go_wp2_with fail
  refine KV.mono ?_
  rintro e w1 ⟨rfl, b1⟩
  have KP1 := KP w1 b1
  have B1 := hid b1
  clear KV b1 KP
  go_wp2_with fail
  refine KP1.mono ?_
  rintro e w2 ⟨rfl, hst, hkp⟩
  have HP := hid (show PutP R oo XX H who lp lc L _ w w2 from ⟨hst, (Kp.of_below B1.out).trans hkp⟩)
  clear KP1 hst hkp
  go_wp2
  go_ret
  exact ⟨rfl, HP.out⟩
end Go.Proofs.Ytiolkeghgodggak

/-
  book: quotas.
-/
import Derived.Test.YtiolkeghgodggajY3
import Derived.Deep.RegionHeld3
import Derived.Deep.Cut
import Derived.Deep.CutRange
namespace Go.Proofs.Ytiolkeghgodggaj.Bo
open Go.RowKit Go.Shelf Go.Sort

set_option maxHeartbeats 2000000 in
theorem quotas_c (B R oo A G N : Nat) (XX : Win) (vl : Value) (b : Plain.Bk) (w : World) (h : BkI B R oo XX A G w vl b N) :
    Calls Try.prog 34 #[.pointer (some ⟨R, oo, none⟩)] w fun e w' =>
      ∃ g, e = .returned (.slice (some ⟨g, 0, none⟩) b.n b.n) ∧ RowI w' g (Plain.splitL b.reserve (List.replicate b.n b.cap)) ∧ w.heap.size ≤ g ∧ Below w.heap.size w w' := by
  have hn1 := h.n1
  have hn8 := h.n8
  have hlt := h.row.lt
  have hE : Plain.splitE b.reserve (List.replicate b.n b.cap) = 0 := by
    have := h.ok.ev
    have := h.ok.em
    have hs := Plain.sumN_nonneg (n := b.n) (f := fun i => b.given.getD i 0) (fun i hi => (h.ok.gi i hi).1)
    rw [← Plain.sumL_list h.ok.lg] at hs
    exact Plain.splitE_ok (by rw [List.length_replicate]; omega) ⟨h.ok.re, by omega⟩ (Plain.wm_rep h.ok.cap)
  have r0 := h.c0
  have r2 := h.c2
  have r5 := h.c5
  have HE := hid hE
  clear h hE
  generalize b.n = n at *
  generalize b.cap = cap at *
  generalize b.reserve = re at *
  obtain ⟨W5, hW5⟩ : ∃ W5, W5 = (w.alloc (.cells #[.int .i64 cap] 3)).drew := ⟨_, rfl⟩
  have b5 : Below w.heap.size w W5 := by rw [hW5]; exact ((Below.refl _ _).alloc (Nat.le_refl _) _).drew
  have KR := repeat_c w.heap.size n cap hn1 hn8 W5 (by rw [hW5]; show (w.alloc _).cell? _ = _; rw [World.cell?_alloc_at _ _ _ _ rfl]; rfl)
  have KS := fun g W (hr : RowI W g (List.replicate n cap)) => split_ok (some ⟨g, 0, none⟩) n n (List.replicate n cap) re HE.out W (by simp) (fun _ => ⟨g, 0, rfl, hr.lt, fun j hj => by rw [Nat.zero_add]; exact hr.cell hj⟩)
  rw [hW5] at KR
  have B5 := hid b5
  have S5 := hid hW5
  clear b5 hW5
  go_enter Try.func34, Try.ntmps34
  go_wp2
  go_region_held3 (fun w' => w'.cell? ⟨R, oo + 2, none⟩ = some (.int .i64 re) ∧ w'.cell? ⟨R, oo, none⟩ = some (.int .i64 cap) ∧ w'.cell? ⟨R, oo + 5, none⟩ = some (.slice (some ⟨G, 0, none⟩) n n)) (go_keep) (first
    | (go_at_call 42; refine KR.mono ?_; rw [← S5.out]; rintro e W6 ⟨g6, rfl, hr6, hg6, hb6⟩; have B6 := hid (B5.out.trans (hb6.mono B5.out.size)); have R6 := hid hr6; have r2 := (B6.out.cell (p := ⟨R, oo + 2, none⟩) hlt).trans r2; have r0 := (B6.out.cell (p := ⟨R, oo, none⟩) hlt).trans r0; have r5 := (B6.out.cell (p := ⟨R, oo + 5, none⟩) hlt).trans r5; clear hr6 hg6 hb6)
    | (go_at_call 41; refine (KS _ _ R6.out).mono ?_; rintro e W7 ⟨g7, rfl, hr7, hg7, hb7⟩; have r2 := (hb7.cell (p := ⟨R, oo + 2, none⟩) (World.block_lt_of_cell? (w := W6) (h := r2))).trans r2; have r0 := (hb7.cell (p := ⟨R, oo, none⟩) (World.block_lt_of_cell? (w := W6) (h := r0))).trans r0; have r5 := (hb7.cell (p := ⟨R, oo + 5, none⟩) (World.block_lt_of_cell? (w := W6) (h := r5))).trans r5; have B7 := hid (B6.out.trans (hb7.mono B6.out.size)); have R7 := hid hr7; have G7 := hid (Nat.le_trans B6.out.size hg7); clear hr7 hg7 hb7))
  all_goals
    go_wp2
    go_ret
    exact ⟨_, rfl, R7.out, G7.out, B7.out⟩
end Go.Proofs.Ytiolkeghgodggaj.Bo

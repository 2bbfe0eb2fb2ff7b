/-
  A contract of tally.changes.
-/
import Derived.Test.YtcdlgpickjiikagTc
import Derived.Test.YtcdlgpickjiikagTrf
namespace Go.Proofs.Ytcdlgpickjiikag
open Go.RowKit Go.Sort

theorem CellD.drew {w : World} {b o : Nat} {d : Plain.De} (h : CellD w b o d) (q : Nat) : CellD (w.drewN q) b o d := ⟨by simpa using h.c0, by simpa using h.c1, by simpa using h.c2, by simpa using h.c3⟩
set_option maxHeartbeats 1000000 in
theorem changes_c (B n b bu cm cu : Nat) (G C : Nat → Nat) (t : Plain.Ta) (d : Plain.De) (w : World) (h : OwnT w B n b bu G C t) (hk : d.kind = 1 ∨ d.kind = 2 ∨ d.kind = 3) (h0 : 0 ≤ d.who) (h1 : d.who < n) :
    Calls Try.prog 31 #[aggT (.slice (some ⟨b, 0, none⟩) n cm) (.slice (some ⟨bu, 0, none⟩) n cu), aggD d] w fun e w' =>
      e = .returned (.tuple #[if d.kind = 3 then .slice (some ⟨bu, 0, none⟩) n cu else .slice (some ⟨G d.who.toNat, 0, none⟩) n (C d.who.toNat), .int .i64 (Plain.plD d)]) ∧ Below w.heap.size w w' := by
  obtain ⟨k, wh, to, ct⟩ := d
  simp only [] at hk h0 h1
  obtain ⟨o, rfl⟩ := Int.eq_ofNat_of_zero_le h0
  simp only [Int.toNat_natCast]
  have ho : o < n := by omega
  have hO := h.c o ho
  have hb := h.lb
  have n8 := h.n8
  have BX := box_cells w (.slice (some ⟨b, 0, none⟩) n cm) (.slice (some ⟨bu, 0, none⟩) n cu)
  obtain ⟨W, hW⟩ : ∃ W, W = (w.alloc (boxT (.slice (some ⟨b, 0, none⟩) n cm) (.slice (some ⟨bu, 0, none⟩) n cu))).alloc (boxD ⟨k, o, to, ct⟩) := ⟨_, rfl⟩
  have g2 : Below (w.alloc (boxT (.slice (some ⟨b, 0, none⟩) n cm) (.slice (some ⟨bu, 0, none⟩) n cu))).heap.size (w.alloc (boxT (.slice (some ⟨b, 0, none⟩) n cm) (.slice (some ⟨bu, 0, none⟩) n cu))) W := by rw [hW]; exact (Below.refl _ _).alloc (Nat.le_refl _) _
  have BL := hid (show Below w.heap.size w W by rw [hW]; exact ((Below.refl _ _).alloc (Nat.le_refl _) _).alloc (by simp) _)
  have x0 := (g2.cell (p := ⟨w.heap.size, 0, none⟩) (by simp)).trans BX.1
  have x1 := (g2.cell (p := ⟨w.heap.size, 1, none⟩) (by simp)).trans BX.2
  obtain ⟨y0, y1, y2, y3⟩ : CellD W (w.heap.size + 1) 0 ⟨k, o, to, ct⟩ := by rw [hW]; have := box_cellD (w.alloc (boxT (.slice (some ⟨b, 0, none⟩) n cm) (.slice (some ⟨bu, 0, none⟩) n cu))) ⟨k, o, to, ct⟩; simpa using this
  simp only [Nat.zero_add] at y1 y2 y3
  have c1 := (BL.out.cell (p := ⟨b, o, none⟩) hb).trans hO
  clear BX g2 hO hb h
  rcases hk with rfl | rfl | rfl
  all_goals
    go_enter Try.func31, Try.ntmps31
    go_wp2
    rw [← hW]
    clear hW
    go_quiet (fail)
    go_wp2
    go_ret2
    exact ⟨rfl, BL.out.trans ((grow_below W nq #[]).mono BL.out.size)⟩
end Go.Proofs.Ytcdlgpickjiikag

/-
  A contract of widthsOf.
-/
import Derived.Test.YtkmnofmhjoehiamPut
namespace Go.Proofs.Ytkmnofmhjoehiam
open Go.RowKit

theorem Try.infoInt : (Try.prog.info? 3).map (fun i => (i.zero, i.size, i.bytes)) = some (some (.int .i64 0), 1, 8) := by kernel_rfl
theorem Try.infoByte : (Try.prog.info? 5).map (fun i => (i.zero, i.size, i.bytes)) = some (some (.int .u8 0), 1, 1) := by kernel_rfl

theorem widths_step {wr w : World} {k n : Nat} {l : List (Int × Int)} {x : Int} {o : Obj} (hx : (l.getD k (0, 0)).1 = x)
    (hrow : wr.rowIs w.heap.size 3 n (fun j => if j < k then .int .i64 (l.getD j (0, 0)).1 else .int .i64 0)) (hbel : Below w.heap.size w wr) :
    ((wr.setCell ⟨w.heap.size, k, none⟩ (.int .i64 x)).alloc o).rowIs w.heap.size 3 n (fun j => if j < k + 1 then .int .i64 (l.getD j (0, 0)).1 else .int .i64 0) ∧
      Below w.heap.size w ((wr.setCell ⟨w.heap.size, k, none⟩ (.int .i64 x)).alloc o) := by
  refine ⟨((hrow.set k (.int .i64 x)).alloc o).congr fun j _ => ?_, (hbel.setCell (p := ⟨w.heap.size, k, none⟩) (Nat.le_refl _) _).alloc ?_ o⟩
  · by_cases c : j = k
    · subst c; rw [if_pos rfl, if_pos (by omega), hx]
    · rw [if_neg c]
      by_cases d : j < k
      · rw [if_pos d, if_pos (by omega)]
      · rw [if_neg d, if_neg (by omega)]
  · exact ((hbel.setCell (p := ⟨w.heap.size, k, none⟩) (Nat.le_refl _) _)).size

set_option maxHeartbeats 400000 in
theorem widths_nil (p : Option Addr) (cap : Nat) (w : World) :
    Calls Try.prog 51 #[.slice p 0 cap] w fun e w' => e = .returned (.slice (some ⟨w.heap.size, 0, none⟩) 0 0) ∧ Below w.heap.size w w' := by
  have hmk : ∀ w : World, (Instr.makeSlice 22 (.int .i64 0) (.int .i64 0)).run Try.prog w = .ok (.slice (some ⟨w.heap.size, 0, none⟩) 0 0) (w.alloc (.cells (madeCells #[.int .i64 0] 0) 3)) :=
    run_make_row' (P := Try.prog) 22 3 (.int .i64 0) 8 Try.underlying22 Try.infoInt rfl .i64 .i64 0 (by omega) (by omega)
  go_enter Try.func51, Try.ntmps51
  go_wp2
  refine wp_loop_rounds 1 ?_
  rw [rounds_succ]
  go_wp2
  go_ret
  exact ⟨rfl, (Below.refl _ _).alloc (Nat.le_refl _) _⟩

set_option maxHeartbeats 1000000 in
theorem widths_some (b off cap : Nat) (l : List (Int × Int)) (hm : l.length * 16 ≤ 140737488351232) (w : World)
    (h : ∀ j, j < l.length → w.cell? ⟨b, off + j * 2, none⟩ = some (.int .i64 (l.getD j (0, 0)).1) ∧ w.cell? ⟨b, off + j * 2 + 1, none⟩ = some (.int .i64 (l.getD j (0, 0)).2))
    (hb : 0 < l.length → b < w.heap.size) :
    Calls Try.prog 51 #[.slice (some ⟨b, off, none⟩) l.length cap] w fun e w' => e = .returned (.slice (some ⟨w.heap.size, 0, none⟩) l.length l.length) ∧
      w'.rowIs w.heap.size 3 l.length (fun j => .int .i64 (l.getD j (0, 0)).1) ∧ Below w.heap.size w w' := by
  have H := hid h
  clear h
  have hmk := run_make_row' (P := Try.prog) 22 3 (.int .i64 0) 8 Try.underlying22 Try.infoInt rfl .i64 .i64 l.length (by omega) (by omega)
  go_enter Try.func51, Try.ntmps51
  go_wp2
  clear hmk
  go_loopw [11] (fun i wr => ∃ k : Nat, k ≤ l.length ∧ i = .int .i64 k ∧ wr.rowIs w.heap.size 3 l.length (fun j => if j < k then .int .i64 (l.getD j (0, 0)).1 else .int .i64 0) ∧ Below w.heap.size w wr) (fun i _ => l.length - (intOf i).toNat)
  case atStart => exact ⟨0, Nat.zero_le _, rfl, World.rowIs_made w (.int .i64 0) l.length 3, (Below.refl _ _).alloc (Nat.le_refl _) _⟩
  case round =>
    obtain ⟨k, hk, rfl, hrow, hbel⟩ := hrel
    by_cases hlt : k < l.length
    · have g := H.out k hlt
      rw [← hbel.cell (p := ⟨b, off + k * 2, none⟩) (hb (by omega)), ← hbel.cell (p := ⟨b, off + k * 2 + 1, none⟩) (hb (by omega))] at g
      have g0 := g.1
      have g1 := g.2
      clear g
      have hlt' : (k : Int) < (l.length : Int) := by omega
      have hsz := hrow.lt
      have hfz := hrow.frozen k
      have hcl := hrow.cell hlt
      have HR := hid hrow
      have HB := hid hbel
      clear hrow hbel
      generalize hx : (l.getD k (0, 0)).1 = x at g0
      generalize hy : (l.getD k (0, 0)).2 = y at g1
      have HX := hid hx
      clear hx hy
      go_wp2
      have R := widths_step (o := .cells #[.int .i64 x, .int .i64 y] 71) HX.out HR.out HB.out
      go_roundw
      case rel => exact ⟨k + 1, by omega, by go_num, R.1, R.2⟩
      case measure => simp [intOf]; omega
    · have ek : k = l.length := by omega
      have HR := hid hrow
      have HB := hid hbel
      clear hrow hbel
      go_wp2
      go_ret
      exact ⟨rfl, HR.out.congr fun j hj => by rw [if_pos (by omega)], HB.out⟩

/-- widthsOf at whatever fields. -/
theorem widths_any (v : Value) (l : List (Int × Int)) (hm : l.length * 16 ≤ 140737488351232) (w : World) (h : SegF w v l) (hv : Lies w.heap.size v) :
    Calls Try.prog 51 #[v] w fun e w' => ∃ u, e = .returned u ∧ Seg w' u (l.map Prod.fst) ∧ Below w.heap.size w w' := by
  rcases h with ⟨rfl, p, c, rfl⟩ | ⟨b, o, c, rfl, g⟩
  · refine (widths_nil p c w).mono ?_
    rintro e w' ⟨rfl, hb⟩
    exact ⟨_, rfl, .inl ⟨rfl, _, _, rfl⟩, hb⟩
  · refine (widths_some b o c l hm w g (fun hp => hv _ _ _ rfl hp)).mono ?_
    rintro e w' ⟨rfl, hr, hb⟩
    refine ⟨_, rfl, .inr ⟨w.heap.size, 0, l.length, by rw [List.length_map], fun j hj => ?_⟩, hb⟩
    rw [List.length_map] at hj
    rw [Nat.zero_add, hr.cell hj]
    simp [List.getD_eq_getElem?_getD, List.getElem?_eq_getElem hj]
end Go.Proofs.Ytkmnofmhjoehiam

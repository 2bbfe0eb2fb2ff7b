/-
  Goroutines among others: part 31 of what the law's own text rests on.
-/
import Derived.Test.YtcobehkadhcjiaaCb15
import Derived.Test.YtcobehkadhcjiaaCb19
import Derived.Test.YtcobehkadhcjiaaCb27
import Derived.Test.YtcobehkadhcjiaaCb30
import Derived.Deep.RegionHeld3
import Derived.Laws.Rows
/-
  A contract of EntryOf.
-/
namespace Go.Proofs.Ytcobehkadhcjiaa
open Go.RowKit Go.Sort

theorem three_grown (w : World) (a b c : Obj) : (((w.alloc a).alloc b).alloc c).drew = grow (w.drewN 1) #[a, b, c] := by
  rw [alloc_eq_grow, alloc_eq_grow, alloc_eq_grow, grow_grow, grow_grow]
  rfl
set_option maxHeartbeats 4000000 in
set_option maxRecDepth 100000 in
theorem entryOf_g (n : Plain.En) (hn : InE n) (w : World) :
    Calls Try.prog 35 #[aggE n] w fun e w' => e = .returned (aggE (Plain.eof n)) ∧ ∃ q os', w' = grow (w.drewN q) os' := by
  obtain ⟨k, v, t, o, g⟩ := n
  have K0 := fun W => picked_any k 6 hn.k.1 hn.k.2 (by omega) (by omega) W
  have K1 := fun W => picked_any v 3 hn.v.1 hn.v.2 (by omega) (by omega) W
  have K2 := fun W => picked_any t 4 hn.t.1 hn.t.2 (by omega) (by omega) W
  have K3 := fun W => picked_any o 3 hn.o.1 hn.o.2 (by omega) (by omega) W
  have HE := hid (show Plain.eof ⟨k, v, t, o, g⟩ = ⟨k % 6, if g then 0 else v % 3, t % 4, o % 3, g⟩ from rfl)
  clear hn
  generalize k % 6 = k' at K0 HE
  generalize v % 3 = v' at K1 HE
  generalize t % 4 = t' at K2 HE
  generalize o % 3 = o' at K3 HE
  cases g with
  | true =>
    go_enter Try.func35, Try.ntmps35
    go_wp2
    go_region_held3 (fun w' => w'.cell? ⟨w.heap.size, 0, none⟩ = some (.int .i64 k) ∧ w'.cell? ⟨w.heap.size, 2, none⟩ = some (.int .i64 t) ∧ w'.cell? ⟨w.heap.size, 3, none⟩ = some (.int .i64 o) ∧ w'.cell? ⟨w.heap.size, 4, none⟩ = some (.bool true)) (go_keep)
      (first | (go_at_call_of 14 (Value.int .i64 k); refine (K0 _).mono ?_; rintro e w' ⟨rfl, rfl⟩) | (go_at_call_of 14 (Value.int .i64 t); refine (K2 _).mono ?_; rintro e w' ⟨rfl, rfl⟩) | (go_at_call_of 14 (Value.int .i64 o); refine (K3 _).mono ?_; rintro e w' ⟨rfl, rfl⟩))
    all_goals
      go_wp2
      (try simp only [Exit.inBlock, Exit.then])
      refine bodyPost_ret (v := aggE ⟨k', 0, t', o', true⟩) ?_ rfl ⟨by rw [HE.out]; rfl, ?_⟩
      · exact results_cell_row (P := Try.prog) rfl _ _ (w.heap.size + 1) 41 _ (0, 0) _ rfl ((heap_alloc_old _ _ (by simp)).trans (heap_alloc2_new w _ _)) Try.underlying41 rfl (by kernel_rfl)
      · exact ⟨1, _, three_grown w _ _ _⟩
  | false =>
    go_enter Try.func35, Try.ntmps35
    go_wp2
    go_region_held3 (fun w' => w'.cell? ⟨w.heap.size, 0, none⟩ = some (.int .i64 k) ∧ w'.cell? ⟨w.heap.size, 2, none⟩ = some (.int .i64 t) ∧ w'.cell? ⟨w.heap.size, 3, none⟩ = some (.int .i64 o) ∧ w'.cell? ⟨w.heap.size, 4, none⟩ = some (.bool false)) (go_keep)
      (first | (go_at_call_of 14 (Value.int .i64 k); refine (K0 _).mono ?_; rintro e w' ⟨rfl, rfl⟩) | (go_at_call_of 14 (Value.int .i64 t); refine (K2 _).mono ?_; rintro e w' ⟨rfl, rfl⟩) | (go_at_call_of 14 (Value.int .i64 o); refine (K3 _).mono ?_; rintro e w' ⟨rfl, rfl⟩))
    all_goals
      go_wp2_with (go_at_call 14; refine (K1 _).mono ?_; rintro e w' ⟨rfl, rfl⟩)
      (try simp only [Exit.inBlock, Exit.then])
      refine bodyPost_ret (v := aggE ⟨k', v', t', o', false⟩) ?_ rfl ⟨by rw [HE.out]; rfl, ?_⟩
      · exact results_cell_row (P := Try.prog) rfl _ _ (w.heap.size + 1) 41 _ (0, 0) _ rfl ((heap_alloc_old _ _ (by simp)).trans (heap_alloc2_new w _ _)) Try.underlying41 rfl (by kernel_rfl)
      · exact ⟨1, _, three_grown w _ _ _⟩
theorem entryOf_c (n : Plain.En) (hn : InE n) (w : World) :
    Calls Try.prog 35 #[aggE n] w fun e w' => e = .returned (aggE (Plain.eof n)) ∧ Below w.heap.size w w' :=
  (entryOf_g n hn w).mono fun _ _ ⟨h1, q, os, h2⟩ => ⟨h1, by rw [h2]; exact below_grow (Below.refl _ _) (Nat.le_refl _) q os⟩
end Go.Proofs.Ytcobehkadhcjiaa

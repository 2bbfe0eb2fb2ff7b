/-
  Goroutines among others: part 22 of what the law's own text rests on.
-/
import Derived.Test.YtcobehkadhcjiaaCb21
import Derived.Lib.AppendZerosOnto
import Derived.Lib.SliceRun
/-
  crew.MergeAll: slices.Grow and slices.Concat, of at most one list.
-/
namespace Go.Proofs.Ytcobehkadhcjiaa
open Go Go.Conc Go.RowKit Go.Sort Go.Shelf

set_option maxHeartbeats 2000000 in
theorem grow0_c (w : World) : Calls Try.prog 66 #[.slice none 0 0, .int .i64 0] w fun e w' => ∃ v, e = .returned v ∧ OwnN w' w.heap.size 41 v [] ∧ Below w.heap.size w w' := by
  go_enter Try.func66, Try.ntmps66
  go_wp2
  go_ret
  exact ⟨_, rfl, OwnN.nil _ _ _, Below.refl _ _⟩

set_option maxHeartbeats 4000000 in
theorem grow1_c (n : Nat) (h0 : 0 < n) (hn : n ≤ 1000) (w : World) : Calls Try.prog 66 #[.slice none 0 0, .int .i64 n] w fun e w' => ∃ v, e = .returned v ∧ OwnN w' w.heap.size 41 v [] ∧ Below w.heap.size w w' := by
  obtain ⟨i0, hi, hz0, hz1, hz2⟩ := info_parts Try.infoEntry
  have h1 : ¬ ((n : Int) < 0) := by omega
  have h4 : (n : Int) > 0 := by omega
  have hw : wrap64 (n : Int) = n := by unfold wrap64; omega
  have hrz : ∀ ty, ∃ G cs, (Builtin.append_ #[30, 3] ty #[.slice none 0 0, .int .i64 (n : Int)]).run Try.prog w = .ok (.slice (some ⟨w.heap.size, 0, none⟩) n G) (w.drew.alloc (.cells cs 41)) ∧ n ≤ G ∧ G ≤ 9223372036854775807 ∧ cs.size = G * 5 := fun ty => by
    have h := Lib.run_append_grow_zeros (P := Try.prog) w 30 3 ty 41 i0 _ .i64 .i64 Try.underlying30 Try.underlying3 hi hz0 none 0 0 [] rfl n h0 (by omega) (by omega) (by omega) (by rw [hz2]; omega)
      (by rw [Nat.zero_add]; exact growslice_fits (by omega) (by rw [hz2]; omega))
    simp only [Nat.zero_add] at h
    refine ⟨_, _, h, grownCap_ge w _ _ _, ?_, ?_⟩
    · have := grownCap_le_maxLen w n 0 41 (by unfold maxLen; omega)
      unfold maxLen at this
      exact this
    · have := grownCap_ge w n 0 41
      rw [Array.size_append, Array.size_append, size_zeroCells, size_zeroCells]
      simp only [List.size_toArray, List.length_nil, Nat.zero_add]
      rw [← Nat.add_mul]
      have e : n + (grownCap w n 0 41 - n) = grownCap w n 0 41 := by omega
      rw [e]
      rfl
  obtain ⟨G, cs, hr, hG, hG2, hcs⟩ := hrz 30
  have HH := hid hcs
  clear hrz hcs hz0 hz1 hz2 hi
  go_enter Try.func66, Try.ntmps66
  go_wp2_with (at_builtin; refine Lib.wpList_append_run _ rfl _ _ _ _ rfl _ _ rfl rfl _ _ hr ?_)
  go_ret
  refine ⟨_, rfl, ⟨rfl, .inr ⟨w.heap.size, G, cs, rfl, Nat.le_refl _, ?_, Nat.zero_le _, hG2, HH.out, rfl⟩⟩, ?_⟩
  · exact Deep.blk_alloc_new w.drew _
  · exact ((Below.refl _ _).drew).alloc (Nat.le_refl _) _
end Go.Proofs.Ytcobehkadhcjiaa

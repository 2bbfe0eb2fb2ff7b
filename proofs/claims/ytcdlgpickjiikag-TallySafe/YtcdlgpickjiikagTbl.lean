/-
  A contract of Blank.
-/
import Derived.Test.YtcdlgpickjiikagTb
import Derived.Test.YtcdlgpickjiikagTq
namespace Go.Proofs.Ytcdlgpickjiikag
open Go.RowKit Go.Sort

theorem RowI.zeros {w : World} {b n : Nat} (h : w.rowIs b 3 n (fun _ => .int .i64 0)) : RowI w b (List.replicate n 0) := by
  refine RowI.of_rowIs h (by simp) fun i hi => ?_
  rw [List.length_replicate] at hi
  rw [Plain.getD_lt _ _ _ (by simpa using hi)]
  simp
theorem made_zeros (w : World) (n : Nat) : RowI (w.alloc (.cells (madeCells #[.int .i64 0] n) 3)) w.heap.size (List.replicate n 0) :=
  RowI.zeros ((World.rowIs_made w (.int .i64 0) n 3))

theorem BI.blank (w : World) (n : Nat) (G C : Nat → Nat) :
    BI w (((w.alloc (.cells #[.slice none 0 0, .slice none 0 0] 25)).alloc (.cells (madeCells #[.int .i64 0] n) 3)).alloc (.cells #[.slice none 0 0, .slice (some ⟨w.heap.size + 1, 0, none⟩) n n] 25)) n 0 (w.heap.size + 1 + 1) w.heap.size (w.heap.size + 1) n (.slice none 0 0) G C (fun _ => List.replicate n 0) (List.replicate n 0) := by
  obtain ⟨W1, h1⟩ : ∃ W1, W1 = w.alloc (.cells #[.slice none 0 0, .slice none 0 0] 25) := ⟨_, rfl⟩
  have s1 : W1.heap.size = w.heap.size + 1 := by rw [h1]; simp
  have r1 : Res W1 w.heap.size (.slice none 0 0) (.slice none 0 0) := by rw [h1]; exact Deep.blk_alloc_new _ _
  have b1 : Below w.heap.size w W1 := by rw [h1]; exact (Below.refl _ _).alloc (Nat.le_refl _) _
  rw [← h1]
  clear h1
  obtain ⟨W2, h2⟩ : ∃ W2, W2 = W1.alloc (.cells (madeCells #[.int .i64 0] n) 3) := ⟨_, rfl⟩
  have s2 : W2.heap.size = w.heap.size + 1 + 1 := by rw [h2]; simp [s1]
  have g2 : Below W1.heap.size W1 W2 := by rw [h2]; exact (Below.refl _ _).alloc (Nat.le_refl _) _
  have r2 : RowI W2 (w.heap.size + 1) (List.replicate n 0) := by rw [h2, ← s1]; exact made_zeros W1 n
  rw [← h2]
  clear h2
  obtain ⟨W3, h3⟩ : ∃ W3, W3 = W2.alloc (.cells #[.slice none 0 0, .slice (some ⟨w.heap.size + 1, 0, none⟩) n n] 25) := ⟨_, rfl⟩
  have g3 : Below W2.heap.size W2 W3 := by rw [h3]; exact (Below.refl _ _).alloc (Nat.le_refl _) _
  have r3 : Res W3 (w.heap.size + 1 + 1) (.slice none 0 0) (.slice (some ⟨w.heap.size + 1, 0, none⟩) n n) := by rw [h3, ← s2]; exact Deep.blk_alloc_new _ _
  rw [← h3]
  clear h3
  exact ⟨(b1.trans (g2.mono (by omega))).trans (g3.mono (by omega)), ⟨rfl, .inl ⟨rfl, rfl⟩⟩, r3, (r1.below g2 r1.lt).below g3 (by omega), r2.below g3 r2.lt, by omega, by omega, by omega, by omega, fun i hi => absurd hi (Nat.not_lt_zero _), fun i hi => absurd hi (Nat.not_lt_zero _), fun i j _ hj => absurd hj (Nat.not_lt_zero _)⟩

set_option maxHeartbeats 2000000 in
theorem blank_c (n : Nat) (n1 : 1 ≤ n) (n8 : n ≤ 8) (w : World) :
    Calls Try.prog 11 #[.int .i64 n] w fun e w' => ∃ x y, e = .returned (aggT x y) ∧ HasT w' x y (Plain.blank n) ∧ Below w.heap.size w w' := by
  have hmk := run_make_row' (P := Try.prog) 23 3 (.int .i64 0) 8 Try.underlying23 Try.infoInt rfl .i64 .i64 n (by omega) (by omega)
  go_enter Try.func11, Try.ntmps11
  go_wp2
  have B0 := hid (fun G C => BI.blank w n G C)
  go_loopw [4] (fun i wr => ∃ k : Nat, k ≤ n ∧ i = .int .i64 k ∧ ∃ v G C, BI w wr n k (w.heap.size + 1 + 1) w.heap.size (w.heap.size + 1) n v G C (fun _ => List.replicate n 0) (List.replicate n 0)) (fun i _ => n - (intOf i).toNat)
  case atStart => exact ⟨0, Nat.zero_le _, rfl, _, _, _, B0.out (fun _ => 0) (fun _ => 0)⟩
  case round =>
    obtain ⟨k, hk, rfl, v, G, C, hb⟩ := hrel
    have B := hid hb
    clear hb B0
    by_cases hlt : k < n
    · have hlt' : (k : Int) < (n : Int) := by omega
      obtain ⟨v', W', ⟨p', c', rfl⟩, hrun, bx, nx⟩ := B.out.step (w1 := (wr.alloc (.cells (madeCells #[.int .i64 0] n) 3)).drew) (g := wr.heap.size) (c := n) (by omega) ((Below.refl _ _).alloc (Nat.le_refl _) _).drew ((made_zeros wr n).of_block rfl) (Nat.le_refl _)
      have hrun2 : ∀ ty, (Builtin.append_ #[22, 22] ty #[v, .slice (some ⟨wr.heap.size + 1, 0, none⟩) 1 1]).run Try.prog ((wr.alloc (.cells (madeCells #[.int .i64 0] n) 3)).alloc (.cells #[.slice (some ⟨wr.heap.size, 0, none⟩) n n] 23)).drew = .ok (.slice p' (k + 1) c') W' := fun ty => by
        have := hrun ty
        rw [show ((wr.alloc (.cells (madeCells #[.int .i64 0] n) 3)).drew).heap.size = wr.heap.size + 1 by simp] at this
        exact this
      have NX := hid nx
      have x0 := B.out.box.c0
      have x1 := B.out.box.lt
      have x4 : w.heap.size + 1 + 1 < wr.heap.size + 1 := by omega
      have d0 := bx.c0
      have d1 := bx.frozen 0
      have d2 := bx.lt
      clear hrun bx nx
      go_wp2
      go_region_law (refine step_appK rfl _ _ 22 rfl v (.slice (some ⟨wr.heap.size + 1, 0, none⟩) 1 1) (by simp [Act.eval]) (by simp [Act.eval]) (hrun2 _) ?_)
      all_goals
        clear hrun2
        go_wp2
        go_roundw
        case rel => exact ⟨k + 1, by omega, by go_num, _, _, _, NX.out⟩
        case measure => simp [intOf]; omega
    · have ek : k = n := by omega
      have hnlt : ¬ (k : Int) < (n : Int) := by omega
      subst ek
      obtain ⟨b, cb, rfl, hown, hb1, hb2⟩ := B.out.whole n1 n8 (Plain.blank k) (by simp [Plain.blank]) (fun i hi => by unfold Plain.rw; rw [Plain.getD_lt _ _ _ (by simpa [Plain.blank] using hi)]; simp [Plain.blank]) (fun i hi => by simp) rfl (by simp)
      have OW := hid hown
      have NB := hid (And.intro hb1 hb2)
      clear hown hb1 hb2
      have x0 := B.out.box.c0
      have x1 := B.out.box.c1
      have d0 := B.out.res.c0
      have d1 := B.out.res.c1
      have d2 := B.out.res.frozen 0
      have d3 := B.out.res.frozen 1
      have d4 := B.out.res.lt
      have NG := hid (show w.heap.size ≠ w.heap.size + 1 ∧ ∀ i, i < k → w.heap.size ≠ G i from ⟨by omega, fun i hi => by have := B.out.lo i hi; omega⟩)
      go_wp2
      (try simp only [Exit.inBlock, Exit.then])
      refine bodyPost_ret (v := aggT (.slice (some ⟨b, 0, none⟩) k cb) (.slice (some ⟨w.heap.size + 1, 0, none⟩) k k)) ?_ rfl ⟨_, _, rfl, (OW.out.res _ _ NB.out.2 NG.out.1 NG.out.2).has _ _, below_res B.out.bel B.out.r0⟩
      exact results_tally rfl _ _ w.heap.size _ _ rfl (B.out.res.set _ _)
end Go.Proofs.Ytcdlgpickjiikag

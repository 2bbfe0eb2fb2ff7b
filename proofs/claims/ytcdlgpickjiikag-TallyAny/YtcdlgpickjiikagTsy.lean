/-
  A contract of sameTally (keep): two tallies that hold the same.
-/
import Derived.Test.YtcdlgpickjiikagTsk
import Derived.Test.YtcdlgpickjiikagTlr
import Derived.Test.YtcdlgpickjiikagTc
namespace Go.Proofs.Ytcdlgpickjiikag
open Go.RowKit Go.Sort
namespace keep

theorem RowS.drewN {w : World} {v : Value} {l : List Int} (h : RowS w v l) (q : Nat) : RowS (w.drewN q) v l := RowS.grow h (grow_below w q #[])
set_option maxHeartbeats 800000 in
theorem tally_eq (m1 u1 m2 u2 : Value) (t : Plain.Ta) (n : Nat) (w : World) (h1 : HasT w m1 u1 t) (h2 : HasT w m2 u2 t) (s : Plain.Sq n t) :
    Calls Try.prog 15 #[aggT m1 u1, aggT m2 u2] w fun e w' => e = .returned (.bool true) ∧ Below w.heap.size w w' := by
  obtain ⟨W, hW⟩ : ∃ W, W = (w.alloc (boxT m1 u1)).alloc (boxT m2 u2) := ⟨_, rfl⟩
  have g : Below w.heap.size w W := by rw [hW]; exact ((Below.refl _ _).alloc (Nat.le_refl _) _).alloc (by simp) _
  have r1 : Res W w.heap.size m1 u1 := by
    rw [hW]
    exact (show Res (w.alloc (boxT m1 u1)) w.heap.size _ _ from Deep.blk_alloc_new _ _).below ((Below.refl _ _).alloc (Nat.le_refl _) _) (by simp)
  have r2 : Res W (w.heap.size + 1) m2 u2 := by
    rw [hW]
    have := Deep.blk_alloc_new (w.alloc (boxT m1 u1)) (boxT m2 u2)
    simp only [World.size_alloc] at this
    exact this
  obtain ⟨b1, o1, c1, v1, ou1, cu1, G1, O1, C1, rfl, rfl, hc1⟩ := h1.open s
  obtain ⟨b2, o2, c2, v2, ou2, cu2, G2, O2, C2, rfl, rfl, hc2⟩ := h2.open s
  have n1 := s.n1
  have n8 := s.n8
  have SR := hid s.r
  have H1 := hid (hc1.grow g)
  have H2 := hid (hc2.grow g)
  have HU1 := hid (h1.grow g).u
  have HU2 := hid (h2.grow g).u
  have BL := hid g
  have R1 := hid r1
  have R2 := hid r2
  clear h1 h2 g hc1 hc2 s r1 r2
  have K1 := same_eq _ _ t.used W HU1.out HU2.out
  rw [hW] at K1
  go_enter Try.func15, Try.ntmps15
  go_wp2_with fail
  refine K1.mono ?_
  rw [← hW]
  rintro e w1 ⟨rfl, q, hq⟩
  clear K1 hW
  have x0 : w1.cell? ⟨w.heap.size, 0, none⟩ = some (.slice (some ⟨b1, o1, none⟩) n c1) := by rw [hq]; simpa using R1.out.c0
  have x1 : w1.cell? ⟨w.heap.size + 1, 0, none⟩ = some (.slice (some ⟨b2, o2, none⟩) n c2) := by rw [hq]; simpa using R2.out.c0
  have HQ := hid hq
  clear hq
  go_wp2
  clear x0 x1
  go_loopw [5] (fun i wr => ∃ k q : Nat, k ≤ n ∧ i = .int .i64 k ∧ wr = W.drewN q) (fun i _ => n - (intOf i).toNat)
  case atStart => exact ⟨0, q, Nat.zero_le _, rfl, HQ.out⟩
  case round =>
    obtain ⟨k, q, hk, rfl, hw⟩ := hrel
    have HW := hid hw
    have x0 : wr.cell? ⟨w.heap.size, 0, none⟩ = some (.slice (some ⟨b1, o1, none⟩) n c1) := by rw [hw]; simpa using R1.out.c0
    have x1 : wr.cell? ⟨w.heap.size + 1, 0, none⟩ = some (.slice (some ⟨b2, o2, none⟩) n c2) := by rw [hw]; simpa using R2.out.c0
    clear hw
    by_cases hlt : k < n
    · have g1 : wr.cell? ⟨b1, o1 + k, none⟩ = some (.slice (some ⟨G1 k, O1 k, none⟩) n (C1 k)) := by rw [HW.out]; simpa using H1.out.c k hlt
      have g2 : wr.cell? ⟨b2, o2 + k, none⟩ = some (.slice (some ⟨G2 k, O2 k, none⟩) n (C2 k)) := by rw [HW.out]; simpa using H2.out.c k hlt
      have hlt' : (k : Int) < (n : Int) := by omega
      have K := fun q => same_two (G1 k) (O1 k) (C1 k) (G2 k) (O2 k) (C2 k) n (Plain.rw t k) (by omega) (wr.drewN q) (fun j hj => by rw [HW.out, World.drewN_drewN]; exact H1.out.m k j hlt hj) (fun j hj => by rw [HW.out, World.drewN_drewN]; exact H2.out.m k j hlt hj)
      go_wp2
      go_quiet ((go_at_call 29; exact Calls.quiet_of (K _)))
      go_wp2
      go_roundw
      case rel => exact ⟨k + 1, _, by omega, by go_num, by rw [HW.out, World.drewN_drewN]⟩
      case measure => simp [intOf]; omega
    · have ek : k = n := by omega
      have hnlt : ¬ (k : Int) < (n : Int) := by omega
      have B2 := hid (show Below w.heap.size w wr from BL.out.trans (by rw [HW.out]; exact (grow_below W q #[]).mono BL.out.size))
      clear ek
      go_wp2
      go_ret
      exact ⟨rfl, B2.out⟩
end keep
end Go.Proofs.Ytcdlgpickjiikag

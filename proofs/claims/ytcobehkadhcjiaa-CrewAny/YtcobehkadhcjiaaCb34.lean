/-
  Goroutines among others: part 34 of what the law's own text rests on.
-/
import Derived.Test.YtcobehkadhcjiaaCb15
import Derived.Deep.QuietTactic
import Derived.BigQuiet
/-
  A contract of sameEntries (keep): two slices that hold the same entries.
-/
namespace Go.Proofs.Ytcobehkadhcjiaa
open Go.RowKit
namespace keep

set_option maxHeartbeats 400000 in
theorem same_nil (p1 p2 : Option Addr) (c1 c2 : Nat) (w : World) :
    Calls Try.prog 15 #[.slice p1 0 c1, .slice p2 0 c2] w fun e w' => e = .returned (.bool true) ∧ ∃ q, w' = w.drewN q := by
  go_enter Try.func15, Try.ntmps15
  go_wp2
  refine wp_loop_rounds 1 ?_
  rw [rounds_succ]
  go_wp2
  go_ret
  exact ⟨rfl, 0, rfl⟩

set_option maxHeartbeats 2000000 in
theorem same_two (b1 o1 c1 b2 o2 c2 n : Nat) (l : List Plain.En) (hn : l.length = n) (hl : n ≤ 1000) (w : World) (h1 : CellsN w b1 o1 l) (h2 : CellsN w b2 o2 l) :
    Calls Try.prog 15 #[.slice (some ⟨b1, o1, none⟩) n c1, .slice (some ⟨b2, o2, none⟩) n c2] w fun e w' => e = .returned (.bool true) ∧ ∃ q, w' = w.drewN q := by
  have H1 := hid h1
  have H2 := hid h2
  have HN := hid hn
  clear h1 h2 hn
  have gd := Try.guardEntry
  go_enter Try.func15, Try.ntmps15
  go_wp2
  go_loopw [5] (fun i wr => ∃ k q : Nat, k ≤ n ∧ i = .int .i64 k ∧ wr = w.drewN q) (fun i _ => n - (intOf i).toNat)
  case atStart => exact ⟨0, 0, Nat.zero_le _, rfl, rfl⟩
  case round =>
    obtain ⟨k, q, hk, rfl, hw⟩ := hrel
    have HW := hid hw
    clear hw
    by_cases hlt : k < n
    · have hlt' : (k : Int) < (n : Int) := by omega
      have H3 := hid (H1.out k (by rw [HN.out]; exact hlt))
      have H4 := hid (H2.out k (by rw [HN.out]; exact hlt))
      have x0 : wr.cell? ⟨b1, o1 + k * 5, none⟩ = some (.int .i64 (Plain.en l k).key) := by rw [HW.out]; simpa using H3.out.c0
      have x1 : wr.cell? ⟨b1, o1 + k * 5 + 1, none⟩ = some (.int .i64 (Plain.en l k).value) := by rw [HW.out]; simpa using H3.out.c1
      have x2 : wr.cell? ⟨b1, o1 + k * 5 + 2, none⟩ = some (.int .i64 (Plain.en l k).time) := by rw [HW.out]; simpa using H3.out.c2
      have x3 : wr.cell? ⟨b1, o1 + k * 5 + 3, none⟩ = some (.int .i64 (Plain.en l k).who) := by rw [HW.out]; simpa using H3.out.c3
      have x4 : wr.cell? ⟨b1, o1 + k * 5 + 4, none⟩ = some (.bool (Plain.en l k).gone) := by rw [HW.out]; simpa using H3.out.c4
      have y0 : wr.cell? ⟨b2, o2 + k * 5, none⟩ = some (.int .i64 (Plain.en l k).key) := by rw [HW.out]; simpa using H4.out.c0
      have y1 : wr.cell? ⟨b2, o2 + k * 5 + 1, none⟩ = some (.int .i64 (Plain.en l k).value) := by rw [HW.out]; simpa using H4.out.c1
      have y2 : wr.cell? ⟨b2, o2 + k * 5 + 2, none⟩ = some (.int .i64 (Plain.en l k).time) := by rw [HW.out]; simpa using H4.out.c2
      have y3 : wr.cell? ⟨b2, o2 + k * 5 + 3, none⟩ = some (.int .i64 (Plain.en l k).who) := by rw [HW.out]; simpa using H4.out.c3
      have y4 : wr.cell? ⟨b2, o2 + k * 5 + 4, none⟩ = some (.bool (Plain.en l k).gone) := by rw [HW.out]; simpa using H4.out.c4
      have hne := fun w => neqE (Plain.en l k) (Plain.en l k) w
      have eb : (Plain.en l k != Plain.en l k) = false := by simp
      rw [eb] at hne
      clear H3 H4 eb
      generalize Plain.en l k = z at x0 x1 x2 x3 x4 y0 y1 y2 y3 y4 hne
      obtain ⟨zk, zv, zt, zo, zg⟩ := z
      dsimp only at x0 x1 x2 x3 x4 y0 y1 y2 y3 y4 hne
      go_wp2
      go_quiet (fail)
      go_wp2
      go_roundw
      case rel => exact ⟨k + 1, _, by omega, by go_num, by rw [HW.out, World.drewN_drewN]⟩
      case measure => simp [intOf]; omega
    · have ek : k = n := by omega
      subst ek
      go_wp2
      go_ret
      exact ⟨rfl, _, HW.out⟩

theorem same_any (v1 v2 : Value) (l : List Plain.En) (hl : l.length ≤ 1000) (w : World) (h1 : SegN w v1 l) (h2 : SegN w v2 l) :
    Calls Try.prog 15 #[v1, v2] w fun e w' => e = .returned (.bool true) ∧ ∃ q, w' = w.drewN q := by
  by_cases h0 : 0 < l.length
  · obtain ⟨b1, o1, c1, rfl, _, k1⟩ := h1.some h0
    obtain ⟨b2, o2, c2, rfl, _, k2⟩ := h2.some h0
    exact same_two b1 o1 c1 b2 o2 c2 l.length l rfl hl w k1 k2
  · obtain rfl : l = [] := List.length_eq_zero_iff.1 (by omega)
    obtain ⟨p1, c1, rfl, _⟩ := h1.form
    obtain ⟨p2, c2, rfl, _⟩ := h2.form
    exact same_nil p1 p2 c1 c2 w
end keep
end Go.Proofs.Ytcobehkadhcjiaa

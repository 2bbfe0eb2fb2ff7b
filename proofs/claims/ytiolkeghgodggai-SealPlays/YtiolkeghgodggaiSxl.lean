/-
  A contract of sameBytes: it returns true of two slices that hold the same bytes.
-/
import Derived.Test.YtiolkeghgodggaiS2
namespace Go.Proofs.Ytiolkeghgodggai.Se
open Go.RowKit Go.Shelf

set_option maxHeartbeats 400000 in
theorem sameB_nil (p1 p2 : Option Addr) (c1 c2 : Nat) (w : World) :
    Calls Try.prog 15 #[.slice p1 0 c1, .slice p2 0 c2] w fun e w' => e = .returned (.bool true) ∧ ∃ q, w' = w.drewN q := by
  go_enter Try.func15, Try.ntmps15
  go_wp2
  refine wp_loop_rounds 1 ?_
  rw [rounds_succ]
  go_wp2
  go_ret
  exact ⟨rfl, 0, rfl⟩

set_option maxHeartbeats 400000 in
theorem sameB_two (b1 o1 c1 b2 o2 c2 n : Nat) (l : List Int) (hn : l.length = n) (hl : n ≤ 9223372036854775807) (w : World)
    (h1 : ∀ j, j < l.length → w.cell? ⟨b1, o1 + j, none⟩ = some (.int .u8 (l.getD j 0)))
    (h2 : ∀ j, j < l.length → w.cell? ⟨b2, o2 + j, none⟩ = some (.int .u8 (l.getD j 0))) :
    Calls Try.prog 15 #[.slice (some ⟨b1, o1, none⟩) n c1, .slice (some ⟨b2, o2, none⟩) n c2] w fun e w' => e = .returned (.bool true) ∧ ∃ q, w' = w.drewN q := by
  have H1 := hid h1
  have H2 := hid h2
  have HN := hid hn
  clear h1 h2 hn
  go_enter Try.func15, Try.ntmps15
  go_wp2
  go_loopw [5] (fun i wr => ∃ k q : Nat, k ≤ n ∧ i = .int .i64 k ∧ wr = w.drewN q) (fun i _ => n - (intOf i).toNat)
  case atStart => exact ⟨0, 0, Nat.zero_le _, rfl, rfl⟩
  case round =>
    obtain ⟨k, q, hk, rfl, rfl⟩ := hrel
    by_cases hlt : k < n
    · have g1 := H1.out k (by rw [HN.out]; exact hlt)
      have g2 := H2.out k (by rw [HN.out]; exact hlt)
      have hlt' : (k : Int) < (n : Int) := by omega
      generalize l.getD k 0 = x at g1 g2
      have hx : (x != x) = false := by simp
      go_wp2
      go_quiet (fail)
      go_wp2
      go_roundw
      case rel => exact ⟨k + 1, _, by omega, by go_num, rfl⟩
      case measure => simp [intOf]; omega
    · go_wp2
      go_ret
      exact ⟨rfl, _, rfl⟩

theorem sameB_any {B1 B2 n : Nat} {p1 p2 : Option Addr} {c1 c2 : Nat} {l : List Int} (w : World) (hn : l.length = n) (h1 : By B1 w p1 c1 l) (h2 : By B2 w p2 c2 l) :
    Calls Try.prog 15 #[.slice p1 n c1, .slice p2 n c2] w fun e w' => e = .returned (.bool true) ∧ ∃ q, w' = w.drewN q := by
  by_cases h0 : 0 < l.length
  · obtain ⟨b1, o1, rfl, _, _, g1⟩ := h1.cl h0
    obtain ⟨b2, o2, rfl, _, _, g2⟩ := h2.cl h0
    exact sameB_two b1 o1 c1 b2 o2 c2 n l hn (by have := h1.le; have := h1.cm; omega) w g1 g2
  · have e : n = 0 := by omega
    subst e
    exact sameB_nil p1 p2 c1 c2 w
end Go.Proofs.Ytiolkeghgodggai.Se

/-
  A contract of sameInts: it returns true of two slices that hold the same numbers.
-/
import Derived.Test.YtkmnofmhjoehialSeg
import Derived.Deep.QuietTactic
import Derived.BigQuiet
namespace Go.Proofs.Ytkmnofmhjoehial
open Go.RowKit

set_option maxHeartbeats 400000 in
theorem same_nil (p1 p2 : Option Addr) (c1 c2 : Nat) (w : World) :
    Calls Try.prog 16 #[.slice p1 0 c1, .slice p2 0 c2] w fun e w' => e = .returned (.bool true) ∧ ∃ q, w' = w.drewN q := by
  go_enter Try.func16, Try.ntmps16
  go_wp2
  refine wp_loop_rounds 1 ?_
  rw [rounds_succ]
  go_wp2
  go_ret
  exact ⟨rfl, 0, rfl⟩

set_option maxHeartbeats 400000 in
theorem same_two (b1 o1 c1 b2 o2 c2 : Nat) (l : List Int) (hl : l.length ≤ 1000000) (w : World)
    (h1 : ∀ j, j < l.length → w.cell? ⟨b1, o1 + j, none⟩ = some (.int .i64 (l.getD j 0)))
    (h2 : ∀ j, j < l.length → w.cell? ⟨b2, o2 + j, none⟩ = some (.int .i64 (l.getD j 0))) :
    Calls Try.prog 16 #[.slice (some ⟨b1, o1, none⟩) l.length c1, .slice (some ⟨b2, o2, none⟩) l.length c2] w fun e w' => e = .returned (.bool true) ∧ ∃ q, w' = w.drewN q := by
  have H1 : Hid _ := h1
  have H2 : Hid _ := h2
  clear h1 h2
  go_enter Try.func16, Try.ntmps16
  go_wp2
  go_loopw [5] (fun i wr => ∃ k q : Nat, k ≤ l.length ∧ i = .int .i64 k ∧ wr = w.drewN q) (fun i _ => l.length - (intOf i).toNat)
  case atStart => exact ⟨0, 0, Nat.zero_le _, rfl, rfl⟩
  case round =>
    obtain ⟨k, q, hk, rfl, rfl⟩ := hrel
    by_cases hlt : k < l.length
    · have g1 := H1.out k hlt
      have g2 := H2.out k hlt
      have hlt' : (k : Int) < (l.length : Int) := by omega
      go_wp2
      go_quiet (fail)
      go_wp2
      go_roundw
      case rel => exact ⟨k + 1, _, by omega, by go_num, rfl⟩
      case measure => simp [intOf]; omega
    · go_wp2
      go_ret
      exact ⟨rfl, _, rfl⟩

theorem same_any (v1 v2 : Value) (l : List Int) (hl : l.length ≤ 1000000) (w : World) (h1 : Seg w v1 l) (h2 : Seg w v2 l) :
    Calls Try.prog 16 #[v1, v2] w fun e w' => e = .returned (.bool true) ∧ ∃ q, w' = w.drewN q := by
  rcases h1 with ⟨rfl, p1, c1, rfl⟩ | ⟨b1, o1, c1, rfl, g1⟩
  · rcases h2 with ⟨_, p2, c2, rfl⟩ | ⟨b2, o2, c2, rfl, _⟩
    · exact same_nil p1 p2 c1 c2 w
    · exact same_nil p1 _ c1 c2 w
  · rcases h2 with ⟨rfl, p2, c2, rfl⟩ | ⟨b2, o2, c2, rfl, g2⟩
    · exact same_nil _ p2 c1 c2 w
    · exact same_two b1 o1 c1 b2 o2 c2 l hl w g1 g2


theorem wf_u8 (n : Int) (h : (Lit.int .u8 n).wf = true) : 0 ≤ n ∧ n < 256 := by
  have := bounds_u8 h
  omega

/-- What a proof's frame says of a slice of bytes that came in, as a list. -/
theorem row_segB {w : World} {a : Option Addr} {len cap : Nat} {zs : List Int}
    (h : (a = none ∧ len = 0 ∧ cap = 0 ∧ zs = []) ∨
      ∃ x, a = some x ∧ len ≤ cap ∧ cap ≤ maxLen ∧ zs.length = cap ∧ (∀ i, i < zs.length → w.cell? (x.add i) = some (.int .u8 (zs.getD i 0))) ∧ ∀ n ∈ zs, (Lit.int .u8 n).wf = true) :
    ∃ l : List Nat, l.length = len ∧ len ≤ cap ∧ cap ≤ 9223372036854775807 ∧ (∀ n ∈ l, n < 256) ∧ Lies w.heap.size (.slice a len cap) ∧ SegB w (.slice a len cap) l := by
  obtain ⟨l, h1, h2, h3, h4, h5, h6⟩ := row_list h
  refine ⟨l.map Int.toNat, by rw [List.length_map]; exact h1, h2, h3, ?_, h5, ?_⟩
  · intro n hn
    obtain ⟨x, hx, rfl⟩ := List.mem_map.1 hn
    have := wf_u8 x (h4 x hx)
    omega
  · subst h1
    rcases h6 with ⟨rfl, _⟩ | ⟨b, off, rfl, hc⟩
    · exact .inl ⟨rfl, _, _, rfl⟩
    · refine .inr ⟨b, off, cap, by rw [List.length_map], fun j hj => ?_⟩
      rw [List.length_map] at hj
      rw [hc j hj]
      have hw := wf_u8 (l.getD j 0) (h4 _ (by rw [List.getD_eq_getElem?_getD, List.getElem?_eq_getElem hj]; exact List.getElem_mem hj))
      have e : (l.map Int.toNat).getD j 0 = (l.getD j 0).toNat := by simp [List.getD_eq_getElem?_getD, List.getElem?_eq_getElem hj]
      rw [e, Int.toNat_of_nonneg hw.1]
end Go.Proofs.Ytkmnofmhjoehial

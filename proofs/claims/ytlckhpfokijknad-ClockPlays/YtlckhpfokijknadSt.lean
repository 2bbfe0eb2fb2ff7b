/-
  A contract of sameTable (law): two tables that hold the same rows.
-/
import Derived.Test.YtlckhpfokijknadSil
import Derived.Test.YtlckhpfokijknadPl
namespace Go.Proofs.Ytlckhpfokijknad
open Go.RowKit

theorem heap_drewN (w : World) (q : Nat) : (w.drewN q).heap = w.heap := by
  unfold World.drewN; rfl
theorem RowI.drewN {w : World} {b : Nat} {l : List Int} (h : RowI w b l) (q : Nat) : RowI (w.drewN q) b l := h.of_block (by rw [heap_drewN])
/-- The table v holds the rows cs, each of n numbers. -/
def TabZ (w : World) (v : Value) (n : Nat) (cs : List (List Int)) : Prop := (cs = [] ∧ ∃ p cap, v = .slice p 0 cap) ∨ Tab w v n cs
theorem TabZ.below {w w' : World} {v : Value} {n : Nat} {cs : List (List Int)} (h : TabZ w v n cs) (b : Below w.heap.size w w') : TabZ w' v n cs := by
  rcases h with h | h
  · exact .inl h
  · exact .inr (h.below b)
namespace law

theorem same_row (g1 g2 c1 c2 n : Nat) (a : List Int) (ha : a.length = n) (hl : n ≤ 8) (w : World) (h1 : RowI w g1 a) (h2 : RowI w g2 a) :
    Calls Try.prog 13 #[.slice (some ⟨g1, 0, none⟩) n c1, .slice (some ⟨g2, 0, none⟩) n c2] w fun e w' => e = .returned (.bool true) ∧ ∃ q, w' = w.drewN q := by
  have s1 := h1.seg c1
  have s2 := h2.seg c2
  rw [ha] at s1 s2
  have := same_any _ _ a a (by omega) w s1 s2
  rwa [decide_eq_true rfl] at this

set_option maxHeartbeats 400000 in
theorem table_nil (p1 p2 : Option Addr) (c1 c2 : Nat) (w : World) :
    Calls Try.prog 18 #[.slice p1 0 c1, .slice p2 0 c2] w fun e w' => e = .returned (.bool true) ∧ ∃ q, w' = w.drewN q := by
  go_enter Try.func18, Try.ntmps18
  go_wp2
  refine wp_loop_rounds 1 ?_
  rw [rounds_succ]
  go_wp2
  go_ret
  exact ⟨rfl, 0, rfl⟩

set_option maxHeartbeats 800000 in
theorem table_two (b1 c1 b2 c2 n m : Nat) (cs : List (List Int)) (hl : m ≤ 200) (hn : n ≤ 8) (w : World)
    (h1 : ∀ j, j < m → ∃ g c, w.cell? ⟨b1, j, none⟩ = some (.slice (some ⟨g, 0, none⟩) n c) ∧ RowI w g (cs.getD j []) ∧ (cs.getD j []).length = n)
    (h2 : ∀ j, j < m → ∃ g c, w.cell? ⟨b2, j, none⟩ = some (.slice (some ⟨g, 0, none⟩) n c) ∧ RowI w g (cs.getD j []) ∧ (cs.getD j []).length = n) :
    Calls Try.prog 18 #[.slice (some ⟨b1, 0, none⟩) m c1, .slice (some ⟨b2, 0, none⟩) m c2] w fun e w' => e = .returned (.bool true) ∧ ∃ q, w' = w.drewN q := by
  have H1 := hid h1
  have H2 := hid h2
  clear h1 h2
  go_enter Try.func18, Try.ntmps18
  go_wp2
  go_loopw [5] (fun i wr => ∃ k q : Nat, k ≤ m ∧ i = .int .i64 k ∧ wr = w.drewN q) (fun i _ => m - (intOf i).toNat)
  case atStart => exact ⟨0, 0, Nat.zero_le _, rfl, rfl⟩
  case round =>
    obtain ⟨k, q, hk, rfl, hw⟩ := hrel
    have HW := hid hw
    clear hw
    by_cases hlt : k < m
    · obtain ⟨x1, d1, e1, r1, n1⟩ := H1.out k hlt
      obtain ⟨x2, d2, e2, r2, n2⟩ := H2.out k hlt
      have g1 : wr.cell? ⟨b1, k, none⟩ = some (.slice (some ⟨x1, 0, none⟩) n d1) := by rw [HW.out]; simpa using e1
      have g2 : wr.cell? ⟨b2, k, none⟩ = some (.slice (some ⟨x2, 0, none⟩) n d2) := by rw [HW.out]; simpa using e2
      have R1 := hid (show RowI wr x1 (cs.getD k []) by rw [HW.out]; exact r1.drewN q)
      have R2 := hid (show RowI wr x2 (cs.getD k []) by rw [HW.out]; exact r2.drewN q)
      have N1 := hid n1
      clear e1 e2 r1 r2 n1 n2
      have hlt' : (k : Int) < (m : Int) := by omega
      have K := fun q => same_row x1 x2 d1 d2 n _ N1.out hn (wr.drewN q) (R1.out.drewN q) (R2.out.drewN q)
      go_wp2
      go_quiet ((go_at_call 13; exact Calls.quiet_of (K _)))
      go_wp2
      go_roundw
      case rel => exact ⟨k + 1, _, by omega, by go_num, by rw [HW.out, drewN_add]⟩
      case measure => simp [intOf]; omega
    · have ek : k = m := by omega
      subst ek
      go_wp2
      go_ret
      exact ⟨rfl, _, HW.out⟩

theorem table_any (u v : Value) (n : Nat) (cs : List (List Int)) (hl : cs.length ≤ 200) (hn : cs ≠ [] → n ≤ 8) (w : World) (h1 : TabZ w u n cs) (h2 : TabZ w v n cs) :
    Calls Try.prog 18 #[u, v] w fun e w' => e = .returned (.bool true) ∧ ∃ q, w' = w.drewN q := by
  have z : ∀ x, TabZ w x n cs → cs = [] → ∃ p c, x = .slice p 0 c := by
    intro x h e
    rcases h with ⟨_, h⟩ | ⟨bc, cap, rfl, _, _⟩
    · exact h
    · subst e; exact ⟨_, _, rfl⟩
  by_cases h0 : cs = []
  · obtain ⟨p1, c1, rfl⟩ := z u h1 h0
    obtain ⟨p2, c2, rfl⟩ := z v h2 h0
    exact table_nil p1 p2 c1 c2 w
  · rcases h1 with ⟨h, _⟩ | ⟨b1, c1, rfl, _, g1⟩
    · exact absurd h h0
    rcases h2 with ⟨h, _⟩ | ⟨b2, c2, rfl, _, g2⟩
    · exact absurd h h0
    exact table_two b1 c1 b2 c2 n cs.length cs hl (hn h0) w g1 g2
end law
end Go.Proofs.Ytlckhpfokijknad

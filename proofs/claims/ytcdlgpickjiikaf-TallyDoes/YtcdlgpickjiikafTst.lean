/-
  Contracts of sameTable and sameTally (law): two tallies that hold the same.
-/
import Derived.Test.YtcdlgpickjiikafTsl
import Derived.Test.YtcdlgpickjiikafTlr
namespace Go.Proofs.Ytcdlgpickjiikaf
open Go.RowKit Go.Sort
namespace law

set_option maxHeartbeats 400000 in
theorem table_nil (p1 p2 : Option Addr) (c1 c2 : Nat) (w : World) :
    Calls Try.prog 40 #[.slice p1 0 c1, .slice p2 0 c2] w fun e w' => e = .returned (.bool true) ∧ ∃ q, w' = w.drewN q := by
  go_enter Try.func40, Try.ntmps40
  go_wp2
  refine wp_loop_rounds 1 ?_
  rw [rounds_succ]
  go_wp2
  go_ret
  exact ⟨rfl, 0, rfl⟩

theorem RowS.drewN {w : World} {v : Value} {l : List Int} (h : RowS w v l) (q : Nat) : RowS (w.drewN q) v l := RowS.grow h (grow_below w q #[])
set_option maxHeartbeats 800000 in
theorem table_two (b1 o1 c1 b2 o2 c2 m : Nat) (M : List (List Int)) (hl : m ≤ 9223372036854775807) (w : World)
    (h1 : ∀ j, j < m → ∃ r, w.cell? ⟨b1, o1 + j, none⟩ = some r ∧ RowS w r (M.getD j []))
    (h2 : ∀ j, j < m → ∃ r, w.cell? ⟨b2, o2 + j, none⟩ = some r ∧ RowS w r (M.getD j [])) :
    Calls Try.prog 40 #[.slice (some ⟨b1, o1, none⟩) m c1, .slice (some ⟨b2, o2, none⟩) m c2] w fun e w' => e = .returned (.bool true) ∧ ∃ q, w' = w.drewN q := by
  have H1 := hid h1
  have H2 := hid h2
  clear h1 h2
  go_enter Try.func40, Try.ntmps40
  go_wp2
  go_loopw [5] (fun i wr => ∃ k q : Nat, k ≤ m ∧ i = .int .i64 k ∧ wr = w.drewN q) (fun i _ => m - (intOf i).toNat)
  case atStart => exact ⟨0, 0, Nat.zero_le _, rfl, rfl⟩
  case round =>
    obtain ⟨k, q, hk, rfl, hw⟩ := hrel
    have HW := hid hw
    clear hw
    by_cases hlt : k < m
    · obtain ⟨x1, e1, r1⟩ := H1.out k hlt
      obtain ⟨x2, e2, r2⟩ := H2.out k hlt
      have g1 : wr.cell? ⟨b1, o1 + k, none⟩ = some x1 := by rw [HW.out]; simpa using e1
      have g2 : wr.cell? ⟨b2, o2 + k, none⟩ = some x2 := by rw [HW.out]; simpa using e2
      have R1 := hid (show RowS wr x1 (M.getD k []) by rw [HW.out]; exact RowS.drewN r1 q)
      have R2 := hid (show RowS wr x2 (M.getD k []) by rw [HW.out]; exact RowS.drewN r2 q)
      obtain ⟨p1, d1, rfl, _⟩ := R1.out.form
      obtain ⟨p2, d2, rfl, _⟩ := R2.out.form
      clear e1 e2 r1 r2
      have hlt' : (k : Int) < (m : Int) := by omega
      have K := fun q => same_eq _ _ _ (wr.drewN q) (RowS.drewN R1.out q) (RowS.drewN R2.out q)
      go_wp2
      go_quiet ((go_at_call 39; exact Calls.quiet_of (K _)))
      go_wp2
      go_roundw
      case rel => exact ⟨k + 1, _, by omega, by go_num, by rw [HW.out, World.drewN_drewN]⟩
      case measure => simp [intOf]; omega
    · have ek : k = m := by omega
      subst ek
      go_wp2
      go_ret
      exact ⟨rfl, _, HW.out⟩
theorem table_eq (u v : Value) (M : List (List Int)) (w : World) (h1 : TabS w u M) (h2 : TabS w v M) :
    Calls Try.prog 40 #[u, v] w fun e w' => e = .returned (.bool true) ∧ ∃ q, w' = w.drewN q := by
  obtain ⟨hm, p1, c1, rfl, g1⟩ := h1
  obtain ⟨_, p2, c2, rfl, g2⟩ := h2
  by_cases h0 : M = []
  · subst h0
    exact table_nil p1 p2 c1 c2 w
  · have h3 : 0 < M.length := List.length_pos_iff.2 h0
    obtain ⟨b1, o1, rfl, _, k1⟩ := g1 h3
    obtain ⟨b2, o2, rfl, _, k2⟩ := g2 h3
    exact table_two b1 o1 c1 b2 o2 c2 M.length M hm w k1 k2

set_option maxHeartbeats 800000 in
theorem tally_eq (m1 u1 m2 u2 : Value) (t : Plain.Ta) (w : World) (h1 : HasT w m1 u1 t) (h2 : HasT w m2 u2 t) :
    Calls Try.prog 22 #[aggT m1 u1, aggT m2 u2] w fun e w' => e = .returned (.bool true) ∧ Below w.heap.size w w' := by
  obtain ⟨W, hW⟩ : ∃ W, W = (w.alloc (boxT m1 u1)).alloc (boxT m2 u2) := ⟨_, rfl⟩
  have g : Below w.heap.size w W := by rw [hW]; exact ((Below.refl _ _).alloc (Nat.le_refl _) _).alloc (by simp) _
  have H1 := hid (h1.grow g)
  have H2 := hid (h2.grow g)
  have BL := hid g
  clear h1 h2 g
  have K1 := same_eq u1 u2 t.used W H1.out.u H2.out.u
  rw [hW] at K1
  go_enter Try.func22, Try.ntmps22
  go_wp2_with fail
  refine K1.mono ?_
  rw [← hW]
  rintro e w1 ⟨rfl, q, hq⟩
  clear K1
  have B1 := hid (show Below W.heap.size W w1 by rw [hq]; exact grow_below W q #[])
  have x0 : w1.cell? ⟨w.heap.size, 0, none⟩ = some m1 := by
    rw [hq, hW]
    simp
  have x1 : w1.cell? ⟨w.heap.size + 1, 0, none⟩ = some m2 := by
    rw [hq, hW]
    simp
  clear hq hW
  go_wp2_with fail
  refine (table_eq m1 m2 t.moves w1 (H1.out.grow B1.out).m (H2.out.grow B1.out).m).mono ?_
  rintro e w2 ⟨rfl, q2, hq2⟩
  have B2 := hid (show Below w.heap.size w w2 from (BL.out.trans (B1.out.mono BL.out.size)).trans (by rw [hq2]; exact (grow_below w1 q2 #[]).mono (Nat.le_trans BL.out.size B1.out.size)))
  clear hq2 x0 x1
  go_wp2
  go_ret
  exact ⟨rfl, B2.out⟩
end law
end Go.Proofs.Ytcdlgpickjiikaf

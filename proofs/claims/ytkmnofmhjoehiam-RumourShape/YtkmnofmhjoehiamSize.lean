/-
  Contracts of wire.Size and of the document's answer to it.
-/
import Derived.Test.YtkmnofmhjoehiamSeg
namespace Go.Proofs.Ytkmnofmhjoehiam
open Go.RowKit

theorem ret_two {k1 k2 : IntKind} {a b c d : Int} (h : a = c) (h' : b = d) : Ending.returned (.tuple #[.int k1 a, .int k2 b]) = .returned (.tuple #[.int k1 c, .int k2 d]) := by rw [h, h']

set_option maxHeartbeats 400000 in
theorem size_nil (p : Option Addr) (cap : Nat) (w : World) :
    Calls Try.prog 50 #[.slice p 0 cap] w fun e w' => e = .returned (.tuple #[.int .i64 (Plain.szN [] : Nat), .int .i64 (Plain.szE [] : Nat)]) ∧ w' = w := by
  go_enter Try.func50, Try.ntmps50
  go_wp2
  refine wp_loop_rounds 1 ?_
  rw [rounds_succ]
  go_wp2
  go_ret2
  exact ⟨rfl, rfl⟩

set_option maxHeartbeats 400000 in
theorem size_long (a : Addr) (n cap : Nat) (ws : List Int) (hn : ws.length = n) (hl : 40 < n) (hm : n ≤ 9223372036854775807) (w : World) :
    Calls Try.prog 50 #[.slice (some a) n cap] w fun e w' => e = .returned (.tuple #[.int .i64 (Plain.szN ws : Nat), .int .i64 (Plain.szE ws : Nat)]) ∧ w' = w := by
  have H := hid (Plain.sz_long ws (by omega))
  clear hn
  have hl' : (40 : Int) < (n : Int) := by omega
  go_enter Try.func50, Try.ntmps50
  go_wp2
  go_ret2
  exact ⟨ret_two (by rw [H.out.2]; rfl) (by rw [H.out.1]; rfl), rfl⟩

set_option maxHeartbeats 1000000 in
theorem size_short (b off cap : Nat) (ws : List Int) (hl : ws.length ≤ 40) (w : World)
    (h : ∀ j, j < ws.length → w.cell? ⟨b, off + j, none⟩ = some (.int .i64 (ws.getD j 0))) :
    Calls Try.prog 50 #[.slice (some ⟨b, off, none⟩) ws.length cap] w fun e w' => e = .returned (.tuple #[.int .i64 (Plain.szN ws : Nat), .int .i64 (Plain.szE ws : Nat)]) ∧ w' = w := by
  have H := hid h
  clear h
  go_enter Try.func50, Try.ntmps50
  go_wp2
  go_loop [4, 12] (fun s i => ∃ k : Nat, k ≤ ws.length ∧ i = .int .i64 k ∧ s = .int .i64 (Plain.bitsN (ws.take k) : Nat) ∧ (ws.take k).all Plain.okW = true) (fun _ i => ws.length - (intOf i).toNat)
  case atStart => exact ⟨0, Nat.zero_le _, rfl, rfl, rfl⟩
  case round =>
    obtain ⟨k, hk, rfl, rfl, hall⟩ := hrel
    have HA := hid hall
    have hB := Plain.bitsN_le _ hall
    rw [List.length_take] at hB
    have hB' : Plain.bitsN (ws.take k) ≤ 2400 := by omega
    clear hall hB
    by_cases hlt : k < ws.length
    · have g := H.out k hlt
      have hlt' : (k : Int) < (ws.length : Int) := by omega
      have hs := Plain.bitsN_take ws k hlt
      obtain ⟨x, hx⟩ : ∃ x, x = ws.getD k 0 := ⟨_, rfl⟩
      rw [← hx] at g hs
      have HX := hid hx
      have HS := hid hs
      clear hx hs
      generalize hn : Plain.bitsN (ws.take k) = m at hB'
      have HN := hid hn
      clear hn
      by_cases c : 1 ≤ x ∧ x ≤ 60
      · obtain ⟨c1, c2⟩ := c
        go_wp2
        go_round
        case rel => exact ⟨k + 1, by omega, by go_num, by rw [HS.out, HN.out]; have : ((x.toNat : Nat) : Int) = x := Int.toNat_of_nonneg (by omega); go_num, Plain.all_take _ ws 0 k hlt HA.out (by rw [← HX.out]; exact (Plain.okW_iff x).2 ⟨c1, c2⟩)⟩
        case measure => simp [intOf]; omega
      · have HF := hid (Plain.sz_no ws hl (Plain.all_no Plain.okW ws 0 k hlt (by rw [← HX.out]; exact (Plain.okW_no x).2 c)))
        by_cases c1 : x < 1
        · clear c
          go_wp2
          go_ret2
          exact ⟨ret_two (by rw [HF.out.2]; rfl) (by rw [HF.out.1]; rfl), rfl⟩
        · have c2 : 60 < x := by omega
          have c1' : 1 ≤ x := by omega
          clear c c1
          go_wp2
          go_ret2
          exact ⟨ret_two (by rw [HF.out.2]; rfl) (by rw [HF.out.1]; rfl), rfl⟩
    · have ek : k = ws.length := by omega
      subst ek
      have HF := hid (Plain.sz_yes ws hl (by have := HA.out; rwa [List.take_length] at this))
      rw [List.take_length] at hB' ⊢
      generalize hn : Plain.bitsN ws = m at hB'
      have HN := hid hn
      clear hn
      go_wp2
      go_ret2
      exact ⟨ret_two (by rw [HF.out.2, HN.out]; omega) (by rw [HF.out.1]; rfl), rfl⟩

/-- wire.Size at whatever slice of numbers. -/
theorem size_any (v : Value) (ws : List Int) (hm : ws.length ≤ 9223372036854775807) (w : World) (h : Seg w v ws) :
    Calls Try.prog 50 #[v] w fun e w' => e = .returned (.tuple #[.int .i64 (Plain.szN ws : Nat), .int .i64 (Plain.szE ws : Nat)]) ∧ w' = w := by
  rcases h with ⟨rfl, p, c, rfl⟩ | ⟨b, o, c, rfl, g⟩
  · exact size_nil p c w
  · by_cases hl : 40 < ws.length
    · exact size_long _ _ c ws rfl hl hm w
    · exact size_short b o c ws (by omega) w g
end Go.Proofs.Ytkmnofmhjoehiam

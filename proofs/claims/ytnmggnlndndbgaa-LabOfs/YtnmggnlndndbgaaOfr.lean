/-
  Contracts of the document's answer to Of.
-/
import Derived.Test.YtnmggnlndndbgaaOf
namespace Go.Proofs.Ytnmggnlndndbgaa
open Go.RowKit

set_option maxHeartbeats 400000 in
theorem has_nil (p : Option Addr) (c : Nat) (x : Int) (w : World) : Calls Try.prog 33 #[.slice p 0 c, .int .i64 x] w fun e w' => e = .returned (.bool (Plain.hasB [] x)) ∧ w' = w := by
  go_enter Try.func33, Try.ntmps33
  go_wp2
  refine wp_loop_rounds 1 ?_
  rw [rounds_succ]
  go_wp2
  go_ret
  exact ⟨rfl, rfl⟩

set_option maxHeartbeats 400000 in
theorem has_any (b off cap : Nat) (x : Int) (l : List Int) (hl : l.length ≤ 9223372036854775807) (w : World)
    (h1 : ∀ j, j < l.length → w.cell? ⟨b, off + j, none⟩ = some (.int .i64 (l.getD j 0))) :
    Calls Try.prog 33 #[.slice (some ⟨b, off, none⟩) l.length cap, .int .i64 x] w fun e w' => e = .returned (.bool (Plain.hasB l x)) ∧ w' = w := by
  have H1 : Hid _ := h1
  clear h1
  go_enter Try.func33, Try.ntmps33
  go_wp2
  go_loop [9] (fun i => ∃ k : Nat, k ≤ l.length ∧ i = .int .i64 k ∧ Hid (Plain.hasB (l.take k) x = false)) (fun i => l.length - (intOf i).toNat)
  case atStart => exact ⟨0, Nat.zero_le _, rfl, hid (by simp [Plain.hasB])⟩
  case round =>
    obtain ⟨k, hk, rfl, HB⟩ := hrel
    by_cases hlt : k < l.length
    · have hlt' : (k : Int) < (l.length : Int) := by omega
      have g1 := H1.out k hlt
      have HS : Hid (Plain.hasB (l.take (k + 1)) x = (false || (l.getD k 0 == x))) := hid (by rw [Plain.take_snoc l k hlt, Plain.hasB_snoc, HB.out])
      obtain ⟨y, hy⟩ : ∃ y, y = l.getD k 0 := ⟨_, rfl⟩
      rw [← hy] at HS g1
      clear hy
      cases hx : (y == x)
      · have HX : Hid _ := hx
        go_wp2
        go_round
        case rel => exact ⟨k + 1, by omega, by go_num, hid (by rw [HS.out, HX.out]; rfl)⟩
        case measure => simp [intOf]; omega
      · have HX : Hid _ := hx
        have HF : Hid (Plain.hasB l x = true) := hid (by
          have e := HS.out
          rw [HX.out] at e
          simp only [Plain.hasB, List.any_eq_true, Bool.or_true] at e ⊢
          obtain ⟨z, hz, hzx⟩ := e
          exact ⟨z, List.mem_of_mem_take hz, hzx⟩)
        go_wp2
        go_ret
        rw [HF.out]
        exact ⟨rfl, rfl⟩
    · have hkl : k = l.length := by omega
      subst hkl
      have HF : Hid (Plain.hasB l x = false) := hid (by have := HB.out; rwa [List.take_of_length_le (Nat.le_refl _)] at this)
      go_wp2
      go_ret
      rw [HF.out]
      exact ⟨rfl, rfl⟩

theorem has_seg (v : Value) (x : Int) (l : List Int) (hl : l.length ≤ 9223372036854775807) (w : World) (h : Seg w v l) :
    Calls Try.prog 33 #[v, .int .i64 x] w fun e w' => e = .returned (.bool (Plain.hasB l x)) ∧ w' = w := by
  rcases h with ⟨rfl, p, c, rfl⟩ | ⟨b, o, c, rfl, g⟩
  · exact has_nil p c x w
  · exact has_any b o c x l hl w g

set_option maxHeartbeats 400000 in
theorem of_so (l : List Int) (hl : l.length ≤ 9223372036854775807) (k pb : Nat) (p : Option Addr) (n c : Nat) (w : World) (hc : w.cell? ⟨pb, 0, none⟩ = some (.slice p n c)) (h : Seg w (.slice p n c) l) :
    Calls Try.prog 34 #[.int .i64 k, .pointer (some ⟨pb, 0, none⟩)] w fun e w' => e = .returned (.bool (Plain.hasB l (k : Int))) ∧ w' = w := by
  have HS : Hid _ := h
  clear h
  go_enter Try.func34, Try.ntmps34
  go_wp2_with fail
  refine (has_seg _ _ l hl _ HS.out).mono ?_
  rintro e w' ⟨rfl, rfl⟩
  go_wp2
  go_ret
  exact ⟨rfl, rfl⟩
end Go.Proofs.Ytnmggnlndndbgaa

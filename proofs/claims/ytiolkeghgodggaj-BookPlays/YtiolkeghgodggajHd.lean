/-
  A contract of the document's ShareSplit.
-/
import Derived.Test.YtiolkeghgodggajHv
namespace Go.Proofs.Ytiolkeghgodggaj.Bo
open Go.RowKit Go.Shelf

set_option maxHeartbeats 2000000 in
theorem rsplit_err (p : Option Addr) (n c : Nat) (l : List Int) (t : Int) (hE : Plain.splitE t l ≠ 0) (w : World) (hn : l.length = n) (hbig : n ≤ 9223372036854775807) (hp : Wants w p l) :
    Calls Try.prog 30 #[.int .i64 t, .slice p n c] w fun e w' =>
      e = .returned (.tuple #[.slice none 0 0, .int .i64 (Plain.splitE t l : Nat)]) ∧ w' = w := by
  have HP := hid hp
  have HN := hid hn
  clear hp
  unfold Plain.splitE at hE ⊢
  rw [hn] at hE ⊢
  clear hn
  by_cases h1 : 16 < n
  · have h1z : (16 : Int) < (n : Int) := by omega
    rw [if_pos h1]
    go_enter Try.func30, Try.ntmps30
    go_wp2
    go_ret2
    exact ⟨rfl, rfl⟩
  · have h1z : ¬ (16 : Int) < (n : Int) := by omega
    rw [if_neg h1] at hE ⊢
    by_cases hb : Plain.badC t = true
    · rw [hb, Bool.true_or, if_pos rfl]
      rw [Plain.badC_yes] at hb
      clear hE
      by_cases hb1 : t < 0
      · go_enter Try.func30, Try.ntmps30
        go_wp2
        go_ret2
        exact ⟨rfl, rfl⟩
      · have hb2 : 1048576 < t := by omega
        go_enter Try.func30, Try.ntmps30
        go_wp2
        go_ret2
        exact ⟨rfl, rfl⟩
    · rw [Bool.not_eq_true] at hb
      rw [hb, Bool.false_or] at hE ⊢
      obtain ⟨hb1, hb2⟩ := Plain.badC_no.1 hb
      have hb1' : ¬ t < 0 := by omega
      have hb2' : ¬ 1048576 < t := by omega
      have ha : l.any Plain.badC = true := by
        cases ha : l.any Plain.badC with
        | false => rw [ha] at hE; exact absurd rfl hE
        | true => rfl
      rw [ha, if_pos rfl]
      have HA := hid ha
      clear hE hb ha
      go_enter Try.func30, Try.ntmps30
      go_wp2
      go_loopg [7, 27] n (fun gg _ s27 wr => ∃ k : Nat, k ≤ n ∧ n - k ≤ gg ∧ s27 = .int .i64 k ∧ wr = w ∧ Aside (∀ j, j < k → Plain.badC (l.getD j 0) = false))
      case atStart => exact ⟨0, Nat.zero_le _, by omega, rfl, rfl, fun j hj => absurd hj (Nat.not_lt_zero _)⟩
      case round =>
        obtain ⟨k, hkk, hg, rfl, rfl, A⟩ := hrel
        by_cases hlt : k < n
        · have hltz : (k : Int) < (n : Int) := by omega
          obtain ⟨b, off, rfl, _, hc⟩ := HP.out (by rw [HN.out]; omega)
          have c0 := hc k (by rw [HN.out]; exact hlt)
          clear hc
          generalize hy : l.getD k 0 = y at c0
          have HY : Aside (l.getD k 0 = y) := hy
          clear hy
          by_cases hy1 : y < 0
          · go_wp2
            go_ret2
            exact ⟨rfl, rfl⟩
          · by_cases hy2 : 1048576 < y
            · go_wp2
              go_ret2
              exact ⟨rfl, rfl⟩
            · go_wp2
              go_roundg (n - (k + 1))
              case measure => omega
              case rel =>
                refine ⟨k + 1, by omega, by omega, by go_num, rfl, (show Aside _ from fun j hj => ?_)⟩
                by_cases e : j = k
                · subst e
                  rw [HY.out]; exact Plain.badC_no.2 ⟨by omega, by omega⟩
                · exact A.out j (by omega)
        · exfalso
          obtain ⟨x, hx, hx2⟩ := List.any_eq_true.1 HA.out
          obtain ⟨j, hj, rfl⟩ := List.getElem_of_mem hx
          have := A.out j (by rw [HN.out] at hj; omega)
          rw [Plain.getD_lt _ _ _ hj, hx2] at this
          cases this
end Go.Proofs.Ytiolkeghgodggaj.Bo

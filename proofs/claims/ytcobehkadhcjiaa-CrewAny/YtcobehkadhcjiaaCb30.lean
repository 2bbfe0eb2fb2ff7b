/-
  Goroutines among others: part 30 of what the law's own text rests on.
-/
import Derived.Test.YtcobehkadhcjiaaCb13
/-
  A contract of Picked.
-/
namespace Go.Proofs.Ytcobehkadhcjiaa
open Go.RowKit

namespace Plain
theorem tmod_bd (a n : Int) (hn : 0 < n) : -n < a.tmod n ∧ a.tmod n < n := by
  have h1 := Int.tmod_lt_of_pos a hn
  have h2 := Int.tmod_lt_of_pos (-a) hn
  rw [Int.neg_tmod] at h2
  omega
theorem pick_neg (a n : Int) (hn : 0 < n) (h : a.tmod n < 0) : a.tmod n + n = a % n := by
  have e := Int.tmod_add_mul_tdiv a n
  have hb := tmod_bd a n hn
  have e2 : a = (a.tmod n + n) + n * (a.tdiv n - 1) := by rw [Int.mul_sub, Int.mul_one]; omega
  have h3 : a % n = (a.tmod n + n) % n := by
    conv => lhs; rw [e2]
    exact Int.add_mul_emod_self_left _ _ _
  rw [h3, Int.emod_eq_of_lt (by omega) (by omega)]
theorem pick_pos (a n : Int) (hn : 0 < n) (h : ¬ a.tmod n < 0) : a.tmod n = a % n := by
  have e := Int.tmod_add_mul_tdiv a n
  have hb := tmod_bd a n hn
  have h3 : a % n = (a.tmod n) % n := by
    conv => lhs; rw [← e]
    exact Int.add_mul_emod_self_left _ _ _
  rw [h3, Int.emod_eq_of_lt (by omega) (by omega)]

end Plain

set_option maxHeartbeats 400000 in
theorem picked_any (a n : Int) (_h1 : -9223372036854775808 ≤ a) (_h2 : a ≤ 9223372036854775807) (hn : 0 < n) (hn2 : n ≤ 1152921504606846976) (w : World) :
    Calls Try.prog 14 #[.int .i64 a, .int .i64 n] w fun e w' => e = .returned (.int .i64 (a % n)) ∧ w' = w := by
  have hb := Plain.tmod_bd a n hn
  by_cases h : a.tmod n < 0
  · have H := hid (Plain.pick_neg a n hn h)
    go_enter Try.func14, Try.ntmps14
    go_wp2
    go_ret
    exact ⟨by rw [← H.out]; rfl, rfl⟩
  · have H := hid (Plain.pick_pos a n hn h)
    go_enter Try.func14, Try.ntmps14
    go_wp2
    go_ret
    exact ⟨by rw [← H.out]; rfl, rfl⟩

end Go.Proofs.Ytcobehkadhcjiaa

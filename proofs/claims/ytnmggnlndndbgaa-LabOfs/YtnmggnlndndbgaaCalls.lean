/-
  Contracts of the functions of package lab that take numbers, and of the document's answers to them.
-/
import Derived.Test.YtnmggnlndndbgaaRows
import Derived.Test.YtnmggnlndndbgaaPlain
import Derived.WalkKit
import Derived.WalkSpells
import Derived.WalkLawsBesides
import Derived.OpenShut
namespace Go.Proofs.Ytnmggnlndndbgaa
open Go.RowKit

theorem hid {p : Prop} (h : p) : Hid p := h

theorem ma (a : Nat) (ha : a < 256) : (bits .andNot .i64 (a : Int) 255 == 0) = true := beq_iff_eq.2 ((Plain.may_iff a (by omega) (by omega)).2 (by omega))

theorem ma_no (a : Int) (h1 : -9223372036854775808 ≤ a) (h2 : a ≤ 9223372036854775807) (ha : ¬ (0 ≤ a ∧ a ≤ 255)) : (bits .andNot .i64 a 255 == 0) = false :=
  beq_eq_false_iff_ne.2 (fun e => ha ((Plain.may_iff a h1 (by omega)).1 e))

set_option maxHeartbeats 400000 in
theorem join_yes (a b : Nat) (ha : a < 256) (hb : b < 256) (w : World) :
    Calls Try.prog 11 #[.int .i64 a, .int .i64 b] w fun e w' => e = .returned (.tuple #[.int .i64 (a &&& b : Nat), .int .i64 0]) ∧ w' = w := by
  have e1 := ma a ha
  have e2 := ma b hb
  have e3 := Plain.and_nat a b (by omega) (by omega)
  go_enter Try.func11, Try.ntmps11
  go_wp2
  go_ret2
  exact ⟨rfl, rfl⟩

set_option maxHeartbeats 400000 in
theorem meet_yes (a b : Nat) (ha : a < 256) (hb : b < 256) (w : World) :
    Calls Try.prog 13 #[.int .i64 a, .int .i64 b] w fun e w' => e = .returned (.tuple #[.int .i64 (a ||| b : Nat), .int .i64 0]) ∧ w' = w := by
  have e1 := ma a ha
  have e2 := ma b hb
  have e3 := Plain.or_nat a b (by omega) (by omega)
  go_enter Try.func13, Try.ntmps13
  go_wp2
  go_ret2
  exact ⟨rfl, rfl⟩

set_option maxHeartbeats 400000 in
theorem join_no (a b : Int) (ha1 : -9223372036854775808 ≤ a) (ha2 : a ≤ 9223372036854775807) (hb1 : -9223372036854775808 ≤ b) (hb2 : b ≤ 9223372036854775807)
    (h : ¬ ((0 ≤ a ∧ a ≤ 255) ∧ (0 ≤ b ∧ b ≤ 255))) (w : World) :
    Calls Try.prog 11 #[.int .i64 a, .int .i64 b] w fun e w' => e = .returned (.tuple #[.int .i64 0, .int .i64 2]) ∧ w' = w := by
  by_cases la : 0 ≤ a ∧ a ≤ 255
  · have e2 := ma_no b hb1 hb2 (fun lb => h ⟨la, lb⟩)
    have e1 : (bits .andNot .i64 a 255 == 0) = true := beq_iff_eq.2 ((Plain.may_iff a ha1 (by omega)).2 la)
    clear h la ha1 ha2 hb1 hb2
    go_enter Try.func11, Try.ntmps11
    go_wp2
    go_ret2
    exact ⟨rfl, rfl⟩
  · have e1 := ma_no a ha1 ha2 la
    clear h la ha1 ha2 hb1 hb2
    go_enter Try.func11, Try.ntmps11
    go_wp2
    go_ret2
    exact ⟨rfl, rfl⟩

set_option maxHeartbeats 400000 in
theorem meet_no (a b : Int) (ha1 : -9223372036854775808 ≤ a) (ha2 : a ≤ 9223372036854775807) (hb1 : -9223372036854775808 ≤ b) (hb2 : b ≤ 9223372036854775807)
    (h : ¬ ((0 ≤ a ∧ a ≤ 255) ∧ (0 ≤ b ∧ b ≤ 255))) (w : World) :
    Calls Try.prog 13 #[.int .i64 a, .int .i64 b] w fun e w' => e = .returned (.tuple #[.int .i64 0, .int .i64 2]) ∧ w' = w := by
  by_cases la : 0 ≤ a ∧ a ≤ 255
  · have e2 := ma_no b hb1 hb2 (fun lb => h ⟨la, lb⟩)
    have e1 : (bits .andNot .i64 a 255 == 0) = true := beq_iff_eq.2 ((Plain.may_iff a ha1 (by omega)).2 la)
    clear h la ha1 ha2 hb1 hb2
    go_enter Try.func13, Try.ntmps13
    go_wp2
    go_ret2
    exact ⟨rfl, rfl⟩
  · have e1 := ma_no a ha1 ha2 la
    clear h la ha1 ha2 hb1 hb2
    go_enter Try.func13, Try.ntmps13
    go_wp2
    go_ret2
    exact ⟨rfl, rfl⟩

set_option maxHeartbeats 400000 in
theorem flows_no (a b : Int) (ha1 : -9223372036854775808 ≤ a) (ha2 : a ≤ 9223372036854775807) (hb1 : -9223372036854775808 ≤ b) (hb2 : b ≤ 9223372036854775807)
    (h : ¬ ((0 ≤ a ∧ a ≤ 255) ∧ (0 ≤ b ∧ b ≤ 255))) (w : World) :
    Calls Try.prog 15 #[.int .i64 a, .int .i64 b] w fun e w' => e = .returned (.tuple #[.bool false, .int .i64 2]) ∧ w' = w := by
  by_cases la : 0 ≤ a ∧ a ≤ 255
  · have e2 := ma_no b hb1 hb2 (fun lb => h ⟨la, lb⟩)
    have e1 : (bits .andNot .i64 a 255 == 0) = true := beq_iff_eq.2 ((Plain.may_iff a ha1 (by omega)).2 la)
    clear h la ha1 ha2 hb1 hb2
    go_enter Try.func15, Try.ntmps15
    go_wp2
    go_ret2
    exact ⟨rfl, rfl⟩
  · have e1 := ma_no a ha1 ha2 la
    clear h la ha1 ha2 hb1 hb2
    go_enter Try.func15, Try.ntmps15
    go_wp2
    go_ret2
    exact ⟨rfl, rfl⟩

set_option maxHeartbeats 400000 in
theorem reads_any (s k : Nat) (hs : s < 256) (hk : k < 8) (w : World) :
    Calls Try.prog 26 #[.int .i64 s, .int .i64 k] w fun e w' => e = .returned (.bool (s / 2 ^ k % 2 == 1)) ∧ w' = w := by
  have e1 : (bits .and .i64 ((s : Int) / 2 ^ k) 1 == 1) = (s / 2 ^ k % 2 == 1) := Plain.reads_eq s k hs
  go_enter Try.func26, Try.ntmps26
  go_wp2
  go_ret
  exact ⟨rfl, rfl⟩

set_option maxHeartbeats 400000 in
theorem labelBy_25 (cap : Array Value) (g : Nat → Bool) (w : World)
    (hso : ∀ k : Nat, k < 8 → Calls Try.prog 25 (#[.int .i64 k] ++ cap) w fun e w' => e = .returned (.bool (g k)) ∧ w' = w) :
    Calls Try.prog 24 #[.func (.func 25) #[] cap] w fun e w' => e = .returned (.int .i64 (Plain.label g 8 : Nat)) ∧ w' = w := by
  have HS : Hid (∀ k : Nat, k < 8 → Calls Try.prog 25 (#[.int .i64 k] ++ cap) w fun e w' => e = .returned (.bool (g k)) ∧ w' = w) := hso
  clear hso
  go_enter Try.func24, Try.ntmps24
  go_wp2
  go_loop [3, 4] (fun o k => ∃ n : Nat, n ≤ 8 ∧ o = .int .i64 (Plain.label g n : Nat) ∧ k = .int .i64 n) (fun _ k => 8 - (intOf k).toNat)
  case atStart => exact ⟨0, by omega, rfl, rfl⟩
  case round =>
    obtain ⟨n, hn, rfl, rfl⟩ := hrel
    by_cases hlt : n < 8
    · cases hg : g n
      · have HG : Hid (Plain.label g (n + 1) = Plain.label g n) := hid (by simp [Plain.label, hg])
        go_wp2_with fail
        refine (HS.out n hlt).mono ?_
        rintro e w' ⟨rfl, rfl⟩
        rw [hg]
        have hl : (Plain.label g n : Int) < 256 := by
          have h1 := Plain.label_lt g n
          have h2 : 2 ^ n ≤ 2 ^ 8 := Nat.pow_le_pow_right (by decide) (by omega)
          omega
        have hp0 : (0 : Int) ≤ 2 ^ n := Int.pow_nonneg (by decide)
        have hp : (2 : Int) ^ n ≤ 128 := by
          have h2 : 2 ^ n ≤ 2 ^ 7 := Nat.pow_le_pow_right (by decide) (by omega)
          have h3 : ((2 ^ n : Nat) : Int) = 2 ^ n := by simp
          omega
        go_wp2
        go_round
        case rel => exact ⟨n + 1, by omega, by rw [HG.out], by go_num⟩
        case measure => simp [intOf]; omega
      · have HG : Hid (Plain.label g (n + 1) = Plain.label g n + 2 ^ n) := hid (by simp [Plain.label, hg])
        go_wp2_with fail
        refine (HS.out n hlt).mono ?_
        rintro e w' ⟨rfl, rfl⟩
        rw [hg]
        have hl : (Plain.label g n : Int) < 256 := by
          have h1 := Plain.label_lt g n
          have h2 : 2 ^ n ≤ 2 ^ 8 := Nat.pow_le_pow_right (by decide) (by omega)
          omega
        have hp0 : (0 : Int) ≤ 2 ^ n := Int.pow_nonneg (by decide)
        have hp : (2 : Int) ^ n ≤ 128 := by
          have h2 : 2 ^ n ≤ 2 ^ 7 := Nat.pow_le_pow_right (by decide) (by omega)
          have h3 : ((2 ^ n : Nat) : Int) = 2 ^ n := by simp
          omega
        go_wp2
        go_round
        case rel => exact ⟨n + 1, by omega, by rw [HG.out]; go_num, by go_num⟩
        case measure => simp [intOf]; omega
    · go_wp2
      go_ret
      have : n = 8 := by omega
      subst this
      exact ⟨rfl, rfl⟩

set_option maxHeartbeats 400000 in
theorem labelBy_28 (cap : Array Value) (g : Nat → Bool) (w : World)
    (hso : ∀ k : Nat, k < 8 → Calls Try.prog 28 (#[.int .i64 k] ++ cap) w fun e w' => e = .returned (.bool (g k)) ∧ w' = w) :
    Calls Try.prog 24 #[.func (.func 28) #[] cap] w fun e w' => e = .returned (.int .i64 (Plain.label g 8 : Nat)) ∧ w' = w := by
  have HS : Hid (∀ k : Nat, k < 8 → Calls Try.prog 28 (#[.int .i64 k] ++ cap) w fun e w' => e = .returned (.bool (g k)) ∧ w' = w) := hso
  clear hso
  go_enter Try.func24, Try.ntmps24
  go_wp2
  go_loop [3, 4] (fun o k => ∃ n : Nat, n ≤ 8 ∧ o = .int .i64 (Plain.label g n : Nat) ∧ k = .int .i64 n) (fun _ k => 8 - (intOf k).toNat)
  case atStart => exact ⟨0, by omega, rfl, rfl⟩
  case round =>
    obtain ⟨n, hn, rfl, rfl⟩ := hrel
    by_cases hlt : n < 8
    · cases hg : g n
      · have HG : Hid (Plain.label g (n + 1) = Plain.label g n) := hid (by simp [Plain.label, hg])
        go_wp2_with fail
        refine (HS.out n hlt).mono ?_
        rintro e w' ⟨rfl, rfl⟩
        rw [hg]
        have hl : (Plain.label g n : Int) < 256 := by
          have h1 := Plain.label_lt g n
          have h2 : 2 ^ n ≤ 2 ^ 8 := Nat.pow_le_pow_right (by decide) (by omega)
          omega
        have hp0 : (0 : Int) ≤ 2 ^ n := Int.pow_nonneg (by decide)
        have hp : (2 : Int) ^ n ≤ 128 := by
          have h2 : 2 ^ n ≤ 2 ^ 7 := Nat.pow_le_pow_right (by decide) (by omega)
          have h3 : ((2 ^ n : Nat) : Int) = 2 ^ n := by simp
          omega
        go_wp2
        go_round
        case rel => exact ⟨n + 1, by omega, by rw [HG.out], by go_num⟩
        case measure => simp [intOf]; omega
      · have HG : Hid (Plain.label g (n + 1) = Plain.label g n + 2 ^ n) := hid (by simp [Plain.label, hg])
        go_wp2_with fail
        refine (HS.out n hlt).mono ?_
        rintro e w' ⟨rfl, rfl⟩
        rw [hg]
        have hl : (Plain.label g n : Int) < 256 := by
          have h1 := Plain.label_lt g n
          have h2 : 2 ^ n ≤ 2 ^ 8 := Nat.pow_le_pow_right (by decide) (by omega)
          omega
        have hp0 : (0 : Int) ≤ 2 ^ n := Int.pow_nonneg (by decide)
        have hp : (2 : Int) ^ n ≤ 128 := by
          have h2 : 2 ^ n ≤ 2 ^ 7 := Nat.pow_le_pow_right (by decide) (by omega)
          have h3 : ((2 ^ n : Nat) : Int) = 2 ^ n := by simp
          omega
        go_wp2
        go_round
        case rel => exact ⟨n + 1, by omega, by rw [HG.out]; go_num, by go_num⟩
        case measure => simp [intOf]; omega
    · go_wp2
      go_ret
      have : n = 8 := by omega
      subst this
      exact ⟨rfl, rfl⟩

set_option maxHeartbeats 400000 in
theorem labelBy_34 (cap : Array Value) (g : Nat → Bool) (w : World)
    (hso : ∀ k : Nat, k < 8 → Calls Try.prog 34 (#[.int .i64 k] ++ cap) w fun e w' => e = .returned (.bool (g k)) ∧ w' = w) :
    Calls Try.prog 24 #[.func (.func 34) #[] cap] w fun e w' => e = .returned (.int .i64 (Plain.label g 8 : Nat)) ∧ w' = w := by
  have HS : Hid (∀ k : Nat, k < 8 → Calls Try.prog 34 (#[.int .i64 k] ++ cap) w fun e w' => e = .returned (.bool (g k)) ∧ w' = w) := hso
  clear hso
  go_enter Try.func24, Try.ntmps24
  go_wp2
  go_loop [3, 4] (fun o k => ∃ n : Nat, n ≤ 8 ∧ o = .int .i64 (Plain.label g n : Nat) ∧ k = .int .i64 n) (fun _ k => 8 - (intOf k).toNat)
  case atStart => exact ⟨0, by omega, rfl, rfl⟩
  case round =>
    obtain ⟨n, hn, rfl, rfl⟩ := hrel
    by_cases hlt : n < 8
    · cases hg : g n
      · have HG : Hid (Plain.label g (n + 1) = Plain.label g n) := hid (by simp [Plain.label, hg])
        go_wp2_with fail
        refine (HS.out n hlt).mono ?_
        rintro e w' ⟨rfl, rfl⟩
        rw [hg]
        have hl : (Plain.label g n : Int) < 256 := by
          have h1 := Plain.label_lt g n
          have h2 : 2 ^ n ≤ 2 ^ 8 := Nat.pow_le_pow_right (by decide) (by omega)
          omega
        have hp0 : (0 : Int) ≤ 2 ^ n := Int.pow_nonneg (by decide)
        have hp : (2 : Int) ^ n ≤ 128 := by
          have h2 : 2 ^ n ≤ 2 ^ 7 := Nat.pow_le_pow_right (by decide) (by omega)
          have h3 : ((2 ^ n : Nat) : Int) = 2 ^ n := by simp
          omega
        go_wp2
        go_round
        case rel => exact ⟨n + 1, by omega, by rw [HG.out], by go_num⟩
        case measure => simp [intOf]; omega
      · have HG : Hid (Plain.label g (n + 1) = Plain.label g n + 2 ^ n) := hid (by simp [Plain.label, hg])
        go_wp2_with fail
        refine (HS.out n hlt).mono ?_
        rintro e w' ⟨rfl, rfl⟩
        rw [hg]
        have hl : (Plain.label g n : Int) < 256 := by
          have h1 := Plain.label_lt g n
          have h2 : 2 ^ n ≤ 2 ^ 8 := Nat.pow_le_pow_right (by decide) (by omega)
          omega
        have hp0 : (0 : Int) ≤ 2 ^ n := Int.pow_nonneg (by decide)
        have hp : (2 : Int) ^ n ≤ 128 := by
          have h2 : 2 ^ n ≤ 2 ^ 7 := Nat.pow_le_pow_right (by decide) (by omega)
          have h3 : ((2 ^ n : Nat) : Int) = 2 ^ n := by simp
          omega
        go_wp2
        go_round
        case rel => exact ⟨n + 1, by omega, by rw [HG.out]; go_num, by go_num⟩
        case measure => simp [intOf]; omega
    · go_wp2
      go_ret
      have : n = 8 := by omega
      subst this
      exact ⟨rfl, rfl⟩

set_option maxHeartbeats 400000 in
theorem joins_so (a b k : Nat) (pa pb : Nat) (ha : a < 256) (hb : b < 256) (hk : k < 8) (w : World)
    (ca : w.cell? ⟨pa, 0, none⟩ = some (.int .i64 a)) (cb : w.cell? ⟨pb, 0, none⟩ = some (.int .i64 b)) :
    Calls Try.prog 25 #[.int .i64 k, .pointer (some ⟨pa, 0, none⟩), .pointer (some ⟨pb, 0, none⟩)] w fun e w' => e = .returned (.bool ((a / 2 ^ k % 2 == 1) && (b / 2 ^ k % 2 == 1))) ∧ w' = w := by
  cases ea : (a / 2 ^ k % 2 == 1)
  all_goals
    go_enter Try.func25, Try.ntmps25
    go_wp2_with fail
    refine (reads_any a k ha hk _).mono ?_
    rintro e w' ⟨rfl, rfl⟩
    rw [ea]
    go_wp2_with fail
  · go_ret
    exact ⟨rfl, rfl⟩
  · refine (reads_any b k hb hk _).mono ?_
    rintro e w' ⟨rfl, rfl⟩
    go_wp2
    go_ret
    exact ⟨by simp, rfl⟩

set_option maxHeartbeats 400000 in
theorem meets_so (a b k : Nat) (pa pb : Nat) (ha : a < 256) (hb : b < 256) (hk : k < 8) (w : World)
    (ca : w.cell? ⟨pa, 0, none⟩ = some (.int .i64 a)) (cb : w.cell? ⟨pb, 0, none⟩ = some (.int .i64 b)) :
    Calls Try.prog 28 #[.int .i64 k, .pointer (some ⟨pa, 0, none⟩), .pointer (some ⟨pb, 0, none⟩)] w fun e w' => e = .returned (.bool ((a / 2 ^ k % 2 == 1) || (b / 2 ^ k % 2 == 1))) ∧ w' = w := by
  cases ea : (a / 2 ^ k % 2 == 1)
  all_goals
    go_enter Try.func28, Try.ntmps28
    go_wp2_with fail
    refine (reads_any a k ha hk _).mono ?_
    rintro e w' ⟨rfl, rfl⟩
    rw [ea]
    go_wp2_with fail
  · refine (reads_any b k hb hk _).mono ?_
    rintro e w' ⟨rfl, rfl⟩
    go_wp2
    go_ret
    exact ⟨by simp, rfl⟩
  · go_ret
    exact ⟨rfl, rfl⟩

set_option maxHeartbeats 400000 in
theorem refMay_yes (a : Nat) (ha : a < 256) (w : World) : Calls Try.prog 10 #[.int .i64 a] w fun e w' => e = .returned (.bool true) ∧ w' = w := by
  have ha1 : (a : Int) ≤ 255 := by omega
  go_enter Try.func10, Try.ntmps10
  go_wp2
  go_ret
  exact ⟨rfl, rfl⟩

set_option maxHeartbeats 400000 in
theorem refMay_no (a : Int) (ha : ¬ (0 ≤ a ∧ a ≤ 255)) (w : World) : Calls Try.prog 10 #[.int .i64 a] w fun e w' => e = .returned (.bool false) ∧ w' = w := by
  by_cases h0 : 0 ≤ a
  · have h1 : ¬ a ≤ 255 := fun h2 => ha ⟨h0, h2⟩
    clear ha
    go_enter Try.func10, Try.ntmps10
    go_wp2
    go_ret
    exact ⟨rfl, rfl⟩
  · clear ha
    go_enter Try.func10, Try.ntmps10
    go_wp2
    go_ret
    exact ⟨rfl, rfl⟩

set_option maxHeartbeats 400000 in
theorem refJoin_yes (a b : Nat) (ha : a < 256) (hb : b < 256) (w : World) :
    Calls Try.prog 12 #[.int .i64 a, .int .i64 b] w fun e w' => e = .returned (.tuple #[.int .i64 (a &&& b : Nat), .int .i64 0]) ∧ Grown w w' := by
  go_enter Try.func12, Try.ntmps12
  go_wp2_with fail
  refine (refMay_yes a ha _).mono ?_
  rintro e w' ⟨rfl, rfl⟩
  go_wp2_with fail
  refine (refMay_yes b hb _).mono ?_
  rintro e w' ⟨rfl, rfl⟩
  go_wp2_with fail
  refine (labelBy_25 #[.pointer (some ⟨w.heap.size, 0, none⟩), .pointer (some ⟨w.heap.size + 1, 0, none⟩)] (fun k => (a / 2 ^ k % 2 == 1) && (b / 2 ^ k % 2 == 1)) _ ?_).mono ?_
  · intro k hk
    exact joins_so a b k _ _ ha hb hk _ (by simp [go_sem]) (by simp [go_sem])
  rintro e w' ⟨rfl, rfl⟩
  rw [Plain.label_and a b ha]
  go_wp2
  go_ret2
  exact ⟨rfl, by repeat (first | exact Grown.refl _ | apply Grown.drew | apply Grown.alloc)⟩

set_option maxHeartbeats 400000 in
theorem refMeet_yes (a b : Nat) (ha : a < 256) (hb : b < 256) (w : World) :
    Calls Try.prog 14 #[.int .i64 a, .int .i64 b] w fun e w' => e = .returned (.tuple #[.int .i64 (a ||| b : Nat), .int .i64 0]) ∧ Grown w w' := by
  go_enter Try.func14, Try.ntmps14
  go_wp2_with fail
  refine (refMay_yes a ha _).mono ?_
  rintro e w' ⟨rfl, rfl⟩
  go_wp2_with fail
  refine (refMay_yes b hb _).mono ?_
  rintro e w' ⟨rfl, rfl⟩
  go_wp2_with fail
  refine (labelBy_28 #[.pointer (some ⟨w.heap.size, 0, none⟩), .pointer (some ⟨w.heap.size + 1, 0, none⟩)] (fun k => (a / 2 ^ k % 2 == 1) || (b / 2 ^ k % 2 == 1)) _ ?_).mono ?_
  · intro k hk
    exact meets_so a b k _ _ ha hb hk _ (by simp [go_sem]) (by simp [go_sem])
  rintro e w' ⟨rfl, rfl⟩
  rw [Plain.label_or a b ha hb]
  go_wp2
  go_ret2
  exact ⟨rfl, by repeat (first | exact Grown.refl _ | apply Grown.drew | apply Grown.alloc)⟩

set_option maxHeartbeats 400000 in
theorem refJoin_no (a b : Int) (h : ¬ ((0 ≤ a ∧ a ≤ 255) ∧ (0 ≤ b ∧ b ≤ 255))) (w : World) :
    Calls Try.prog 12 #[.int .i64 a, .int .i64 b] w fun e w' => e = .returned (.tuple #[.int .i64 0, .int .i64 2]) ∧ Grown w w' := by
  by_cases la : 0 ≤ a ∧ a ≤ 255
  · have lb : ¬ (0 ≤ b ∧ b ≤ 255) := fun lb => h ⟨la, lb⟩
    clear h
    obtain ⟨n, rfl⟩ := Int.eq_ofNat_of_zero_le la.1
    have hn : n < 256 := by omega
    have LB : Hid _ := lb
    clear la lb
    go_enter Try.func12, Try.ntmps12
    go_wp2_with fail
    refine (refMay_yes n hn _).mono ?_
    rintro e w' ⟨rfl, rfl⟩
    go_wp2_with fail
    refine (refMay_no b LB.out _).mono ?_
    rintro e w' ⟨rfl, rfl⟩
    go_wp2
    go_ret2
    exact ⟨rfl, by repeat (first | exact Grown.refl _ | apply Grown.drew | apply Grown.alloc)⟩
  · have LA : Hid _ := la
    clear h la
    go_enter Try.func12, Try.ntmps12
    go_wp2_with fail
    refine (refMay_no a LA.out _).mono ?_
    rintro e w' ⟨rfl, rfl⟩
    go_wp2
    go_ret2
    exact ⟨rfl, by repeat (first | exact Grown.refl _ | apply Grown.drew | apply Grown.alloc)⟩

set_option maxHeartbeats 400000 in
theorem refMeet_no (a b : Int) (h : ¬ ((0 ≤ a ∧ a ≤ 255) ∧ (0 ≤ b ∧ b ≤ 255))) (w : World) :
    Calls Try.prog 14 #[.int .i64 a, .int .i64 b] w fun e w' => e = .returned (.tuple #[.int .i64 0, .int .i64 2]) ∧ Grown w w' := by
  by_cases la : 0 ≤ a ∧ a ≤ 255
  · have lb : ¬ (0 ≤ b ∧ b ≤ 255) := fun lb => h ⟨la, lb⟩
    clear h
    obtain ⟨n, rfl⟩ := Int.eq_ofNat_of_zero_le la.1
    have hn : n < 256 := by omega
    have LB : Hid _ := lb
    clear la lb
    go_enter Try.func14, Try.ntmps14
    go_wp2_with fail
    refine (refMay_yes n hn _).mono ?_
    rintro e w' ⟨rfl, rfl⟩
    go_wp2_with fail
    refine (refMay_no b LB.out _).mono ?_
    rintro e w' ⟨rfl, rfl⟩
    go_wp2
    go_ret2
    exact ⟨rfl, by repeat (first | exact Grown.refl _ | apply Grown.drew | apply Grown.alloc)⟩
  · have LA : Hid _ := la
    clear h la
    go_enter Try.func14, Try.ntmps14
    go_wp2_with fail
    refine (refMay_no a LA.out _).mono ?_
    rintro e w' ⟨rfl, rfl⟩
    go_wp2
    go_ret2
    exact ⟨rfl, by repeat (first | exact Grown.refl _ | apply Grown.drew | apply Grown.alloc)⟩

end Go.Proofs.Ytnmggnlndndbgaa

/-
  frame: within, flows, everyone, the literals, slices.ContainsFunc with them.
-/
import Derived.Test.YtlmiomfbpeondanQ0
import Derived.Test.YtlmiomfbpeondanSeg
import Derived.Deep.LoopGhost
import Derived.Shelf.Abstract
namespace Go.Proofs.Ytlmiomfbpeondan
open Go.RowKit Go.Shelf

/-- A config as a value, with the two slices. -/
abbrev cfV (c : Plain.Cf) (lv mv : Value) : Value := .agg #[.int .i64 c.n, lv, .int .i64 c.t, mv, .int .i64 c.cap]
/-- A config in a box. -/
abbrev boxC (c : Plain.Cf) (lv mv : Value) : Obj := .cells #[.int .i64 c.n, lv, .int .i64 c.t, mv, .int .i64 c.cap] 24
/-- The cells of a config. -/
def CellC (w : World) (T : Nat) (c : Plain.Cf) (lv mv : Value) : Prop :=
  w.cell? ⟨T, 0, none⟩ = some (.int .i64 c.n) ∧ w.cell? ⟨T, 1, none⟩ = some lv ∧ w.cell? ⟨T, 2, none⟩ = some (.int .i64 c.t) ∧ w.cell? ⟨T, 3, none⟩ = some mv ∧ w.cell? ⟨T, 4, none⟩ = some (.int .i64 c.cap)
theorem CellC.lt {w : World} {T : Nat} {c : Plain.Cf} {lv mv : Value} (h : CellC w T c lv mv) : T < w.heap.size := World.block_lt_of_cell? (w := w) (h := h.1)
theorem CellC.below {w w' : World} {T B : Nat} {c : Plain.Cf} {lv mv : Value} (h : CellC w T c lv mv) (b : Below B w w') (hT : T < B) : CellC w' T c lv mv :=
  ⟨(b.cell (p := ⟨T, 0, none⟩) hT).trans h.1, (b.cell (p := ⟨T, 1, none⟩) hT).trans h.2.1, (b.cell (p := ⟨T, 2, none⟩) hT).trans h.2.2.1, (b.cell (p := ⟨T, 3, none⟩) hT).trans h.2.2.2.1, (b.cell (p := ⟨T, 4, none⟩) hT).trans h.2.2.2.2⟩
theorem CellC.start (w : World) (c : Plain.Cf) (lv mv : Value) : CellC (w.alloc (boxC c lv mv)) w.heap.size c lv mv := by
  refine ⟨?_, ?_, ?_, ?_, ?_⟩ <;> (rw [World.cell?_alloc_at _ _ _ _ rfl]; rfl)

theorem within_c (x a b : Int) (w : World) :
    Calls Try.prog 16 #[.int .i64 x, .int .i64 a, .int .i64 b] w fun e w' => e = .returned (.bool (Plain.inR x a b)) ∧ w' = w := by
  have HR := hid (show Plain.inR x a b = (decide (a ≤ x) && decide (x ≤ b)) from rfl)
  cases h : decide (a ≤ x) with
  | false =>
    go_enter Try.func16, Try.ntmps16
    go_wp2
    go_ret
    exact ⟨by rw [HR.out, h]; rfl, rfl⟩
  | true =>
    go_enter Try.func16, Try.ntmps16
    go_wp2
    go_ret
    exact ⟨by rw [HR.out, h]; rfl, rfl⟩

set_option maxHeartbeats 800000 in
theorem flows_yes (x s : Nat) (hx : x < 256) (hs : s < 256) (w : World) :
    Calls Try.prog 29 #[.int .i64 s, .int .i64 x] w fun e w' => e = .returned (.bool (LabP.inB x s)) ∧ w' = w := by
  have e1 := ma x hx
  have e2 := ma s hs
  have e3 := LabP.inB_eq x s hx hs
  go_enter Try.func29, Try.ntmps29
  go_wp2
  go_ret
  exact ⟨rfl, rfl⟩
set_option maxHeartbeats 800000 in
theorem flows_no (x : Int) (s : Nat) (h1 : -9223372036854775808 ≤ x) (h2 : x ≤ 9223372036854775807) (hx : ¬ (0 ≤ x ∧ x ≤ 255)) (hs : s < 256) (w : World) :
    Calls Try.prog 29 #[.int .i64 s, .int .i64 x] w fun e w' => e = .returned (.bool false) ∧ w' = w := by
  have e1 := ma_no x h1 h2 hx
  have e2 := ma s hs
  clear h1 h2 hx hs
  go_enter Try.func29, Try.ntmps29
  go_wp2
  go_ret
  exact ⟨rfl, rfl⟩
/-- Is something a label of the first n? -/
theorem flows_all (x : Int) (n : Nat) (hn : n ≤ 8) (h1 : -9223372036854775808 ≤ x) (h2 : x ≤ 9223372036854775807) (w : World) :
    Calls Try.prog 29 #[.int .i64 ((2 ^ n - 1 : Nat) : Int), .int .i64 x] w fun e w' => e = .returned (.bool (Plain.labB n x)) ∧ w' = w := by
  have hp := LabP.pow_le hn
  have hp1 := Nat.two_pow_pos n
  have hz : ((2 ^ n : Nat) : Int) = (2 : Int) ^ n := by simp
  unfold Plain.labB
  rw [Int.toNat_natCast]
  by_cases hx : 0 ≤ x ∧ x ≤ 255
  · obtain ⟨y, rfl⟩ : ∃ y : Nat, x = (y : Int) := ⟨x.toNat, by omega⟩
    refine (flows_yes y (2 ^ n - 1) (by omega) (by omega) w).mono ?_
    rintro e w' ⟨rfl, rfl⟩
    refine ⟨?_, rfl⟩
    rw [LabP.inB_all]
    have : decide (y < 2 ^ n) = (decide (0 ≤ (y : Int)) && decide ((y : Int) < (2 : Int) ^ n)) := by
      rw [Bool.eq_iff_iff, decide_eq_true_iff, Bool.and_eq_true, decide_eq_true_iff, decide_eq_true_iff, ← hz]
      omega
    rw [this]
  · refine (flows_no x (2 ^ n - 1) h1 h2 hx (by omega) w).mono ?_
    rintro e w' ⟨rfl, rfl⟩
    refine ⟨?_, rfl⟩
    have : (decide (0 ≤ x) && decide (x < (2 : Int) ^ n)) = false := by
      rw [← hz]
      simp
      omega
    rw [this]

set_option maxHeartbeats 800000 in
theorem everyone_c (c : Plain.Cf) (lv mv : Value) (n : Nat) (hn : c.n = n) (h8 : n ≤ 8) (w : World) :
    Calls Try.prog 30 #[cfV c lv mv] w fun e w' => e = .returned (.int .i64 ((2 ^ n - 1 : Nat) : Int)) ∧ Below w.heap.size w w' := by
  have BW := hid (show Below w.heap.size w (w.alloc (boxC c lv mv)) from (Below.refl _ _).alloc (Nat.le_refl _) _)
  obtain ⟨cn, ls, ct, ms, cap⟩ := c
  have hn' : cn = (n : Int) := hn
  subst hn'
  have hp := LabP.pow_le h8
  have hp1 := Nat.two_pow_pos n
  have hz : ((2 ^ n : Nat) : Int) = (2 : Int) ^ n := by simp
  have h0 : 0 ≤ (n : Int) := by omega
  go_enter Try.func30, Try.ntmps30
  go_wp2
  go_ret
  refine ⟨?_, BW.out⟩
  have : (2 : Int) ^ n - 1 = ((2 ^ n - 1 : Nat) : Int) := by rw [← hz]; omega
  rw [this]
  rfl
end Go.Proofs.Ytlmiomfbpeondan

/-
  A contract of take.
-/
import Derived.Test.YtkmnofmhjoehiamPack
namespace Go.Proofs.Ytkmnofmhjoehiam
open Go.RowKit

set_option maxHeartbeats 400000 in
theorem take_zero (v : Value) (at_ : Nat) (ha : at_ ≤ 1000000) (w : World) :
    Calls Try.prog 56 #[v, .int .i64 at_, .int .i64 0] w fun e w' => e = .returned (.int .i64 0) ∧ w' = w := by
  go_enter Try.func56, Try.ntmps56
  go_wp2
  refine wp_loop_rounds 1 ?_
  rw [rounds_succ]
  go_wp2
  go_ret
  exact ⟨rfl, rfl⟩

theorem bitOf_and (bl : List Nat) (p : Nat) (h : bl.getD (p / 8) 0 < 256) : (bits .and .u8 ((bl.getD (p / 8) 0 : Nat) : Int) (2 ^ (7 - p % 8)) != 0) = (Plain.bitOf bl p == 1) := by
  have := Plain.and_byte (bl.getD (p / 8) 0) p h
  unfold Plain.bitOf
  rw [← this]
  congr 2

theorem drewN_add (w : World) (a b : Nat) : (w.drewN a).drewN b = w.drewN (a + b) := by
  induction b with
  | zero => rfl
  | succ b ih => show ((w.drewN a).drewN b).drew = (w.drewN (a + b)).drew; rw [ih]

set_option maxHeartbeats 1000000 in
theorem take_any (bb off c at_ wd : Nat) (bl : List Nat) (hbl : ∀ x ∈ bl, x < 256) (hfit : at_ + wd ≤ 8 * bl.length) (hl : bl.length ≤ 1000) (hw : wd ≤ 60) (w : World)
    (h : ∀ j, j < bl.length → w.cell? ⟨bb, off + j, none⟩ = some (.int .u8 (bl.getD j 0 : Nat))) :
    Calls Try.prog 56 #[.slice (some ⟨bb, off, none⟩) bl.length c, .int .i64 at_, .int .i64 wd] w fun e w' => e = .returned (.int .i64 (Plain.num (Plain.bitOf bl) at_ wd : Nat)) ∧ ∃ q, w' = w.drewN q := by
  have H := hid h
  have HB := hid hbl
  clear h hbl
  go_enter Try.func56, Try.ntmps56
  go_wp2
  go_loopw [7, 8] (fun v i wr => ∃ k q : Nat, k ≤ wd ∧ i = .int .i64 ((at_ + k : Nat) : Int) ∧ v = .int .i64 (Plain.num (Plain.bitOf bl) at_ k : Nat) ∧ wr = w.drewN q) (fun _ i _ => at_ + wd - (intOf i).toNat)
  case atStart => exact ⟨0, 0, Nat.zero_le _, rfl, rfl, rfl⟩
  case round =>
    obtain ⟨k, q, hk, rfl, rfl, hw0⟩ := hrel
    have HW := hid hw0
    clear hw0
    have hX := Plain.num_lt (Plain.bitOf bl) (Plain.bitOf_lt bl) at_ k
    have hX2 := Plain.pow60 k (by omega)
    have hst : Plain.num (Plain.bitOf bl) at_ (k + 1) = 2 * Plain.num (Plain.bitOf bl) at_ k + Plain.bitOf bl (at_ + k) := rfl
    have hX3 : Plain.num (Plain.bitOf bl) at_ k < 1152921504606846976 := by omega
    clear hX hX2
    by_cases hlt : k < wd
    · obtain ⟨p, hp⟩ : ∃ p, p = at_ + k := ⟨_, rfl⟩
      rw [← hp] at hst ⊢
      have hp1 : p < at_ + wd := by omega
      have hp1' : (p : Int) < (at_ : Int) + (wd : Int) := by omega
      have hp2 : p / 8 < bl.length := by omega
      have hc : wr.cell? ⟨bb, off + p / 8, none⟩ = some (.int .u8 (bl.getD (p / 8) 0 : Nat)) := by rw [HW.out]; simpa using H.out (p / 8) hp2
      have hx := HB.out (bl.getD (p / 8) 0) (by rw [List.getD_eq_getElem?_getD, List.getElem?_eq_getElem hp2]; exact List.getElem_mem hp2)
      have hand := bitOf_and bl p hx
      have hb2 := Plain.bitOf_lt bl p
      generalize hy : Plain.bitOf bl p = y at hst hand hb2
      have HY := hid hy
      clear hy
      generalize bl.getD (p / 8) 0 = x at hc hx hand
      obtain ⟨m, hm⟩ : ∃ m, m = p / 8 := ⟨_, rfl⟩
      rw [← hm] at hc hp2
      have hdv : (p : Int) / 8 = (m : Int) := by omega
      have hwm : IntKind.i64.wrap (m : Int) = (m : Int) := Plain.wrap_nat m (by omega)
      have hi1 : (m : Int) < (bl.length : Int) := by omega
      have HP := hid hp
      have HST := hid hst
      clear hp hst
      generalize hXX : Plain.num (Plain.bitOf bl) at_ k = X at hX3
      have HXX := hid hXX
      clear hXX hm
      have hor := Plain.or_one X (by omega)
      cases e : (y == 1)
      · rw [e] at hand
        have EY := hid e
        clear e hor
        go_wp2
        go_quiet ((go_at_call 63; exact Calls.quiet_of_same (mask_any p (by omega) _)))
        go_wp2
        go_roundw
        case rel => exact ⟨k + 1, _, by omega, by have := HP.out; go_num, by rw [HST.out, HXX.out]; have := beq_eq_false_iff_ne.1 EY.out; go_num, by rw [HW.out, drewN_add]⟩
        case measure => simp [intOf]; omega
      · rw [e] at hand
        have EY := hid e
        clear e
        have HOR := hid hor
        clear hor
        go_wp2
        go_quiet ((go_at_call 63; exact Calls.quiet_of_same (mask_any p (by omega) _)))
        go_wp2
        go_roundw
        case rel => exact ⟨k + 1, _, by omega, by have := HP.out; go_num, by rw [HST.out, HXX.out, beq_iff_eq.1 EY.out, ← HOR.out, show ((2 * X : Nat) : Int) = (X : Int) * 2 by omega], by rw [HW.out, drewN_add]⟩
        case measure => simp [intOf]; omega
    · have ek : k = wd := by omega
      subst ek
      generalize hXX : Plain.num (Plain.bitOf bl) at_ k = X at hX3
      have HXX := hid hXX
      clear hst hXX
      go_wp2
      go_ret
      exact ⟨by rw [HXX.out]; rfl, _, HW.out⟩
end Go.Proofs.Ytkmnofmhjoehiam

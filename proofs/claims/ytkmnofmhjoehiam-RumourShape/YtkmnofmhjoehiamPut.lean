/-
  Contracts of mask, fits and put.
-/
import Derived.Test.YtkmnofmhjoehiamSize
import Derived.Test.YtkmnofmhjoehiamWb
import Derived.Deep.QuietTactic
import Derived.BigQuiet
import Derived.Deep.RegionHeld3
import Derived.Deep.RegionWith
namespace Go.Proofs.Ytkmnofmhjoehiam
open Go.RowKit

theorem ret_int {k : IntKind} {a b : Int} (h : a = b) : Ending.returned (.int k a) = .returned (.int k b) := by rw [h]
theorem ret_bool {a b : Bool} (h : a = b) : Ending.returned (.bool a) = .returned (.bool b) := by rw [h]

namespace Plain
theorem mask8 (p : Nat) : (128 : Int) / 2 ^ (p % 8) = ((2 ^ (7 - p % 8) : Nat) : Int) := by
  have : p % 8 = 0 ∨ p % 8 = 1 ∨ p % 8 = 2 ∨ p % 8 = 3 ∨ p % 8 = 4 ∨ p % 8 = 5 ∨ p % 8 = 6 ∨ p % 8 = 7 := by omega
  rcases this with h | h | h | h | h | h | h | h <;> rw [h] <;> rfl
theorem wrap_pow60 (n : Nat) (h : n ≤ 60) : wrap64 (2 ^ n) = 2 ^ n := by
  have hp := pow60 n h
  have e : ((2 : Int) ^ n) = ((2 ^ n : Nat) : Int) := by simp
  rw [e]
  generalize (2 ^ n : Nat) = x at hp
  unfold wrap64
  omega
end Plain

set_option maxHeartbeats 400000 in
theorem mask_any (p : Nat) (hp : p ≤ 1000000) (w : World) :
    Calls Try.prog 63 #[.int .i64 p] w fun e w' => e = .returned (.int .u8 (2 ^ (7 - p % 8) : Nat)) ∧ w' = w := by
  have h8 : (p : Int) % 8 < 8 := by omega
  have h0 : 0 ≤ (p : Int) % 8 := by omega
  go_enter Try.func63, Try.ntmps63
  go_wp2
  go_ret
  exact ⟨ret_int (Plain.mask8 p), rfl⟩

theorem mask_int (p : Int) (h0 : 0 ≤ p) (hp : p ≤ 1000000) (w : World) :
    Calls Try.prog 63 #[.int .i64 p] w fun e w' => e = .returned (.int .u8 (2 ^ (7 - p.toNat % 8) : Nat)) ∧ w' = w := by
  obtain ⟨n, rfl⟩ := Int.eq_ofNat_of_zero_le h0
  rw [Int.toNat_natCast]
  exact mask_any n (by omega) w

set_option maxHeartbeats 400000 in
theorem fits_neg (wd : Nat) (v : Int) (h : v < 0) (w : World) :
    Calls Try.prog 52 #[.agg #[.int .i64 wd, .int .i64 v]] w fun e w' => e = .returned (.bool false) ∧ Below w.heap.size w w' := by
  have hd : decide (0 ≤ v) = false := by simpa using h
  go_enter Try.func52, Try.ntmps52
  go_wp2
  go_quiet (fail)
  go_wp2
  go_ret
  exact ⟨rfl, below_drewN ((Below.refl _ _).alloc (Nat.le_refl _) _) _⟩

set_option maxHeartbeats 400000 in
theorem fits_pos (wd v : Nat) (hw : wd ≤ 60) (w : World) :
    Calls Try.prog 52 #[.agg #[.int .i64 wd, .int .i64 v]] w fun e w' => e = .returned (.bool (decide (v < 2 ^ wd))) ∧ Below w.heap.size w w' := by
  have hd : (0 : Int) ≤ (v : Int) := by omega
  go_enter Try.func52, Try.ntmps52
  go_wp2
  go_quiet (fail)
  go_wp2
  go_ret
  refine ⟨ret_bool ?_, below_drewN ((Below.refl _ _).alloc (Nat.le_refl _) _) _⟩
  rw [Plain.wrap_pow60 wd hw, decide_eq_decide]
  have e : ((2 : Int) ^ wd) = ((2 ^ wd : Nat) : Int) := by simp
  rw [e]
  omega

theorem fits_any (wd : Nat) (v : Int) (hw : wd ≤ 60) (w : World) :
    Calls Try.prog 52 #[.agg #[.int .i64 wd, .int .i64 v]] w fun e w' => e = .returned (.bool (Plain.fitB ((wd : Int), v))) ∧ Below w.heap.size w w' := by
  have e1 : ((2 : Int) ^ wd) = ((2 ^ wd : Nat) : Int) := by simp
  by_cases h : v < 0
  · refine (fits_neg wd v h w).mono ?_
    rintro e w' ⟨rfl, hb⟩
    refine ⟨ret_bool ?_, hb⟩
    unfold Plain.fitB
    simp; omega
  · obtain ⟨n, rfl⟩ := Int.eq_ofNat_of_zero_le (show 0 ≤ v by omega)
    refine (fits_pos wd n hw w).mono ?_
    rintro e w' ⟨rfl, hb⟩
    refine ⟨ret_bool ?_, hb⟩
    unfold Plain.fitB
    simp only [Int.toNat_natCast, e1]
    rw [Bool.eq_iff_iff]
    simp
    omega

theorem put_start {w : World} {bb n wd v : Nat} {bs : List Nat} {o : Obj} (hrow : w.rowIs bb 5 n (fun j => .int .u8 (Plain.byteOf (Plain.at0 bs) j : Nat))) :
    (w.alloc o).rowIs bb 5 n (fun j => .int .u8 (Plain.byteOf (Plain.at0 (bs ++ (Plain.fbits wd v).take 0)) j : Nat)) ∧ w.grownBy (w.alloc o) (some bb) :=
  ⟨by rw [List.take_zero, List.append_nil]; exact hrow.alloc o, grown_alloc w o _⟩

/-- A bit of 0: nothing turns. -/
theorem put_zero {w : World} {bb n wd v k : Nat} {bs : List Nat} (hk : k < wd) (hb : (v / 2 ^ (wd - 1 - k) % 2 == 1) = false)
    (hrow : w.rowIs bb 5 n (fun j => .int .u8 (Plain.byteOf (Plain.at0 (bs ++ (Plain.fbits wd v).take k)) j : Nat))) :
    w.rowIs bb 5 n (fun j => .int .u8 (Plain.byteOf (Plain.at0 (bs ++ (Plain.fbits wd v).take (k + 1))) j : Nat)) := by
  have h0 : v / 2 ^ (wd - 1 - k) % 2 = 0 := by
    have := beq_eq_false_iff_ne.1 hb
    omega
  rw [Plain.fbits_succ wd v k hk, h0, ← List.append_assoc, Plain.at0_snoc0]
  exact hrow

theorem put_cell {wr : World} {bb m B o : Nat} {u x : Value} (hne : bb < B) (h : wr.cell? ⟨B, o, none⟩ = some x) : ((wr.setCell ⟨bb, m, none⟩ u).drew).cell? ⟨B, o, none⟩ = some x :=
  (World.cell?_of_block (w := wr) (RowKit.Below.heap_setCell wr ⟨bb, m, none⟩ u B (by show B ≠ bb; omega))).trans h
theorem put_grown (wr : World) (bb m : Nat) (u : Value) : wr.grownBy ((wr.setCell ⟨bb, m, none⟩ u).drew) (some bb) :=
  let h := grown_setCell wr ⟨bb, m, none⟩ u bb rfl
  ⟨h.os, h.tape, h.output, h.size, h.block⟩

/-- A bit of 1: it is laid into its byte. -/
theorem put_one {w : World} {bb n wd v k at_ m : Nat} {bs : List Nat} (hbs : bs.length = at_) (hk : k < wd) (hb : (v / 2 ^ (wd - 1 - k) % 2 == 1) = true) (hm : m = (at_ + k) / 8) (u : Int)
    (hu : u = ((Plain.byteOf (Plain.at0 (bs ++ (Plain.fbits wd v).take k)) ((at_ + k) / 8) + 2 ^ (7 - (at_ + k) % 8) : Nat) : Int))
    (hrow : w.rowIs bb 5 n (fun j => .int .u8 (Plain.byteOf (Plain.at0 (bs ++ (Plain.fbits wd v).take k)) j : Nat))) :
    ((w.setCell ⟨bb, m, none⟩ (.int .u8 u)).drew).rowIs bb 5 n (fun j => .int .u8 (Plain.byteOf (Plain.at0 (bs ++ (Plain.fbits wd v).take (k + 1))) j : Nat)) := by
  subst hm
  have h1 : v / 2 ^ (wd - 1 - k) % 2 = 1 := beq_iff_eq.1 hb
  refine ((hrow.set ((at_ + k) / 8) (.int .u8 u)).drew).congr fun j _ => ?_
  have hl : (bs ++ (Plain.fbits wd v).take k).length = at_ + k := by
    rw [List.length_append, List.length_take, Plain.fbits_len, hbs]; omega
  have e := Plain.byteOf_snoc1 (bs ++ (Plain.fbits wd v).take k) j
  rw [hl, List.append_assoc] at e
  rw [Plain.fbits_succ wd v k hk, h1, e]
  by_cases c : j = (at_ + k) / 8
  · rw [if_pos c, if_pos c, hu, c]
  · rw [if_neg c, if_neg c]

theorem put_val {y x at_ k : Nat} {r : Int} (hx : y = x) (ho : bits .or .u8 (y : Nat) (2 ^ (7 - (at_ + k) % 8) : Nat) = r) : bits .or .u8 (x : Int) (2 ^ (7 - ((at_ : Int) + (k : Int)).toNat % 8)) = r := by
  subst hx
  rw [← ho, show ((at_ : Int) + (k : Int)).toNat = at_ + k by omega]
  congr 1

theorem put_or {wd v k at_ : Nat} {bs : List Nat} (hbs : bs.length = at_) (hk : k < wd) (hlt : ∀ x ∈ bs, x < 2) :
    bits .or .u8 (Plain.byteOf (Plain.at0 (bs ++ (Plain.fbits wd v).take k)) ((at_ + k) / 8) : Nat) (2 ^ (7 - (at_ + k) % 8) : Nat) =
      ((Plain.byteOf (Plain.at0 (bs ++ (Plain.fbits wd v).take k)) ((at_ + k) / 8) + 2 ^ (7 - (at_ + k) % 8) : Nat) : Int) := by
  have hl : (bs ++ (Plain.fbits wd v).take k).length = at_ + k := by
    rw [List.length_append, List.length_take, Plain.fbits_len, hbs]; omega
  have hb : ∀ x ∈ bs ++ (Plain.fbits wd v).take k, x < 2 := by
    intro x hx
    rcases List.mem_append.1 hx with h | h
    · exact hlt x h
    · exact Plain.fbits_lt wd v x (List.mem_of_mem_take h)
  have h1 := Plain.byteOf_lt _ (Plain.at0_lt _ hb) ((at_ + k) / 8)
  have h2 := Plain.byteOf_low (bs ++ (Plain.fbits wd v).take k)
  rw [hl] at h2
  exact Plain.or_byte _ _ h1 h2

set_option maxHeartbeats 1000000 in
theorem put_any (bb n c at_ wd v : Nat) (bs : List Nat) (hbs : bs.length = at_) (hlt : ∀ x ∈ bs, x < 2) (hfit : at_ + wd ≤ 8 * n) (hn : n ≤ 1000) (hw : wd ≤ 60) (hv : v ≤ 1152921504606846976) (w : World)
    (hrow : w.rowIs bb 5 n (fun j => .int .u8 (Plain.byteOf (Plain.at0 bs) j : Nat))) :
    Calls Try.prog 53 #[.slice (some ⟨bb, 0, none⟩) n c, .int .i64 at_, .agg #[.int .i64 wd, .int .i64 v]] w fun e w' => e = .returned (.tuple #[]) ∧
      w'.rowIs bb 5 n (fun j => .int .u8 (Plain.byteOf (Plain.at0 (bs ++ Plain.fbits wd v)) j : Nat)) ∧ w.grownBy w' (some bb) := by
  have HR := hid hrow
  have HB := hid hbs
  have HL := hid hlt
  have hne := hrow.lt
  clear hrow hbs hlt
  go_enter Try.func53, Try.ntmps53
  go_wp2
  go_loopw [9] (fun i wr => ∃ k : Nat, k ≤ wd ∧ i = .int .i64 k ∧ wr.rowIs bb 5 n (fun j => .int .u8 (Plain.byteOf (Plain.at0 (bs ++ (Plain.fbits wd v).take k)) j : Nat)) ∧
      wr.cell? ⟨w.heap.size, 0, none⟩ = some (.int .i64 wd) ∧ wr.cell? ⟨w.heap.size, 1, none⟩ = some (.int .i64 v) ∧ w.grownBy wr (some bb)) (fun i _ => wd - (intOf i).toNat)
  case atStart =>
    refine ⟨0, Nat.zero_le _, rfl, (put_start HR.out).1, ?_, ?_, (put_start (n := n) (wd := wd) (v := v) HR.out).2⟩ <;> simp
  case round =>
    obtain ⟨k, hk, rfl, hrow, hc0, hc1, hg⟩ := hrel
    have HG := hid hg
    clear hg
    by_cases hlt : k < wd
    · have hbit := Plain.low_bit v (wd - 1 - k) (by omega)
      cases eb : (v / 2 ^ (wd - 1 - k) % 2 == 1)
      · rw [eb] at hbit
        have EB := hid eb
        have HR := hid hrow
        clear eb hrow
        go_wp2
        go_roundw
        case rel => exact ⟨k + 1, by omega, by go_num, put_zero hlt EB.out HR.out, hc0, hc1, HG.out⟩
        case measure => simp [intOf]; omega
      · rw [eb] at hbit
        have EB := hid eb
        have hidx : (at_ + k) / 8 < n := by omega
        have hcell := hrow.cell hidx
        have hfro := hrow.frozen ((at_ + k) / 8)
        have HR := hid hrow
        have HO := hid (put_or (v := v) HB.out hlt HL.out)
        clear eb hrow
        generalize hx : Plain.byteOf (Plain.at0 (bs ++ (Plain.fbits wd v).take k)) ((at_ + k) / 8) = x at hcell
        have HX := hid hx
        clear hx
        obtain ⟨m, hm⟩ : ∃ m, m = (at_ + k) / 8 := ⟨_, rfl⟩
        rw [← hm] at hcell hfro hidx
        have htd : ((at_ : Int) + (k : Int)).tdiv 8 = (m : Int) := by rw [Int.tdiv_eq_ediv_of_nonneg (by omega)]; omega
        have hdv : ((at_ : Int) + (k : Int)) / 8 = (m : Int) := by omega
        have hws : IntKind.i64.wrap ((at_ : Int) + (k : Int)) = (at_ : Int) + (k : Int) := by have := Plain.wrap_nat (at_ + k) (by omega); rwa [Int.natCast_add] at this
        have hwm : IntKind.i64.wrap (m : Int) = (m : Int) := Plain.wrap_nat m (by omega)
        have hi1 : (m : Int) < (n : Int) := by omega
        have HM := hid hm
        clear hm
        go_wp2
        go_region_with (go_at_call 63; refine (mask_int _ (by omega) (by omega) _).mono ?_; rintro e w' ⟨rfl, rfl⟩)
        all_goals
          go_wp2
          go_roundw
          case rel => exact ⟨k + 1, by omega, by go_num, put_one HB.out hlt EB.out HM.out _ (put_val HX.out HO.out) HR.out, put_cell hne hc0, put_cell hne hc1, grown_trans HG.out (put_grown _ _ _ _)⟩
          case measure => simp [intOf]; omega
    · have ek : k = wd := by omega
      subst ek
      have HR := hid hrow
      clear hrow
      go_wp2
      refine bodyPost_end (results_none rfl _ _ _) rfl ?_
      exact ⟨rfl, by have := HR.out; rwa [List.take_of_length_le (by rw [Plain.fbits_len]; exact Nat.le_refl _)] at this, HG.out⟩
end Go.Proofs.Ytkmnofmhjoehiam

/-
  A contract of slices.BinarySearchFunc at entries, by their keys.
-/
import Derived.Test.YtiolkeghgodggakEr
namespace Go.Proofs.Ytiolkeghgodggak
open Go.RowKit

namespace Plain
/-- How two numbers compare. -/
def cmpI (a b : Int) : Int := if a < b then -1 else if b < a then 1 else 0
end Plain

set_option maxHeartbeats 1000000 in
theorem comp_c (x : Plain.En) (k : Int) (w : World) :
    Calls Try.prog 59 #[aggE x, .int .i64 k] w fun e w' => e = .returned (.int .i64 (Plain.cmpI x.key k)) ∧ w' = w.alloc (boxE x) := by
  obtain ⟨xk, xv, xt, xo, xg⟩ := x
  unfold Plain.cmpI
  dsimp only
  by_cases h1 : xk < k
  · rw [if_pos h1]
    go_enter Try.func59, Try.ntmps59
    go_wp2
    go_ret
    exact ⟨rfl, rfl⟩
  · rw [if_neg h1]
    by_cases h2 : k < xk
    · rw [if_pos h2]
      go_enter Try.func59, Try.ntmps59
      go_wp2
      go_ret
      exact ⟨rfl, rfl⟩
    · rw [if_neg h2]
      go_enter Try.func59, Try.ntmps59
      go_wp2
      go_ret
      exact ⟨rfl, rfl⟩

set_option maxHeartbeats 2000000 in
theorem search_some (b off n c : Nat) (k : Int) (l : List Plain.En) (hs : Plain.Srt l) (hn : l.length = n) (hbig : n ≤ 1000) (w : World) (hb : 0 < n → b < w.heap.size) (hc : CellsN w b off l) :
    Calls Try.prog 58 #[.slice (some ⟨b, off, none⟩) n c, .int .i64 k, .func (.func 59) #[] #[]] w fun e w' =>
      e = .returned (.tuple #[.int .i64 (Plain.less k l : Nat), .bool (Plain.hasK k l)]) ∧ Below w.heap.size w w' := by
  have HC := hid hc
  have HN := hid hn
  have HS := hid hs
  have HL := hid (Plain.less_le k l)
  clear hc hn hs
  go_enter Try.func58, Try.ntmps58
  go_wp2
  go_loopw [9, 10] (fun s9 s10 wx => ∃ i j : Nat, s9 = .int .i64 i ∧ s10 = .int .i64 j ∧ i ≤ Plain.less k l ∧ Plain.less k l ≤ j ∧ j ≤ n ∧ Below w.heap.size w wx) (fun s9 s10 _ => (intOf s10).toNat - (intOf s9).toNat)
  case atStart => exact ⟨0, n, rfl, rfl, Nat.zero_le _, by rw [← HN.out]; exact HL.out, Nat.le_refl _, Below.refl _ _⟩
  case round =>
    obtain ⟨i, j, rfl, rfl, h1, h2, h3, hbel⟩ := hrel
    have HB := hid hbel
    have H1 := hid h1
    have H2 := hid h2
    clear hbel h1 h2
    by_cases hij : i < j
    · have hij' : (i : Int) < (j : Int) := by omega
      obtain ⟨h, hh⟩ : ∃ h, h = (i + j) / 2 := ⟨_, rfl⟩
      have hh1 : i ≤ h := by omega
      have hh2 : h < j := by omega
      have hh2' : (h : Int) < (n : Int) := by omega
      have hdiv : ((i : Int) + (j : Int)) / 2 = (h : Int) := by omega
      have HH := hid hh
      clear hh
      obtain ⟨c0, c1, c2, c3, c4⟩ := (HC.out h (by rw [HN.out]; omega)).below HB.out (hb (by omega))
      have KC := fun W => comp_c (Plain.en l h) k W
      have HA := hid (Plain.less_at (k := k) HS.out (i := h) (by rw [HN.out]; omega))
      generalize Plain.en l h = y at c0 c1 c2 c3 c4 KC HA
      by_cases hy : y.key < k
      · have e1 : Plain.cmpI y.key k = -1 := by unfold Plain.cmpI; rw [if_pos hy]
        rw [e1] at KC
        have hlo := HA.out.1 hy
        clear e1
        go_wp2_with (go_at_call 59; refine (KC _).mono ?_; rintro e w' ⟨rfl, rfl⟩)
        go_roundw
        case rel => exact ⟨h + 1, j, by go_num, rfl, hlo, H2.out, h3, HB.out.alloc HB.out.size _⟩
        case measure => simp [intOf]; omega
      · have hz : ¬ Plain.cmpI y.key k < 0 := by
          unfold Plain.cmpI
          rw [if_neg hy]
          split <;> omega
        have hhi : Plain.less k l ≤ h := by
          have := mt HA.out.2 hy
          omega
        generalize Plain.cmpI y.key k = z at KC hz
        have hz0 : 0 ≤ z := by omega
        go_wp2_with (go_at_call 59; refine (KC _).mono ?_; rintro e w' ⟨rfl, rfl⟩)
        go_roundw
        case rel => exact ⟨i, h, rfl, rfl, H1.out, hhi, by omega, HB.out.alloc HB.out.size _⟩
        case measure => simp [intOf]; omega
    · have hij' : ¬ (i : Int) < (j : Int) := by omega
      have ei : i = Plain.less k l := by have := H1.out; have := H2.out; omega
      by_cases hin : i < n
      · have hin' : (i : Int) < (n : Int) := by omega
        obtain ⟨c0, c1, c2, c3, c4⟩ := (HC.out i (by rw [HN.out]; exact hin)).below HB.out (hb (by omega))
        have KC := fun W => comp_c (Plain.en l i) k W
        have HA := hid (mt (Plain.less_at (k := k) HS.out (i := i) (by rw [HN.out]; exact hin)).1 (by omega))
        have HK := hid (show Plain.hasK k l = decide ((Plain.en l i).key = k) by
          unfold Plain.hasK
          rw [← ei, HN.out]
          simp [hin])
        have HE := hid ei
        clear ei
        generalize Plain.en l i = y at c0 c1 c2 c3 c4 KC HA HK
        have hcm : Plain.cmpI y.key k = if y.key = k then 0 else 1 := by
          have := HA.out
          unfold Plain.cmpI
          rw [if_neg this]
          by_cases e : y.key = k
          · rw [if_pos e, if_neg (by omega)]
          · rw [if_neg e, if_pos (by omega)]
        rw [hcm] at KC
        clear hcm
        by_cases e : y.key = k
        · rw [if_pos e] at KC
          have HR := hid (show Plain.hasK k l = true by rw [HK.out]; exact decide_eq_true e)
          clear e
          go_wp2_with (go_at_call 59; refine (KC _).mono ?_; rintro e w' ⟨rfl, rfl⟩)
          go_ret2
          exact ⟨by rw [HR.out, ← HE.out]; rfl, HB.out.alloc HB.out.size _⟩
        · rw [if_neg e] at KC
          have HR := hid (show Plain.hasK k l = false by rw [HK.out]; exact decide_eq_false e)
          clear e
          go_wp2_with (go_at_call 59; refine (KC _).mono ?_; rintro e w' ⟨rfl, rfl⟩)
          go_ret2
          exact ⟨by rw [HR.out, ← HE.out]; rfl, HB.out.alloc HB.out.size _⟩
      · have hin' : ¬ (i : Int) < (n : Int) := by omega
        have HR := hid (show Plain.hasK k l = false by
          unfold Plain.hasK
          rw [← ei, HN.out]
          simp [hin])
        have HE := hid ei
        clear ei
        go_wp2
        go_ret2
        exact ⟨by rw [HR.out, ← HE.out]; rfl, HB.out⟩

set_option maxHeartbeats 1000000 in
theorem search_nil (p : Option Addr) (c : Nat) (k : Int) (f : Value) (w : World) :
    Calls Try.prog 58 #[.slice p 0 c, .int .i64 k, f] w fun e w' => e = .returned (.tuple #[.int .i64 0, .bool false]) ∧ w' = w := by
  go_enter Try.func58, Try.ntmps58
  go_wp2
  refine wp_loop_rounds 1 ?_
  rw [rounds_succ]
  go_wp2
  go_ret2
  exact ⟨rfl, rfl⟩

theorem search_any (v : Value) (k : Int) (l : List Plain.En) (hs : Plain.Srt l) (hbig : l.length ≤ 1000) (w : World) (h : SegN w v l) (hy : Lies w.heap.size v) :
    Calls Try.prog 58 #[v, .int .i64 k, .func (.func 59) #[] #[]] w fun e w' =>
      e = .returned (.tuple #[.int .i64 (Plain.less k l : Nat), .bool (Plain.hasK k l)]) ∧ Below w.heap.size w w' := by
  rcases h with ⟨rfl, q, c, rfl⟩ | ⟨b, off, c, rfl, _, hc⟩
  · exact (search_nil q c k _ w).mono fun e w' ⟨h1, h2⟩ => ⟨by rw [h1]; rfl, by rw [h2]; exact Below.refl _ _⟩
  · exact search_some b off l.length c k l hs rfl hbig w (fun h0 => hy ⟨b, off, none⟩ _ _ rfl h0) hc
end Go.Proofs.Ytiolkeghgodggak

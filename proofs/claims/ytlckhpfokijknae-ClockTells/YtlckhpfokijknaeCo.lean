/-
  A contract of clock.Order.
-/
import Derived.Test.YtlckhpfokijknaeCj
namespace Go.Proofs.Ytlckhpfokijknae
open Go.RowKit

theorem drewN_add (w : World) (p q : Nat) : (w.drewN p).drewN q = w.drewN (p + q) := by simp

namespace Plain
theorem lessK_all (a b : List Int) (k n : Nat) (hk : k < n) (h : a.getD k 0 < b.getD k 0) : lessK a b n = true := (lessK_iff a b n).2 ⟨k, hk, h⟩
theorem lessK_next (a b : List Int) (k : Nat) (h0 : lessK a b k = false) (h : ¬ a.getD k 0 < b.getD k 0) : lessK a b (k + 1) = false := by
  rw [lessK_succ, h0]; simpa using h
end Plain

theorem lt_true (x y : Int) (c : x < y) (w : World) : Calls Try.prog 17 #[.int .i64 x, .int .i64 y] w fun e w' => e = .returned (.bool true) ∧ w' = w := by
  go_enter Try.func17, Try.ntmps17
  go_wp2
  go_ret
  exact ⟨rfl, rfl⟩
theorem lt_false (x y : Int) (c : ¬ x < y) (w : World) : Calls Try.prog 17 #[.int .i64 x, .int .i64 y] w fun e w' => e = .returned (.bool false) ∧ w' = w := by
  go_enter Try.func17, Try.ntmps17
  go_wp2
  go_ret
  exact ⟨rfl, rfl⟩

set_option maxHeartbeats 1000000 in
theorem some_lt (b1 o1 c1 b2 o2 c2 : Nat) (a b : List Int) (hl : a.length ≤ 8) (w : World)
    (h1 : ∀ j, j < a.length → w.cell? ⟨b1, o1 + j, none⟩ = some (.int .i64 (a.getD j 0)))
    (h2 : ∀ j, j < a.length → w.cell? ⟨b2, o2 + j, none⟩ = some (.int .i64 (b.getD j 0))) :
    Calls Try.prog 16 #[.slice (some ⟨b1, o1, none⟩) a.length c1, .slice (some ⟨b2, o2, none⟩) a.length c2, .func (.func 17) #[] #[]] w
      fun e w' => e = .returned (.bool (Plain.lessK a b a.length)) ∧ ∃ q, w' = w.drewN q := by
  have H1 := hid h1
  have H2 := hid h2
  clear h1 h2
  go_enter Try.func16, Try.ntmps16
  go_wp2
  go_loopw [10] (fun i wr => ∃ k q : Nat, k ≤ a.length ∧ i = .int .i64 k ∧ Plain.lessK a b k = false ∧ wr = w.drewN q) (fun i _ => a.length - (intOf i).toNat)
  case atStart => exact ⟨0, 0, Nat.zero_le _, rfl, rfl, rfl⟩
  case round =>
    obtain ⟨k, q, hk, rfl, hno, hw⟩ := hrel
    have HN := hid hno
    have HW := hid hw
    clear hno hw
    by_cases hlt : k < a.length
    · have g1 : wr.cell? ⟨b1, o1 + k, none⟩ = some (.int .i64 (a.getD k 0)) := by rw [HW.out]; simpa using H1.out k hlt
      have g2 : wr.cell? ⟨b2, o2 + k, none⟩ = some (.int .i64 (b.getD k 0)) := by rw [HW.out]; simpa using H2.out k hlt
      have hlt' : (k : Int) < (a.length : Int) := by omega
      obtain ⟨x, hx⟩ : ∃ x, x = a.getD k 0 := ⟨_, rfl⟩
      obtain ⟨y, hy⟩ : ∃ y, y = b.getD k 0 := ⟨_, rfl⟩
      rw [← hx] at g1
      rw [← hy] at g2
      have HX := hid hx
      have HY := hid hy
      clear hx hy
      by_cases c : x < y
      · go_wp2
        go_quiet ((go_at_call 17; exact Calls.quiet_of_same (lt_true x y c _)))
        go_wp2
        go_ret
        exact ⟨ret_bool (by rw [Plain.lessK_all a b k _ hlt (by rw [← HX.out, ← HY.out]; exact c)]), _, by rw [HW.out, drewN_add]⟩
      · go_wp2
        go_quiet ((go_at_call 17; exact Calls.quiet_of_same (lt_false x y (by omega) _)))
        go_wp2
        go_roundw
        case rel => exact ⟨k + 1, _, by omega, by go_num, Plain.lessK_next a b k HN.out (by rw [← HX.out, ← HY.out]; omega), by rw [HW.out, drewN_add]⟩
        case measure => simp [intOf]; omega
    · have ek : k = a.length := by omega
      subst ek
      go_wp2
      go_ret
      exact ⟨ret_bool HN.out.symm, _, HW.out⟩
theorem gt_true (x y : Int) (c : y < x) (w : World) : Calls Try.prog 18 #[.int .i64 x, .int .i64 y] w fun e w' => e = .returned (.bool true) ∧ w' = w := by
  go_enter Try.func18, Try.ntmps18
  go_wp2
  go_ret
  exact ⟨rfl, rfl⟩
theorem gt_false (x y : Int) (c : ¬ y < x) (w : World) : Calls Try.prog 18 #[.int .i64 x, .int .i64 y] w fun e w' => e = .returned (.bool false) ∧ w' = w := by
  go_enter Try.func18, Try.ntmps18
  go_wp2
  go_ret
  exact ⟨rfl, rfl⟩

set_option maxHeartbeats 1000000 in
theorem some_gt (b1 o1 c1 b2 o2 c2 : Nat) (a b : List Int) (hl : a.length ≤ 8) (w : World)
    (h1 : ∀ j, j < a.length → w.cell? ⟨b1, o1 + j, none⟩ = some (.int .i64 (a.getD j 0)))
    (h2 : ∀ j, j < a.length → w.cell? ⟨b2, o2 + j, none⟩ = some (.int .i64 (b.getD j 0))) :
    Calls Try.prog 16 #[.slice (some ⟨b1, o1, none⟩) a.length c1, .slice (some ⟨b2, o2, none⟩) a.length c2, .func (.func 18) #[] #[]] w
      fun e w' => e = .returned (.bool (Plain.lessK b a a.length)) ∧ ∃ q, w' = w.drewN q := by
  have H1 := hid h1
  have H2 := hid h2
  clear h1 h2
  go_enter Try.func16, Try.ntmps16
  go_wp2
  go_loopw [10] (fun i wr => ∃ k q : Nat, k ≤ a.length ∧ i = .int .i64 k ∧ Plain.lessK b a k = false ∧ wr = w.drewN q) (fun i _ => a.length - (intOf i).toNat)
  case atStart => exact ⟨0, 0, Nat.zero_le _, rfl, rfl, rfl⟩
  case round =>
    obtain ⟨k, q, hk, rfl, hno, hw⟩ := hrel
    have HN := hid hno
    have HW := hid hw
    clear hno hw
    by_cases hlt : k < a.length
    · have g1 : wr.cell? ⟨b1, o1 + k, none⟩ = some (.int .i64 (a.getD k 0)) := by rw [HW.out]; simpa using H1.out k hlt
      have g2 : wr.cell? ⟨b2, o2 + k, none⟩ = some (.int .i64 (b.getD k 0)) := by rw [HW.out]; simpa using H2.out k hlt
      have hlt' : (k : Int) < (a.length : Int) := by omega
      obtain ⟨x, hx⟩ : ∃ x, x = a.getD k 0 := ⟨_, rfl⟩
      obtain ⟨y, hy⟩ : ∃ y, y = b.getD k 0 := ⟨_, rfl⟩
      rw [← hx] at g1
      rw [← hy] at g2
      have HX := hid hx
      have HY := hid hy
      clear hx hy
      by_cases c : y < x
      · go_wp2
        go_quiet ((go_at_call 18; exact Calls.quiet_of_same (gt_true x y c _)))
        go_wp2
        go_ret
        exact ⟨ret_bool (by rw [Plain.lessK_all b a k _ hlt (by rw [← HY.out, ← HX.out]; exact c)]), _, by rw [HW.out, drewN_add]⟩
      · go_wp2
        go_quiet ((go_at_call 18; exact Calls.quiet_of_same (gt_false x y (by omega) _)))
        go_wp2
        go_roundw
        case rel => exact ⟨k + 1, _, by omega, by go_num, Plain.lessK_next b a k HN.out (by rw [← HY.out, ← HX.out]; omega), by rw [HW.out, drewN_add]⟩
        case measure => simp [intOf]; omega
    · have ek : k = a.length := by omega
      subst ek
      go_wp2
      go_ret
      exact ⟨ret_bool HN.out.symm, _, HW.out⟩

set_option maxHeartbeats 400000 in
theorem order_err (u v : Value) (E : Nat) (h0 : E ≠ 0) (w : World)
    (K : Calls Try.prog 15 #[u, v] w fun e w' => e = .returned (.int .i64 E) ∧ w' = w) :
    Calls Try.prog 14 #[u, v] w fun e w' => e = .returned (.tuple #[.int .i64 0, .int .i64 E]) ∧ w' = w := by
  have h1 : ¬ (E : Int) = 0 := by omega
  go_enter Try.func14, Try.ntmps14
  go_wp2_with fail
  refine K.mono ?_
  rintro e w' ⟨rfl, rfl⟩
  clear K
  go_wp2
  go_ret2
  exact ⟨rfl, rfl⟩

/-- What two comparisons come to. -/
def Plain.told (x y : Bool) : Int := if (x && y) = true then 2 else if x = true then -1 else if y = true then 1 else 0

set_option maxHeartbeats 1000000 in
theorem order_ok (u v : Value) (x y : Bool) (w : World)
    (K : Calls Try.prog 15 #[u, v] w fun e w' => e = .returned (.int .i64 0) ∧ w' = w)
    (K1 : ∀ q, Calls Try.prog 16 #[u, v, .func (.func 17) #[] #[]] (w.drewN q) fun e w' => e = .returned (.bool x) ∧ ∃ q, w' = w.drewN q)
    (K2 : ∀ q, Calls Try.prog 16 #[u, v, .func (.func 18) #[] #[]] (w.drewN q) fun e w' => e = .returned (.bool y) ∧ ∃ q, w' = w.drewN q) :
    Calls Try.prog 14 #[u, v] w fun e w' => e = .returned (.tuple #[.int .i64 (Plain.told x y), .int .i64 0]) ∧ ∃ q, w' = w.drewN q := by
  go_enter Try.func14, Try.ntmps14
  go_wp2_with fail
  refine K.mono ?_
  rintro e w' ⟨rfl, rfl⟩
  clear K
  go_wp2_with fail
  refine (K1 0).mono ?_
  rintro e w1 ⟨rfl, q1, rfl⟩
  go_wp2_with fail
  refine (K2 q1).mono ?_
  rintro e w2 ⟨rfl, q2, rfl⟩
  clear K1 K2
  cases x <;> cases y <;> (go_wp2; go_ret2; exact ⟨rfl, q2, rfl⟩)

theorem oV_told (a b : List Int) (he : Plain.cE a b = 0) : Plain.oV a b = Plain.told (Plain.lessK a b a.length) (Plain.lessK b a a.length) := by
  have := (Plain.cE_parts he).2.2
  unfold Plain.oV Plain.told Plain.less
  rw [if_pos he, ← this]

/-- clock.Order at whatever two slices. -/
theorem order_any (u v : Value) (a b : List Int) (ha : a.length ≤ 9223372036854775807) (hb : b.length ≤ 9223372036854775807) (w : World) (h1 : Seg w u a) (h2 : Seg w v b) :
    Calls Try.prog 14 #[u, v] w fun e w' => e = .returned (.tuple #[.int .i64 (Plain.oV a b), .int .i64 (Plain.cE a b : Nat)]) ∧ ∃ q, w' = w.drewN q := by
  have K := refuse_any u v a b ha hb w h1 h2
  by_cases he : Plain.cE a b = 0
  · rw [oV_told a b he, he]
    rw [he] at K
    obtain ⟨oa, ob, hlen⟩ := Plain.cE_parts he
    have ha1 := (Plain.okC_iff a).1 oa
    rcases h1 with ⟨e, _⟩ | ⟨b1, o1, c1, rfl, g1⟩
    · rw [e] at ha1; simp at ha1
    rcases h2 with ⟨e, _⟩ | ⟨b2, o2, c2, rfl, g2⟩
    · rw [e] at hlen; rw [hlen] at ha1; simp at ha1
    rw [← hlen] at K g2 ⊢
    refine order_ok _ _ _ _ w K (fun q => ?_) (fun q => ?_)
    · refine (some_lt b1 o1 c1 b2 o2 c2 a b (by omega) _ (fun j hj => by simpa using g1 j hj) (fun j hj => by simpa using g2 j hj)).mono ?_
      rintro e w' ⟨rfl, q', rfl⟩
      exact ⟨rfl, _, drewN_add _ _ _⟩
    · refine (some_gt b1 o1 c1 b2 o2 c2 a b (by omega) _ (fun j hj => by simpa using g1 j hj) (fun j hj => by simpa using g2 j hj)).mono ?_
      rintro e w' ⟨rfl, q', rfl⟩
      exact ⟨rfl, _, drewN_add _ _ _⟩
  · have e0 : Plain.oV a b = 0 := by unfold Plain.oV; rw [if_neg he]
    rw [e0]
    refine (order_err u v _ he w K).mono ?_
    rintro e w' ⟨rfl, rfl⟩
    exact ⟨rfl, 0, rfl⟩
end Go.Proofs.Ytlckhpfokijknae

/-
  Contracts of the document's answers to May, Join and Order.
-/
import Derived.Test.YtlckhpfokijknadCo
namespace Go.Proofs.Ytlckhpfokijknad
open Go.RowKit

set_option maxHeartbeats 400000 in
theorem rmay_size (p : Option Addr) (n cap : Nat) (h : n < 1 ∨ 8 < n) (hm : n ≤ 9223372036854775807) (w : World) :
    Calls Try.prog 10 #[.slice p n cap] w fun e w' => e = .returned (.bool false) ∧ w' = w := by
  rcases h with h | h
  · have : n = 0 := by omega
    subst this
    go_enter Try.func10, Try.ntmps10
    go_wp2
    go_ret
    exact ⟨rfl, rfl⟩
  · have h1 : (8 : Int) < (n : Int) := by omega
    have h2 : ¬ (n : Int) = 0 := by omega
    go_enter Try.func10, Try.ntmps10
    go_wp2
    go_ret
    exact ⟨rfl, rfl⟩

set_option maxHeartbeats 1000000 in
theorem rmay_some (b off cap : Nat) (c : List Int) (hl : 1 ≤ c.length) (h8 : c.length ≤ 8) (w : World)
    (h : ∀ j, j < c.length → w.cell? ⟨b, off + j, none⟩ = some (.int .i64 (c.getD j 0))) :
    Calls Try.prog 10 #[.slice (some ⟨b, off, none⟩) c.length cap] w fun e w' => e = .returned (.bool (c.all Plain.okN)) ∧ w' = w := by
  have H := hid h
  clear h
  have h2 : ((c.length : Int) == 0) = false := beq_false_of_ne (by omega)
  go_enter Try.func10, Try.ntmps10
  go_wp2
  go_loop [15] (fun i => ∃ k : Nat, k ≤ c.length ∧ i = .int .i64 k ∧ (c.take k).all Plain.okN = true) (fun i => c.length - (intOf i).toNat)
  case atStart => exact ⟨0, Nat.zero_le _, rfl, rfl⟩
  case round =>
    obtain ⟨k, hk, rfl, hall⟩ := hrel
    have HA := hid hall
    clear hall
    by_cases hlt : k < c.length
    · have g := H.out k hlt
      have hlt' : (k : Int) < (c.length : Int) := by omega
      obtain ⟨x, hx⟩ : ∃ x, x = c.getD k 0 := ⟨_, rfl⟩
      rw [← hx] at g
      have HX := hid hx
      clear hx
      by_cases c1 : x < 0
      · go_wp2
        go_ret
        exact ⟨ret_bool (by rw [Plain.all_not hlt (by rw [← HX.out]; exact Plain.okN_no (.inl c1))]), rfl⟩
      · by_cases c2 : 1048576 < x
        · go_wp2
          go_ret
          exact ⟨ret_bool (by rw [Plain.all_not hlt (by rw [← HX.out]; exact Plain.okN_no (.inr c2))]), rfl⟩
        · go_wp2
          go_round
          case rel => exact ⟨k + 1, by omega, by go_num, Plain.all_at hlt HA.out (by rw [← HX.out]; exact (Plain.okN_iff x).2 ⟨by omega, by omega⟩)⟩
          case measure => simp [intOf]; omega
    · have ek : k = c.length := by omega
      subst ek
      go_wp2
      go_ret
      exact ⟨ret_bool (by have := HA.out; rw [List.take_length] at this; rw [this]), rfl⟩

/-- ref.ClockMay at whatever slice. -/
theorem rmay_any (v : Value) (c : List Int) (hl : c.length ≤ 9223372036854775807) (w : World) (h : Seg w v c) :
    Calls Try.prog 10 #[v] w fun e w' => e = .returned (.bool (Plain.okC c)) ∧ w' = w := by
  by_cases c1 : c.length < 1 ∨ 8 < c.length
  · have e : Plain.okC c = false := by
      cases hh : Plain.okC c
      · rfl
      · have := (Plain.okC_iff c).1 hh; omega
    rw [e]
    obtain ⟨p, cap, rfl⟩ := seg_form h
    exact rmay_size p _ cap c1 hl w
  · have e : Plain.okC c = c.all Plain.okN := by
      unfold Plain.okC
      have h1 : decide (1 ≤ c.length) = true := by simp; omega
      have h2 : decide (c.length ≤ 8) = true := by simp; omega
      rw [h1, h2]; simp
    rw [e]
    rcases h with ⟨rfl, p, cc, rfl⟩ | ⟨b, o, cc, rfl, g⟩
    · simp at c1
    · exact rmay_some b o cc c (by omega) (by omega) w g

set_option maxHeartbeats 1000000 in
theorem rabove (b1 o1 c1 b2 o2 c2 : Nat) (a b : List Int) (hl : a.length ≤ 8) (w : World)
    (h1 : ∀ j, j < a.length → w.cell? ⟨b1, o1 + j, none⟩ = some (.int .i64 (a.getD j 0)))
    (h2 : ∀ j, j < a.length → w.cell? ⟨b2, o2 + j, none⟩ = some (.int .i64 (b.getD j 0))) :
    Calls Try.prog 29 #[.slice (some ⟨b1, o1, none⟩) a.length c1, .slice (some ⟨b2, o2, none⟩) a.length c2] w
      fun e w' => e = .returned (.bool (!Plain.lessK b a a.length)) ∧ ∃ q, w' = w.drewN q := by
  have H1 := hid h1
  have H2 := hid h2
  clear h1 h2
  go_enter Try.func29, Try.ntmps29
  go_wp2
  go_loopw [8] (fun i wr => ∃ k q : Nat, k ≤ a.length ∧ i = .int .i64 k ∧ Plain.lessK b a k = false ∧ wr = w.drewN q) (fun i _ => a.length - (intOf i).toNat)
  case atStart => exact ⟨0, 0, Nat.zero_le _, rfl, rfl, rfl⟩
  case round =>
    obtain ⟨k, q, hk, rfl, hno, hw⟩ := hrel
    have HN := hid hno
    have HW := hid hw
    clear hno hw
    by_cases hlt : k < a.length
    · have g1 : wr.cell? ⟨b1, o1 + k, none⟩ = some (.int .i64 (a.getD k 0)) := by rw [HW.out]; simpa using H1.out k hlt
      have g2 : wr.cell? ⟨b2, o2 + k, none⟩ = some (.int .i64 (b.getD k 0)) := by rw [HW.out]; simpa using H2.out k hlt
      have hlt' : (k : Int) < (a.length : Int) := by omega
      obtain ⟨x, hx⟩ : ∃ x, x = a.getD k 0 := ⟨_, rfl⟩
      obtain ⟨y, hy⟩ : ∃ y, y = b.getD k 0 := ⟨_, rfl⟩
      rw [← hx] at g1
      rw [← hy] at g2
      have HX := hid hx
      have HY := hid hy
      clear hx hy
      by_cases c : y < x
      · go_wp2
        go_quiet (fail)
        go_wp2
        go_ret
        exact ⟨ret_bool (by rw [Plain.lessK_all b a k _ hlt (by rw [← HX.out, ← HY.out]; exact c)]; rfl), _, by rw [HW.out, drewN_add]⟩
      · go_wp2
        go_quiet (fail)
        go_wp2
        go_roundw
        case rel => exact ⟨k + 1, _, by omega, by go_num, Plain.lessK_next b a k HN.out (by rw [← HX.out, ← HY.out]; omega), by rw [HW.out, drewN_add]⟩
        case measure => simp [intOf]; omega
    · have ek : k = a.length := by omega
      subst ek
      go_wp2
      go_ret
      exact ⟨ret_bool (by rw [HN.out]; rfl), _, HW.out⟩

set_option maxHeartbeats 1000000 in
theorem rorder_err (u v : Value) (p q : Option Addr) (n m cp cq : Nat) (x y : Bool) (w : World) (hu : u = .slice p n cp) (hv : v = .slice q m cq) (he : (x && y) = true → ¬ n = m)
    (K1 : Calls Try.prog 10 #[u] w fun e w' => e = .returned (.bool x) ∧ w' = w)
    (K2 : Calls Try.prog 10 #[v] w fun e w' => e = .returned (.bool y) ∧ w' = w) :
    Calls Try.prog 15 #[u, v] w fun e w' => e = .returned (.tuple #[.int .i64 0, .int .i64 (if (x && y) = true then 1 else 4 : Nat)]) ∧ w' = w := by
  subst hu hv
  cases x
  · clear he
    go_enter Try.func15, Try.ntmps15
    go_wp2_with fail
    refine K1.mono ?_
    rintro e w' ⟨rfl, rfl⟩
    go_wp2
    go_ret2
    exact ⟨rfl, rfl⟩
  · cases y
    · clear he
      go_enter Try.func15, Try.ntmps15
      go_wp2_with fail
      refine K1.mono ?_
      rintro e w' ⟨rfl, rfl⟩
      go_wp2_with fail
      refine K2.mono ?_
      rintro e w' ⟨rfl, rfl⟩
      go_wp2
      go_ret2
      exact ⟨rfl, rfl⟩
    · have c := he rfl
      clear he
      have c' : ¬ (n : Int) = (m : Int) := by omega
      go_enter Try.func15, Try.ntmps15
      go_wp2_with fail
      refine K1.mono ?_
      rintro e w' ⟨rfl, rfl⟩
      go_wp2_with fail
      refine K2.mono ?_
      rintro e w' ⟨rfl, rfl⟩
      go_wp2
      go_ret2
      exact ⟨rfl, rfl⟩

theorem rtold (x y : Bool) : (if (!y) = true ∧ (!x) = true then (0 : Int) else if (!y) = true then -1 else if (!x) = true then 1 else 2) = Plain.told x y := by cases x <;> cases y <;> rfl

set_option maxHeartbeats 1000000 in
theorem rorder_ok (p q : Option Addr) (n cp cq : Nat) (x y : Bool) (w : World)
    (K1 : Calls Try.prog 10 #[.slice p n cp] w fun e w' => e = .returned (.bool true) ∧ w' = w)
    (K2 : Calls Try.prog 10 #[.slice q n cq] w fun e w' => e = .returned (.bool true) ∧ w' = w)
    (K3 : ∀ r, Calls Try.prog 29 #[.slice p n cp, .slice q n cq] (w.drewN r) fun e w' => e = .returned (.bool (!y)) ∧ ∃ r, w' = w.drewN r)
    (K4 : ∀ r, Calls Try.prog 29 #[.slice q n cq, .slice p n cp] (w.drewN r) fun e w' => e = .returned (.bool (!x)) ∧ ∃ r, w' = w.drewN r) :
    Calls Try.prog 15 #[.slice p n cp, .slice q n cq] w fun e w' => e = .returned (.tuple #[.int .i64 (Plain.told x y), .int .i64 0]) ∧ ∃ r, w' = w.drewN r := by
  go_enter Try.func15, Try.ntmps15
  go_wp2_with fail
  refine K1.mono ?_
  rintro e w' ⟨rfl, rfl⟩
  go_wp2_with fail
  refine K2.mono ?_
  rintro e w' ⟨rfl, rfl⟩
  clear K1 K2
  go_wp2_with fail
  refine (K3 0).mono ?_
  rintro e w1 ⟨rfl, q1, rfl⟩
  go_wp2_with fail
  refine (K4 q1).mono ?_
  rintro e w2 ⟨rfl, q2, rfl⟩
  clear K3 K4
  cases x <;> cases y <;> (go_wp2; go_ret2; exact ⟨rfl, q2, rfl⟩)

/-- ref.ClockOrder at whatever two slices. -/
theorem rorder_any (u v : Value) (a b : List Int) (ha : a.length ≤ 9223372036854775807) (hb : b.length ≤ 9223372036854775807) (w : World) (h1 : Seg w u a) (h2 : Seg w v b) :
    Calls Try.prog 15 #[u, v] w fun e w' => e = .returned (.tuple #[.int .i64 (Plain.oV a b), .int .i64 (Plain.cE a b : Nat)]) ∧ ∃ q, w' = w.drewN q := by
  have K1 := rmay_any u a ha w h1
  have K2 := rmay_any v b hb w h2
  by_cases he : Plain.cE a b = 0
  · rw [oV_told a b he, he]
    obtain ⟨oa, ob, hlen⟩ := Plain.cE_parts he
    have ha1 := (Plain.okC_iff a).1 oa
    rw [oa] at K1
    rw [ob] at K2
    rcases h1 with ⟨e, _⟩ | ⟨b1, o1, c1, rfl, g1⟩
    · rw [e] at ha1; simp at ha1
    rcases h2 with ⟨e, _⟩ | ⟨b2, o2, c2, rfl, g2⟩
    · rw [e] at hlen; rw [hlen] at ha1; simp at ha1
    rw [← hlen] at K2 g2 ⊢
    refine rorder_ok _ _ _ _ _ _ _ w K1 K2 (fun q => ?_) (fun q => ?_)
    · refine (rabove b1 o1 c1 b2 o2 c2 a b (by omega) _ (fun j hj => by simpa using g1 j hj) (fun j hj => by simpa using g2 j hj)).mono ?_
      rintro e w' ⟨rfl, q', rfl⟩
      exact ⟨rfl, _, drewN_add _ _ _⟩
    · rw [hlen] at g1 g2 ⊢
      refine (rabove b2 o2 c2 b1 o1 c1 b a (by omega) _ (fun j hj => by simpa using g2 j hj) (fun j hj => by simpa using g1 j hj)).mono ?_
      rintro e w' ⟨rfl, q', rfl⟩
      exact ⟨rfl, _, drewN_add _ _ _⟩
  · have e0 : Plain.oV a b = 0 := by unfold Plain.oV; rw [if_neg he]
    rw [e0]
    obtain ⟨p, cp, hu⟩ := seg_form h1
    obtain ⟨q, cq, hv⟩ := seg_form h2
    have e1 : Plain.cE a b = if (Plain.okC a && Plain.okC b) = true then 1 else 4 := by
      unfold Plain.cE at he ⊢
      split
      · rename_i h
        rw [if_pos h] at he
        split
        · rename_i h'; rw [if_pos h'] at he; exact absurd rfl he
        · rfl
      · rfl
    rw [e1]
    refine (rorder_err u v p q _ _ cp cq _ _ w hu hv (fun h hn => he ?_) K1 K2).mono ?_
    · unfold Plain.cE; rw [if_pos h, if_pos hn]
    · rintro e w' ⟨rfl, rfl⟩
      exact ⟨rfl, 0, rfl⟩
end Go.Proofs.Ytlckhpfokijknad

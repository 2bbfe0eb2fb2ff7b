/-
  A branch's Gain, Sell and Refund.
-/
import Derived.Test.YtiolkeghgodggahLm
import Derived.Deep.QuietTactic
import Derived.BigQuiet
import Derived.RegionTactic
namespace Go.Proofs.Ytiolkeghgodggah.Hd
open Go.RowKit Go.Shelf Go.Sort

theorem fromOne_c (n k : Int) (w : World) : Calls Try.prog 34 #[.int .i64 n, .int .i64 k] w fun e w' => e = .returned (.bool (decide (1 ≤ n) && decide (n ≤ k))) ∧ w' = w := by
  by_cases h1 : 1 ≤ n
  · by_cases h2 : n ≤ k
    · have e : (decide (1 ≤ n) && decide (n ≤ k)) = true := by simp [h1, h2]
      rw [e]
      clear e
      go_enter Try.func34, Try.ntmps34
      go_wp2
      go_ret
      exact ⟨rfl, rfl⟩
    · have e : (decide (1 ≤ n) && decide (n ≤ k)) = false := by simp [h2]
      rw [e]
      clear e
      go_enter Try.func34, Try.ntmps34
      go_wp2
      go_ret
      exact ⟨rfl, rfl⟩
  · have e : (decide (1 ≤ n) && decide (n ≤ k)) = false := by simp [h1]
    rw [e]
    clear e
    go_enter Try.func34, Try.ntmps34
    go_wp2
    go_ret
    exact ⟨rfl, rfl⟩
theorem needs_c (k : Int) (w : World) : Calls Try.prog 33 #[.int .i64 k] w fun e w' => e = .returned (.bool (Plain.counted k)) ∧ w' = w := by
  unfold Plain.counted
  by_cases h1 : k = 1
  · subst h1
    go_enter Try.func33, Try.ntmps33
    go_wp2
    go_ret
    exact ⟨rfl, rfl⟩
  by_cases h2 : k = 2
  · subst h2
    go_enter Try.func33, Try.ntmps33
    go_wp2
    go_ret
    exact ⟨rfl, rfl⟩
  by_cases h3 : k = 3
  · subst h3
    go_enter Try.func33, Try.ntmps33
    go_wp2
    go_ret
    exact ⟨rfl, rfl⟩
  by_cases h6 : k = 6
  · subst h6
    go_enter Try.func33, Try.ntmps33
    go_wp2
    go_ret
    exact ⟨rfl, rfl⟩
  have e : decide (k = 1 ∨ k = 2 ∨ k = 3 ∨ k = 6) = false := by simp [h1, h2, h3, h6]
  rw [e]
  have b1 : (k == 1) = false := beq_eq_false_iff_ne.2 h1
  have b2 : (k == 2) = false := beq_eq_false_iff_ne.2 h2
  have b3 : (k == 3) = false := beq_eq_false_iff_ne.2 h3
  have b6 : (k == 6) = false := beq_eq_false_iff_ne.2 h6
  clear e h1 h2 h3 h6
  go_enter Try.func33, Try.ntmps33
  go_wp2
  go_ret
  exact ⟨rfl, rfl⟩

set_option maxHeartbeats 2000000 in
/-- Gain. -/
theorem hgain_c (ZZ : Nat → Prop) (R oo : Nat) (XX : Win) (vo : Value) (f u m c : Int) (l : List Plain.Pt) (hf : 0 ≤ f ∧ f ≤ 1048576) (hu : 0 ≤ u ∧ u ≤ 1048576) (hc : 1 ≤ c ∧ c ≤ 1048576) (hl : ∀ p, p ∈ l → 0 ≤ p.count) (hs : 0 ≤ Plain.sumP l ∧ Plain.sumP l ≤ 1048576) (hb : l.length ≤ 1000) (w : World) (h : BrI ZZ R oo XX w vo f u m l) :
    Calls Try.prog 35 #[.pointer (some ⟨R, oo, none⟩), .int .i64 c] w fun e w' => e = .returned (.int .i64 ((if 1048576 < f + Plain.sumP l + u + c then 12 else 0 : Nat) : Nat)) ∧ BrI ZZ R oo XX w' vo (if 1048576 < f + Plain.sumP l + u + c then f else f + c) u m l ∧ Kp ZZ R w w' := by
  have mixed : Try.prog.follows .mixedOrders = true := by kernel_rfl
  have KH := fun n os => hheld_g ZZ R oo XX vo f u m l hl hs.2 hb (grow (w.drewN n) os) (h.grow (below_grow (Below.refl _ _) (Nat.le_refl _) n os))
  have p0 := fun n os => cell_grown (a := ⟨R, oo, none⟩) h.lt h.c0 n os
  have p1 := fun n os => cell_grown (a := ⟨R, oo + 1, none⟩) h.lt h.c1 n os
  have HB := hid h
  obtain ⟨d, hd⟩ : ∃ d, d = Plain.sumP l := ⟨_, rfl⟩
  rw [← hd] at KH hs ⊢
  clear hd h hl
  obtain ⟨f1, f2⟩ := hf
  obtain ⟨u1, u2⟩ := hu
  obtain ⟨c1, c2⟩ := hc
  obtain ⟨s1, s2⟩ := hs
  by_cases hlt : 1048576 < f + d + u + c
  · rw [if_pos hlt, if_pos hlt]
    obtain ⟨a1, ha1⟩ : ∃ a1, a1 = f + d := ⟨_, rfl⟩
    obtain ⟨a2, ha2⟩ : ∃ a2, a2 = a1 + u := ⟨_, rfl⟩
    obtain ⟨a3, ha3⟩ : ∃ a3, a3 = a2 + c := ⟨_, rfl⟩
    have hw1 : IntKind.i64.wrap (f + d) = a1 := by rw [ha1, IntKind.wrap_i64]; omega
    have hw2 : IntKind.i64.wrap (a1 + u) = a2 := by rw [ha2, IntKind.wrap_i64]; omega
    have hw3 : IntKind.i64.wrap (a2 + c) = a3 := by rw [ha3, IntKind.wrap_i64]; omega
    have hdec : decide (1048576 < a3) = true := by simp only [decide_eq_true_iff]; omega
    clear ha1 ha2 ha3
    go_enter Try.func35, Try.ntmps35
    go_wp2
    go_quiet_grown (first | (go_at_call 41; exact Calls.grown_of (KH _ _)) | fail)
    go_wp2
    go_ret
    exact ⟨rfl, HB.out.grow (below_grow (Below.refl _ _) (Nat.le_refl _) _ _), Kp.of_below (below_grow (Below.refl _ _) (Nat.le_refl _) _ _)⟩
  · rw [if_neg hlt, if_neg hlt]
    obtain ⟨a1, ha1⟩ : ∃ a1, a1 = f + d := ⟨_, rfl⟩
    obtain ⟨a2, ha2⟩ : ∃ a2, a2 = a1 + u := ⟨_, rfl⟩
    obtain ⟨a3, ha3⟩ : ∃ a3, a3 = a2 + c := ⟨_, rfl⟩
    have hw1 : IntKind.i64.wrap (f + d) = a1 := by rw [ha1, IntKind.wrap_i64]; omega
    have hw2 : IntKind.i64.wrap (a1 + u) = a2 := by rw [ha2, IntKind.wrap_i64]; omega
    have hw3 : IntKind.i64.wrap (a2 + c) = a3 := by rw [ha3, IntKind.wrap_i64]; omega
    have hdec : decide (1048576 < a3) = false := by simp only [decide_eq_false_iff_not]; omega
    clear ha1 ha2 ha3
    go_enter Try.func35, Try.ntmps35
    go_wp2
    go_quiet_grown (first | (go_at_call 41; exact Calls.grown_of (KH _ _)) | fail)
    obtain ⟨W, hW⟩ : ∃ W, W = grow (w.drewN nq) osq := ⟨_, rfl⟩
    rw [← hW]
    have H2 := hid (show BrI ZZ R oo XX W vo f u m l by rw [hW]; exact HB.out.grow (below_grow (Below.refl _ _) (Nat.le_refl _) _ _))
    have K2 := hid (show Kp ZZ R w W by rw [hW]; exact Kp.of_below (below_grow (Below.refl _ _) (Nat.le_refl _) _ _))
    clear hW p0 p1 KH hdec HB hw1 hw2 hw3
    have r0 := H2.out.c0
    have z0 := H2.out.row.frozen oo
    go_wp2
    go_ret
    exact ⟨rfl, H2.out.free _, K2.out.trans (Kp.setR _ _)⟩

set_option maxHeartbeats 2000000 in
/-- Sell. -/
theorem hsell_c (ZZ : Nat → Prop) (R oo : Nat) (XX : Win) (vo : Value) (f u m c : Int) (l : List Plain.Pt) (hf : 0 ≤ f ∧ f ≤ 1048576) (hu : 0 ≤ u ∧ u ≤ 1048576) (hc : 1 ≤ c ∧ c ≤ 1048576) (w : World) (h : BrI ZZ R oo XX w vo f u m l) :
    Calls Try.prog 36 #[.pointer (some ⟨R, oo, none⟩), .int .i64 c] w fun e w' => e = .returned (.int .i64 ((if f < c then 9 else 0 : Nat) : Nat)) ∧ BrI ZZ R oo XX w' vo (if f < c then f else f - c) (if f < c then u else u + c) m l ∧ Kp ZZ R w w' := by
  have HB := hid h
  have r0 := h.c0
  have r1 := h.c1
  have z0 := h.row.frozen oo
  have z1 := h.row.frozen (oo + 1)
  clear h
  obtain ⟨f1, f2⟩ := hf
  obtain ⟨u1, u2⟩ := hu
  obtain ⟨c1, c2⟩ := hc
  by_cases hlt : f < c
  · rw [if_pos hlt, if_pos hlt, if_pos hlt]
    go_enter Try.func36, Try.ntmps36
    go_wp2
    go_ret
    exact ⟨rfl, HB.out, Kp.refl _ _ _⟩
  · rw [if_neg hlt, if_neg hlt, if_neg hlt]
    go_enter Try.func36, Try.ntmps36
    go_wp2
    go_ret
    exact ⟨rfl, (HB.out.free _).used _, (Kp.setR _ _).trans (Kp.setR _ _)⟩

set_option maxHeartbeats 2000000 in
/-- Refund. -/
theorem hrefund_c (ZZ : Nat → Prop) (R oo : Nat) (XX : Win) (vo : Value) (f u m c : Int) (l : List Plain.Pt) (hf : 0 ≤ f ∧ f ≤ 1048576) (hu : 0 ≤ u ∧ u ≤ 1048576) (hc : 1 ≤ c ∧ c ≤ 1048576) (w : World) (h : BrI ZZ R oo XX w vo f u m l) :
    Calls Try.prog 39 #[.pointer (some ⟨R, oo, none⟩), .int .i64 c] w fun e w' => e = .returned (.int .i64 ((if u < c then 9 else 0 : Nat) : Nat)) ∧ BrI ZZ R oo XX w' vo (if u < c then f else f + c) (if u < c then u else u - c) m l ∧ Kp ZZ R w w' := by
  have HB := hid h
  have r0 := h.c0
  have r1 := h.c1
  have z0 := h.row.frozen oo
  have z1 := h.row.frozen (oo + 1)
  clear h
  obtain ⟨f1, f2⟩ := hf
  obtain ⟨u1, u2⟩ := hu
  obtain ⟨c1, c2⟩ := hc
  by_cases hlt : u < c
  · rw [if_pos hlt, if_pos hlt, if_pos hlt]
    go_enter Try.func39, Try.ntmps39
    go_wp2
    go_ret
    exact ⟨rfl, HB.out, Kp.refl _ _ _⟩
  · rw [if_neg hlt, if_neg hlt, if_neg hlt]
    go_enter Try.func39, Try.ntmps39
    go_wp2
    go_ret
    exact ⟨rfl, (HB.out.used _).free _, (Kp.setR _ _).trans (Kp.setR _ _)⟩
end Go.Proofs.Ytiolkeghgodggah.Hd

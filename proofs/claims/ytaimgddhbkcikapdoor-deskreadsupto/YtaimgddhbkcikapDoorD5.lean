/-
  The document's own digits.
-/
import Derived.Test.YtaimgddhbkcikapDoorD4
namespace Go.Proofs.YtaimgddhbkcikapDoor
open Go Go.RowKit Go.Sort Go.Shelf
open Plain
set_option maxRecDepth 100000
theorem enc1 : ∀ d : Nat, d < 10 → Utf8.encode (48 + (d : Int)) = ⟨#[UInt8.ofNat (48 + d)]⟩ := fun d h => by
  refine ByteArray.ext ?_
  have : ∀ d : Fin 10, (Utf8.encode (48 + (d.val : Int))).data = #[UInt8.ofNat (48 + d.val)] := by decide
  exact this ⟨d, h⟩

theorem conv_c (n : Int) (d : Nat) (hd : d < 10) (hn : n = 48 + (d : Int)) (w : World) : (convert 21 9 (.int .i32 n)).run Tryd.prog w = .ok (.string ⟨#[UInt8.ofNat (48 + d)]⟩) w := by
  subst hn
  have u21 := Tryd.underlying21
  have u9 := Tryd.underlying9
  have he := enc1 d hd
  obtain ⟨c, hc⟩ : ∃ c, c = UInt8.ofNat (48 + d) := ⟨_, rfl⟩
  rw [← hc] at he ⊢
  clear hc
  go_simp
theorem cat1 (c : UInt8) (acc : List UInt8) : Value.string ((⟨#[c]⟩ : ByteArray) ++ (⟨acc.toArray⟩ : ByteArray)) = bs (c :: acc) := by
  refine congrArg Value.string (ByteArray.ext ?_)
  simp
theorem cat2 (c : UInt8) (acc : List UInt8) : Value.string ((⟨#[45]⟩ : ByteArray) ++ ((⟨#[c]⟩ : ByteArray) ++ (⟨acc.toArray⟩ : ByteArray))) = bs (45 :: (c :: acc)) := by
  refine congrArg Value.string (ByteArray.ext ?_)
  simp
theorem acc_len {u u0 : Nat} {acc : List UInt8} (h : Lib.decDigits u ++ acc = Lib.decDigits u0) (hu : u0 < 18446744073709551616) : acc.length ≤ 20 := by
  have h1 := congrArg List.length h
  rw [List.length_append, Lib.decDigits_length, Lib.decDigits_length] at h1
  have := Lib.nDigits_le20 u0 hu
  omega
theorem quo_wrap (u : Nat) (h : (u : Int) ≤ 9223372036854775807) : wrap64 ((u : Int) / 10) = ((u / 10 : Nat) : Int) := by
  rw [show (u : Int) / 10 = ((u / 10 : Nat) : Int) by omega]
  unfold wrap64
  omega
theorem quo_wrapN (u : Nat) (h : (u : Int) ≤ 9223372036854775808) : wrap64 (-((u : Int) / 10)) = -((u / 10 : Nat) : Int) := by
  rw [show (u : Int) / 10 = ((u / 10 : Nat) : Int) by omega]
  unfold wrap64
  omega
theorem quo_zero (u : Nat) (h : (u : Int) ≤ 9223372036854775807) (e : (wrap64 ((u : Int) / 10) == 0) = true) : u / 10 = 0 := by
  rw [quo_wrap u h] at e
  have e' : ((u / 10 : Nat) : Int) = 0 := eq_of_beq e
  omega
theorem quo_some (u : Nat) (h : (u : Int) ≤ 9223372036854775807) (e : (wrap64 ((u : Int) / 10) == 0) = false) : u / 10 ≠ 0 := by
  rw [quo_wrap u h] at e
  have e' : ((u / 10 : Nat) : Int) ≠ 0 := by simpa using e
  omega
theorem quo_zeroN (u : Nat) (h : (u : Int) ≤ 9223372036854775808) (e : (wrap64 (-((u : Int) / 10)) == 0) = true) : u / 10 = 0 := by
  rw [quo_wrapN u h] at e
  have e' : -((u / 10 : Nat) : Int) = 0 := eq_of_beq e
  omega
theorem quo_someN (u : Nat) (h : (u : Int) ≤ 9223372036854775808) (e : (wrap64 (-((u : Int) / 10)) == 0) = false) : u / 10 ≠ 0 := by
  rw [quo_wrapN u h] at e
  have e' : -((u / 10 : Nat) : Int) ≠ 0 := by simpa using e
  omega
theorem dd_one (u : Nat) (h : u / 10 = 0) : Lib.decDigits u = [UInt8.ofNat (48 + u % 10)] := by
  rw [Lib.decDigits_one (by omega), show u % 10 = u by omega]
theorem dd_step (u : Nat) (acc : List UInt8) (h : u / 10 ≠ 0) : Lib.decDigits (u / 10) ++ UInt8.ofNat (48 + u % 10) :: acc = Lib.decDigits u ++ acc := by
  conv => rhs; rw [Lib.decDigits, dif_neg (show ¬ u < 10 by omega)]
  simp

set_option maxHeartbeats 4000000 in
theorem deci_pos (u0 : Nat) (hu : (u0 : Int) ≤ 9223372036854775807) (w : World) : Calls Tryd.prog 15 #[.int .i64 ((u0 : Int))] w fun e w' =>
    e = .returned (bs (Lib.decDigits u0)) ∧ w' = w := by
  have h0 : ¬ ((u0 : Int) < 0) := by omega
  go_enter Tryd.func15, Tryd.ntmps15
  go_wp2_with fail
  go_loop [0, 3] (fun v0 v3 => ∃ (u : Nat) (acc : List UInt8), v0 = .int .i64 ((u : Int)) ∧ v3 = bs acc ∧ Hid (Lib.decDigits u ++ acc = Lib.decDigits u0 ∧ u ≤ u0 ∧ (0 < u0 → 0 < u))) (fun v0 _ => (intOf v0).natAbs)
  case atStart => exact ⟨u0, [], rfl, rfl, hid ⟨by simp, Nat.le_refl _, fun h => h⟩⟩
  case round =>
    obtain ⟨u, acc, rfl, rfl, HR⟩ := hrel
    have hconv : ∀ w, (convert 21 9 (.int .i32 (48 + (u : Int) % 10))).run Tryd.prog w = .ok (.string ⟨#[UInt8.ofNat (48 + u % 10)]⟩) w := fun w => conv_c _ (u % 10) (by omega) (by omega) w
    obtain ⟨E, hE⟩ : ∃ E : ByteArray, E = ⟨#[UInt8.ofNat (48 + u % 10)]⟩ := ⟨_, rfl⟩
    rw [← hE] at hconv
    have hac := acc_len HR.out.1 (by omega)
    have hcat : ¬ (9223372036854775807 < E.size + acc.length) := by rw [hE]; simp [ByteArray.size]; omega
    have HE := hid hE
    clear hE hac
    go_wp2_with fail
    all_goals first
      | (have ht : (wrap64 ((u : Int) / 10) == 0) = true := by assumption
         have hul := HR.out.2.1
         have hz : u / 10 = 0 := quo_zero u (by omega) ht
         go_ret
         refine ⟨?_, rfl⟩
         refine congrArg Ending.returned ?_
         rw [← HR.out.1, dd_one u hz, HE.out]
         exact cat1 _ _)
      | (have ht : (wrap64 ((u : Int) / 10) == 0) = false := by assumption
         have hul := HR.out.2.1
         have hz : u / 10 ≠ 0 := quo_some u (by omega) ht
         refine ⟨⟨u / 10, UInt8.ofNat (48 + u % 10) :: acc, ?_, ?_, hid ⟨?_, by omega, fun _ => by omega⟩⟩, ?_⟩
         · rw [quo_wrap u (by omega)]
         · rw [HE.out]; exact cat1 _ _
         · rw [← HR.out.1]; exact dd_step u acc hz
         · rw [quo_wrap u (by omega)]; simp [intOf]; omega)

set_option maxHeartbeats 4000000 in
theorem deci_neg (u0 : Nat) (hp : 0 < u0) (hu : (u0 : Int) ≤ 9223372036854775808) (w : World) : Calls Tryd.prog 15 #[.int .i64 (-(u0 : Int))] w fun e w' =>
    e = .returned (bs (45 :: Lib.decDigits u0)) ∧ w' = w := by
  have h0 : -(u0 : Int) < 0 := by omega
  go_enter Tryd.func15, Tryd.ntmps15
  go_wp2_with fail
  go_loop [0, 3] (fun v0 v3 => ∃ (u : Nat) (acc : List UInt8), v0 = .int .i64 (-(u : Int)) ∧ v3 = bs acc ∧ Hid (Lib.decDigits u ++ acc = Lib.decDigits u0 ∧ u ≤ u0 ∧ (0 < u0 → 0 < u))) (fun v0 _ => (intOf v0).natAbs)
  case atStart => exact ⟨u0, [], rfl, rfl, hid ⟨by simp, Nat.le_refl _, fun h => h⟩⟩
  case round =>
    obtain ⟨u, acc, rfl, rfl, HR⟩ := hrel
    by_cases hm : 0 < (u : Int) % 10
    · have hconv : ∀ w, (convert 21 9 (.int .i32 (48 + (u : Int) % 10))).run Tryd.prog w = .ok (.string ⟨#[UInt8.ofNat (48 + u % 10)]⟩) w := fun w => conv_c _ (u % 10) (by omega) (by omega) w
      obtain ⟨E, hE⟩ : ∃ E : ByteArray, E = ⟨#[UInt8.ofNat (48 + u % 10)]⟩ := ⟨_, rfl⟩
      rw [← hE] at hconv
      have hac := acc_len HR.out.1 (by omega)
      have hcat : ¬ (9223372036854775807 < E.size + acc.length) := by rw [hE]; simp [ByteArray.size]; omega
      have hcat2 : ¬ (9223372036854775807 < 1 + (E.size + acc.length)) := by rw [hE]; simp [ByteArray.size]; omega
      have HE := hid hE
      clear hE hac
      go_wp2_with fail
      all_goals first
        | (have ht : (wrap64 (-((u : Int) / 10)) == 0) = true := by assumption
           have hul := HR.out.2.1
           have hz : u / 10 = 0 := quo_zeroN u (by omega) ht
           go_ret
           refine ⟨?_, rfl⟩
           refine congrArg Ending.returned ?_
           rw [← HR.out.1, dd_one u hz, HE.out]
           exact cat2 _ _)
        | (have ht : (wrap64 (-((u : Int) / 10)) == 0) = false := by assumption
           have hul := HR.out.2.1
           have hz : u / 10 ≠ 0 := quo_someN u (by omega) ht
           refine ⟨⟨u / 10, UInt8.ofNat (48 + u % 10) :: acc, ?_, ?_, hid ⟨?_, by omega, fun _ => by omega⟩⟩, ?_⟩
           · rw [quo_wrapN u (by omega)]
           · rw [HE.out]; exact cat1 _ _
           · rw [← HR.out.1]; exact dd_step u acc hz
           · rw [quo_wrapN u (by omega)]; simp [intOf]; omega)
    · have hconv : ∀ w, (convert 21 9 (.int .i32 (48 + -((u : Int) % 10)))).run Tryd.prog w = .ok (.string ⟨#[UInt8.ofNat (48 + u % 10)]⟩) w := fun w => conv_c _ (u % 10) (by omega) (by omega) w
      obtain ⟨E, hE⟩ : ∃ E : ByteArray, E = ⟨#[UInt8.ofNat (48 + u % 10)]⟩ := ⟨_, rfl⟩
      rw [← hE] at hconv
      have hac := acc_len HR.out.1 (by omega)
      have hcat : ¬ (9223372036854775807 < E.size + acc.length) := by rw [hE]; simp [ByteArray.size]; omega
      have hcat2 : ¬ (9223372036854775807 < 1 + (E.size + acc.length)) := by rw [hE]; simp [ByteArray.size]; omega
      have HE := hid hE
      clear hE hac
      go_wp2_with fail
      all_goals first
        | (have ht : (wrap64 (-((u : Int) / 10)) == 0) = true := by assumption
           have hul := HR.out.2.1
           have hz : u / 10 = 0 := quo_zeroN u (by omega) ht
           go_ret
           refine ⟨?_, rfl⟩
           refine congrArg Ending.returned ?_
           rw [← HR.out.1, dd_one u hz, HE.out]
           exact cat2 _ _)
        | (have ht : (wrap64 (-((u : Int) / 10)) == 0) = false := by assumption
           have hul := HR.out.2.1
           have hz : u / 10 ≠ 0 := quo_someN u (by omega) ht
           refine ⟨⟨u / 10, UInt8.ofNat (48 + u % 10) :: acc, ?_, ?_, hid ⟨?_, by omega, fun _ => by omega⟩⟩, ?_⟩
           · rw [quo_wrapN u (by omega)]
           · rw [HE.out]; exact cat1 _ _
           · rw [← HR.out.1]; exact dd_step u acc hz
           · rw [quo_wrapN u (by omega)]; simp [intOf]; omega)
/-- The document's digits are those of the library. -/
theorem deci_c (n : Int) (h0 : -9223372036854775808 ≤ n) (h1 : n ≤ 9223372036854775807) (w : World) : Calls Tryd.prog 15 #[.int .i64 n] w fun e w' =>
    e = .returned (bs (Lib.itoa n)) ∧ w' = w := by
  by_cases hn : n < 0
  · have := deci_neg n.natAbs (by omega) (by omega) w
    rw [show (-(n.natAbs : Int)) = n by omega] at this
    unfold Lib.itoa
    rw [if_pos hn]
    exact this
  · have := deci_pos n.toNat (by omega) w
    rw [show ((n.toNat : Nat) : Int) = n by omega] at this
    unfold Lib.itoa
    rw [if_neg hn]
    exact this
end Go.Proofs.YtaimgddhbkcikapDoor

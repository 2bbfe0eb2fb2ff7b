/-
  frame: slotOf.
-/
import Derived.Test.YtkmnofmhjoehiamQ9
import Derived.Test.YtkmnofmhjoehiamNw
import Derived.Test.YtkmnofmhjoehiamWb
namespace Go.Proofs.Ytkmnofmhjoehiam
open Go.RowKit Go.Shelf
namespace Plain
theorem or_add (a i b : Nat) (h : b < 2 ^ i) : a * 2 ^ i ||| b = a * 2 ^ i + b := by
  rw [← Nat.shiftLeft_eq]
  exact (Nat.shiftLeft_add_eq_or_of_lt h a).symm
theorem or_gone (R : Nat) (h : R < 4294967296) : (8589934592 + R) ||| 4294967296 = 12884901888 + R := by
  have e1 : (8589934592 + R : Nat) = 8589934592 ||| R := (or_add 2 32 R h).symm
  have e2 : (12884901888 + R : Nat) = 12884901888 ||| R := (or_add 3 32 R h).symm
  rw [e1, e2, Nat.or_assoc, Nat.or_comm R, ← Nat.or_assoc]
  rfl
theorem slot_or (v t o : Nat) (hv : v ≤ 255) (ht : t ≤ 1048576) (ho : o < 8) :
    bits .or .i64 (bits .or .i64 (bits .or .i64 8589934592 ((v : Int) * 16777216)) ((t : Int) * 8)) (o : Int) = ((8589934592 + v * 16777216 + t * 8 + o : Nat) : Int) := by
  have e0 : ((v : Int) * 16777216) = ((v * 16777216 : Nat) : Int) := by simp
  have e1 : ((t : Int) * 8) = ((t * 8 : Nat) : Int) := by simp
  rw [e0, e1, show (8589934592 : Int) = ((8589934592 : Nat) : Int) from rfl, or_nat _ _ (by omega) (by omega), show (8589934592 ||| v * 16777216 : Nat) = 8589934592 + v * 16777216 from or_add 1 33 _ (by omega),
    or_nat _ _ (by omega) (by omega), show (8589934592 + v * 16777216 ||| t * 8 : Nat) = 8589934592 + v * 16777216 + t * 8 by rw [show (8589934592 + v * 16777216 : Nat) = (512 + v) * 2 ^ 24 by omega]; exact or_add _ 24 _ (by omega),
    or_nat _ _ (by omega) (by omega), show (8589934592 + v * 16777216 + t * 8 ||| o : Nat) = 8589934592 + v * 16777216 + t * 8 + o by rw [show (8589934592 + v * 16777216 + t * 8 : Nat) = ((512 + v) * 2097152 + t) * 2 ^ 3 by omega]; exact or_add _ 3 _ (by omega)]
theorem slot_or2 (v t o : Nat) (hv : v ≤ 255) (ht : t ≤ 1048576) (ho : o < 8) :
    bits .or .i64 (bits .or .i64 (bits .or .i64 (bits .or .i64 8589934592 ((v : Int) * 16777216)) ((t : Int) * 8)) (o : Int)) 4294967296 = ((12884901888 + v * 16777216 + t * 8 + o : Nat) : Int) := by
  rw [slot_or v t o hv ht ho, show (4294967296 : Int) = ((4294967296 : Nat) : Int) from rfl, or_nat _ _ (by omega) (by omega)]
  have := or_gone (v * 16777216 + t * 8 + o) (by omega)
  rw [show 8589934592 + v * 16777216 + t * 8 + o = 8589934592 + (v * 16777216 + t * 8 + o) by omega, this]
  congr 1
  omega
end Plain
set_option maxHeartbeats 1000000 in
theorem slotOf_c (x : Plain.En) (hm : Plain.mayB x = true) (hf : Plain.fitE x = true) (w : World) :
    Calls Try.prog 33 #[aggE x] w fun e w' => e = .returned (.int .i64 (Plain.slotN x : Nat)) ∧ w' = w.alloc (boxE x) := by
  have h1 := Plain.may_e hm
  have h2 := Plain.fit_e hf
  clear hm hf
  have HR := hid (show Plain.slotN x = 8589934592 + (if x.gone = true then 4294967296 else 0) + x.value.toNat * 16777216 + x.time.toNat * 8 + x.who.toNat from rfl)
  obtain ⟨k, v, t, o, g⟩ := x
  dsimp only at *
  obtain ⟨v, rfl⟩ := Int.eq_ofNat_of_zero_le h1.2.1.1
  obtain ⟨t, rfl⟩ := Int.eq_ofNat_of_zero_le h1.2.2.1.1
  obtain ⟨o, rfl⟩ := Int.eq_ofNat_of_zero_le h1.2.2.2.1.1
  have hv : (v : Int) ≤ 255 := h2.2
  have ht : (t : Int) ≤ 1048576 := h1.2.2.1.2
  have ho : (o : Int) < 8 := h1.2.2.2.1.2
  clear h1 h2
  have E1 := hid (Plain.slot_or v t o (by omega) (by omega) (by omega))
  have E2 := hid (Plain.slot_or2 v t o (by omega) (by omega) (by omega))
  cases g with
  | false =>
    go_enter Try.func33, Try.ntmps33
    go_wp2
    go_ret
    refine ⟨?_, rfl⟩
    show Ending.returned (.int .i64 (bits .or .i64 (bits .or .i64 (bits .or .i64 8589934592 ((v : Int) * 16777216)) ((t : Int) * 8)) (o : Int))) = _
    rw [E1.out, HR.out]
    rfl
  | true =>
    go_enter Try.func33, Try.ntmps33
    go_wp2
    go_ret
    refine ⟨?_, rfl⟩
    show Ending.returned (.int .i64 (bits .or .i64 (bits .or .i64 (bits .or .i64 (bits .or .i64 8589934592 ((v : Int) * 16777216)) ((t : Int) * 8)) (o : Int)) 4294967296)) = _
    rw [E2.out, HR.out]
    rfl
end Go.Proofs.Ytkmnofmhjoehiam

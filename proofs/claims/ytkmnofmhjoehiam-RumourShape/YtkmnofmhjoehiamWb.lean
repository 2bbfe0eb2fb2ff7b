/-
  Plain facts on bits of 64-bit numbers and of bytes (no program in them).
-/
import Derived.Test.YtkmnofmhjoehiamWq
import Derived.Deep.QuietTactic
namespace Go.Proofs.Ytkmnofmhjoehiam
namespace Plain

theorem toNat_ofInt (a : Nat) (h : a < 9223372036854775808) : (BitVec.ofInt 64 (a : Int)).toNat = a := by
  rw [BitVec.ofInt_natCast, BitVec.toNat_ofNat]; exact Nat.mod_eq_of_lt (by omega)

theorem wrap_nat (a : Nat) (h : a < 9223372036854775808) : IntKind.i64.wrap (a : Int) = (a : Int) := by
  simp only [IntKind.wrap, IntKind.bits, IntKind.signed]
  simp
  omega

theorem and_nat (a b : Nat) (ha : a < 9223372036854775808) (hb : b < 9223372036854775808) :
    bits .and .i64 (a : Int) (b : Int) = ((a &&& b : Nat) : Int) := by
  have hx : a &&& b < 2 ^ 63 := Nat.and_lt_two_pow _ (by omega)
  show IntKind.i64.wrap ((BitVec.ofInt 64 (a : Int) &&& BitVec.ofInt 64 (b : Int)).toNat : Int) = _
  rw [BitVec.toNat_and, toNat_ofInt a ha, toNat_ofInt b hb, wrap_nat _ (by omega)]

theorem or_nat (a b : Nat) (ha : a < 9223372036854775808) (hb : b < 9223372036854775808) :
    bits .or .i64 (a : Int) (b : Int) = ((a ||| b : Nat) : Int) := by
  have hx : a ||| b < 2 ^ 63 := Nat.or_lt_two_pow (by omega) (by omega)
  show IntKind.i64.wrap ((BitVec.ofInt 64 (a : Int) ||| BitVec.ofInt 64 (b : Int)).toNat : Int) = _
  rw [BitVec.toNat_or, toNat_ofInt a ha, toNat_ofInt b hb, wrap_nat _ (by omega)]

/-- The lowest bit of what is left of v, as put asks for it. -/
theorem low_bit (v m : Nat) (h : v < 9223372036854775808) : (bits .and .i64 ((v : Int) / 2 ^ m) 1 != 0) = (v / 2 ^ m % 2 == 1) := by
  have hd : v / 2 ^ m ≤ v := Nat.div_le_self _ _
  have e : ((v : Int) / 2 ^ m) = ((v / 2 ^ m : Nat) : Int) := by simp
  have e2 : bits .and .i64 ((v / 2 ^ m : Nat) : Int) 1 = ((v / 2 ^ m % 2 : Nat) : Int) := by
    have := and_nat (v / 2 ^ m) 1 (by omega) (by omega)
    rw [Nat.and_one_is_mod] at this
    exact this
  rw [e, e2, Bool.eq_iff_iff, bne_iff_ne, beq_iff_eq]
  omega

theorem or_one (v : Nat) (h : v < 4611686018427387904) : bits .or .i64 ((2 * v : Nat) : Int) 1 = ((2 * v + 1 : Nat) : Int) := by
  have := or_nat (2 * v) 1 (by omega) (by omega)
  have e : 2 * v ||| 1 = 2 * v + 1 := by
    have := Nat.shiftLeft_add_eq_or_of_lt (b := 1) (i := 1) (by decide) v
    rw [Nat.shiftLeft_eq, show v * 2 ^ 1 = 2 * v by omega] at this
    exact this.symm
  rw [e] at this
  exact this

theorem or8 : ∀ x : Fin 256, ∀ r : Fin 8, x.val % 2 ^ (8 - r.val) = 0 → bits .or .u8 (x.val : Int) ((2 ^ (7 - r.val) : Nat) : Int) = ((x.val + 2 ^ (7 - r.val) : Nat) : Int) := by decide +kernel
theorem and8 : ∀ x : Fin 256, ∀ r : Fin 8, (bits .and .u8 (x.val : Int) ((2 ^ (7 - r.val) : Nat) : Int) != 0) = (x.val / 2 ^ (7 - r.val) % 2 == 1) := by decide +kernel

theorem or_byte (x p : Nat) (hx : x < 256) (h : x % 2 ^ (8 - p % 8) = 0) : bits .or .u8 (x : Int) ((2 ^ (7 - p % 8) : Nat) : Int) = ((x + 2 ^ (7 - p % 8) : Nat) : Int) :=
  or8 ⟨x, hx⟩ ⟨p % 8, by omega⟩ h
theorem and_byte (x p : Nat) (hx : x < 256) : (bits .and .u8 (x : Int) ((2 ^ (7 - p % 8) : Nat) : Int) != 0) = (x / 2 ^ (7 - p % 8) % 2 == 1) :=
  and8 ⟨x, hx⟩ ⟨p % 8, by omega⟩
end Plain

theorem grown_refl (w : World) (row : Option Nat) : w.grownBy w row := ⟨rfl, rfl, rfl, Nat.le_refl _, fun _ _ _ => rfl⟩
theorem grown_trans {a b c : World} {row : Option Nat} (h : a.grownBy b row) (k : b.grownBy c row) : a.grownBy c row :=
  ⟨k.os.trans h.os, k.tape.trans h.tape, k.output.trans h.output, Nat.le_trans h.size k.size, fun i hi hr => (k.block i (Nat.lt_of_lt_of_le hi h.size) hr).trans (h.block i hi hr)⟩
theorem grown_setCell (w : World) (a : Addr) (u : Value) (b : Nat) (h : a.block = b) : w.grownBy (w.setCell a u) (some b) := by
  subst h
  exact ⟨rfl, rfl, rfl, by simp [World.setCell], fun i _ hr => RowKit.Below.heap_setCell w a u i (fun e => hr (by rw [e]))⟩
theorem grown_alloc (w : World) (o : Obj) (row : Option Nat) : w.grownBy (w.alloc o) row := World.grownBy_alloc w o row
theorem grown_drew (w : World) (q : Nat) (row : Option Nat) : w.grownBy (w.drewN q) row := by
  have : ∀ q (w : World), (w.drewN q).heap = w.heap ∧ (w.drewN q).os = w.os ∧ (w.drewN q).output = w.output ∧ (w.drewN q).tape = w.tape := by
    intro q
    induction q with
    | zero => intro w; exact ⟨rfl, rfl, rfl, rfl⟩
    | succ q ih => intro w; exact ih w.drew
  obtain ⟨h1, h2, h3, h4⟩ := this q w
  exact ⟨h2, h4, h3, by rw [h1]; exact Nat.le_refl _, fun i _ _ => by rw [h1]⟩
end Go.Proofs.Ytkmnofmhjoehiam

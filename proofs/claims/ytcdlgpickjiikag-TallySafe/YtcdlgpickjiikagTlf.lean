/-
  tally.Left where nothing is refused.
-/
import Derived.Test.YtcdlgpickjiikagTlr
import Derived.Test.YtcdlgpickjiikagTq
namespace Go.Proofs.Ytcdlgpickjiikag
open Go.RowKit Go.Sort
theorem left_ok (vm vu : Value) (t : Plain.Ta) (n : Nat) (s : Plain.Sq n t) (o : Nat) (ho : o < n) (w : World) (h : HasT w vm vu t) :
    Calls Try.prog 12 #[aggT vm vu, .int .i64 (o : Nat)] w fun e w' => e = .returned (.tuple #[.int .i64 (Plain.leftT t o), .int .i64 0]) ∧ Below w.heap.size w w' := by
  have K := Left_c vm vu t (o : Int) w h
  have e0 : Plain.leftE t (o : Int) = 0 := Plain.leftE_sq s (by omega) (by omega)
  rw [e0, show Plain.leftV t (o : Int) = Plain.leftT t o by unfold Plain.leftV; rw [if_pos e0, Int.toNat_natCast]] at K
  exact K
end Go.Proofs.Ytcdlgpickjiikag

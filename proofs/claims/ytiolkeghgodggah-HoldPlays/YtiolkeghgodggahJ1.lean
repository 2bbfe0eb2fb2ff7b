/-
  What is told, held against itself; numbers of what is told.
-/
import Derived.Test.YtiolkeghgodggahJo
import Derived.Test.YtiolkeghgodggahRw
import Derived.Deep.LoopGhost
import Derived.Deep.QuietTactic
import Derived.BigQuiet
import Derived.Shelf.Abstract
namespace Go.Proofs.Ytiolkeghgodggah.Hd
open Go.RowKit Go.Shelf

theorem Try.guardStock : Try.prog.eqGuardType Try.prog.depth 36 = false := by kernel_rfl
theorem neqS (x : Plain.St) (w : World) : (binOp .neq 36 (aggS x) (aggS x)).run Try.prog w = .ok (.bool false) w := by
  have u3 := Try.underlying3
  have a3 := Try.isAgg3
  have z3 := Try.sizeOf3
  have u4 := Try.underlying32
  have a4 := Try.isAgg32
  have z4 := Try.sizeOf32
  have hS : Try.prog.underlying 36 = some (.struct (Try.prog.fieldsOf 36)) := by kernel_rfl
  have hp : Try.prog.stoodInHeld 36 = false := by kernel_rfl
  obtain ⟨xk, xv, xt, xo, xg⟩ := x
  rw [run_neq_struct, show (10000 : Nat) = 9999 + 1 from rfl, run_equalIn_agg w 9999 36 _ _ hS hp]
  simp only [Program.fieldsOf, Try.underlying36]
  go_simp
theorem CellS.drewN {w : World} {b o : Nat} {d : Plain.St} (h : CellS w b o d) (q : Nat) : CellS (w.drewN q) b o d :=
  ⟨by simpa using h.c0, by simpa using h.c1, by simpa using h.c2, by simpa using h.c3, by simpa using h.c4⟩
theorem CellO.drewN' {w : World} {b o : Nat} {d : Plain.Or} (h : CellO w b o d) (q : Nat) : CellO (w.drewN q) b o d :=
  ⟨by simpa using h.c0, by simpa using h.c1, by simpa using h.c2, by simpa using h.c3⟩
end Go.Proofs.Ytiolkeghgodggah.Hd

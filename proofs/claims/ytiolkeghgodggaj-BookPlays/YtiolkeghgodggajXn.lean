/-
  The document's NewBroker.
-/
import Derived.Test.YtiolkeghgodggajX0
namespace Go.Proofs.Ytiolkeghgodggaj.Bo
open Go.RowKit Go.Shelf Go.Sort

set_option maxHeartbeats 8000000 in
set_option maxRecDepth 100000 in
theorem newb_c (bm tk : Nat) (mo : Int) (h1 : 1 ≤ bm ∧ bm ≤ 8) (h2 : 0 ≤ mo ∧ mo ≤ 1048576) (h3 : 1 ≤ tk ∧ tk ≤ 8) (w : World) :
    Calls Try.prog 23 #[.int .i64 (bm : Int), .int .i64 mo, .int .i64 (tk : Int)] w fun e w' => ∃ R A G S Q, e = .returned (.pointer (some ⟨R, 0, none⟩)) ∧ RbI w.heap.size R A G S Q w' (Plain.Bk.new bm mo tk) ∧ Below w.heap.size w w' := by
  have hmb := run_make_row' (P := Try.prog) 29 3 (.int .i64 0) 8 Try.underlying29 Try.infoInt rfl .i64 .i64 bm (by omega) (by omega)
  go_enter Try.func23, Try.ntmps23
  go_wp2
  go_region_held3 (fun _ => True) (trivial) (fail)
  all_goals go_wp2
  all_goals go_ret
  all_goals
    refine ⟨_, _, _, _, _, rfl, RbI.start h1 h2 h3 (by first | exact (al5 _ _ _ _ _ _).2.2.2.2.1) (by first | exact (al5 _ _ _ _ _ _).1 | exact (al5 _ _ _ _ _ _).2.1 | exact (al5 _ _ _ _ _ _).2.2.1 | exact (al5 _ _ _ _ _ _).2.2.2.1) (by first | exact (al5 _ _ _ _ _ _).1 | exact (al5 _ _ _ _ _ _).2.1 | exact (al5 _ _ _ _ _ _).2.2.1 | exact (al5 _ _ _ _ _ _).2.2.2.1)
      (by first | exact (al5 _ _ _ _ _ _).1 | exact (al5 _ _ _ _ _ _).2.1 | exact (al5 _ _ _ _ _ _).2.2.1 | exact (al5 _ _ _ _ _ _).2.2.2.1) (by first | exact (al5 _ _ _ _ _ _).1 | exact (al5 _ _ _ _ _ _).2.1 | exact (al5 _ _ _ _ _ _).2.2.1 | exact (al5 _ _ _ _ _ _).2.2.2.1) ?_, (al5 _ _ _ _ _ _).2.2.2.2.2⟩
    refine ⟨?_, ?_, ?_, ?_, ?_, ?_, ?_, ?_, ?_, ?_, ?_, ?_, ?_, ?_, ?_⟩ <;> omega
end Go.Proofs.Ytiolkeghgodggaj.Bo

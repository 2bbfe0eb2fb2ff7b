/-
  NARROWER THAN 'FOR EVERY INPUT', by the rows' own cells (each row's printed sentence says how): ViewTwice: laid · ViewAll: laid · ViewLess: laid.
  DERIVED. THE GIVEN ROWS OF THIS SEAT. 3 by the template 'for every input the law returns true; each argument reads behind the call as it read before'; 0 by the template 'total and deterministic' (their statements: YtgjmhojmbgfkhaaGreatDoorTotals.lean).
  GIVEN WITH THE SEED: the statements are not yours to turn. If you find one false, say at which input.
  Laid BY PROGRAM, IN A SANDBOX (cutbox-rows.mjs): the forced cells as the released guide's own fill.sh prints them over the translation 7716f7f98a3b4d0e… (all of the seat's roots in one cut). By AI agents, Wed Nov 11 2026. No macro, syntax, notation, axiom, sorry.
-/
import Derived.Test.YtgjmhojmbgfkhaaGreatDoorChecked
import GoSem.Claim
import GoSem.ClaimJoined
import GoSem.ClaimMapViews
import Derived.JoinedTies
import Derived.KernelRfl
namespace Go.Proofs.YtgjmhojmbgfkhaaGreatDoor
/- THE CELL 'sum', in the pinned program and in every row, IS THE sha256 OF THE DUMP (.gsa) THAT YtgjmhojmbgfkhaaGreatDoorProg.lean LOADS. Nothing in Lean hashes anything: it is a label: what it is worth is what the hold of that sum in a sandbox is worth. -/
noncomputable def Tryz.pinned : Pinned := { name := "ytgjmhojmbgfkhaagreatdoor", sum := "7716f7f98a3b4d0eb27d1abf4c0926261c0bed114796ca0293b6c101ff439354", checked := Tryz.checked }
namespace Rows
def none {H : Type} : Left H := { results := [], args := [] }

/- WHAT THE LISTED PACKAGE-LEVEL VARIABLES READ AS WHEN THE CALL BEGINS. Each datum BY PROGRAM (the guide's laid-datum.mjs) off the statement by which the dump's own 'gosem.cut.vars' lays the variable. In a bare row this is a premise. The card (YtgjmhojmbgfkhaaGreatDoorCards.lean) ties it to the program's text. -/
def laid_splittally_world_orders {H : Type} : DataW H := .agg [.lit (.int .i64 0), .lit (.int .i64 0), .lit (.int .i64 2), .lit (.int .i64 3), .lit (.int .i64 4), .lit (.int .i64 5), .lit (.int .i64 6)]

/-- 'splittallykeep.ViewTwice': WHATEVER THE INPUT: true; the input reads as it did. -/
def viewTwiceSpec : ChangeSpec := { name := "viewTwice", fn := fun _ => fun
  | [d1, d2, d3, d4] => { results := [.lit (.bool true)], args := [d1, d2, d3, d4] }
  | _ => none }
def viewTwiceRow : OpenClaim := { program := "ytgjmhojmbgfkhaagreatdoor", sum := "7716f7f98a3b4d0eb27d1abf4c0926261c0bed114796ca0293b6c101ff439354", func := "splittally/splittallykeep.ViewTwice", spec := "viewTwice", inPlace := ["slices.overlaps[splittally/api.Entry]"], unfollowed := true, recurses := true, named := ["splittally/world.orders"], plainKeys := false, apart := false, laid := [("splittally/world.orders", laid_splittally_world_orders)] }
def ViewTwiceSaid : Prop := viewTwiceRow.holds Tryz.pinned (OpenSpec.ofChange viewTwiceSpec)

/-- ITS FALSE NEIGHBOUR: 'it returns false'. Refute it at one input. -/
def viewTwiceWrong : ChangeSpec := { name := "viewTwice", fn := fun _ => fun
  | [d1, d2, d3, d4] => { results := [.lit (.bool false)], args := [d1, d2, d3, d4] }
  | _ => none }
def ViewTwiceWrongFalsely : Prop := viewTwiceRow.holds Tryz.pinned (OpenSpec.ofChange viewTwiceWrong)

/-- 'splittallykeep.ViewAll': WHATEVER THE INPUT: true; the input reads as it did. -/
def viewAllSpec : ChangeSpec := { name := "viewAll", fn := fun _ => fun
  | [d1, d2, d3] => { results := [.lit (.bool true)], args := [d1, d2, d3] }
  | _ => none }
def viewAllRow : OpenClaim := { program := "ytgjmhojmbgfkhaagreatdoor", sum := "7716f7f98a3b4d0eb27d1abf4c0926261c0bed114796ca0293b6c101ff439354", func := "splittally/splittallykeep.ViewAll", spec := "viewAll", inPlace := ["slices.overlaps[splittally/api.Entry]"], unfollowed := true, recurses := true, named := ["splittally/world.orders"], plainKeys := false, apart := false, laid := [("splittally/world.orders", laid_splittally_world_orders)] }
def ViewAllSaid : Prop := viewAllRow.holds Tryz.pinned (OpenSpec.ofChange viewAllSpec)

/-- ITS FALSE NEIGHBOUR: 'it returns false'. Refute it at one input. -/
def viewAllWrong : ChangeSpec := { name := "viewAll", fn := fun _ => fun
  | [d1, d2, d3] => { results := [.lit (.bool false)], args := [d1, d2, d3] }
  | _ => none }
def ViewAllWrongFalsely : Prop := viewAllRow.holds Tryz.pinned (OpenSpec.ofChange viewAllWrong)

/-- 'splittallykeep.ViewLess': WHATEVER THE INPUT: true; the input reads as it did. -/
def viewLessSpec : ChangeSpec := { name := "viewLess", fn := fun _ => fun
  | [d1, d2, d3, d4] => { results := [.lit (.bool true)], args := [d1, d2, d3, d4] }
  | _ => none }
def viewLessRow : OpenClaim := { program := "ytgjmhojmbgfkhaagreatdoor", sum := "7716f7f98a3b4d0eb27d1abf4c0926261c0bed114796ca0293b6c101ff439354", func := "splittally/splittallykeep.ViewLess", spec := "viewLess", inPlace := ["slices.overlaps[splittally/api.Entry]"], unfollowed := true, recurses := true, named := ["splittally/world.orders"], plainKeys := false, apart := false, laid := [("splittally/world.orders", laid_splittally_world_orders)] }
def ViewLessSaid : Prop := viewLessRow.holds Tryz.pinned (OpenSpec.ofChange viewLessSpec)

/-- ITS FALSE NEIGHBOUR: 'it returns false'. Refute it at one input. -/
def viewLessWrong : ChangeSpec := { name := "viewLess", fn := fun _ => fun
  | [d1, d2, d3, d4] => { results := [.lit (.bool false)], args := [d1, d2, d3, d4] }
  | _ => none }
def ViewLessWrongFalsely : Prop := viewLessRow.holds Tryz.pinned (OpenSpec.ofChange viewLessWrong)

/- THE SECOND FORM. 'bulk': how many values and letters a reading holds, each counted each time it is reached (what is shared counts as often as it is met; a slice's spare places count too). A statement '..UptoSaid' is the law's where the arguments, and the package variables that the reading takes, are together of bulk at most 1048576: NARROWER than '..Said'. Prove '..Said' where nothing that the law and all that it calls make is longer than what came in: it says more and counts as full. Else prove '..UptoSaid'. A law counts once. -/
mutual
def uptoBulk {H : Type} : DataW H → Nat
  | .lit (.string bytes) => bytes.length + 1
  | .lit _ => 1
  | .nil => 1
  | .ptr d => uptoBulk d + 1
  | .slice elems spare => uptoBulkAll elems + uptoBulkAll spare + 1
  | .agg parts => uptoBulkAll parts + 1
  | .iface _ d => uptoBulk d + 1
  | .map entries => uptoBulkEntries entries + 1
  | .held _ => 1
def uptoBulkAll {H : Type} : List (DataW H) → Nat
  | [] => 0
  | d :: r => uptoBulk d + uptoBulkAll r
def uptoBulkEntries {H : Type} : List (Lit × DataW H) → Nat
  | [] => 0
  | x :: r => uptoBulkEntry x + uptoBulkEntries r
def uptoBulkEntry {H : Type} : Lit × DataW H → Nat
  | (.string bytes, d) => bytes.length + uptoBulk d + 1
  | (_, d) => uptoBulk d + 1
 end
def uptoSmall : (H : Type) → List (DataW H) → Bool := fun _ ds => decide (uptoBulkAll ds ≤ 1048576)
def OpenSpec.upto (s : _root_.Go.ChangeSpec) : _root_.Go.OpenSpec := { _root_.Go.OpenSpec.ofChange s with cond := some uptoSmall }

/-- 'splittallykeep.ViewTwice', WHERE WHAT IT READS IS OF BULK AT MOST 1048576: true; the input reads as it did. -/
def viewTwiceUptoRow : OpenClaim := { program := "ytgjmhojmbgfkhaagreatdoor", sum := "7716f7f98a3b4d0eb27d1abf4c0926261c0bed114796ca0293b6c101ff439354", func := "splittally/splittallykeep.ViewTwice", spec := "viewTwice", inPlace := ["slices.overlaps[splittally/api.Entry]"], unfollowed := true, recurses := true, named := ["splittally/world.orders"], plainKeys := false, apart := false, laid := [("splittally/world.orders", laid_splittally_world_orders)], narrowed := true }
def ViewTwiceUptoSaid : Prop := viewTwiceUptoRow.holds Tryz.pinned (OpenSpec.upto viewTwiceSpec)

/-- 'splittallykeep.ViewAll', WHERE WHAT IT READS IS OF BULK AT MOST 1048576: true; the input reads as it did. -/
def viewAllUptoRow : OpenClaim := { program := "ytgjmhojmbgfkhaagreatdoor", sum := "7716f7f98a3b4d0eb27d1abf4c0926261c0bed114796ca0293b6c101ff439354", func := "splittally/splittallykeep.ViewAll", spec := "viewAll", inPlace := ["slices.overlaps[splittally/api.Entry]"], unfollowed := true, recurses := true, named := ["splittally/world.orders"], plainKeys := false, apart := false, laid := [("splittally/world.orders", laid_splittally_world_orders)], narrowed := true }
def ViewAllUptoSaid : Prop := viewAllUptoRow.holds Tryz.pinned (OpenSpec.upto viewAllSpec)

/-- 'splittallykeep.ViewLess', WHERE WHAT IT READS IS OF BULK AT MOST 1048576: true; the input reads as it did. -/
def viewLessUptoRow : OpenClaim := { program := "ytgjmhojmbgfkhaagreatdoor", sum := "7716f7f98a3b4d0eb27d1abf4c0926261c0bed114796ca0293b6c101ff439354", func := "splittally/splittallykeep.ViewLess", spec := "viewLess", inPlace := ["slices.overlaps[splittally/api.Entry]"], unfollowed := true, recurses := true, named := ["splittally/world.orders"], plainKeys := false, apart := false, laid := [("splittally/world.orders", laid_splittally_world_orders)], narrowed := true }
def ViewLessUptoSaid : Prop := viewLessUptoRow.holds Tryz.pinned (OpenSpec.upto viewLessSpec)

end Rows
end Go.Proofs.YtgjmhojmbgfkhaaGreatDoor

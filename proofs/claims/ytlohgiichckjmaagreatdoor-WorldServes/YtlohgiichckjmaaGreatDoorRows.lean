/-
  NARROWER THAN 'FOR EVERY INPUT', by the rows' own cells (each row's printed sentence says how): WorldShape: laid · WorldOld: laid · WorldSums: laid · TopSold: laid · WorldServes: laid · WorldMeets: laid.
  DERIVED. THE GIVEN ROWS OF THIS SEAT. 6 by the template 'for every input the law returns true; each argument reads behind the call as it read before'; 0 by the template 'total and deterministic' (their statements: YtlohgiichckjmaaGreatDoorTotals.lean).
  GIVEN WITH THE SEED: the statements are not yours to turn. If you find one false, say at which input.
  Laid BY PROGRAM, IN A SANDBOX (cutbox-rows.mjs): the forced cells as the released guide's own fill.sh prints them over the translation 9ca2dc540fc7b6ab… (all of the seat's roots in one cut). By AI agents, Wed Nov 11 2026. No macro, syntax, notation, axiom, sorry.
-/
import Derived.Test.YtlohgiichckjmaaGreatDoorChecked
import GoSem.Claim
import GoSem.ClaimJoined
import GoSem.ClaimMapViews
import Derived.JoinedTies
import Derived.KernelRfl
namespace Go.Proofs.YtlohgiichckjmaaGreatDoor
/- THE CELL 'sum', in the pinned program and in every row, IS THE sha256 OF THE DUMP (.gsa) THAT YtlohgiichckjmaaGreatDoorProg.lean LOADS. Nothing in Lean hashes anything: it is a label: what it is worth is what the hold of that sum in a sandbox is worth. -/
noncomputable def Tryz.pinned : Pinned := { name := "ytlohgiichckjmaagreatdoor", sum := "9ca2dc540fc7b6ab5194e584850da54286bdb38e39ee0eb226d4d54a0ac79a54", checked := Tryz.checked }
namespace Rows
def none {H : Type} : Left H := { results := [], args := [] }

/- WHAT THE LISTED PACKAGE-LEVEL VARIABLES READ AS WHEN THE CALL BEGINS. Each datum BY PROGRAM (the guide's laid-datum.mjs) off the statement by which the dump's own 'gosem.cut.vars' lays the variable. In a bare row this is a premise. The card (YtlohgiichckjmaaGreatDoorCards.lean) ties it to the program's text. -/
def laid_splittally_world_orders {H : Type} : DataW H := .agg [.lit (.int .i64 0), .lit (.int .i64 0), .lit (.int .i64 2), .lit (.int .i64 3), .lit (.int .i64 4), .lit (.int .i64 5), .lit (.int .i64 6)]

/-- 'splittallykeep.WorldShape': WHATEVER THE INPUT: true; the input reads as it did. -/
def worldShapeSpec : ChangeSpec := { name := "worldShape", fn := fun _ => fun
  | [d1, d2, d3, d4, d5] => { results := [.lit (.bool true)], args := [d1, d2, d3, d4, d5] }
  | _ => none }
def worldShapeRow : OpenClaim := { program := "ytlohgiichckjmaagreatdoor", sum := "9ca2dc540fc7b6ab5194e584850da54286bdb38e39ee0eb226d4d54a0ac79a54", func := "splittally/splittallykeep.WorldShape", spec := "worldShape", inPlace := ["slices.overlaps[splittally/api.Entry]"], unfollowed := true, recurses := true, named := ["splittally/world.orders"], plainKeys := false, apart := false, laid := [("splittally/world.orders", laid_splittally_world_orders)] }
def WorldShapeSaid : Prop := worldShapeRow.holds Tryz.pinned (OpenSpec.ofChange worldShapeSpec)

/-- ITS FALSE NEIGHBOUR: 'it returns false'. Refute it at one input. -/
def worldShapeWrong : ChangeSpec := { name := "worldShape", fn := fun _ => fun
  | [d1, d2, d3, d4, d5] => { results := [.lit (.bool false)], args := [d1, d2, d3, d4, d5] }
  | _ => none }
def WorldShapeWrongFalsely : Prop := worldShapeRow.holds Tryz.pinned (OpenSpec.ofChange worldShapeWrong)

/-- 'splittallykeep.WorldOld': WHATEVER THE INPUT: true; the input reads as it did. -/
def worldOldSpec : ChangeSpec := { name := "worldOld", fn := fun _ => fun
  | [d1, d2, d3, d4, d5, d6, d7] => { results := [.lit (.bool true)], args := [d1, d2, d3, d4, d5, d6, d7] }
  | _ => none }
def worldOldRow : OpenClaim := { program := "ytlohgiichckjmaagreatdoor", sum := "9ca2dc540fc7b6ab5194e584850da54286bdb38e39ee0eb226d4d54a0ac79a54", func := "splittally/splittallykeep.WorldOld", spec := "worldOld", inPlace := ["slices.overlaps[splittally/api.Entry]"], unfollowed := true, recurses := true, named := ["splittally/world.orders"], plainKeys := false, apart := false, laid := [("splittally/world.orders", laid_splittally_world_orders)] }
def WorldOldSaid : Prop := worldOldRow.holds Tryz.pinned (OpenSpec.ofChange worldOldSpec)

/-- ITS FALSE NEIGHBOUR: 'it returns false'. Refute it at one input. -/
def worldOldWrong : ChangeSpec := { name := "worldOld", fn := fun _ => fun
  | [d1, d2, d3, d4, d5, d6, d7] => { results := [.lit (.bool false)], args := [d1, d2, d3, d4, d5, d6, d7] }
  | _ => none }
def WorldOldWrongFalsely : Prop := worldOldRow.holds Tryz.pinned (OpenSpec.ofChange worldOldWrong)

/-- 'splittallykeep.WorldSums': WHATEVER THE INPUT: true; the input reads as it did. -/
def worldSumsSpec : ChangeSpec := { name := "worldSums", fn := fun _ => fun
  | [d1, d2, d3, d4, d5] => { results := [.lit (.bool true)], args := [d1, d2, d3, d4, d5] }
  | _ => none }
def worldSumsRow : OpenClaim := { program := "ytlohgiichckjmaagreatdoor", sum := "9ca2dc540fc7b6ab5194e584850da54286bdb38e39ee0eb226d4d54a0ac79a54", func := "splittally/splittallykeep.WorldSums", spec := "worldSums", inPlace := ["slices.overlaps[splittally/api.Entry]"], unfollowed := true, recurses := true, named := ["splittally/world.orders"], plainKeys := false, apart := false, laid := [("splittally/world.orders", laid_splittally_world_orders)] }
def WorldSumsSaid : Prop := worldSumsRow.holds Tryz.pinned (OpenSpec.ofChange worldSumsSpec)

/-- ITS FALSE NEIGHBOUR: 'it returns false'. Refute it at one input. -/
def worldSumsWrong : ChangeSpec := { name := "worldSums", fn := fun _ => fun
  | [d1, d2, d3, d4, d5] => { results := [.lit (.bool false)], args := [d1, d2, d3, d4, d5] }
  | _ => none }
def WorldSumsWrongFalsely : Prop := worldSumsRow.holds Tryz.pinned (OpenSpec.ofChange worldSumsWrong)

/-- 'splittallytop.TopSold': WHATEVER THE INPUT: true; the input reads as it did. -/
def topSoldSpec : ChangeSpec := { name := "topSold", fn := fun _ => fun
  | [d1, d2, d3, d4, d5] => { results := [.lit (.bool true)], args := [d1, d2, d3, d4, d5] }
  | _ => none }
def topSoldRow : OpenClaim := { program := "ytlohgiichckjmaagreatdoor", sum := "9ca2dc540fc7b6ab5194e584850da54286bdb38e39ee0eb226d4d54a0ac79a54", func := "splittally/splittallytop.TopSold", spec := "topSold", inPlace := ["slices.overlaps[splittally/api.Entry]"], unfollowed := true, recurses := true, named := ["splittally/world.orders"], plainKeys := false, apart := false, laid := [("splittally/world.orders", laid_splittally_world_orders)] }
def TopSoldSaid : Prop := topSoldRow.holds Tryz.pinned (OpenSpec.ofChange topSoldSpec)

/-- ITS FALSE NEIGHBOUR: 'it returns false'. Refute it at one input. -/
def topSoldWrong : ChangeSpec := { name := "topSold", fn := fun _ => fun
  | [d1, d2, d3, d4, d5] => { results := [.lit (.bool false)], args := [d1, d2, d3, d4, d5] }
  | _ => none }
def TopSoldWrongFalsely : Prop := topSoldRow.holds Tryz.pinned (OpenSpec.ofChange topSoldWrong)

/-- 'splittallykeep.WorldServes': WHATEVER THE INPUT: true; the input reads as it did. -/
def worldServesSpec : ChangeSpec := { name := "worldServes", fn := fun _ => fun
  | [d1, d2, d3, d4, d5] => { results := [.lit (.bool true)], args := [d1, d2, d3, d4, d5] }
  | _ => none }
def worldServesRow : OpenClaim := { program := "ytlohgiichckjmaagreatdoor", sum := "9ca2dc540fc7b6ab5194e584850da54286bdb38e39ee0eb226d4d54a0ac79a54", func := "splittally/splittallykeep.WorldServes", spec := "worldServes", inPlace := ["slices.overlaps[splittally/api.Entry]"], unfollowed := true, recurses := true, named := ["splittally/world.orders"], plainKeys := false, apart := false, laid := [("splittally/world.orders", laid_splittally_world_orders)] }
def WorldServesSaid : Prop := worldServesRow.holds Tryz.pinned (OpenSpec.ofChange worldServesSpec)

/-- ITS FALSE NEIGHBOUR: 'it returns false'. Refute it at one input. -/
def worldServesWrong : ChangeSpec := { name := "worldServes", fn := fun _ => fun
  | [d1, d2, d3, d4, d5] => { results := [.lit (.bool false)], args := [d1, d2, d3, d4, d5] }
  | _ => none }
def WorldServesWrongFalsely : Prop := worldServesRow.holds Tryz.pinned (OpenSpec.ofChange worldServesWrong)

/-- 'splittallykeep.WorldMeets': WHATEVER THE INPUT: true; the input reads as it did. -/
def worldMeetsSpec : ChangeSpec := { name := "worldMeets", fn := fun _ => fun
  | [d1, d2] => { results := [.lit (.bool true)], args := [d1, d2] }
  | _ => none }
def worldMeetsRow : OpenClaim := { program := "ytlohgiichckjmaagreatdoor", sum := "9ca2dc540fc7b6ab5194e584850da54286bdb38e39ee0eb226d4d54a0ac79a54", func := "splittally/splittallykeep.WorldMeets", spec := "worldMeets", inPlace := ["slices.overlaps[splittally/api.Entry]"], unfollowed := true, recurses := true, named := ["splittally/world.orders"], plainKeys := false, apart := false, laid := [("splittally/world.orders", laid_splittally_world_orders)] }
def WorldMeetsSaid : Prop := worldMeetsRow.holds Tryz.pinned (OpenSpec.ofChange worldMeetsSpec)

/-- ITS FALSE NEIGHBOUR: 'it returns false'. Refute it at one input. -/
def worldMeetsWrong : ChangeSpec := { name := "worldMeets", fn := fun _ => fun
  | [d1, d2] => { results := [.lit (.bool false)], args := [d1, d2] }
  | _ => none }
def WorldMeetsWrongFalsely : Prop := worldMeetsRow.holds Tryz.pinned (OpenSpec.ofChange worldMeetsWrong)

/- THE SECOND FORM. 'bulk': how many values and letters a reading holds, each counted each time it is reached (what is shared counts as often as it is met; a slice's spare places count too). A statement '..UptoSaid' is the law's where the arguments, and the package variables that the reading takes, are together of bulk at most 1048576: NARROWER than '..Said'. Prove '..Said' where nothing that the law and all that it calls make is longer than what came in: it says more and counts as full. Else prove '..UptoSaid'. A law counts once. -/
mutual
def uptoBulk {H : Type} : DataW H → Nat
  | .lit (.string bytes) => bytes.length + 1
  | .lit _ => 1
  | .nil => 1
  | .ptr d => uptoBulk d + 1
  | .slice elems spare => uptoBulkAll elems + uptoBulkAll spare + 1
  | .agg parts => uptoBulkAll parts + 1
  | .iface _ d => uptoBulk d + 1
  | .map entries => uptoBulkEntries entries + 1
  | .held _ => 1
def uptoBulkAll {H : Type} : List (DataW H) → Nat
  | [] => 0
  | d :: r => uptoBulk d + uptoBulkAll r
def uptoBulkEntries {H : Type} : List (Lit × DataW H) → Nat
  | [] => 0
  | x :: r => uptoBulkEntry x + uptoBulkEntries r
def uptoBulkEntry {H : Type} : Lit × DataW H → Nat
  | (.string bytes, d) => bytes.length + uptoBulk d + 1
  | (_, d) => uptoBulk d + 1
 end
def uptoSmall : (H : Type) → List (DataW H) → Bool := fun _ ds => decide (uptoBulkAll ds ≤ 1048576)
def OpenSpec.upto (s : _root_.Go.ChangeSpec) : _root_.Go.OpenSpec := { _root_.Go.OpenSpec.ofChange s with cond := some uptoSmall }

/-- 'splittallykeep.WorldShape', WHERE WHAT IT READS IS OF BULK AT MOST 1048576: true; the input reads as it did. -/
def worldShapeUptoRow : OpenClaim := { program := "ytlohgiichckjmaagreatdoor", sum := "9ca2dc540fc7b6ab5194e584850da54286bdb38e39ee0eb226d4d54a0ac79a54", func := "splittally/splittallykeep.WorldShape", spec := "worldShape", inPlace := ["slices.overlaps[splittally/api.Entry]"], unfollowed := true, recurses := true, named := ["splittally/world.orders"], plainKeys := false, apart := false, laid := [("splittally/world.orders", laid_splittally_world_orders)], narrowed := true }
def WorldShapeUptoSaid : Prop := worldShapeUptoRow.holds Tryz.pinned (OpenSpec.upto worldShapeSpec)

/-- 'splittallykeep.WorldOld', WHERE WHAT IT READS IS OF BULK AT MOST 1048576: true; the input reads as it did. -/
def worldOldUptoRow : OpenClaim := { program := "ytlohgiichckjmaagreatdoor", sum := "9ca2dc540fc7b6ab5194e584850da54286bdb38e39ee0eb226d4d54a0ac79a54", func := "splittally/splittallykeep.WorldOld", spec := "worldOld", inPlace := ["slices.overlaps[splittally/api.Entry]"], unfollowed := true, recurses := true, named := ["splittally/world.orders"], plainKeys := false, apart := false, laid := [("splittally/world.orders", laid_splittally_world_orders)], narrowed := true }
def WorldOldUptoSaid : Prop := worldOldUptoRow.holds Tryz.pinned (OpenSpec.upto worldOldSpec)

/-- 'splittallykeep.WorldSums', WHERE WHAT IT READS IS OF BULK AT MOST 1048576: true; the input reads as it did. -/
def worldSumsUptoRow : OpenClaim := { program := "ytlohgiichckjmaagreatdoor", sum := "9ca2dc540fc7b6ab5194e584850da54286bdb38e39ee0eb226d4d54a0ac79a54", func := "splittally/splittallykeep.WorldSums", spec := "worldSums", inPlace := ["slices.overlaps[splittally/api.Entry]"], unfollowed := true, recurses := true, named := ["splittally/world.orders"], plainKeys := false, apart := false, laid := [("splittally/world.orders", laid_splittally_world_orders)], narrowed := true }
def WorldSumsUptoSaid : Prop := worldSumsUptoRow.holds Tryz.pinned (OpenSpec.upto worldSumsSpec)

/-- 'splittallytop.TopSold', WHERE WHAT IT READS IS OF BULK AT MOST 1048576: true; the input reads as it did. -/
def topSoldUptoRow : OpenClaim := { program := "ytlohgiichckjmaagreatdoor", sum := "9ca2dc540fc7b6ab5194e584850da54286bdb38e39ee0eb226d4d54a0ac79a54", func := "splittally/splittallytop.TopSold", spec := "topSold", inPlace := ["slices.overlaps[splittally/api.Entry]"], unfollowed := true, recurses := true, named := ["splittally/world.orders"], plainKeys := false, apart := false, laid := [("splittally/world.orders", laid_splittally_world_orders)], narrowed := true }
def TopSoldUptoSaid : Prop := topSoldUptoRow.holds Tryz.pinned (OpenSpec.upto topSoldSpec)

/-- 'splittallykeep.WorldServes', WHERE WHAT IT READS IS OF BULK AT MOST 1048576: true; the input reads as it did. -/
def worldServesUptoRow : OpenClaim := { program := "ytlohgiichckjmaagreatdoor", sum := "9ca2dc540fc7b6ab5194e584850da54286bdb38e39ee0eb226d4d54a0ac79a54", func := "splittally/splittallykeep.WorldServes", spec := "worldServes", inPlace := ["slices.overlaps[splittally/api.Entry]"], unfollowed := true, recurses := true, named := ["splittally/world.orders"], plainKeys := false, apart := false, laid := [("splittally/world.orders", laid_splittally_world_orders)], narrowed := true }
def WorldServesUptoSaid : Prop := worldServesUptoRow.holds Tryz.pinned (OpenSpec.upto worldServesSpec)

/-- 'splittallykeep.WorldMeets', WHERE WHAT IT READS IS OF BULK AT MOST 1048576: true; the input reads as it did. -/
def worldMeetsUptoRow : OpenClaim := { program := "ytlohgiichckjmaagreatdoor", sum := "9ca2dc540fc7b6ab5194e584850da54286bdb38e39ee0eb226d4d54a0ac79a54", func := "splittally/splittallykeep.WorldMeets", spec := "worldMeets", inPlace := ["slices.overlaps[splittally/api.Entry]"], unfollowed := true, recurses := true, named := ["splittally/world.orders"], plainKeys := false, apart := false, laid := [("splittally/world.orders", laid_splittally_world_orders)], narrowed := true }
def WorldMeetsUptoSaid : Prop := worldMeetsUptoRow.holds Tryz.pinned (OpenSpec.upto worldMeetsSpec)

end Rows
end Go.Proofs.YtlohgiichckjmaaGreatDoor

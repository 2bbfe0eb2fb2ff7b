/-
  No cell of these rows narrows 'for every input' (looked for: loops, veiled, ifaces, maps, wideKeys, modest, calm, conditions, laid).
  DERIVED. THE GIVEN ROWS OF THIS SEAT. 6 by the template 'for every input the law returns true; each argument reads behind the call as it read before'; 0 by the template 'total and deterministic' (their statements: YtiolkeghgodggahTotals.lean).
  GIVEN WITH THE SEED: the statements are not yours to turn. If you find one false, say at which input.
  Laid BY PROGRAM, IN A SANDBOX (cutbox-rows.mjs): the forced cells as the released guide's own fill.sh prints them over the translation e82e30a2b6bb5f35… (all of the seat's roots in one cut). By AI agents, Wed Nov 11 2026. No macro, syntax, notation, axiom, sorry.
-/
import Derived.Test.YtiolkeghgodggahChecked
import GoSem.Claim
import GoSem.ClaimJoined
import GoSem.ClaimMapViews
import Derived.JoinedTies
import Derived.KernelRfl
namespace Go.Proofs.Ytiolkeghgodggah
/- THE CELL 'sum', in the pinned program and in every row, IS THE sha256 OF THE DUMP (.gsa) THAT YtiolkeghgodggahProg.lean LOADS. Nothing in Lean hashes anything: it is a label: what it is worth is what the hold of that sum in a sandbox is worth. -/
noncomputable def Try.pinned : Pinned := { name := "ytiolkeghgodggah", sum := "e82e30a2b6bb5f355f8f79a41232dcedcf21cb58082e7ea5f5d716408bee8e9b", checked := Try.checked }
namespace Rows
def none {H : Type} : Left H := { results := [], args := [] }

/-- 'splittallykeep.ShareWants': WHATEVER THE INPUT: true; the input reads as it did. -/
def shareWantsSpec : ChangeSpec := { name := "shareWants", fn := fun _ => fun
  | [d1, d2, d3, d4] => { results := [.lit (.bool true)], args := [d1, d2, d3, d4] }
  | _ => none }
def shareWantsRow : OpenClaim := { program := "ytiolkeghgodggah", sum := "e82e30a2b6bb5f355f8f79a41232dcedcf21cb58082e7ea5f5d716408bee8e9b", func := "splittally/splittallykeep.ShareWants", spec := "shareWants", unfollowed := true, recurses := true, apart := false }
def ShareWantsSaid : Prop := shareWantsRow.holds Try.pinned (OpenSpec.ofChange shareWantsSpec)

/-- ITS FALSE NEIGHBOUR: 'it returns false'. Refute it at one input. -/
def shareWantsWrong : ChangeSpec := { name := "shareWants", fn := fun _ => fun
  | [d1, d2, d3, d4] => { results := [.lit (.bool false)], args := [d1, d2, d3, d4] }
  | _ => none }
def ShareWantsWrongFalsely : Prop := shareWantsRow.holds Try.pinned (OpenSpec.ofChange shareWantsWrong)

/-- 'splittallykeep.ShareGrows': WHATEVER THE INPUT: true; the input reads as it did. -/
def shareGrowsSpec : ChangeSpec := { name := "shareGrows", fn := fun _ => fun
  | [d1, d2, d3] => { results := [.lit (.bool true)], args := [d1, d2, d3] }
  | _ => none }
def shareGrowsRow : OpenClaim := { program := "ytiolkeghgodggah", sum := "e82e30a2b6bb5f355f8f79a41232dcedcf21cb58082e7ea5f5d716408bee8e9b", func := "splittally/splittallykeep.ShareGrows", spec := "shareGrows", unfollowed := true, recurses := true, apart := false }
def ShareGrowsSaid : Prop := shareGrowsRow.holds Try.pinned (OpenSpec.ofChange shareGrowsSpec)

/-- ITS FALSE NEIGHBOUR: 'it returns false'. Refute it at one input. -/
def shareGrowsWrong : ChangeSpec := { name := "shareGrows", fn := fun _ => fun
  | [d1, d2, d3] => { results := [.lit (.bool false)], args := [d1, d2, d3] }
  | _ => none }
def ShareGrowsWrongFalsely : Prop := shareGrowsRow.holds Try.pinned (OpenSpec.ofChange shareGrowsWrong)

/-- 'splittallykeep.ShareTurn': WHATEVER THE INPUT: true; the input reads as it did. -/
def shareTurnSpec : ChangeSpec := { name := "shareTurn", fn := fun _ => fun
  | [d1, d2, d3, d4] => { results := [.lit (.bool true)], args := [d1, d2, d3, d4] }
  | _ => none }
def shareTurnRow : OpenClaim := { program := "ytiolkeghgodggah", sum := "e82e30a2b6bb5f355f8f79a41232dcedcf21cb58082e7ea5f5d716408bee8e9b", func := "splittally/splittallykeep.ShareTurn", spec := "shareTurn", unfollowed := true, recurses := true, apart := false }
def ShareTurnSaid : Prop := shareTurnRow.holds Try.pinned (OpenSpec.ofChange shareTurnSpec)

/-- ITS FALSE NEIGHBOUR: 'it returns false'. Refute it at one input. -/
def shareTurnWrong : ChangeSpec := { name := "shareTurn", fn := fun _ => fun
  | [d1, d2, d3, d4] => { results := [.lit (.bool false)], args := [d1, d2, d3, d4] }
  | _ => none }
def ShareTurnWrongFalsely : Prop := shareTurnRow.holds Try.pinned (OpenSpec.ofChange shareTurnWrong)

/-- 'splittallykeep.ShareLeaves': WHATEVER THE INPUT: true; the input reads as it did. -/
def shareLeavesSpec : ChangeSpec := { name := "shareLeaves", fn := fun _ => fun
  | [d1, d2, d3] => { results := [.lit (.bool true)], args := [d1, d2, d3] }
  | _ => none }
def shareLeavesRow : OpenClaim := { program := "ytiolkeghgodggah", sum := "e82e30a2b6bb5f355f8f79a41232dcedcf21cb58082e7ea5f5d716408bee8e9b", func := "splittally/splittallykeep.ShareLeaves", spec := "shareLeaves", unfollowed := true, recurses := true, apart := false }
def ShareLeavesSaid : Prop := shareLeavesRow.holds Try.pinned (OpenSpec.ofChange shareLeavesSpec)

/-- ITS FALSE NEIGHBOUR: 'it returns false'. Refute it at one input. -/
def shareLeavesWrong : ChangeSpec := { name := "shareLeaves", fn := fun _ => fun
  | [d1, d2, d3] => { results := [.lit (.bool false)], args := [d1, d2, d3] }
  | _ => none }
def ShareLeavesWrongFalsely : Prop := shareLeavesRow.holds Try.pinned (OpenSpec.ofChange shareLeavesWrong)

/-- 'splittallylaw.HoldPlays': WHATEVER THE INPUT: true; the input reads as it did. -/
def holdPlaysSpec : ChangeSpec := { name := "holdPlays", fn := fun _ => fun
  | [d] => { results := [.lit (.bool true)], args := [d] }
  | _ => none }
def holdPlaysRow : OpenClaim := { program := "ytiolkeghgodggah", sum := "e82e30a2b6bb5f355f8f79a41232dcedcf21cb58082e7ea5f5d716408bee8e9b", func := "splittally/splittallylaw.HoldPlays", spec := "holdPlays", unfollowed := true, recurses := true, apart := false }
def HoldPlaysSaid : Prop := holdPlaysRow.holds Try.pinned (OpenSpec.ofChange holdPlaysSpec)

/-- ITS FALSE NEIGHBOUR: 'it returns false'. Refute it at one input. -/
def holdPlaysWrong : ChangeSpec := { name := "holdPlays", fn := fun _ => fun
  | [d] => { results := [.lit (.bool false)], args := [d] }
  | _ => none }
def HoldPlaysWrongFalsely : Prop := holdPlaysRow.holds Try.pinned (OpenSpec.ofChange holdPlaysWrong)

/-- 'splittallykeep.HoldSums': WHATEVER THE INPUT: true; the input reads as it did. -/
def holdSumsSpec : ChangeSpec := { name := "holdSums", fn := fun _ => fun
  | [d] => { results := [.lit (.bool true)], args := [d] }
  | _ => none }
def holdSumsRow : OpenClaim := { program := "ytiolkeghgodggah", sum := "e82e30a2b6bb5f355f8f79a41232dcedcf21cb58082e7ea5f5d716408bee8e9b", func := "splittally/splittallykeep.HoldSums", spec := "holdSums", unfollowed := true, recurses := true, apart := false }
def HoldSumsSaid : Prop := holdSumsRow.holds Try.pinned (OpenSpec.ofChange holdSumsSpec)

/-- ITS FALSE NEIGHBOUR: 'it returns false'. Refute it at one input. -/
def holdSumsWrong : ChangeSpec := { name := "holdSums", fn := fun _ => fun
  | [d] => { results := [.lit (.bool false)], args := [d] }
  | _ => none }
def HoldSumsWrongFalsely : Prop := holdSumsRow.holds Try.pinned (OpenSpec.ofChange holdSumsWrong)

/- THE SECOND FORM. 'bulk': how many values and letters a reading holds, each counted each time it is reached (what is shared counts as often as it is met; a slice's spare places count too). A statement '..UptoSaid' is the law's where the arguments, and the package variables that the reading takes, are together of bulk at most 1048576: NARROWER than '..Said'. Prove '..Said' where nothing that the law and all that it calls make is longer than what came in: it says more and counts as full. Else prove '..UptoSaid'. A law counts once. -/
mutual
def uptoBulk {H : Type} : DataW H → Nat
  | .lit (.string bytes) => bytes.length + 1
  | .lit _ => 1
  | .nil => 1
  | .ptr d => uptoBulk d + 1
  | .slice elems spare => uptoBulkAll elems + uptoBulkAll spare + 1
  | .agg parts => uptoBulkAll parts + 1
  | .iface _ d => uptoBulk d + 1
  | .map entries => uptoBulkEntries entries + 1
  | .held _ => 1
def uptoBulkAll {H : Type} : List (DataW H) → Nat
  | [] => 0
  | d :: r => uptoBulk d + uptoBulkAll r
def uptoBulkEntries {H : Type} : List (Lit × DataW H) → Nat
  | [] => 0
  | x :: r => uptoBulkEntry x + uptoBulkEntries r
def uptoBulkEntry {H : Type} : Lit × DataW H → Nat
  | (.string bytes, d) => bytes.length + uptoBulk d + 1
  | (_, d) => uptoBulk d + 1
 end
def uptoSmall : (H : Type) → List (DataW H) → Bool := fun _ ds => decide (uptoBulkAll ds ≤ 1048576)
def OpenSpec.upto (s : _root_.Go.ChangeSpec) : _root_.Go.OpenSpec := { _root_.Go.OpenSpec.ofChange s with cond := some uptoSmall }

/-- 'splittallykeep.ShareWants', WHERE WHAT IT READS IS OF BULK AT MOST 1048576: true; the input reads as it did. -/
def shareWantsUptoRow : OpenClaim := { program := "ytiolkeghgodggah", sum := "e82e30a2b6bb5f355f8f79a41232dcedcf21cb58082e7ea5f5d716408bee8e9b", func := "splittally/splittallykeep.ShareWants", spec := "shareWants", unfollowed := true, recurses := true, apart := false, narrowed := true }
def ShareWantsUptoSaid : Prop := shareWantsUptoRow.holds Try.pinned (OpenSpec.upto shareWantsSpec)

/-- 'splittallykeep.ShareGrows', WHERE WHAT IT READS IS OF BULK AT MOST 1048576: true; the input reads as it did. -/
def shareGrowsUptoRow : OpenClaim := { program := "ytiolkeghgodggah", sum := "e82e30a2b6bb5f355f8f79a41232dcedcf21cb58082e7ea5f5d716408bee8e9b", func := "splittally/splittallykeep.ShareGrows", spec := "shareGrows", unfollowed := true, recurses := true, apart := false, narrowed := true }
def ShareGrowsUptoSaid : Prop := shareGrowsUptoRow.holds Try.pinned (OpenSpec.upto shareGrowsSpec)

/-- 'splittallykeep.ShareTurn', WHERE WHAT IT READS IS OF BULK AT MOST 1048576: true; the input reads as it did. -/
def shareTurnUptoRow : OpenClaim := { program := "ytiolkeghgodggah", sum := "e82e30a2b6bb5f355f8f79a41232dcedcf21cb58082e7ea5f5d716408bee8e9b", func := "splittally/splittallykeep.ShareTurn", spec := "shareTurn", unfollowed := true, recurses := true, apart := false, narrowed := true }
def ShareTurnUptoSaid : Prop := shareTurnUptoRow.holds Try.pinned (OpenSpec.upto shareTurnSpec)

/-- 'splittallykeep.ShareLeaves', WHERE WHAT IT READS IS OF BULK AT MOST 1048576: true; the input reads as it did. -/
def shareLeavesUptoRow : OpenClaim := { program := "ytiolkeghgodggah", sum := "e82e30a2b6bb5f355f8f79a41232dcedcf21cb58082e7ea5f5d716408bee8e9b", func := "splittally/splittallykeep.ShareLeaves", spec := "shareLeaves", unfollowed := true, recurses := true, apart := false, narrowed := true }
def ShareLeavesUptoSaid : Prop := shareLeavesUptoRow.holds Try.pinned (OpenSpec.upto shareLeavesSpec)

/-- 'splittallylaw.HoldPlays', WHERE WHAT IT READS IS OF BULK AT MOST 1048576: true; the input reads as it did. -/
def holdPlaysUptoRow : OpenClaim := { program := "ytiolkeghgodggah", sum := "e82e30a2b6bb5f355f8f79a41232dcedcf21cb58082e7ea5f5d716408bee8e9b", func := "splittally/splittallylaw.HoldPlays", spec := "holdPlays", unfollowed := true, recurses := true, apart := false, narrowed := true }
def HoldPlaysUptoSaid : Prop := holdPlaysUptoRow.holds Try.pinned (OpenSpec.upto holdPlaysSpec)

/-- 'splittallykeep.HoldSums', WHERE WHAT IT READS IS OF BULK AT MOST 1048576: true; the input reads as it did. -/
def holdSumsUptoRow : OpenClaim := { program := "ytiolkeghgodggah", sum := "e82e30a2b6bb5f355f8f79a41232dcedcf21cb58082e7ea5f5d716408bee8e9b", func := "splittally/splittallykeep.HoldSums", spec := "holdSums", unfollowed := true, recurses := true, apart := false, narrowed := true }
def HoldSumsUptoSaid : Prop := holdSumsUptoRow.holds Try.pinned (OpenSpec.upto holdSumsSpec)

end Rows
end Go.Proofs.Ytiolkeghgodggah

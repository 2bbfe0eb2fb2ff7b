/-
  No cell of these rows narrows 'for every input' (looked for: loops, veiled, ifaces, maps, wideKeys, modest, calm, conditions, laid).
  DERIVED. THE GIVEN ROWS OF THIS SEAT. 6 by the template 'for every input the law returns true; each argument reads behind the call as it read before'; 0 by the template 'total and deterministic' (their statements: YtnnicibkmbidpabTotals.lean).
  GIVEN WITH THE SEED: the statements are not yours to turn. If you find one false, say at which input.
  Laid BY PROGRAM, IN A SANDBOX (cutbox-rows.mjs): the forced cells as the released guide's own fill.sh prints them over the translation b5074e77a0b3f76f… (all of the seat's roots in one cut). By AI agents, Wed Nov 11 2026. No macro, syntax, notation, axiom, sorry.
-/
import Derived.Test.YtnnicibkmbidpabChecked
import GoSem.Claim
import GoSem.ClaimJoined
import GoSem.ClaimMapViews
import Derived.JoinedTies
import Derived.KernelRfl
namespace Go.Proofs.Ytnnicibkmbidpab
/- THE CELL 'sum', in the pinned program and in every row, IS THE sha256 OF THE DUMP (.gsa) THAT YtnnicibkmbidpabProg.lean LOADS. Nothing in Lean hashes anything: it is a label: what it is worth is what the hold of that sum in a sandbox is worth. -/
noncomputable def Try.pinned : Pinned := { name := "ytnnicibkmbidpab", sum := "b5074e77a0b3f76f56e91228ff97abc083748bd0d37a681eae6adb4af61b817b", checked := Try.checked }
namespace Rows
def none {H : Type} : Left H := { results := [], args := [] }

/-- 'splittallykeep.FlowsOrder': WHATEVER THE INPUT: true; the input reads as it did. -/
def flowsOrderSpec : ChangeSpec := { name := "flowsOrder", fn := fun _ => fun
  | [d1, d2, d3] => { results := [.lit (.bool true)], args := [d1, d2, d3] }
  | _ => none }
def flowsOrderRow : OpenClaim := { program := "ytnnicibkmbidpab", sum := "b5074e77a0b3f76f56e91228ff97abc083748bd0d37a681eae6adb4af61b817b", func := "splittally/splittallykeep.FlowsOrder", spec := "flowsOrder", unfollowed := true, recurses := true, apart := false }
def FlowsOrderSaid : Prop := flowsOrderRow.holds Try.pinned (OpenSpec.ofChange flowsOrderSpec)

/-- ITS FALSE NEIGHBOUR: 'it returns false'. Refute it at one input. -/
def flowsOrderWrong : ChangeSpec := { name := "flowsOrder", fn := fun _ => fun
  | [d1, d2, d3] => { results := [.lit (.bool false)], args := [d1, d2, d3] }
  | _ => none }
def FlowsOrderWrongFalsely : Prop := flowsOrderRow.holds Try.pinned (OpenSpec.ofChange flowsOrderWrong)

/-- 'splittallykeep.JoinLeast': WHATEVER THE INPUT: true; the input reads as it did. -/
def joinLeastSpec : ChangeSpec := { name := "joinLeast", fn := fun _ => fun
  | [d1, d2, d3] => { results := [.lit (.bool true)], args := [d1, d2, d3] }
  | _ => none }
def joinLeastRow : OpenClaim := { program := "ytnnicibkmbidpab", sum := "b5074e77a0b3f76f56e91228ff97abc083748bd0d37a681eae6adb4af61b817b", func := "splittally/splittallykeep.JoinLeast", spec := "joinLeast", unfollowed := true, recurses := true, apart := false }
def JoinLeastSaid : Prop := joinLeastRow.holds Try.pinned (OpenSpec.ofChange joinLeastSpec)

/-- ITS FALSE NEIGHBOUR: 'it returns false'. Refute it at one input. -/
def joinLeastWrong : ChangeSpec := { name := "joinLeast", fn := fun _ => fun
  | [d1, d2, d3] => { results := [.lit (.bool false)], args := [d1, d2, d3] }
  | _ => none }
def JoinLeastWrongFalsely : Prop := joinLeastRow.holds Try.pinned (OpenSpec.ofChange joinLeastWrong)

/-- 'splittallykeep.MembersBack': WHATEVER THE INPUT: true; the input reads as it did. -/
def membersBackSpec : ChangeSpec := { name := "membersBack", fn := fun _ => fun
  | [d1, d2] => { results := [.lit (.bool true)], args := [d1, d2] }
  | _ => none }
def membersBackRow : OpenClaim := { program := "ytnnicibkmbidpab", sum := "b5074e77a0b3f76f56e91228ff97abc083748bd0d37a681eae6adb4af61b817b", func := "splittally/splittallykeep.MembersBack", spec := "membersBack", apart := false }
def MembersBackSaid : Prop := membersBackRow.holds Try.pinned (OpenSpec.ofChange membersBackSpec)

/-- ITS FALSE NEIGHBOUR: 'it returns false'. Refute it at one input. -/
def membersBackWrong : ChangeSpec := { name := "membersBack", fn := fun _ => fun
  | [d1, d2] => { results := [.lit (.bool false)], args := [d1, d2] }
  | _ => none }
def MembersBackWrongFalsely : Prop := membersBackRow.holds Try.pinned (OpenSpec.ofChange membersBackWrong)

/-- 'splittallykeep.JoinSpreads': WHATEVER THE INPUT: true; the input reads as it did. -/
def joinSpreadsSpec : ChangeSpec := { name := "joinSpreads", fn := fun _ => fun
  | [d1, d2, d3] => { results := [.lit (.bool true)], args := [d1, d2, d3] }
  | _ => none }
def joinSpreadsRow : OpenClaim := { program := "ytnnicibkmbidpab", sum := "b5074e77a0b3f76f56e91228ff97abc083748bd0d37a681eae6adb4af61b817b", func := "splittally/splittallykeep.JoinSpreads", spec := "joinSpreads", unfollowed := true, recurses := true, apart := false }
def JoinSpreadsSaid : Prop := joinSpreadsRow.holds Try.pinned (OpenSpec.ofChange joinSpreadsSpec)

/-- ITS FALSE NEIGHBOUR: 'it returns false'. Refute it at one input. -/
def joinSpreadsWrong : ChangeSpec := { name := "joinSpreads", fn := fun _ => fun
  | [d1, d2, d3] => { results := [.lit (.bool false)], args := [d1, d2, d3] }
  | _ => none }
def JoinSpreadsWrongFalsely : Prop := joinSpreadsRow.holds Try.pinned (OpenSpec.ofChange joinSpreadsWrong)

/-- 'splittallylaw.WireSizes': WHATEVER THE INPUT: true; the input reads as it did. -/
def wireSizesSpec : ChangeSpec := { name := "wireSizes", fn := fun _ => fun
  | [d] => { results := [.lit (.bool true)], args := [d] }
  | _ => none }
def wireSizesRow : OpenClaim := { program := "ytnnicibkmbidpab", sum := "b5074e77a0b3f76f56e91228ff97abc083748bd0d37a681eae6adb4af61b817b", func := "splittally/splittallylaw.WireSizes", spec := "wireSizes", apart := false }
def WireSizesSaid : Prop := wireSizesRow.holds Try.pinned (OpenSpec.ofChange wireSizesSpec)

/-- ITS FALSE NEIGHBOUR: 'it returns false'. Refute it at one input. -/
def wireSizesWrong : ChangeSpec := { name := "wireSizes", fn := fun _ => fun
  | [d] => { results := [.lit (.bool false)], args := [d] }
  | _ => none }
def WireSizesWrongFalsely : Prop := wireSizesRow.holds Try.pinned (OpenSpec.ofChange wireSizesWrong)

/-- 'splittallylaw.WirePacks': WHATEVER THE INPUT: true; the input reads as it did. -/
def wirePacksSpec : ChangeSpec := { name := "wirePacks", fn := fun _ => fun
  | [d] => { results := [.lit (.bool true)], args := [d] }
  | _ => none }
def wirePacksRow : OpenClaim := { program := "ytnnicibkmbidpab", sum := "b5074e77a0b3f76f56e91228ff97abc083748bd0d37a681eae6adb4af61b817b", func := "splittally/splittallylaw.WirePacks", spec := "wirePacks", apart := false }
def WirePacksSaid : Prop := wirePacksRow.holds Try.pinned (OpenSpec.ofChange wirePacksSpec)

/-- ITS FALSE NEIGHBOUR: 'it returns false'. Refute it at one input. -/
def wirePacksWrong : ChangeSpec := { name := "wirePacks", fn := fun _ => fun
  | [d] => { results := [.lit (.bool false)], args := [d] }
  | _ => none }
def WirePacksWrongFalsely : Prop := wirePacksRow.holds Try.pinned (OpenSpec.ofChange wirePacksWrong)

/- THE SECOND FORM. 'bulk': how many values and letters a reading holds, each counted each time it is reached (what is shared counts as often as it is met; a slice's spare places count too). A statement '..UptoSaid' is the law's where the arguments, and the package variables that the reading takes, are together of bulk at most 1048576: NARROWER than '..Said'. Prove '..Said' where nothing that the law and all that it calls make is longer than what came in: it says more and counts as full. Else prove '..UptoSaid'. A law counts once. -/
mutual
def uptoBulk {H : Type} : DataW H → Nat
  | .lit (.string bytes) => bytes.length + 1
  | .lit _ => 1
  | .nil => 1
  | .ptr d => uptoBulk d + 1
  | .slice elems spare => uptoBulkAll elems + uptoBulkAll spare + 1
  | .agg parts => uptoBulkAll parts + 1
  | .iface _ d => uptoBulk d + 1
  | .map entries => uptoBulkEntries entries + 1
  | .held _ => 1
def uptoBulkAll {H : Type} : List (DataW H) → Nat
  | [] => 0
  | d :: r => uptoBulk d + uptoBulkAll r
def uptoBulkEntries {H : Type} : List (Lit × DataW H) → Nat
  | [] => 0
  | x :: r => uptoBulkEntry x + uptoBulkEntries r
def uptoBulkEntry {H : Type} : Lit × DataW H → Nat
  | (.string bytes, d) => bytes.length + uptoBulk d + 1
  | (_, d) => uptoBulk d + 1
 end
def uptoSmall : (H : Type) → List (DataW H) → Bool := fun _ ds => decide (uptoBulkAll ds ≤ 1048576)
def OpenSpec.upto (s : _root_.Go.ChangeSpec) : _root_.Go.OpenSpec := { _root_.Go.OpenSpec.ofChange s with cond := some uptoSmall }

/-- 'splittallykeep.FlowsOrder', WHERE WHAT IT READS IS OF BULK AT MOST 1048576: true; the input reads as it did. -/
def flowsOrderUptoRow : OpenClaim := { program := "ytnnicibkmbidpab", sum := "b5074e77a0b3f76f56e91228ff97abc083748bd0d37a681eae6adb4af61b817b", func := "splittally/splittallykeep.FlowsOrder", spec := "flowsOrder", unfollowed := true, recurses := true, apart := false, narrowed := true }
def FlowsOrderUptoSaid : Prop := flowsOrderUptoRow.holds Try.pinned (OpenSpec.upto flowsOrderSpec)

/-- 'splittallykeep.JoinLeast', WHERE WHAT IT READS IS OF BULK AT MOST 1048576: true; the input reads as it did. -/
def joinLeastUptoRow : OpenClaim := { program := "ytnnicibkmbidpab", sum := "b5074e77a0b3f76f56e91228ff97abc083748bd0d37a681eae6adb4af61b817b", func := "splittally/splittallykeep.JoinLeast", spec := "joinLeast", unfollowed := true, recurses := true, apart := false, narrowed := true }
def JoinLeastUptoSaid : Prop := joinLeastUptoRow.holds Try.pinned (OpenSpec.upto joinLeastSpec)

/-- 'splittallykeep.MembersBack', WHERE WHAT IT READS IS OF BULK AT MOST 1048576: true; the input reads as it did. -/
def membersBackUptoRow : OpenClaim := { program := "ytnnicibkmbidpab", sum := "b5074e77a0b3f76f56e91228ff97abc083748bd0d37a681eae6adb4af61b817b", func := "splittally/splittallykeep.MembersBack", spec := "membersBack", apart := false, narrowed := true }
def MembersBackUptoSaid : Prop := membersBackUptoRow.holds Try.pinned (OpenSpec.upto membersBackSpec)

/-- 'splittallykeep.JoinSpreads', WHERE WHAT IT READS IS OF BULK AT MOST 1048576: true; the input reads as it did. -/
def joinSpreadsUptoRow : OpenClaim := { program := "ytnnicibkmbidpab", sum := "b5074e77a0b3f76f56e91228ff97abc083748bd0d37a681eae6adb4af61b817b", func := "splittally/splittallykeep.JoinSpreads", spec := "joinSpreads", unfollowed := true, recurses := true, apart := false, narrowed := true }
def JoinSpreadsUptoSaid : Prop := joinSpreadsUptoRow.holds Try.pinned (OpenSpec.upto joinSpreadsSpec)

/-- 'splittallylaw.WireSizes', WHERE WHAT IT READS IS OF BULK AT MOST 1048576: true; the input reads as it did. -/
def wireSizesUptoRow : OpenClaim := { program := "ytnnicibkmbidpab", sum := "b5074e77a0b3f76f56e91228ff97abc083748bd0d37a681eae6adb4af61b817b", func := "splittally/splittallylaw.WireSizes", spec := "wireSizes", apart := false, narrowed := true }
def WireSizesUptoSaid : Prop := wireSizesUptoRow.holds Try.pinned (OpenSpec.upto wireSizesSpec)

/-- 'splittallylaw.WirePacks', WHERE WHAT IT READS IS OF BULK AT MOST 1048576: true; the input reads as it did. -/
def wirePacksUptoRow : OpenClaim := { program := "ytnnicibkmbidpab", sum := "b5074e77a0b3f76f56e91228ff97abc083748bd0d37a681eae6adb4af61b817b", func := "splittally/splittallylaw.WirePacks", spec := "wirePacks", apart := false, narrowed := true }
def WirePacksUptoSaid : Prop := wirePacksUptoRow.holds Try.pinned (OpenSpec.upto wirePacksSpec)

end Rows
end Go.Proofs.Ytnnicibkmbidpab

/-
  No cell of these rows narrows 'for every input' (looked for: loops, veiled, ifaces, maps, wideKeys, modest, calm, conditions, laid).
  DERIVED. THE GIVEN ROWS OF THIS SEAT. 6 by the template 'for every input the law returns true; each argument reads behind the call as it read before'; 0 by the template 'total and deterministic' (their statements: YtiolkeghgodggaiTotals.lean).
  GIVEN WITH THE SEED: the statements are not yours to turn. If you find one false, say at which input.
  Laid BY PROGRAM, IN A SANDBOX (cutbox-rows.mjs): the forced cells as the released guide's own fill.sh prints them over the translation d8218c3b5be17e82… (all of the seat's roots in one cut). By AI agents, Wed Nov 11 2026. No macro, syntax, notation, axiom, sorry.
-/
import Derived.Test.YtiolkeghgodggaiChecked
import GoSem.Claim
import GoSem.ClaimJoined
import GoSem.ClaimMapViews
import Derived.JoinedTies
import Derived.KernelRfl
namespace Go.Proofs.Ytiolkeghgodggai
/- THE CELL 'sum', in the pinned program and in every row, IS THE sha256 OF THE DUMP (.gsa) THAT YtiolkeghgodggaiProg.lean LOADS. Nothing in Lean hashes anything: it is a label: what it is worth is what the hold of that sum in a sandbox is worth. -/
noncomputable def Try.pinned : Pinned := { name := "ytiolkeghgodggai", sum := "d8218c3b5be17e829adbfd95f6c81d8c6b37c81691ecf56ea07506e15b950811", checked := Try.checked }
namespace Rows
def none {H : Type} : Left H := { results := [], args := [] }

/-- 'splittallykeep.HoldOnce': WHATEVER THE INPUT: true; the input reads as it did. -/
def holdOnceSpec : ChangeSpec := { name := "holdOnce", fn := fun _ => fun
  | [d] => { results := [.lit (.bool true)], args := [d] }
  | _ => none }
def holdOnceRow : OpenClaim := { program := "ytiolkeghgodggai", sum := "d8218c3b5be17e829adbfd95f6c81d8c6b37c81691ecf56ea07506e15b950811", func := "splittally/splittallykeep.HoldOnce", spec := "holdOnce", unfollowed := true, recurses := true, plainKeys := false, apart := false }
def HoldOnceSaid : Prop := holdOnceRow.holds Try.pinned (OpenSpec.ofChange holdOnceSpec)

/-- ITS FALSE NEIGHBOUR: 'it returns false'. Refute it at one input. -/
def holdOnceWrong : ChangeSpec := { name := "holdOnce", fn := fun _ => fun
  | [d] => { results := [.lit (.bool false)], args := [d] }
  | _ => none }
def HoldOnceWrongFalsely : Prop := holdOnceRow.holds Try.pinned (OpenSpec.ofChange holdOnceWrong)

/-- 'splittallykeep.HoldEnds': WHATEVER THE INPUT: true; the input reads as it did. -/
def holdEndsSpec : ChangeSpec := { name := "holdEnds", fn := fun _ => fun
  | [d1, d2, d3, d4] => { results := [.lit (.bool true)], args := [d1, d2, d3, d4] }
  | _ => none }
def holdEndsRow : OpenClaim := { program := "ytiolkeghgodggai", sum := "d8218c3b5be17e829adbfd95f6c81d8c6b37c81691ecf56ea07506e15b950811", func := "splittally/splittallykeep.HoldEnds", spec := "holdEnds", unfollowed := true, recurses := true, plainKeys := false, apart := false }
def HoldEndsSaid : Prop := holdEndsRow.holds Try.pinned (OpenSpec.ofChange holdEndsSpec)

/-- ITS FALSE NEIGHBOUR: 'it returns false'. Refute it at one input. -/
def holdEndsWrong : ChangeSpec := { name := "holdEnds", fn := fun _ => fun
  | [d1, d2, d3, d4] => { results := [.lit (.bool false)], args := [d1, d2, d3, d4] }
  | _ => none }
def HoldEndsWrongFalsely : Prop := holdEndsRow.holds Try.pinned (OpenSpec.ofChange holdEndsWrong)

/-- 'splittallykeep.HoldRefused': WHATEVER THE INPUT: true; the input reads as it did. -/
def holdRefusedSpec : ChangeSpec := { name := "holdRefused", fn := fun _ => fun
  | [d] => { results := [.lit (.bool true)], args := [d] }
  | _ => none }
def holdRefusedRow : OpenClaim := { program := "ytiolkeghgodggai", sum := "d8218c3b5be17e829adbfd95f6c81d8c6b37c81691ecf56ea07506e15b950811", func := "splittally/splittallykeep.HoldRefused", spec := "holdRefused", unfollowed := true, recurses := true, plainKeys := false, apart := false }
def HoldRefusedSaid : Prop := holdRefusedRow.holds Try.pinned (OpenSpec.ofChange holdRefusedSpec)

/-- ITS FALSE NEIGHBOUR: 'it returns false'. Refute it at one input. -/
def holdRefusedWrong : ChangeSpec := { name := "holdRefused", fn := fun _ => fun
  | [d] => { results := [.lit (.bool false)], args := [d] }
  | _ => none }
def HoldRefusedWrongFalsely : Prop := holdRefusedRow.holds Try.pinned (OpenSpec.ofChange holdRefusedWrong)

/-- 'splittallylaw.SealPlays': WHATEVER THE INPUT: true; the input reads as it did. -/
def sealPlaysSpec : ChangeSpec := { name := "sealPlays", fn := fun _ => fun
  | [d] => { results := [.lit (.bool true)], args := [d] }
  | _ => none }
def sealPlaysRow : OpenClaim := { program := "ytiolkeghgodggai", sum := "d8218c3b5be17e829adbfd95f6c81d8c6b37c81691ecf56ea07506e15b950811", func := "splittally/splittallylaw.SealPlays", spec := "sealPlays", plainKeys := false, apart := false }
def SealPlaysSaid : Prop := sealPlaysRow.holds Try.pinned (OpenSpec.ofChange sealPlaysSpec)

/-- ITS FALSE NEIGHBOUR: 'it returns false'. Refute it at one input. -/
def sealPlaysWrong : ChangeSpec := { name := "sealPlays", fn := fun _ => fun
  | [d] => { results := [.lit (.bool false)], args := [d] }
  | _ => none }
def SealPlaysWrongFalsely : Prop := sealPlaysRow.holds Try.pinned (OpenSpec.ofChange sealPlaysWrong)

/-- 'splittallykeep.SealOnce': WHATEVER THE INPUT: true; the input reads as it did. -/
def sealOnceSpec : ChangeSpec := { name := "sealOnce", fn := fun _ => fun
  | [d] => { results := [.lit (.bool true)], args := [d] }
  | _ => none }
def sealOnceRow : OpenClaim := { program := "ytiolkeghgodggai", sum := "d8218c3b5be17e829adbfd95f6c81d8c6b37c81691ecf56ea07506e15b950811", func := "splittally/splittallykeep.SealOnce", spec := "sealOnce", plainKeys := false, apart := false }
def SealOnceSaid : Prop := sealOnceRow.holds Try.pinned (OpenSpec.ofChange sealOnceSpec)

/-- ITS FALSE NEIGHBOUR: 'it returns false'. Refute it at one input. -/
def sealOnceWrong : ChangeSpec := { name := "sealOnce", fn := fun _ => fun
  | [d] => { results := [.lit (.bool false)], args := [d] }
  | _ => none }
def SealOnceWrongFalsely : Prop := sealOnceRow.holds Try.pinned (OpenSpec.ofChange sealOnceWrong)

/-- 'splittallykeep.SealBlind': WHATEVER THE INPUT: true; the input reads as it did. -/
def sealBlindSpec : ChangeSpec := { name := "sealBlind", fn := fun _ => fun
  | [d1, d2, d3] => { results := [.lit (.bool true)], args := [d1, d2, d3] }
  | _ => none }
def sealBlindRow : OpenClaim := { program := "ytiolkeghgodggai", sum := "d8218c3b5be17e829adbfd95f6c81d8c6b37c81691ecf56ea07506e15b950811", func := "splittally/splittallykeep.SealBlind", spec := "sealBlind", plainKeys := false, apart := false }
def SealBlindSaid : Prop := sealBlindRow.holds Try.pinned (OpenSpec.ofChange sealBlindSpec)

/-- ITS FALSE NEIGHBOUR: 'it returns false'. Refute it at one input. -/
def sealBlindWrong : ChangeSpec := { name := "sealBlind", fn := fun _ => fun
  | [d1, d2, d3] => { results := [.lit (.bool false)], args := [d1, d2, d3] }
  | _ => none }
def SealBlindWrongFalsely : Prop := sealBlindRow.holds Try.pinned (OpenSpec.ofChange sealBlindWrong)

/- THE SECOND FORM. 'bulk': how many values and letters a reading holds, each counted each time it is reached (what is shared counts as often as it is met; a slice's spare places count too). A statement '..UptoSaid' is the law's where the arguments, and the package variables that the reading takes, are together of bulk at most 1048576: NARROWER than '..Said'. Prove '..Said' where nothing that the law and all that it calls make is longer than what came in: it says more and counts as full. Else prove '..UptoSaid'. A law counts once. -/
mutual
def uptoBulk {H : Type} : DataW H → Nat
  | .lit (.string bytes) => bytes.length + 1
  | .lit _ => 1
  | .nil => 1
  | .ptr d => uptoBulk d + 1
  | .slice elems spare => uptoBulkAll elems + uptoBulkAll spare + 1
  | .agg parts => uptoBulkAll parts + 1
  | .iface _ d => uptoBulk d + 1
  | .map entries => uptoBulkEntries entries + 1
  | .held _ => 1
def uptoBulkAll {H : Type} : List (DataW H) → Nat
  | [] => 0
  | d :: r => uptoBulk d + uptoBulkAll r
def uptoBulkEntries {H : Type} : List (Lit × DataW H) → Nat
  | [] => 0
  | x :: r => uptoBulkEntry x + uptoBulkEntries r
def uptoBulkEntry {H : Type} : Lit × DataW H → Nat
  | (.string bytes, d) => bytes.length + uptoBulk d + 1
  | (_, d) => uptoBulk d + 1
 end
def uptoSmall : (H : Type) → List (DataW H) → Bool := fun _ ds => decide (uptoBulkAll ds ≤ 1048576)
def OpenSpec.upto (s : _root_.Go.ChangeSpec) : _root_.Go.OpenSpec := { _root_.Go.OpenSpec.ofChange s with cond := some uptoSmall }

/-- 'splittallykeep.HoldOnce', WHERE WHAT IT READS IS OF BULK AT MOST 1048576: true; the input reads as it did. -/
def holdOnceUptoRow : OpenClaim := { program := "ytiolkeghgodggai", sum := "d8218c3b5be17e829adbfd95f6c81d8c6b37c81691ecf56ea07506e15b950811", func := "splittally/splittallykeep.HoldOnce", spec := "holdOnce", unfollowed := true, recurses := true, plainKeys := false, apart := false, narrowed := true }
def HoldOnceUptoSaid : Prop := holdOnceUptoRow.holds Try.pinned (OpenSpec.upto holdOnceSpec)

/-- 'splittallykeep.HoldEnds', WHERE WHAT IT READS IS OF BULK AT MOST 1048576: true; the input reads as it did. -/
def holdEndsUptoRow : OpenClaim := { program := "ytiolkeghgodggai", sum := "d8218c3b5be17e829adbfd95f6c81d8c6b37c81691ecf56ea07506e15b950811", func := "splittally/splittallykeep.HoldEnds", spec := "holdEnds", unfollowed := true, recurses := true, plainKeys := false, apart := false, narrowed := true }
def HoldEndsUptoSaid : Prop := holdEndsUptoRow.holds Try.pinned (OpenSpec.upto holdEndsSpec)

/-- 'splittallykeep.HoldRefused', WHERE WHAT IT READS IS OF BULK AT MOST 1048576: true; the input reads as it did. -/
def holdRefusedUptoRow : OpenClaim := { program := "ytiolkeghgodggai", sum := "d8218c3b5be17e829adbfd95f6c81d8c6b37c81691ecf56ea07506e15b950811", func := "splittally/splittallykeep.HoldRefused", spec := "holdRefused", unfollowed := true, recurses := true, plainKeys := false, apart := false, narrowed := true }
def HoldRefusedUptoSaid : Prop := holdRefusedUptoRow.holds Try.pinned (OpenSpec.upto holdRefusedSpec)

/-- 'splittallylaw.SealPlays', WHERE WHAT IT READS IS OF BULK AT MOST 1048576: true; the input reads as it did. -/
def sealPlaysUptoRow : OpenClaim := { program := "ytiolkeghgodggai", sum := "d8218c3b5be17e829adbfd95f6c81d8c6b37c81691ecf56ea07506e15b950811", func := "splittally/splittallylaw.SealPlays", spec := "sealPlays", plainKeys := false, apart := false, narrowed := true }
def SealPlaysUptoSaid : Prop := sealPlaysUptoRow.holds Try.pinned (OpenSpec.upto sealPlaysSpec)

/-- 'splittallykeep.SealOnce', WHERE WHAT IT READS IS OF BULK AT MOST 1048576: true; the input reads as it did. -/
def sealOnceUptoRow : OpenClaim := { program := "ytiolkeghgodggai", sum := "d8218c3b5be17e829adbfd95f6c81d8c6b37c81691ecf56ea07506e15b950811", func := "splittally/splittallykeep.SealOnce", spec := "sealOnce", plainKeys := false, apart := false, narrowed := true }
def SealOnceUptoSaid : Prop := sealOnceUptoRow.holds Try.pinned (OpenSpec.upto sealOnceSpec)

/-- 'splittallykeep.SealBlind', WHERE WHAT IT READS IS OF BULK AT MOST 1048576: true; the input reads as it did. -/
def sealBlindUptoRow : OpenClaim := { program := "ytiolkeghgodggai", sum := "d8218c3b5be17e829adbfd95f6c81d8c6b37c81691ecf56ea07506e15b950811", func := "splittally/splittallykeep.SealBlind", spec := "sealBlind", plainKeys := false, apart := false, narrowed := true }
def SealBlindUptoSaid : Prop := sealBlindUptoRow.holds Try.pinned (OpenSpec.upto sealBlindSpec)

end Rows
end Go.Proofs.Ytiolkeghgodggai

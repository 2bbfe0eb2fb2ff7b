/-
  No cell of these rows narrows 'for every input' (looked for: loops, veiled, ifaces, maps, wideKeys, modest, calm, conditions, laid).
  DERIVED. THE GIVEN ROWS OF THIS SEAT. 6 by the template 'for every input the law returns true; each argument reads behind the call as it read before'; 0 by the template 'total and deterministic' (their statements: YtiddpkhmdjjmdagTotals.lean).
  GIVEN WITH THE SEED: the statements are not yours to turn. If you find one false, say at which input.
  Laid BY PROGRAM, IN A SANDBOX (cutbox-rows.mjs): the forced cells as the released guide's own fill.sh prints them over the translation 840a13f74164a3f0… (all of the seat's roots in one cut). By AI agents, Wed Nov 11 2026. No macro, syntax, notation, axiom, sorry.
-/
import Derived.Test.YtiddpkhmdjjmdagChecked
import GoSem.Claim
import GoSem.ClaimJoined
import GoSem.ClaimMapViews
import Derived.JoinedTies
import Derived.KernelRfl
namespace Go.Proofs.Ytiddpkhmdjjmdag
/- THE CELL 'sum', in the pinned program and in every row, IS THE sha256 OF THE DUMP (.gsa) THAT YtiddpkhmdjjmdagProg.lean LOADS. Nothing in Lean hashes anything: it is a label: what it is worth is what the hold of that sum in a sandbox is worth. -/
noncomputable def Try.pinned : Pinned := { name := "ytiddpkhmdjjmdag", sum := "840a13f74164a3f0d7e68ab334055c894b6e45c8b40d22ef4d99ee0f831010a1", checked := Try.checked }
namespace Rows
def none {H : Type} : Left H := { results := [], args := [] }

/-- 'splittallylaw.TallyMerges': WHATEVER THE INPUT: true; the input reads as it did. -/
def tallyMergesSpec : ChangeSpec := { name := "tallyMerges", fn := fun _ => fun
  | [d1, d2] => { results := [.lit (.bool true)], args := [d1, d2] }
  | _ => none }
def tallyMergesRow : OpenClaim := { program := "ytiddpkhmdjjmdag", sum := "840a13f74164a3f0d7e68ab334055c894b6e45c8b40d22ef4d99ee0f831010a1", func := "splittally/splittallylaw.TallyMerges", spec := "tallyMerges", unfollowed := true, recurses := true, apart := false }
def TallyMergesSaid : Prop := tallyMergesRow.holds Try.pinned (OpenSpec.ofChange tallyMergesSpec)

/-- ITS FALSE NEIGHBOUR: 'it returns false'. Refute it at one input. -/
def tallyMergesWrong : ChangeSpec := { name := "tallyMerges", fn := fun _ => fun
  | [d1, d2] => { results := [.lit (.bool false)], args := [d1, d2] }
  | _ => none }
def TallyMergesWrongFalsely : Prop := tallyMergesRow.holds Try.pinned (OpenSpec.ofChange tallyMergesWrong)

/-- 'splittallykeep.TallySafe': WHATEVER THE INPUT: true; the input reads as it did. -/
def tallySafeSpec : ChangeSpec := { name := "tallySafe", fn := fun _ => fun
  | [d1, d2] => { results := [.lit (.bool true)], args := [d1, d2] }
  | _ => none }
def tallySafeRow : OpenClaim := { program := "ytiddpkhmdjjmdag", sum := "840a13f74164a3f0d7e68ab334055c894b6e45c8b40d22ef4d99ee0f831010a1", func := "splittally/splittallykeep.TallySafe", spec := "tallySafe", unfollowed := true, recurses := true, apart := false }
def TallySafeSaid : Prop := tallySafeRow.holds Try.pinned (OpenSpec.ofChange tallySafeSpec)

/-- ITS FALSE NEIGHBOUR: 'it returns false'. Refute it at one input. -/
def tallySafeWrong : ChangeSpec := { name := "tallySafe", fn := fun _ => fun
  | [d1, d2] => { results := [.lit (.bool false)], args := [d1, d2] }
  | _ => none }
def TallySafeWrongFalsely : Prop := tallySafeRow.holds Try.pinned (OpenSpec.ofChange tallySafeWrong)

/-- 'splittallykeep.TallyAny': WHATEVER THE INPUT: true; the input reads as it did. -/
def tallyAnySpec : ChangeSpec := { name := "tallyAny", fn := fun _ => fun
  | [d1, d2] => { results := [.lit (.bool true)], args := [d1, d2] }
  | _ => none }
def tallyAnyRow : OpenClaim := { program := "ytiddpkhmdjjmdag", sum := "840a13f74164a3f0d7e68ab334055c894b6e45c8b40d22ef4d99ee0f831010a1", func := "splittally/splittallykeep.TallyAny", spec := "tallyAny", unfollowed := true, recurses := true, apart := false }
def TallyAnySaid : Prop := tallyAnyRow.holds Try.pinned (OpenSpec.ofChange tallyAnySpec)

/-- ITS FALSE NEIGHBOUR: 'it returns false'. Refute it at one input. -/
def tallyAnyWrong : ChangeSpec := { name := "tallyAny", fn := fun _ => fun
  | [d1, d2] => { results := [.lit (.bool false)], args := [d1, d2] }
  | _ => none }
def TallyAnyWrongFalsely : Prop := tallyAnyRow.holds Try.pinned (OpenSpec.ofChange tallyAnyWrong)

/-- 'splittallykeep.TallyMoves': WHATEVER THE INPUT: true; the input reads as it did. -/
def tallyMovesSpec : ChangeSpec := { name := "tallyMoves", fn := fun _ => fun
  | [d1, d2, d3, d4, d5] => { results := [.lit (.bool true)], args := [d1, d2, d3, d4, d5] }
  | _ => none }
def tallyMovesRow : OpenClaim := { program := "ytiddpkhmdjjmdag", sum := "840a13f74164a3f0d7e68ab334055c894b6e45c8b40d22ef4d99ee0f831010a1", func := "splittally/splittallykeep.TallyMoves", spec := "tallyMoves", unfollowed := true, recurses := true, apart := false }
def TallyMovesSaid : Prop := tallyMovesRow.holds Try.pinned (OpenSpec.ofChange tallyMovesSpec)

/-- ITS FALSE NEIGHBOUR: 'it returns false'. Refute it at one input. -/
def tallyMovesWrong : ChangeSpec := { name := "tallyMoves", fn := fun _ => fun
  | [d1, d2, d3, d4, d5] => { results := [.lit (.bool false)], args := [d1, d2, d3, d4, d5] }
  | _ => none }
def TallyMovesWrongFalsely : Prop := tallyMovesRow.holds Try.pinned (OpenSpec.ofChange tallyMovesWrong)

/-- 'splittallylaw.ShareSplits': WHATEVER THE INPUT: true; the input reads as it did. -/
def shareSplitsSpec : ChangeSpec := { name := "shareSplits", fn := fun _ => fun
  | [d1, d2] => { results := [.lit (.bool true)], args := [d1, d2] }
  | _ => none }
def shareSplitsRow : OpenClaim := { program := "ytiddpkhmdjjmdag", sum := "840a13f74164a3f0d7e68ab334055c894b6e45c8b40d22ef4d99ee0f831010a1", func := "splittally/splittallylaw.ShareSplits", spec := "shareSplits", unfollowed := true, recurses := true, apart := false }
def ShareSplitsSaid : Prop := shareSplitsRow.holds Try.pinned (OpenSpec.ofChange shareSplitsSpec)

/-- ITS FALSE NEIGHBOUR: 'it returns false'. Refute it at one input. -/
def shareSplitsWrong : ChangeSpec := { name := "shareSplits", fn := fun _ => fun
  | [d1, d2] => { results := [.lit (.bool false)], args := [d1, d2] }
  | _ => none }
def ShareSplitsWrongFalsely : Prop := shareSplitsRow.holds Try.pinned (OpenSpec.ofChange shareSplitsWrong)

/-- 'splittallykeep.ShareFair': WHATEVER THE INPUT: true; the input reads as it did. -/
def shareFairSpec : ChangeSpec := { name := "shareFair", fn := fun _ => fun
  | [d1, d2] => { results := [.lit (.bool true)], args := [d1, d2] }
  | _ => none }
def shareFairRow : OpenClaim := { program := "ytiddpkhmdjjmdag", sum := "840a13f74164a3f0d7e68ab334055c894b6e45c8b40d22ef4d99ee0f831010a1", func := "splittally/splittallykeep.ShareFair", spec := "shareFair", unfollowed := true, recurses := true, apart := false }
def ShareFairSaid : Prop := shareFairRow.holds Try.pinned (OpenSpec.ofChange shareFairSpec)

/-- ITS FALSE NEIGHBOUR: 'it returns false'. Refute it at one input. -/
def shareFairWrong : ChangeSpec := { name := "shareFair", fn := fun _ => fun
  | [d1, d2] => { results := [.lit (.bool false)], args := [d1, d2] }
  | _ => none }
def ShareFairWrongFalsely : Prop := shareFairRow.holds Try.pinned (OpenSpec.ofChange shareFairWrong)

/- THE SECOND FORM. 'bulk': how many values and letters a reading holds, each counted each time it is reached (what is shared counts as often as it is met; a slice's spare places count too). A statement '..UptoSaid' is the law's where the arguments, and the package variables that the reading takes, are together of bulk at most 1048576: NARROWER than '..Said'. Prove '..Said' where nothing that the law and all that it calls make is longer than what came in: it says more and counts as full. Else prove '..UptoSaid'. A law counts once. -/
mutual
def uptoBulk {H : Type} : DataW H → Nat
  | .lit (.string bytes) => bytes.length + 1
  | .lit _ => 1
  | .nil => 1
  | .ptr d => uptoBulk d + 1
  | .slice elems spare => uptoBulkAll elems + uptoBulkAll spare + 1
  | .agg parts => uptoBulkAll parts + 1
  | .iface _ d => uptoBulk d + 1
  | .map entries => uptoBulkEntries entries + 1
  | .held _ => 1
def uptoBulkAll {H : Type} : List (DataW H) → Nat
  | [] => 0
  | d :: r => uptoBulk d + uptoBulkAll r
def uptoBulkEntries {H : Type} : List (Lit × DataW H) → Nat
  | [] => 0
  | x :: r => uptoBulkEntry x + uptoBulkEntries r
def uptoBulkEntry {H : Type} : Lit × DataW H → Nat
  | (.string bytes, d) => bytes.length + uptoBulk d + 1
  | (_, d) => uptoBulk d + 1
 end
def uptoSmall : (H : Type) → List (DataW H) → Bool := fun _ ds => decide (uptoBulkAll ds ≤ 1048576)
def OpenSpec.upto (s : _root_.Go.ChangeSpec) : _root_.Go.OpenSpec := { _root_.Go.OpenSpec.ofChange s with cond := some uptoSmall }

/-- 'splittallylaw.TallyMerges', WHERE WHAT IT READS IS OF BULK AT MOST 1048576: true; the input reads as it did. -/
def tallyMergesUptoRow : OpenClaim := { program := "ytiddpkhmdjjmdag", sum := "840a13f74164a3f0d7e68ab334055c894b6e45c8b40d22ef4d99ee0f831010a1", func := "splittally/splittallylaw.TallyMerges", spec := "tallyMerges", unfollowed := true, recurses := true, apart := false, narrowed := true }
def TallyMergesUptoSaid : Prop := tallyMergesUptoRow.holds Try.pinned (OpenSpec.upto tallyMergesSpec)

/-- 'splittallykeep.TallySafe', WHERE WHAT IT READS IS OF BULK AT MOST 1048576: true; the input reads as it did. -/
def tallySafeUptoRow : OpenClaim := { program := "ytiddpkhmdjjmdag", sum := "840a13f74164a3f0d7e68ab334055c894b6e45c8b40d22ef4d99ee0f831010a1", func := "splittally/splittallykeep.TallySafe", spec := "tallySafe", unfollowed := true, recurses := true, apart := false, narrowed := true }
def TallySafeUptoSaid : Prop := tallySafeUptoRow.holds Try.pinned (OpenSpec.upto tallySafeSpec)

/-- 'splittallykeep.TallyAny', WHERE WHAT IT READS IS OF BULK AT MOST 1048576: true; the input reads as it did. -/
def tallyAnyUptoRow : OpenClaim := { program := "ytiddpkhmdjjmdag", sum := "840a13f74164a3f0d7e68ab334055c894b6e45c8b40d22ef4d99ee0f831010a1", func := "splittally/splittallykeep.TallyAny", spec := "tallyAny", unfollowed := true, recurses := true, apart := false, narrowed := true }
def TallyAnyUptoSaid : Prop := tallyAnyUptoRow.holds Try.pinned (OpenSpec.upto tallyAnySpec)

/-- 'splittallykeep.TallyMoves', WHERE WHAT IT READS IS OF BULK AT MOST 1048576: true; the input reads as it did. -/
def tallyMovesUptoRow : OpenClaim := { program := "ytiddpkhmdjjmdag", sum := "840a13f74164a3f0d7e68ab334055c894b6e45c8b40d22ef4d99ee0f831010a1", func := "splittally/splittallykeep.TallyMoves", spec := "tallyMoves", unfollowed := true, recurses := true, apart := false, narrowed := true }
def TallyMovesUptoSaid : Prop := tallyMovesUptoRow.holds Try.pinned (OpenSpec.upto tallyMovesSpec)

/-- 'splittallylaw.ShareSplits', WHERE WHAT IT READS IS OF BULK AT MOST 1048576: true; the input reads as it did. -/
def shareSplitsUptoRow : OpenClaim := { program := "ytiddpkhmdjjmdag", sum := "840a13f74164a3f0d7e68ab334055c894b6e45c8b40d22ef4d99ee0f831010a1", func := "splittally/splittallylaw.ShareSplits", spec := "shareSplits", unfollowed := true, recurses := true, apart := false, narrowed := true }
def ShareSplitsUptoSaid : Prop := shareSplitsUptoRow.holds Try.pinned (OpenSpec.upto shareSplitsSpec)

/-- 'splittallykeep.ShareFair', WHERE WHAT IT READS IS OF BULK AT MOST 1048576: true; the input reads as it did. -/
def shareFairUptoRow : OpenClaim := { program := "ytiddpkhmdjjmdag", sum := "840a13f74164a3f0d7e68ab334055c894b6e45c8b40d22ef4d99ee0f831010a1", func := "splittally/splittallykeep.ShareFair", spec := "shareFair", unfollowed := true, recurses := true, apart := false, narrowed := true }
def ShareFairUptoSaid : Prop := shareFairUptoRow.holds Try.pinned (OpenSpec.upto shareFairSpec)

end Rows
end Go.Proofs.Ytiddpkhmdjjmdag

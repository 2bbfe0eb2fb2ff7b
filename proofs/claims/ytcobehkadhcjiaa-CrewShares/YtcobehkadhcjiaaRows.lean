/-
  No cell of these rows narrows 'for every input' (looked for: loops, veiled, ifaces, maps, wideKeys, modest, calm, conditions, laid).
  DERIVED. THE GIVEN ROWS OF THIS SEAT. 4 by the template 'for every input the law returns true; each argument reads behind the call as it read before'; 0 by the template 'total and deterministic' (their statements: YtcobehkadhcjiaaTotals.lean).
  GIVEN WITH THE SEED: the statements are not yours to turn. If you find one false, say at which input.
  Laid BY PROGRAM, IN A SANDBOX (cutbox-rows.mjs): the forced cells as the released guide's own fill.sh prints them over the translation a0d26b3425805000… (all of the seat's roots in one cut). By AI agents, Wed Nov 11 2026. No macro, syntax, notation, axiom, sorry.
-/
import Derived.Test.YtcobehkadhcjiaaChecked
import GoSem.Claim
import GoSem.ClaimJoined
import GoSem.ClaimMapViews
import Derived.JoinedTies
import Derived.KernelRfl
namespace Go.Proofs.Ytcobehkadhcjiaa
/- THE CELL 'sum', in the pinned program and in every row, IS THE sha256 OF THE DUMP (.gsa) THAT YtcobehkadhcjiaaProg.lean LOADS. Nothing in Lean hashes anything: it is a label: what it is worth is what the hold of that sum in a sandbox is worth. -/
noncomputable def Try.pinned : Pinned := { name := "ytcobehkadhcjiaa", sum := "a0d26b3425805000adc41207802b1cf50758f2f0be776192a3a7a1de885dda15", checked := Try.checked }
namespace Rows
def none {H : Type} : Left H := { results := [], args := [] }

/-- 'splittallylaw.CrewSplits': WHATEVER THE INPUT: true; the input reads as it did. -/
def crewSplitsSpec : ChangeSpec := { name := "crewSplits", fn := fun _ => fun
  | [d1, d2] => { results := [.lit (.bool true)], args := [d1, d2] }
  | _ => none }
def crewSplitsRow : OpenClaim := { program := "ytcobehkadhcjiaa", sum := "a0d26b3425805000adc41207802b1cf50758f2f0be776192a3a7a1de885dda15", func := "splittally/splittallylaw.CrewSplits", spec := "crewSplits", inPlace := ["(*sync.WaitGroup).Add", "internal/race.ReleaseMerge", "internal/race.Disable", "internal/race.Enable", "internal/synctest.IsInBubble", "internal/synctest.Associate[sync.WaitGroup]", "sync.fatal", "sync/atomic.OrUint64", "sync/atomic.AddUint64", "internal/race.Read", "sync/atomic.LoadUint64", "sync/atomic.StoreUint64", "internal/synctest.Disassociate[sync.WaitGroup]", "sync.runtime_Semrelease", "(*sync.WaitGroup).Done", "(*sync.WaitGroup).Wait", "internal/race.Acquire", "internal/synctest.IsAssociated[sync.WaitGroup]", "sync/atomic.CompareAndSwapUint64", "internal/race.Write", "sync.runtime_SemacquireWaitGroup"], unfollowed := true, recurses := true, leaving := true, apart := false }
def CrewSplitsSaid : Prop := crewSplitsRow.holds Try.pinned (OpenSpec.ofChange crewSplitsSpec)

/-- ITS FALSE NEIGHBOUR: 'it returns false'. Refute it at one input. -/
def crewSplitsWrong : ChangeSpec := { name := "crewSplits", fn := fun _ => fun
  | [d1, d2] => { results := [.lit (.bool false)], args := [d1, d2] }
  | _ => none }
def CrewSplitsWrongFalsely : Prop := crewSplitsRow.holds Try.pinned (OpenSpec.ofChange crewSplitsWrong)

/-- 'splittallylaw.CrewMerges': WHATEVER THE INPUT: true; the input reads as it did. -/
def crewMergesSpec : ChangeSpec := { name := "crewMerges", fn := fun _ => fun
  | [d] => { results := [.lit (.bool true)], args := [d] }
  | _ => none }
def crewMergesRow : OpenClaim := { program := "ytcobehkadhcjiaa", sum := "a0d26b3425805000adc41207802b1cf50758f2f0be776192a3a7a1de885dda15", func := "splittally/splittallylaw.CrewMerges", spec := "crewMerges", inPlace := ["slices.overlaps[splittally/api.Entry]"], unfollowed := true, recurses := true, leaving := true, apart := false }
def CrewMergesSaid : Prop := crewMergesRow.holds Try.pinned (OpenSpec.ofChange crewMergesSpec)

/-- ITS FALSE NEIGHBOUR: 'it returns false'. Refute it at one input. -/
def crewMergesWrong : ChangeSpec := { name := "crewMerges", fn := fun _ => fun
  | [d] => { results := [.lit (.bool false)], args := [d] }
  | _ => none }
def CrewMergesWrongFalsely : Prop := crewMergesRow.holds Try.pinned (OpenSpec.ofChange crewMergesWrong)

/-- 'splittallykeep.CrewAny': WHATEVER THE INPUT: true; the input reads as it did. -/
def crewAnySpec : ChangeSpec := { name := "crewAny", fn := fun _ => fun
  | [d1, d2] => { results := [.lit (.bool true)], args := [d1, d2] }
  | _ => none }
def crewAnyRow : OpenClaim := { program := "ytcobehkadhcjiaa", sum := "a0d26b3425805000adc41207802b1cf50758f2f0be776192a3a7a1de885dda15", func := "splittally/splittallykeep.CrewAny", spec := "crewAny", inPlace := ["slices.overlaps[splittally/api.Entry]"], unfollowed := true, recurses := true, leaving := true, apart := false }
def CrewAnySaid : Prop := crewAnyRow.holds Try.pinned (OpenSpec.ofChange crewAnySpec)

/-- ITS FALSE NEIGHBOUR: 'it returns false'. Refute it at one input. -/
def crewAnyWrong : ChangeSpec := { name := "crewAny", fn := fun _ => fun
  | [d1, d2] => { results := [.lit (.bool false)], args := [d1, d2] }
  | _ => none }
def CrewAnyWrongFalsely : Prop := crewAnyRow.holds Try.pinned (OpenSpec.ofChange crewAnyWrong)

/-- 'splittallykeep.CrewShares': WHATEVER THE INPUT: true; the input reads as it did. -/
def crewSharesSpec : ChangeSpec := { name := "crewShares", fn := fun _ => fun
  | [d1, d2] => { results := [.lit (.bool true)], args := [d1, d2] }
  | _ => none }
def crewSharesRow : OpenClaim := { program := "ytcobehkadhcjiaa", sum := "a0d26b3425805000adc41207802b1cf50758f2f0be776192a3a7a1de885dda15", func := "splittally/splittallykeep.CrewShares", spec := "crewShares", inPlace := ["(*sync.WaitGroup).Add", "internal/race.ReleaseMerge", "internal/race.Disable", "internal/race.Enable", "internal/synctest.IsInBubble", "internal/synctest.Associate[sync.WaitGroup]", "sync.fatal", "sync/atomic.OrUint64", "sync/atomic.AddUint64", "internal/race.Read", "sync/atomic.LoadUint64", "sync/atomic.StoreUint64", "internal/synctest.Disassociate[sync.WaitGroup]", "sync.runtime_Semrelease", "(*sync.WaitGroup).Done", "(*sync.WaitGroup).Wait", "internal/race.Acquire", "internal/synctest.IsAssociated[sync.WaitGroup]", "sync/atomic.CompareAndSwapUint64", "internal/race.Write", "sync.runtime_SemacquireWaitGroup"], unfollowed := true, recurses := true, leaving := true, apart := false }
def CrewSharesSaid : Prop := crewSharesRow.holds Try.pinned (OpenSpec.ofChange crewSharesSpec)

/-- ITS FALSE NEIGHBOUR: 'it returns false'. Refute it at one input. -/
def crewSharesWrong : ChangeSpec := { name := "crewShares", fn := fun _ => fun
  | [d1, d2] => { results := [.lit (.bool false)], args := [d1, d2] }
  | _ => none }
def CrewSharesWrongFalsely : Prop := crewSharesRow.holds Try.pinned (OpenSpec.ofChange crewSharesWrong)

/- THE SECOND FORM. 'bulk': how many values and letters a reading holds, each counted each time it is reached (what is shared counts as often as it is met; a slice's spare places count too). A statement '..UptoSaid' is the law's where the arguments, and the package variables that the reading takes, are together of bulk at most 1048576: NARROWER than '..Said'. Prove '..Said' where nothing that the law and all that it calls make is longer than what came in: it says more and counts as full. Else prove '..UptoSaid'. A law counts once. -/
mutual
def uptoBulk {H : Type} : DataW H → Nat
  | .lit (.string bytes) => bytes.length + 1
  | .lit _ => 1
  | .nil => 1
  | .ptr d => uptoBulk d + 1
  | .slice elems spare => uptoBulkAll elems + uptoBulkAll spare + 1
  | .agg parts => uptoBulkAll parts + 1
  | .iface _ d => uptoBulk d + 1
  | .map entries => uptoBulkEntries entries + 1
  | .held _ => 1
def uptoBulkAll {H : Type} : List (DataW H) → Nat
  | [] => 0
  | d :: r => uptoBulk d + uptoBulkAll r
def uptoBulkEntries {H : Type} : List (Lit × DataW H) → Nat
  | [] => 0
  | x :: r => uptoBulkEntry x + uptoBulkEntries r
def uptoBulkEntry {H : Type} : Lit × DataW H → Nat
  | (.string bytes, d) => bytes.length + uptoBulk d + 1
  | (_, d) => uptoBulk d + 1
 end
def uptoSmall : (H : Type) → List (DataW H) → Bool := fun _ ds => decide (uptoBulkAll ds ≤ 1048576)
def OpenSpec.upto (s : _root_.Go.ChangeSpec) : _root_.Go.OpenSpec := { _root_.Go.OpenSpec.ofChange s with cond := some uptoSmall }

/-- 'splittallylaw.CrewSplits', WHERE WHAT IT READS IS OF BULK AT MOST 1048576: true; the input reads as it did. -/
def crewSplitsUptoRow : OpenClaim := { program := "ytcobehkadhcjiaa", sum := "a0d26b3425805000adc41207802b1cf50758f2f0be776192a3a7a1de885dda15", func := "splittally/splittallylaw.CrewSplits", spec := "crewSplits", inPlace := ["(*sync.WaitGroup).Add", "internal/race.ReleaseMerge", "internal/race.Disable", "internal/race.Enable", "internal/synctest.IsInBubble", "internal/synctest.Associate[sync.WaitGroup]", "sync.fatal", "sync/atomic.OrUint64", "sync/atomic.AddUint64", "internal/race.Read", "sync/atomic.LoadUint64", "sync/atomic.StoreUint64", "internal/synctest.Disassociate[sync.WaitGroup]", "sync.runtime_Semrelease", "(*sync.WaitGroup).Done", "(*sync.WaitGroup).Wait", "internal/race.Acquire", "internal/synctest.IsAssociated[sync.WaitGroup]", "sync/atomic.CompareAndSwapUint64", "internal/race.Write", "sync.runtime_SemacquireWaitGroup"], unfollowed := true, recurses := true, leaving := true, apart := false, narrowed := true }
def CrewSplitsUptoSaid : Prop := crewSplitsUptoRow.holds Try.pinned (OpenSpec.upto crewSplitsSpec)

/-- 'splittallylaw.CrewMerges', WHERE WHAT IT READS IS OF BULK AT MOST 1048576: true; the input reads as it did. -/
def crewMergesUptoRow : OpenClaim := { program := "ytcobehkadhcjiaa", sum := "a0d26b3425805000adc41207802b1cf50758f2f0be776192a3a7a1de885dda15", func := "splittally/splittallylaw.CrewMerges", spec := "crewMerges", inPlace := ["slices.overlaps[splittally/api.Entry]"], unfollowed := true, recurses := true, leaving := true, apart := false, narrowed := true }
def CrewMergesUptoSaid : Prop := crewMergesUptoRow.holds Try.pinned (OpenSpec.upto crewMergesSpec)

/-- 'splittallykeep.CrewAny', WHERE WHAT IT READS IS OF BULK AT MOST 1048576: true; the input reads as it did. -/
def crewAnyUptoRow : OpenClaim := { program := "ytcobehkadhcjiaa", sum := "a0d26b3425805000adc41207802b1cf50758f2f0be776192a3a7a1de885dda15", func := "splittally/splittallykeep.CrewAny", spec := "crewAny", inPlace := ["slices.overlaps[splittally/api.Entry]"], unfollowed := true, recurses := true, leaving := true, apart := false, narrowed := true }
def CrewAnyUptoSaid : Prop := crewAnyUptoRow.holds Try.pinned (OpenSpec.upto crewAnySpec)

/-- 'splittallykeep.CrewShares', WHERE WHAT IT READS IS OF BULK AT MOST 1048576: true; the input reads as it did. -/
def crewSharesUptoRow : OpenClaim := { program := "ytcobehkadhcjiaa", sum := "a0d26b3425805000adc41207802b1cf50758f2f0be776192a3a7a1de885dda15", func := "splittally/splittallykeep.CrewShares", spec := "crewShares", inPlace := ["(*sync.WaitGroup).Add", "internal/race.ReleaseMerge", "internal/race.Disable", "internal/race.Enable", "internal/synctest.IsInBubble", "internal/synctest.Associate[sync.WaitGroup]", "sync.fatal", "sync/atomic.OrUint64", "sync/atomic.AddUint64", "internal/race.Read", "sync/atomic.LoadUint64", "sync/atomic.StoreUint64", "internal/synctest.Disassociate[sync.WaitGroup]", "sync.runtime_Semrelease", "(*sync.WaitGroup).Done", "(*sync.WaitGroup).Wait", "internal/race.Acquire", "internal/synctest.IsAssociated[sync.WaitGroup]", "sync/atomic.CompareAndSwapUint64", "internal/race.Write", "sync.runtime_SemacquireWaitGroup"], unfollowed := true, recurses := true, leaving := true, apart := false, narrowed := true }
def CrewSharesUptoSaid : Prop := crewSharesUptoRow.holds Try.pinned (OpenSpec.upto crewSharesSpec)

end Rows
end Go.Proofs.Ytcobehkadhcjiaa

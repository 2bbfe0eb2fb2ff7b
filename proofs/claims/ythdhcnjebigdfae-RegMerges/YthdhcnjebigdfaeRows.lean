/-
  No cell of these rows narrows 'for every input' (looked for: loops, veiled, ifaces, maps, wideKeys, modest, calm, conditions, laid).
  DERIVED. THE GIVEN ROWS OF THIS SEAT. 6 by the template 'for every input the law returns true; each argument reads behind the call as it read before'; 0 by the template 'total and deterministic' (their statements: YthdhcnjebigdfaeTotals.lean).
  GIVEN WITH THE SEED: the statements are not yours to turn. If you find one false, say at which input.
  Laid BY PROGRAM, IN A SANDBOX (cutbox-rows.mjs): the forced cells as the released guide's own fill.sh prints them over the translation 310a1f2b7700af00… (all of the seat's roots in one cut). By AI agents, Wed Nov 11 2026. No macro, syntax, notation, axiom, sorry.
-/
import Derived.Test.YthdhcnjebigdfaeChecked
import GoSem.Claim
import GoSem.ClaimJoined
import GoSem.ClaimMapViews
import Derived.JoinedTies
import Derived.KernelRfl
namespace Go.Proofs.Ythdhcnjebigdfae
/- THE CELL 'sum', in the pinned program and in every row, IS THE sha256 OF THE DUMP (.gsa) THAT YthdhcnjebigdfaeProg.lean LOADS. Nothing in Lean hashes anything: it is a label: what it is worth is what the hold of that sum in a sandbox is worth. -/
noncomputable def Try.pinned : Pinned := { name := "ythdhcnjebigdfae", sum := "310a1f2b7700af00808738782a4d886bfeccbec93ca147e8c5f2b16b17603e91", checked := Try.checked }
namespace Rows
def none {H : Type} : Left H := { results := [], args := [] }

/-- 'splittallykeep.ClockTells': WHATEVER THE INPUT: true; the input reads as it did. -/
def clockTellsSpec : ChangeSpec := { name := "clockTells", fn := fun _ => fun
  | [d] => { results := [.lit (.bool true)], args := [d] }
  | _ => none }
def clockTellsRow : OpenClaim := { program := "ythdhcnjebigdfae", sum := "310a1f2b7700af00808738782a4d886bfeccbec93ca147e8c5f2b16b17603e91", func := "splittally/splittallykeep.ClockTells", spec := "clockTells", unfollowed := true, recurses := true, apart := false }
def ClockTellsSaid : Prop := clockTellsRow.holds Try.pinned (OpenSpec.ofChange clockTellsSpec)

/-- ITS FALSE NEIGHBOUR: 'it returns false'. Refute it at one input. -/
def clockTellsWrong : ChangeSpec := { name := "clockTells", fn := fun _ => fun
  | [d] => { results := [.lit (.bool false)], args := [d] }
  | _ => none }
def ClockTellsWrongFalsely : Prop := clockTellsRow.holds Try.pinned (OpenSpec.ofChange clockTellsWrong)

/-- 'splittallykeep.ClockOwn': WHATEVER THE INPUT: true; the input reads as it did. -/
def clockOwnSpec : ChangeSpec := { name := "clockOwn", fn := fun _ => fun
  | [d] => { results := [.lit (.bool true)], args := [d] }
  | _ => none }
def clockOwnRow : OpenClaim := { program := "ythdhcnjebigdfae", sum := "310a1f2b7700af00808738782a4d886bfeccbec93ca147e8c5f2b16b17603e91", func := "splittally/splittallykeep.ClockOwn", spec := "clockOwn", unfollowed := true, recurses := true, apart := false }
def ClockOwnSaid : Prop := clockOwnRow.holds Try.pinned (OpenSpec.ofChange clockOwnSpec)

/-- ITS FALSE NEIGHBOUR: 'it returns false'. Refute it at one input. -/
def clockOwnWrong : ChangeSpec := { name := "clockOwn", fn := fun _ => fun
  | [d] => { results := [.lit (.bool false)], args := [d] }
  | _ => none }
def ClockOwnWrongFalsely : Prop := clockOwnRow.holds Try.pinned (OpenSpec.ofChange clockOwnWrong)

/-- 'splittallylaw.RegMays': WHATEVER THE INPUT: true; the input reads as it did. -/
def regMaysSpec : ChangeSpec := { name := "regMays", fn := fun _ => fun
  | [d] => { results := [.lit (.bool true)], args := [d] }
  | _ => none }
def regMaysRow : OpenClaim := { program := "ythdhcnjebigdfae", sum := "310a1f2b7700af00808738782a4d886bfeccbec93ca147e8c5f2b16b17603e91", func := "splittally/splittallylaw.RegMays", spec := "regMays", unfollowed := true, recurses := true, apart := false }
def RegMaysSaid : Prop := regMaysRow.holds Try.pinned (OpenSpec.ofChange regMaysSpec)

/-- ITS FALSE NEIGHBOUR: 'it returns false'. Refute it at one input. -/
def regMaysWrong : ChangeSpec := { name := "regMays", fn := fun _ => fun
  | [d] => { results := [.lit (.bool false)], args := [d] }
  | _ => none }
def RegMaysWrongFalsely : Prop := regMaysRow.holds Try.pinned (OpenSpec.ofChange regMaysWrong)

/-- 'splittallylaw.RegNewers': WHATEVER THE INPUT: true; the input reads as it did. -/
def regNewersSpec : ChangeSpec := { name := "regNewers", fn := fun _ => fun
  | [d1, d2] => { results := [.lit (.bool true)], args := [d1, d2] }
  | _ => none }
def regNewersRow : OpenClaim := { program := "ythdhcnjebigdfae", sum := "310a1f2b7700af00808738782a4d886bfeccbec93ca147e8c5f2b16b17603e91", func := "splittally/splittallylaw.RegNewers", spec := "regNewers", apart := false }
def RegNewersSaid : Prop := regNewersRow.holds Try.pinned (OpenSpec.ofChange regNewersSpec)

/-- ITS FALSE NEIGHBOUR: 'it returns false'. Refute it at one input. -/
def regNewersWrong : ChangeSpec := { name := "regNewers", fn := fun _ => fun
  | [d1, d2] => { results := [.lit (.bool false)], args := [d1, d2] }
  | _ => none }
def RegNewersWrongFalsely : Prop := regNewersRow.holds Try.pinned (OpenSpec.ofChange regNewersWrong)

/-- 'splittallylaw.RegMerges': WHATEVER THE INPUT: true; the input reads as it did. -/
def regMergesSpec : ChangeSpec := { name := "regMerges", fn := fun _ => fun
  | [d1, d2] => { results := [.lit (.bool true)], args := [d1, d2] }
  | _ => none }
def regMergesRow : OpenClaim := { program := "ythdhcnjebigdfae", sum := "310a1f2b7700af00808738782a4d886bfeccbec93ca147e8c5f2b16b17603e91", func := "splittally/splittallylaw.RegMerges", spec := "regMerges", inPlace := ["slices.overlaps[splittally/api.Entry]"], unfollowed := true, recurses := true, apart := false }
def RegMergesSaid : Prop := regMergesRow.holds Try.pinned (OpenSpec.ofChange regMergesSpec)

/-- ITS FALSE NEIGHBOUR: 'it returns false'. Refute it at one input. -/
def regMergesWrong : ChangeSpec := { name := "regMerges", fn := fun _ => fun
  | [d1, d2] => { results := [.lit (.bool false)], args := [d1, d2] }
  | _ => none }
def RegMergesWrongFalsely : Prop := regMergesRow.holds Try.pinned (OpenSpec.ofChange regMergesWrong)

/-- 'splittallylaw.RegLives': WHATEVER THE INPUT: true; the input reads as it did. -/
def regLivesSpec : ChangeSpec := { name := "regLives", fn := fun _ => fun
  | [d] => { results := [.lit (.bool true)], args := [d] }
  | _ => none }
def regLivesRow : OpenClaim := { program := "ythdhcnjebigdfae", sum := "310a1f2b7700af00808738782a4d886bfeccbec93ca147e8c5f2b16b17603e91", func := "splittally/splittallylaw.RegLives", spec := "regLives", unfollowed := true, recurses := true, apart := false }
def RegLivesSaid : Prop := regLivesRow.holds Try.pinned (OpenSpec.ofChange regLivesSpec)

/-- ITS FALSE NEIGHBOUR: 'it returns false'. Refute it at one input. -/
def regLivesWrong : ChangeSpec := { name := "regLives", fn := fun _ => fun
  | [d] => { results := [.lit (.bool false)], args := [d] }
  | _ => none }
def RegLivesWrongFalsely : Prop := regLivesRow.holds Try.pinned (OpenSpec.ofChange regLivesWrong)

/- THE SECOND FORM. 'bulk': how many values and letters a reading holds, each counted each time it is reached (what is shared counts as often as it is met; a slice's spare places count too). A statement '..UptoSaid' is the law's where the arguments, and the package variables that the reading takes, are together of bulk at most 1048576: NARROWER than '..Said'. Prove '..Said' where nothing that the law and all that it calls make is longer than what came in: it says more and counts as full. Else prove '..UptoSaid'. A law counts once. -/
mutual
def uptoBulk {H : Type} : DataW H → Nat
  | .lit (.string bytes) => bytes.length + 1
  | .lit _ => 1
  | .nil => 1
  | .ptr d => uptoBulk d + 1
  | .slice elems spare => uptoBulkAll elems + uptoBulkAll spare + 1
  | .agg parts => uptoBulkAll parts + 1
  | .iface _ d => uptoBulk d + 1
  | .map entries => uptoBulkEntries entries + 1
  | .held _ => 1
def uptoBulkAll {H : Type} : List (DataW H) → Nat
  | [] => 0
  | d :: r => uptoBulk d + uptoBulkAll r
def uptoBulkEntries {H : Type} : List (Lit × DataW H) → Nat
  | [] => 0
  | x :: r => uptoBulkEntry x + uptoBulkEntries r
def uptoBulkEntry {H : Type} : Lit × DataW H → Nat
  | (.string bytes, d) => bytes.length + uptoBulk d + 1
  | (_, d) => uptoBulk d + 1
 end
def uptoSmall : (H : Type) → List (DataW H) → Bool := fun _ ds => decide (uptoBulkAll ds ≤ 1048576)
def OpenSpec.upto (s : _root_.Go.ChangeSpec) : _root_.Go.OpenSpec := { _root_.Go.OpenSpec.ofChange s with cond := some uptoSmall }

/-- 'splittallykeep.ClockTells', WHERE WHAT IT READS IS OF BULK AT MOST 1048576: true; the input reads as it did. -/
def clockTellsUptoRow : OpenClaim := { program := "ythdhcnjebigdfae", sum := "310a1f2b7700af00808738782a4d886bfeccbec93ca147e8c5f2b16b17603e91", func := "splittally/splittallykeep.ClockTells", spec := "clockTells", unfollowed := true, recurses := true, apart := false, narrowed := true }
def ClockTellsUptoSaid : Prop := clockTellsUptoRow.holds Try.pinned (OpenSpec.upto clockTellsSpec)

/-- 'splittallykeep.ClockOwn', WHERE WHAT IT READS IS OF BULK AT MOST 1048576: true; the input reads as it did. -/
def clockOwnUptoRow : OpenClaim := { program := "ythdhcnjebigdfae", sum := "310a1f2b7700af00808738782a4d886bfeccbec93ca147e8c5f2b16b17603e91", func := "splittally/splittallykeep.ClockOwn", spec := "clockOwn", unfollowed := true, recurses := true, apart := false, narrowed := true }
def ClockOwnUptoSaid : Prop := clockOwnUptoRow.holds Try.pinned (OpenSpec.upto clockOwnSpec)

/-- 'splittallylaw.RegMays', WHERE WHAT IT READS IS OF BULK AT MOST 1048576: true; the input reads as it did. -/
def regMaysUptoRow : OpenClaim := { program := "ythdhcnjebigdfae", sum := "310a1f2b7700af00808738782a4d886bfeccbec93ca147e8c5f2b16b17603e91", func := "splittally/splittallylaw.RegMays", spec := "regMays", unfollowed := true, recurses := true, apart := false, narrowed := true }
def RegMaysUptoSaid : Prop := regMaysUptoRow.holds Try.pinned (OpenSpec.upto regMaysSpec)

/-- 'splittallylaw.RegNewers', WHERE WHAT IT READS IS OF BULK AT MOST 1048576: true; the input reads as it did. -/
def regNewersUptoRow : OpenClaim := { program := "ythdhcnjebigdfae", sum := "310a1f2b7700af00808738782a4d886bfeccbec93ca147e8c5f2b16b17603e91", func := "splittally/splittallylaw.RegNewers", spec := "regNewers", apart := false, narrowed := true }
def RegNewersUptoSaid : Prop := regNewersUptoRow.holds Try.pinned (OpenSpec.upto regNewersSpec)

/-- 'splittallylaw.RegMerges', WHERE WHAT IT READS IS OF BULK AT MOST 1048576: true; the input reads as it did. -/
def regMergesUptoRow : OpenClaim := { program := "ythdhcnjebigdfae", sum := "310a1f2b7700af00808738782a4d886bfeccbec93ca147e8c5f2b16b17603e91", func := "splittally/splittallylaw.RegMerges", spec := "regMerges", inPlace := ["slices.overlaps[splittally/api.Entry]"], unfollowed := true, recurses := true, apart := false, narrowed := true }
def RegMergesUptoSaid : Prop := regMergesUptoRow.holds Try.pinned (OpenSpec.upto regMergesSpec)

/-- 'splittallylaw.RegLives', WHERE WHAT IT READS IS OF BULK AT MOST 1048576: true; the input reads as it did. -/
def regLivesUptoRow : OpenClaim := { program := "ythdhcnjebigdfae", sum := "310a1f2b7700af00808738782a4d886bfeccbec93ca147e8c5f2b16b17603e91", func := "splittally/splittallylaw.RegLives", spec := "regLives", unfollowed := true, recurses := true, apart := false, narrowed := true }
def RegLivesUptoSaid : Prop := regLivesUptoRow.holds Try.pinned (OpenSpec.upto regLivesSpec)

end Rows
end Go.Proofs.Ythdhcnjebigdfae

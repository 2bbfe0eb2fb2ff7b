/-
  No cell of these rows narrows 'for every input' (looked for: loops, veiled, ifaces, maps, wideKeys, modest, calm, conditions, laid).
  DERIVED. THE GIVEN ROWS OF THIS SEAT. 6 by the template 'for every input the law returns true; each argument reads behind the call as it read before'; 0 by the template 'total and deterministic' (their statements: YtiolkeghgodggajTotals.lean).
  GIVEN WITH THE SEED: the statements are not yours to turn. If you find one false, say at which input.
  Laid BY PROGRAM, IN A SANDBOX (cutbox-rows.mjs): the forced cells as the released guide's own fill.sh prints them over the translation 1ec63fee292533b3… (all of the seat's roots in one cut). By AI agents, Wed Nov 11 2026. No macro, syntax, notation, axiom, sorry.
-/
import Derived.Test.YtiolkeghgodggajChecked
import GoSem.Claim
import GoSem.ClaimJoined
import GoSem.ClaimMapViews
import Derived.JoinedTies
import Derived.KernelRfl
namespace Go.Proofs.Ytiolkeghgodggaj
/- THE CELL 'sum', in the pinned program and in every row, IS THE sha256 OF THE DUMP (.gsa) THAT YtiolkeghgodggajProg.lean LOADS. Nothing in Lean hashes anything: it is a label: what it is worth is what the hold of that sum in a sandbox is worth. -/
noncomputable def Try.pinned : Pinned := { name := "ytiolkeghgodggaj", sum := "1ec63fee292533b37c346964e8b1b6ca932c651e135454158ac7cc4344695f29", checked := Try.checked }
namespace Rows
def none {H : Type} : Left H := { results := [], args := [] }

/-- 'splittallykeep.SealAway': WHATEVER THE INPUT: true; the input reads as it did. -/
def sealAwaySpec : ChangeSpec := { name := "sealAway", fn := fun _ => fun
  | [d1, d2] => { results := [.lit (.bool true)], args := [d1, d2] }
  | _ => none }
def sealAwayRow : OpenClaim := { program := "ytiolkeghgodggaj", sum := "1ec63fee292533b37c346964e8b1b6ca932c651e135454158ac7cc4344695f29", func := "splittally/splittallykeep.SealAway", spec := "sealAway", plainKeys := false, apart := false }
def SealAwaySaid : Prop := sealAwayRow.holds Try.pinned (OpenSpec.ofChange sealAwaySpec)

/-- ITS FALSE NEIGHBOUR: 'it returns false'. Refute it at one input. -/
def sealAwayWrong : ChangeSpec := { name := "sealAway", fn := fun _ => fun
  | [d1, d2] => { results := [.lit (.bool false)], args := [d1, d2] }
  | _ => none }
def SealAwayWrongFalsely : Prop := sealAwayRow.holds Try.pinned (OpenSpec.ofChange sealAwayWrong)

/-- 'splittallylaw.BookPlays': WHATEVER THE INPUT: true; the input reads as it did. -/
def bookPlaysSpec : ChangeSpec := { name := "bookPlays", fn := fun _ => fun
  | [d1, d2, d3, d4] => { results := [.lit (.bool true)], args := [d1, d2, d3, d4] }
  | _ => none }
def bookPlaysRow : OpenClaim := { program := "ytiolkeghgodggaj", sum := "1ec63fee292533b37c346964e8b1b6ca932c651e135454158ac7cc4344695f29", func := "splittally/splittallylaw.BookPlays", spec := "bookPlays", unfollowed := true, recurses := true, plainKeys := false, apart := false }
def BookPlaysSaid : Prop := bookPlaysRow.holds Try.pinned (OpenSpec.ofChange bookPlaysSpec)

/-- ITS FALSE NEIGHBOUR: 'it returns false'. Refute it at one input. -/
def bookPlaysWrong : ChangeSpec := { name := "bookPlays", fn := fun _ => fun
  | [d1, d2, d3, d4] => { results := [.lit (.bool false)], args := [d1, d2, d3, d4] }
  | _ => none }
def BookPlaysWrongFalsely : Prop := bookPlaysRow.holds Try.pinned (OpenSpec.ofChange bookPlaysWrong)

/-- 'splittallykeep.BookSums': WHATEVER THE INPUT: true; the input reads as it did. -/
def bookSumsSpec : ChangeSpec := { name := "bookSums", fn := fun _ => fun
  | [d1, d2, d3] => { results := [.lit (.bool true)], args := [d1, d2, d3] }
  | _ => none }
def bookSumsRow : OpenClaim := { program := "ytiolkeghgodggaj", sum := "1ec63fee292533b37c346964e8b1b6ca932c651e135454158ac7cc4344695f29", func := "splittally/splittallykeep.BookSums", spec := "bookSums", unfollowed := true, recurses := true, plainKeys := false, apart := false }
def BookSumsSaid : Prop := bookSumsRow.holds Try.pinned (OpenSpec.ofChange bookSumsSpec)

/-- ITS FALSE NEIGHBOUR: 'it returns false'. Refute it at one input. -/
def bookSumsWrong : ChangeSpec := { name := "bookSums", fn := fun _ => fun
  | [d1, d2, d3] => { results := [.lit (.bool false)], args := [d1, d2, d3] }
  | _ => none }
def BookSumsWrongFalsely : Prop := bookSumsRow.holds Try.pinned (OpenSpec.ofChange bookSumsWrong)

/-- 'splittallykeep.BookApart': WHATEVER THE INPUT: true; the input reads as it did. -/
def bookApartSpec : ChangeSpec := { name := "bookApart", fn := fun _ => fun
  | [d1, d2, d3, d4, d5] => { results := [.lit (.bool true)], args := [d1, d2, d3, d4, d5] }
  | _ => none }
def bookApartRow : OpenClaim := { program := "ytiolkeghgodggaj", sum := "1ec63fee292533b37c346964e8b1b6ca932c651e135454158ac7cc4344695f29", func := "splittally/splittallykeep.BookApart", spec := "bookApart", unfollowed := true, recurses := true, plainKeys := false, apart := false }
def BookApartSaid : Prop := bookApartRow.holds Try.pinned (OpenSpec.ofChange bookApartSpec)

/-- ITS FALSE NEIGHBOUR: 'it returns false'. Refute it at one input. -/
def bookApartWrong : ChangeSpec := { name := "bookApart", fn := fun _ => fun
  | [d1, d2, d3, d4, d5] => { results := [.lit (.bool false)], args := [d1, d2, d3, d4, d5] }
  | _ => none }
def BookApartWrongFalsely : Prop := bookApartRow.holds Try.pinned (OpenSpec.ofChange bookApartWrong)

/-- 'splittallykeep.BookServes': WHATEVER THE INPUT: true; the input reads as it did. -/
def bookServesSpec : ChangeSpec := { name := "bookServes", fn := fun _ => fun
  | [d1, d2, d3, d4, d5] => { results := [.lit (.bool true)], args := [d1, d2, d3, d4, d5] }
  | _ => none }
def bookServesRow : OpenClaim := { program := "ytiolkeghgodggaj", sum := "1ec63fee292533b37c346964e8b1b6ca932c651e135454158ac7cc4344695f29", func := "splittally/splittallykeep.BookServes", spec := "bookServes", unfollowed := true, recurses := true, plainKeys := false, apart := false }
def BookServesSaid : Prop := bookServesRow.holds Try.pinned (OpenSpec.ofChange bookServesSpec)

/-- ITS FALSE NEIGHBOUR: 'it returns false'. Refute it at one input. -/
def bookServesWrong : ChangeSpec := { name := "bookServes", fn := fun _ => fun
  | [d1, d2, d3, d4, d5] => { results := [.lit (.bool false)], args := [d1, d2, d3, d4, d5] }
  | _ => none }
def BookServesWrongFalsely : Prop := bookServesRow.holds Try.pinned (OpenSpec.ofChange bookServesWrong)

/-- 'splittallykeep.BookMore': WHATEVER THE INPUT: true; the input reads as it did. -/
def bookMoreSpec : ChangeSpec := { name := "bookMore", fn := fun _ => fun
  | [d1, d2, d3, d4, d5, d6] => { results := [.lit (.bool true)], args := [d1, d2, d3, d4, d5, d6] }
  | _ => none }
def bookMoreRow : OpenClaim := { program := "ytiolkeghgodggaj", sum := "1ec63fee292533b37c346964e8b1b6ca932c651e135454158ac7cc4344695f29", func := "splittally/splittallykeep.BookMore", spec := "bookMore", unfollowed := true, recurses := true, plainKeys := false, apart := false }
def BookMoreSaid : Prop := bookMoreRow.holds Try.pinned (OpenSpec.ofChange bookMoreSpec)

/-- ITS FALSE NEIGHBOUR: 'it returns false'. Refute it at one input. -/
def bookMoreWrong : ChangeSpec := { name := "bookMore", fn := fun _ => fun
  | [d1, d2, d3, d4, d5, d6] => { results := [.lit (.bool false)], args := [d1, d2, d3, d4, d5, d6] }
  | _ => none }
def BookMoreWrongFalsely : Prop := bookMoreRow.holds Try.pinned (OpenSpec.ofChange bookMoreWrong)

/- THE SECOND FORM. 'bulk': how many values and letters a reading holds, each counted each time it is reached (what is shared counts as often as it is met; a slice's spare places count too). A statement '..UptoSaid' is the law's where the arguments, and the package variables that the reading takes, are together of bulk at most 1048576: NARROWER than '..Said'. Prove '..Said' where nothing that the law and all that it calls make is longer than what came in: it says more and counts as full. Else prove '..UptoSaid'. A law counts once. -/
mutual
def uptoBulk {H : Type} : DataW H → Nat
  | .lit (.string bytes) => bytes.length + 1
  | .lit _ => 1
  | .nil => 1
  | .ptr d => uptoBulk d + 1
  | .slice elems spare => uptoBulkAll elems + uptoBulkAll spare + 1
  | .agg parts => uptoBulkAll parts + 1
  | .iface _ d => uptoBulk d + 1
  | .map entries => uptoBulkEntries entries + 1
  | .held _ => 1
def uptoBulkAll {H : Type} : List (DataW H) → Nat
  | [] => 0
  | d :: r => uptoBulk d + uptoBulkAll r
def uptoBulkEntries {H : Type} : List (Lit × DataW H) → Nat
  | [] => 0
  | x :: r => uptoBulkEntry x + uptoBulkEntries r
def uptoBulkEntry {H : Type} : Lit × DataW H → Nat
  | (.string bytes, d) => bytes.length + uptoBulk d + 1
  | (_, d) => uptoBulk d + 1
 end
def uptoSmall : (H : Type) → List (DataW H) → Bool := fun _ ds => decide (uptoBulkAll ds ≤ 1048576)
def OpenSpec.upto (s : _root_.Go.ChangeSpec) : _root_.Go.OpenSpec := { _root_.Go.OpenSpec.ofChange s with cond := some uptoSmall }

/-- 'splittallykeep.SealAway', WHERE WHAT IT READS IS OF BULK AT MOST 1048576: true; the input reads as it did. -/
def sealAwayUptoRow : OpenClaim := { program := "ytiolkeghgodggaj", sum := "1ec63fee292533b37c346964e8b1b6ca932c651e135454158ac7cc4344695f29", func := "splittally/splittallykeep.SealAway", spec := "sealAway", plainKeys := false, apart := false, narrowed := true }
def SealAwayUptoSaid : Prop := sealAwayUptoRow.holds Try.pinned (OpenSpec.upto sealAwaySpec)

/-- 'splittallylaw.BookPlays', WHERE WHAT IT READS IS OF BULK AT MOST 1048576: true; the input reads as it did. -/
def bookPlaysUptoRow : OpenClaim := { program := "ytiolkeghgodggaj", sum := "1ec63fee292533b37c346964e8b1b6ca932c651e135454158ac7cc4344695f29", func := "splittally/splittallylaw.BookPlays", spec := "bookPlays", unfollowed := true, recurses := true, plainKeys := false, apart := false, narrowed := true }
def BookPlaysUptoSaid : Prop := bookPlaysUptoRow.holds Try.pinned (OpenSpec.upto bookPlaysSpec)

/-- 'splittallykeep.BookSums', WHERE WHAT IT READS IS OF BULK AT MOST 1048576: true; the input reads as it did. -/
def bookSumsUptoRow : OpenClaim := { program := "ytiolkeghgodggaj", sum := "1ec63fee292533b37c346964e8b1b6ca932c651e135454158ac7cc4344695f29", func := "splittally/splittallykeep.BookSums", spec := "bookSums", unfollowed := true, recurses := true, plainKeys := false, apart := false, narrowed := true }
def BookSumsUptoSaid : Prop := bookSumsUptoRow.holds Try.pinned (OpenSpec.upto bookSumsSpec)

/-- 'splittallykeep.BookApart', WHERE WHAT IT READS IS OF BULK AT MOST 1048576: true; the input reads as it did. -/
def bookApartUptoRow : OpenClaim := { program := "ytiolkeghgodggaj", sum := "1ec63fee292533b37c346964e8b1b6ca932c651e135454158ac7cc4344695f29", func := "splittally/splittallykeep.BookApart", spec := "bookApart", unfollowed := true, recurses := true, plainKeys := false, apart := false, narrowed := true }
def BookApartUptoSaid : Prop := bookApartUptoRow.holds Try.pinned (OpenSpec.upto bookApartSpec)

/-- 'splittallykeep.BookServes', WHERE WHAT IT READS IS OF BULK AT MOST 1048576: true; the input reads as it did. -/
def bookServesUptoRow : OpenClaim := { program := "ytiolkeghgodggaj", sum := "1ec63fee292533b37c346964e8b1b6ca932c651e135454158ac7cc4344695f29", func := "splittally/splittallykeep.BookServes", spec := "bookServes", unfollowed := true, recurses := true, plainKeys := false, apart := false, narrowed := true }
def BookServesUptoSaid : Prop := bookServesUptoRow.holds Try.pinned (OpenSpec.upto bookServesSpec)

/-- 'splittallykeep.BookMore', WHERE WHAT IT READS IS OF BULK AT MOST 1048576: true; the input reads as it did. -/
def bookMoreUptoRow : OpenClaim := { program := "ytiolkeghgodggaj", sum := "1ec63fee292533b37c346964e8b1b6ca932c651e135454158ac7cc4344695f29", func := "splittally/splittallykeep.BookMore", spec := "bookMore", unfollowed := true, recurses := true, plainKeys := false, apart := false, narrowed := true }
def BookMoreUptoSaid : Prop := bookMoreUptoRow.holds Try.pinned (OpenSpec.upto bookMoreSpec)

end Rows
end Go.Proofs.Ytiolkeghgodggaj

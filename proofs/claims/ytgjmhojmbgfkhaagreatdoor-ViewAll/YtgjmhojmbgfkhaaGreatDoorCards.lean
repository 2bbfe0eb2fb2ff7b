/-
  DERIVED. GIVEN WITH THE SEED: THE CARDS: each row of YtgjmhojmbgfkhaaGreatDoorRows.lean that lists a variable, with what it lists TIED to the program's text (the seventh form; the later family's looks); each row that meets fmt, with fmt's text TOLD by the authors' own Lean function (tested against real Go, not proved from fmt's source: count such statements apart). THE CARD IS WHAT COUNTS. Prove the row's statement (the work); the ties are given (YtgjmhojmbgfkhaaGreatDoorTie.lean); close each card by the builder's one call (the guide's Derived/Test/ToyasCard.lean, 'card_holds'). Laid BY PROGRAM, IN A SANDBOX (cutbox-door.mjs). By AI agents, Wed Nov 11 2026. No macro, syntax, notation, axiom, sorry.
-/
import Derived.Test.YtgjmhojmbgfkhaaGreatDoorRows
import GoSem.ClaimSeven
namespace Go.Proofs.YtgjmhojmbgfkhaaGreatDoor
namespace Rows

/-- THE TIED CARD OF 'splittallykeep.ViewTwice'. -/
def viewTwiceCard : Claim7 := { stood := { row := viewTwiceRow, standIns := [], harness := (true, "8b9b842177e99766f181bb6c4214d5140df7507ee050156a18c6dc6ed591637a"), looks := false }, kinds := [], alts := [], laidByText := true, laidKinds := [.data], laidTests := true, laidLooks := .later }
def ViewTwiceCardSaid : Prop := Claim7.holds Tryz.pinned (.plain (OpenSpec.ofChange viewTwiceSpec)) viewTwiceCard

/-- THE TIED CARD OF 'splittallykeep.ViewAll'. -/
def viewAllCard : Claim7 := { stood := { row := viewAllRow, standIns := [], harness := (true, "8b9b842177e99766f181bb6c4214d5140df7507ee050156a18c6dc6ed591637a"), looks := false }, kinds := [], alts := [], laidByText := true, laidKinds := [.data], laidTests := true, laidLooks := .later }
def ViewAllCardSaid : Prop := Claim7.holds Tryz.pinned (.plain (OpenSpec.ofChange viewAllSpec)) viewAllCard

/-- THE TIED CARD OF 'splittallykeep.ViewLess'. -/
def viewLessCard : Claim7 := { stood := { row := viewLessRow, standIns := [], harness := (true, "8b9b842177e99766f181bb6c4214d5140df7507ee050156a18c6dc6ed591637a"), looks := false }, kinds := [], alts := [], laidByText := true, laidKinds := [.data], laidTests := true, laidLooks := .later }
def ViewLessCardSaid : Prop := Claim7.holds Tryz.pinned (.plain (OpenSpec.ofChange viewLessSpec)) viewLessCard

/-- THE SECOND FORM's CARD OF 'splittallykeep.ViewTwice'. -/
def viewTwiceUptoCard : Claim7 := { stood := { row := viewTwiceUptoRow, standIns := [], harness := (true, "8b9b842177e99766f181bb6c4214d5140df7507ee050156a18c6dc6ed591637a"), looks := false }, kinds := [], alts := [], laidByText := true, laidKinds := [.data], laidTests := true, laidLooks := .later }
def ViewTwiceUptoCardSaid : Prop := Claim7.holds Tryz.pinned (.plain (OpenSpec.upto viewTwiceSpec)) viewTwiceUptoCard

/-- THE SECOND FORM's CARD OF 'splittallykeep.ViewAll'. -/
def viewAllUptoCard : Claim7 := { stood := { row := viewAllUptoRow, standIns := [], harness := (true, "8b9b842177e99766f181bb6c4214d5140df7507ee050156a18c6dc6ed591637a"), looks := false }, kinds := [], alts := [], laidByText := true, laidKinds := [.data], laidTests := true, laidLooks := .later }
def ViewAllUptoCardSaid : Prop := Claim7.holds Tryz.pinned (.plain (OpenSpec.upto viewAllSpec)) viewAllUptoCard

/-- THE SECOND FORM's CARD OF 'splittallykeep.ViewLess'. -/
def viewLessUptoCard : Claim7 := { stood := { row := viewLessUptoRow, standIns := [], harness := (true, "8b9b842177e99766f181bb6c4214d5140df7507ee050156a18c6dc6ed591637a"), looks := false }, kinds := [], alts := [], laidByText := true, laidKinds := [.data], laidTests := true, laidLooks := .later }
def ViewLessUptoCardSaid : Prop := Claim7.holds Tryz.pinned (.plain (OpenSpec.upto viewLessSpec)) viewLessUptoCard
end Rows
end Go.Proofs.YtgjmhojmbgfkhaaGreatDoor

/-
  DERIVED. GIVEN WITH THE SEED: THE CARDS: each row of YtaimgddhbkcikapDoorRows.lean that lists a variable, with what it lists TIED to the program's text (the seventh form; the later family's looks); each row that meets fmt, with fmt's text TOLD by the authors' own Lean function (tested against real Go, not proved from fmt's source: count such statements apart). THE CARD IS WHAT COUNTS. Prove the row's statement (the work); the ties are given (YtaimgddhbkcikapDoorTie.lean); close each card by the builder's one call (the guide's Derived/Test/ToyasCard.lean, 'card_holds'). Laid BY PROGRAM, IN A SANDBOX (cutbox-door.mjs). By AI agents, Wed Nov 11 2026. No macro, syntax, notation, axiom, sorry.
-/
import Derived.Test.YtaimgddhbkcikapDoorRows
import GoSem.ClaimSeven
namespace Go.Proofs.YtaimgddhbkcikapDoor
namespace Rows

/-- THE TIED CARD OF 'splittallylaw.DeskShows'. -/
def deskShowsCard : Claim7 := { stood := { row := deskShowsRow, standIns := [], harness := (true, "fc66d924e0140968b4d1d41dd56604b17fbe8fd7abb1ef3c18bf910fba15aeb6"), looks := true }, kinds := [], alts := [], laidByText := true, laidKinds := [.data, .data, .data, .data], laidTests := true, laidLooks := .later }
def DeskShowsCardSaid : Prop := Claim7.holds Tryd.pinned (.plain (OpenSpec.ofChange deskShowsSpec)) deskShowsCard

/-- THE TIED CARD OF 'splittallylaw.DeskReads'. -/
def deskReadsCard : Claim7 := { stood := { row := deskReadsRow, standIns := [], harness := (true, "fc66d924e0140968b4d1d41dd56604b17fbe8fd7abb1ef3c18bf910fba15aeb6"), looks := true }, kinds := [], alts := [], laidByText := true, laidKinds := [.data, .data, .data, .sentinel, .sentinel, .data], laidTests := true, laidLooks := .later }
def DeskReadsCardSaid : Prop := Claim7.holds Tryd.pinned (.plain (OpenSpec.ofChange deskReadsSpec)) deskReadsCard

/-- THE TIED CARD OF 'splittallykeep.LineBack'. -/
def lineBackCard : Claim7 := { stood := { row := lineBackRow, standIns := [], harness := (true, "fc66d924e0140968b4d1d41dd56604b17fbe8fd7abb1ef3c18bf910fba15aeb6"), looks := true }, kinds := [], alts := [], laidByText := true, laidKinds := [.data, .data, .data, .sentinel, .sentinel, .data], laidTests := true, laidLooks := .later }
def LineBackCardSaid : Prop := Claim7.holds Tryd.pinned (.plain (OpenSpec.ofChange lineBackSpec)) lineBackCard

/-- THE TIED CARD OF 'splittallykeep.LineFixed'. -/
def lineFixedCard : Claim7 := { stood := { row := lineFixedRow, standIns := [], harness := (true, "fc66d924e0140968b4d1d41dd56604b17fbe8fd7abb1ef3c18bf910fba15aeb6"), looks := true }, kinds := [], alts := [], laidByText := true, laidKinds := [.data, .data, .data, .sentinel, .sentinel, .data], laidTests := true, laidLooks := .later }
def LineFixedCardSaid : Prop := Claim7.holds Tryd.pinned (.plain (OpenSpec.ofChange lineFixedSpec)) lineFixedCard

/-- THE SECOND FORM's CARD OF 'splittallylaw.DeskShows'. -/
def deskShowsUptoCard : Claim7 := { stood := { row := deskShowsUptoRow, standIns := [], harness := (true, "fc66d924e0140968b4d1d41dd56604b17fbe8fd7abb1ef3c18bf910fba15aeb6"), looks := true }, kinds := [], alts := [], laidByText := true, laidKinds := [.data, .data, .data, .data], laidTests := true, laidLooks := .later }
def DeskShowsUptoCardSaid : Prop := Claim7.holds Tryd.pinned (.plain (OpenSpec.upto deskShowsSpec)) deskShowsUptoCard

/-- THE SECOND FORM's CARD OF 'splittallylaw.DeskReads'. -/
def deskReadsUptoCard : Claim7 := { stood := { row := deskReadsUptoRow, standIns := [], harness := (true, "fc66d924e0140968b4d1d41dd56604b17fbe8fd7abb1ef3c18bf910fba15aeb6"), looks := true }, kinds := [], alts := [], laidByText := true, laidKinds := [.data, .data, .data, .sentinel, .sentinel, .data], laidTests := true, laidLooks := .later }
def DeskReadsUptoCardSaid : Prop := Claim7.holds Tryd.pinned (.plain (OpenSpec.upto deskReadsSpec)) deskReadsUptoCard

/-- THE SECOND FORM's CARD OF 'splittallykeep.LineBack'. -/
def lineBackUptoCard : Claim7 := { stood := { row := lineBackUptoRow, standIns := [], harness := (true, "fc66d924e0140968b4d1d41dd56604b17fbe8fd7abb1ef3c18bf910fba15aeb6"), looks := true }, kinds := [], alts := [], laidByText := true, laidKinds := [.data, .data, .data, .sentinel, .sentinel, .data], laidTests := true, laidLooks := .later }
def LineBackUptoCardSaid : Prop := Claim7.holds Tryd.pinned (.plain (OpenSpec.upto lineBackSpec)) lineBackUptoCard

/-- THE SECOND FORM's CARD OF 'splittallykeep.LineFixed'. -/
def lineFixedUptoCard : Claim7 := { stood := { row := lineFixedUptoRow, standIns := [], harness := (true, "fc66d924e0140968b4d1d41dd56604b17fbe8fd7abb1ef3c18bf910fba15aeb6"), looks := true }, kinds := [], alts := [], laidByText := true, laidKinds := [.data, .data, .data, .sentinel, .sentinel, .data], laidTests := true, laidLooks := .later }
def LineFixedUptoCardSaid : Prop := Claim7.holds Tryd.pinned (.plain (OpenSpec.upto lineFixedSpec)) lineFixedUptoCard
end Rows
end Go.Proofs.YtaimgddhbkcikapDoor

/-
  DERIVED. GIVEN WITH THE SEED: THE CARDS: each row of YtlohgiichckjmaaGreatDoorRows.lean that lists a variable, with what it lists TIED to the program's text (the seventh form; the later family's looks); each row that meets fmt, with fmt's text TOLD by the authors' own Lean function (tested against real Go, not proved from fmt's source: count such statements apart). THE CARD IS WHAT COUNTS. Prove the row's statement (the work); the ties are given (YtlohgiichckjmaaGreatDoorTie.lean); close each card by the builder's one call (the guide's Derived/Test/ToyasCard.lean, 'card_holds'). Laid BY PROGRAM, IN A SANDBOX (cutbox-door.mjs). By AI agents, Wed Nov 11 2026. No macro, syntax, notation, axiom, sorry.
-/
import Derived.Test.YtlohgiichckjmaaGreatDoorRows
import GoSem.ClaimSeven
namespace Go.Proofs.YtlohgiichckjmaaGreatDoor
namespace Rows

/-- THE TIED CARD OF 'splittallykeep.WorldShape'. -/
def worldShapeCard : Claim7 := { stood := { row := worldShapeRow, standIns := [], harness := (true, "0dc1cf16c052655720ccb6bb7938f90b55bc590aa91e5a9458c7682c5e378512"), looks := false }, kinds := [], alts := [], laidByText := true, laidKinds := [.data], laidTests := true, laidLooks := .later }
def WorldShapeCardSaid : Prop := Claim7.holds Tryz.pinned (.plain (OpenSpec.ofChange worldShapeSpec)) worldShapeCard

/-- THE TIED CARD OF 'splittallykeep.WorldOld'. -/
def worldOldCard : Claim7 := { stood := { row := worldOldRow, standIns := [], harness := (true, "0dc1cf16c052655720ccb6bb7938f90b55bc590aa91e5a9458c7682c5e378512"), looks := false }, kinds := [], alts := [], laidByText := true, laidKinds := [.data], laidTests := true, laidLooks := .later }
def WorldOldCardSaid : Prop := Claim7.holds Tryz.pinned (.plain (OpenSpec.ofChange worldOldSpec)) worldOldCard

/-- THE TIED CARD OF 'splittallykeep.WorldSums'. -/
def worldSumsCard : Claim7 := { stood := { row := worldSumsRow, standIns := [], harness := (true, "0dc1cf16c052655720ccb6bb7938f90b55bc590aa91e5a9458c7682c5e378512"), looks := false }, kinds := [], alts := [], laidByText := true, laidKinds := [.data], laidTests := true, laidLooks := .later }
def WorldSumsCardSaid : Prop := Claim7.holds Tryz.pinned (.plain (OpenSpec.ofChange worldSumsSpec)) worldSumsCard

/-- THE TIED CARD OF 'splittallytop.TopSold'. -/
def topSoldCard : Claim7 := { stood := { row := topSoldRow, standIns := [], harness := (true, "0dc1cf16c052655720ccb6bb7938f90b55bc590aa91e5a9458c7682c5e378512"), looks := false }, kinds := [], alts := [], laidByText := true, laidKinds := [.data], laidTests := true, laidLooks := .later }
def TopSoldCardSaid : Prop := Claim7.holds Tryz.pinned (.plain (OpenSpec.ofChange topSoldSpec)) topSoldCard

/-- THE TIED CARD OF 'splittallykeep.WorldServes'. -/
def worldServesCard : Claim7 := { stood := { row := worldServesRow, standIns := [], harness := (true, "0dc1cf16c052655720ccb6bb7938f90b55bc590aa91e5a9458c7682c5e378512"), looks := false }, kinds := [], alts := [], laidByText := true, laidKinds := [.data], laidTests := true, laidLooks := .later }
def WorldServesCardSaid : Prop := Claim7.holds Tryz.pinned (.plain (OpenSpec.ofChange worldServesSpec)) worldServesCard

/-- THE TIED CARD OF 'splittallykeep.WorldMeets'. -/
def worldMeetsCard : Claim7 := { stood := { row := worldMeetsRow, standIns := [], harness := (true, "0dc1cf16c052655720ccb6bb7938f90b55bc590aa91e5a9458c7682c5e378512"), looks := false }, kinds := [], alts := [], laidByText := true, laidKinds := [.data], laidTests := true, laidLooks := .later }
def WorldMeetsCardSaid : Prop := Claim7.holds Tryz.pinned (.plain (OpenSpec.ofChange worldMeetsSpec)) worldMeetsCard

/-- THE SECOND FORM's CARD OF 'splittallykeep.WorldShape'. -/
def worldShapeUptoCard : Claim7 := { stood := { row := worldShapeUptoRow, standIns := [], harness := (true, "0dc1cf16c052655720ccb6bb7938f90b55bc590aa91e5a9458c7682c5e378512"), looks := false }, kinds := [], alts := [], laidByText := true, laidKinds := [.data], laidTests := true, laidLooks := .later }
def WorldShapeUptoCardSaid : Prop := Claim7.holds Tryz.pinned (.plain (OpenSpec.upto worldShapeSpec)) worldShapeUptoCard

/-- THE SECOND FORM's CARD OF 'splittallykeep.WorldOld'. -/
def worldOldUptoCard : Claim7 := { stood := { row := worldOldUptoRow, standIns := [], harness := (true, "0dc1cf16c052655720ccb6bb7938f90b55bc590aa91e5a9458c7682c5e378512"), looks := false }, kinds := [], alts := [], laidByText := true, laidKinds := [.data], laidTests := true, laidLooks := .later }
def WorldOldUptoCardSaid : Prop := Claim7.holds Tryz.pinned (.plain (OpenSpec.upto worldOldSpec)) worldOldUptoCard

/-- THE SECOND FORM's CARD OF 'splittallykeep.WorldSums'. -/
def worldSumsUptoCard : Claim7 := { stood := { row := worldSumsUptoRow, standIns := [], harness := (true, "0dc1cf16c052655720ccb6bb7938f90b55bc590aa91e5a9458c7682c5e378512"), looks := false }, kinds := [], alts := [], laidByText := true, laidKinds := [.data], laidTests := true, laidLooks := .later }
def WorldSumsUptoCardSaid : Prop := Claim7.holds Tryz.pinned (.plain (OpenSpec.upto worldSumsSpec)) worldSumsUptoCard

/-- THE SECOND FORM's CARD OF 'splittallytop.TopSold'. -/
def topSoldUptoCard : Claim7 := { stood := { row := topSoldUptoRow, standIns := [], harness := (true, "0dc1cf16c052655720ccb6bb7938f90b55bc590aa91e5a9458c7682c5e378512"), looks := false }, kinds := [], alts := [], laidByText := true, laidKinds := [.data], laidTests := true, laidLooks := .later }
def TopSoldUptoCardSaid : Prop := Claim7.holds Tryz.pinned (.plain (OpenSpec.upto topSoldSpec)) topSoldUptoCard

/-- THE SECOND FORM's CARD OF 'splittallykeep.WorldServes'. -/
def worldServesUptoCard : Claim7 := { stood := { row := worldServesUptoRow, standIns := [], harness := (true, "0dc1cf16c052655720ccb6bb7938f90b55bc590aa91e5a9458c7682c5e378512"), looks := false }, kinds := [], alts := [], laidByText := true, laidKinds := [.data], laidTests := true, laidLooks := .later }
def WorldServesUptoCardSaid : Prop := Claim7.holds Tryz.pinned (.plain (OpenSpec.upto worldServesSpec)) worldServesUptoCard

/-- THE SECOND FORM's CARD OF 'splittallykeep.WorldMeets'. -/
def worldMeetsUptoCard : Claim7 := { stood := { row := worldMeetsUptoRow, standIns := [], harness := (true, "0dc1cf16c052655720ccb6bb7938f90b55bc590aa91e5a9458c7682c5e378512"), looks := false }, kinds := [], alts := [], laidByText := true, laidKinds := [.data], laidTests := true, laidLooks := .later }
def WorldMeetsUptoCardSaid : Prop := Claim7.holds Tryz.pinned (.plain (OpenSpec.upto worldMeetsSpec)) worldMeetsUptoCard
end Rows
end Go.Proofs.YtlohgiichckjmaaGreatDoor

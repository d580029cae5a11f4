/-
  DERIVED. GIVEN WITH THE SEED: THE CARDS: each row of YtchkmdagbjbcjaaGreatDoorRows.lean that lists a variable, with what it lists TIED to the program's text (the seventh form; the later family's looks); each row that meets fmt, with fmt's text TOLD by the authors' own Lean function (tested against real Go, not proved from fmt's source: count such statements apart). THE CARD IS WHAT COUNTS. Prove the row's statement (the work); the ties are given (YtchkmdagbjbcjaaGreatDoorTie.lean); close each card by the builder's one call (the guide's Derived/Test/ToyasCard.lean, 'card_holds'). Laid BY PROGRAM, IN A SANDBOX (cutbox-door.mjs). By AI agents, Wed Nov 11 2026. No macro, syntax, notation, axiom, sorry.
-/
import Derived.Test.YtchkmdagbjbcjaaGreatDoorRows
import GoSem.ClaimSeven
namespace Go.Proofs.YtchkmdagbjbcjaaGreatDoor
namespace Rows

/-- THE TIED CARD OF 'laws.FnSourceFree'. -/
def fnSourceFreeCard : Claim7 := { stood := { row := fnSourceFreeRow, standIns := [], harness := (true, "acb2ebbe4bac1de4b97ab20bd4553af73e91f3a227a50a9b04e36379976e26a7"), looks := true }, kinds := [], alts := [], laidByText := true, laidKinds := [.handle], laidTests := true, laidLooks := .later }
def FnSourceFreeCardSaid : Prop := Claim7.holds Tryz.pinned (.plain (OpenSpec.ofChange fnSourceFreeSpec)) fnSourceFreeCard

/-- THE TIED CARD OF 'laws.FnPlain'. -/
def fnPlainCard : Claim7 := { stood := { row := fnPlainRow, standIns := [], harness := (true, "acb2ebbe4bac1de4b97ab20bd4553af73e91f3a227a50a9b04e36379976e26a7"), looks := true }, kinds := [], alts := [], laidByText := true, laidKinds := [.handle], laidTests := true, laidLooks := .later }
def FnPlainCardSaid : Prop := Claim7.holds Tryz.pinned (.plain (OpenSpec.ofChange fnPlainSpec)) fnPlainCard

/-- THE SECOND FORM's CARD OF 'laws.FnSourceFree'. -/
def fnSourceFreeUptoCard : Claim7 := { stood := { row := fnSourceFreeUptoRow, standIns := [], harness := (true, "acb2ebbe4bac1de4b97ab20bd4553af73e91f3a227a50a9b04e36379976e26a7"), looks := true }, kinds := [], alts := [], laidByText := true, laidKinds := [.handle], laidTests := true, laidLooks := .later }
def FnSourceFreeUptoCardSaid : Prop := Claim7.holds Tryz.pinned (.plain (OpenSpec.upto fnSourceFreeSpec)) fnSourceFreeUptoCard

/-- THE SECOND FORM's CARD OF 'laws.FnPlain'. -/
def fnPlainUptoCard : Claim7 := { stood := { row := fnPlainUptoRow, standIns := [], harness := (true, "acb2ebbe4bac1de4b97ab20bd4553af73e91f3a227a50a9b04e36379976e26a7"), looks := true }, kinds := [], alts := [], laidByText := true, laidKinds := [.handle], laidTests := true, laidLooks := .later }
def FnPlainUptoCardSaid : Prop := Claim7.holds Tryz.pinned (.plain (OpenSpec.upto fnPlainSpec)) fnPlainUptoCard
end Rows
end Go.Proofs.YtchkmdagbjbcjaaGreatDoor

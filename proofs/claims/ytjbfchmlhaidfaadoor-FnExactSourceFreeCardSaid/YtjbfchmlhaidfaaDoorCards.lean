/-
  DERIVED. GIVEN WITH THE SEED: THE CARDS: each row of YtjbfchmlhaidfaaDoorRows.lean that lists a variable, with what it lists TIED to the program's text (the seventh form; the later family's looks); each row that meets fmt, with fmt's text TOLD by the authors' own Lean function (tested against real Go, not proved from fmt's source: count such statements apart). THE CARD IS WHAT COUNTS. Prove the row's statement (the work); the ties are given (YtjbfchmlhaidfaaDoorTie.lean); close each card by the builder's one call (the guide's Derived/Test/ToyasCard.lean, 'card_holds'). Laid BY PROGRAM, IN A SANDBOX (cutbox-door.mjs). By AI agents, Wed Nov 11 2026. No macro, syntax, notation, axiom, sorry.
-/
import Derived.Test.YtjbfchmlhaidfaaDoorRows
import GoSem.ClaimSeven
namespace Go.Proofs.YtjbfchmlhaidfaaDoor
namespace Rows

/-- THE TIED CARD OF 'laws.FnExactSourceValid'. -/
def fnExactSourceValidCard : Claim7 := { stood := { row := fnExactSourceValidRow, standIns := [], harness := (true, "e5a878e50a5942b4936912b8a48cf853c730d40a9afe6d8e35b29b364e69c17f"), looks := true }, kinds := [], alts := [], laidByText := true, laidKinds := [.handle], laidTests := true, laidLooks := .later }
def FnExactSourceValidCardSaid : Prop := Claim7.holds Tryd.pinned (.plain (OpenSpec.ofChange fnExactSourceValidSpec)) fnExactSourceValidCard

/-- THE TIED CARD OF 'laws.FnExactSourceFree'. -/
def fnExactSourceFreeCard : Claim7 := { stood := { row := fnExactSourceFreeRow, standIns := [], harness := (true, "e5a878e50a5942b4936912b8a48cf853c730d40a9afe6d8e35b29b364e69c17f"), looks := true }, kinds := [], alts := [], laidByText := true, laidKinds := [.handle], laidTests := true, laidLooks := .later }
def FnExactSourceFreeCardSaid : Prop := Claim7.holds Tryd.pinned (.plain (OpenSpec.ofChange fnExactSourceFreeSpec)) fnExactSourceFreeCard

/-- THE TIED CARD OF 'laws.FnExactSourceSize'. -/
def fnExactSourceSizeCard : Claim7 := { stood := { row := fnExactSourceSizeRow, standIns := [], harness := (true, "e5a878e50a5942b4936912b8a48cf853c730d40a9afe6d8e35b29b364e69c17f"), looks := true }, kinds := [], alts := [], laidByText := true, laidKinds := [.handle], laidTests := true, laidLooks := .later }
def FnExactSourceSizeCardSaid : Prop := Claim7.holds Tryd.pinned (.plain (OpenSpec.ofChange fnExactSourceSizeSpec)) fnExactSourceSizeCard

/-- THE TIED CARD OF 'laws.FnExactSourcePlain'. -/
def fnExactSourcePlainCard : Claim7 := { stood := { row := fnExactSourcePlainRow, standIns := [], harness := (true, "e5a878e50a5942b4936912b8a48cf853c730d40a9afe6d8e35b29b364e69c17f"), looks := true }, kinds := [], alts := [], laidByText := true, laidKinds := [.handle], laidTests := true, laidLooks := .later }
def FnExactSourcePlainCardSaid : Prop := Claim7.holds Tryd.pinned (.plain (OpenSpec.ofChange fnExactSourcePlainSpec)) fnExactSourcePlainCard

/-- THE TIED CARD OF 'laws.FnExactMachineRun'. -/
def fnExactMachineRunCard : Claim7 := { stood := { row := fnExactMachineRunRow, standIns := [], harness := (true, "e5a878e50a5942b4936912b8a48cf853c730d40a9afe6d8e35b29b364e69c17f"), looks := true }, kinds := [], alts := [], laidByText := true, laidKinds := [.handle], laidTests := true, laidLooks := .later }
def FnExactMachineRunCardSaid : Prop := Claim7.holds Tryd.pinned (.plain (OpenSpec.ofChange fnExactMachineRunSpec)) fnExactMachineRunCard

/-- THE TIED CARD OF 'laws.FnExactMachineMoves'. -/
def fnExactMachineMovesCard : Claim7 := { stood := { row := fnExactMachineMovesRow, standIns := [], harness := (true, "e5a878e50a5942b4936912b8a48cf853c730d40a9afe6d8e35b29b364e69c17f"), looks := true }, kinds := [], alts := [], laidByText := true, laidKinds := [.handle], laidTests := true, laidLooks := .later }
def FnExactMachineMovesCardSaid : Prop := Claim7.holds Tryd.pinned (.plain (OpenSpec.ofChange fnExactMachineMovesSpec)) fnExactMachineMovesCard

/-- THE SECOND FORM's CARD OF 'laws.FnExactSourceValid'. -/
def fnExactSourceValidUptoCard : Claim7 := { stood := { row := fnExactSourceValidUptoRow, standIns := [], harness := (true, "e5a878e50a5942b4936912b8a48cf853c730d40a9afe6d8e35b29b364e69c17f"), looks := true }, kinds := [], alts := [], laidByText := true, laidKinds := [.handle], laidTests := true, laidLooks := .later }
def FnExactSourceValidUptoCardSaid : Prop := Claim7.holds Tryd.pinned (.plain (OpenSpec.upto fnExactSourceValidSpec)) fnExactSourceValidUptoCard

/-- THE SECOND FORM's CARD OF 'laws.FnExactSourceFree'. -/
def fnExactSourceFreeUptoCard : Claim7 := { stood := { row := fnExactSourceFreeUptoRow, standIns := [], harness := (true, "e5a878e50a5942b4936912b8a48cf853c730d40a9afe6d8e35b29b364e69c17f"), looks := true }, kinds := [], alts := [], laidByText := true, laidKinds := [.handle], laidTests := true, laidLooks := .later }
def FnExactSourceFreeUptoCardSaid : Prop := Claim7.holds Tryd.pinned (.plain (OpenSpec.upto fnExactSourceFreeSpec)) fnExactSourceFreeUptoCard

/-- THE SECOND FORM's CARD OF 'laws.FnExactSourceSize'. -/
def fnExactSourceSizeUptoCard : Claim7 := { stood := { row := fnExactSourceSizeUptoRow, standIns := [], harness := (true, "e5a878e50a5942b4936912b8a48cf853c730d40a9afe6d8e35b29b364e69c17f"), looks := true }, kinds := [], alts := [], laidByText := true, laidKinds := [.handle], laidTests := true, laidLooks := .later }
def FnExactSourceSizeUptoCardSaid : Prop := Claim7.holds Tryd.pinned (.plain (OpenSpec.upto fnExactSourceSizeSpec)) fnExactSourceSizeUptoCard

/-- THE SECOND FORM's CARD OF 'laws.FnExactSourcePlain'. -/
def fnExactSourcePlainUptoCard : Claim7 := { stood := { row := fnExactSourcePlainUptoRow, standIns := [], harness := (true, "e5a878e50a5942b4936912b8a48cf853c730d40a9afe6d8e35b29b364e69c17f"), looks := true }, kinds := [], alts := [], laidByText := true, laidKinds := [.handle], laidTests := true, laidLooks := .later }
def FnExactSourcePlainUptoCardSaid : Prop := Claim7.holds Tryd.pinned (.plain (OpenSpec.upto fnExactSourcePlainSpec)) fnExactSourcePlainUptoCard

/-- THE SECOND FORM's CARD OF 'laws.FnExactMachineRun'. -/
def fnExactMachineRunUptoCard : Claim7 := { stood := { row := fnExactMachineRunUptoRow, standIns := [], harness := (true, "e5a878e50a5942b4936912b8a48cf853c730d40a9afe6d8e35b29b364e69c17f"), looks := true }, kinds := [], alts := [], laidByText := true, laidKinds := [.handle], laidTests := true, laidLooks := .later }
def FnExactMachineRunUptoCardSaid : Prop := Claim7.holds Tryd.pinned (.plain (OpenSpec.upto fnExactMachineRunSpec)) fnExactMachineRunUptoCard

/-- THE SECOND FORM's CARD OF 'laws.FnExactMachineMoves'. -/
def fnExactMachineMovesUptoCard : Claim7 := { stood := { row := fnExactMachineMovesUptoRow, standIns := [], harness := (true, "e5a878e50a5942b4936912b8a48cf853c730d40a9afe6d8e35b29b364e69c17f"), looks := true }, kinds := [], alts := [], laidByText := true, laidKinds := [.handle], laidTests := true, laidLooks := .later }
def FnExactMachineMovesUptoCardSaid : Prop := Claim7.holds Tryd.pinned (.plain (OpenSpec.upto fnExactMachineMovesSpec)) fnExactMachineMovesUptoCard
end Rows
end Go.Proofs.YtjbfchmlhaidfaaDoor

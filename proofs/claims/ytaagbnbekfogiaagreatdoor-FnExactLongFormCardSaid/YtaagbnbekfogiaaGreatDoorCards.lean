/-
  DERIVED. GIVEN WITH THE SEED: THE CARDS: each row of YtaagbnbekfogiaaGreatDoorRows.lean that lists a variable, with what it lists TIED to the program's text (the seventh form; the later family's looks); each row that meets fmt, with fmt's text TOLD by the authors' own Lean function (tested against real Go, not proved from fmt's source: count such statements apart). THE CARD IS WHAT COUNTS. Prove the row's statement (the work); the ties are given (YtaagbnbekfogiaaGreatDoorTie.lean); close each card by the builder's one call (the guide's Derived/Test/ToyasCard.lean, 'card_holds'). Laid BY PROGRAM, IN A SANDBOX (cutbox-door.mjs). By AI agents, Wed Nov 11 2026. No macro, syntax, notation, axiom, sorry.
-/
import Derived.Test.YtaagbnbekfogiaaGreatDoorRows
import GoSem.ClaimSeven
namespace Go.Proofs.YtaagbnbekfogiaaGreatDoor
namespace Rows

/-- THE TIED CARD OF 'laws.FnExactChoice'. -/
def fnExactChoiceCard : Claim7 := { stood := { row := fnExactChoiceRow, standIns := [], harness := (true, "ff982eab35c6c7e289f19b493f6d6d873289fbeb00bb525b7a64af6b77684ddf"), looks := true }, kinds := [], alts := [], laidByText := true, laidKinds := [.data, .data, .data], laidTests := true, laidLooks := .later }
def FnExactChoiceCardSaid : Prop := Claim7.holds Tryz.pinned (.plain (OpenSpec.ofChange fnExactChoiceSpec)) fnExactChoiceCard

/-- THE TIED CARD OF 'laws.FnExactLongForm'. -/
def fnExactLongFormCard : Claim7 := { stood := { row := fnExactLongFormRow, standIns := [], harness := (true, "ff982eab35c6c7e289f19b493f6d6d873289fbeb00bb525b7a64af6b77684ddf"), looks := true }, kinds := [], alts := [], laidByText := true, laidKinds := [.data, .data, .data], laidTests := true, laidLooks := .later }
def FnExactLongFormCardSaid : Prop := Claim7.holds Tryz.pinned (.plain (OpenSpec.ofChange fnExactLongFormSpec)) fnExactLongFormCard

/-- THE TIED CARD OF 'laws.FnExactPairForm'. -/
def fnExactPairFormCard : Claim7 := { stood := { row := fnExactPairFormRow, standIns := [], harness := (true, "ff982eab35c6c7e289f19b493f6d6d873289fbeb00bb525b7a64af6b77684ddf"), looks := true }, kinds := [], alts := [], laidByText := true, laidKinds := [.data, .data, .data], laidTests := true, laidLooks := .later }
def FnExactPairFormCardSaid : Prop := Claim7.holds Tryz.pinned (.plain (OpenSpec.ofChange fnExactPairFormSpec)) fnExactPairFormCard

/-- THE TIED CARD OF 'laws.FnExactNotForm'. -/
def fnExactNotFormCard : Claim7 := { stood := { row := fnExactNotFormRow, standIns := [], harness := (true, "ff982eab35c6c7e289f19b493f6d6d873289fbeb00bb525b7a64af6b77684ddf"), looks := true }, kinds := [], alts := [], laidByText := true, laidKinds := [.data, .data, .data], laidTests := true, laidLooks := .later }
def FnExactNotFormCardSaid : Prop := Claim7.holds Tryz.pinned (.plain (OpenSpec.ofChange fnExactNotFormSpec)) fnExactNotFormCard

/-- THE TIED CARD OF 'laws.FnExactOrdersDiffer'. -/
def fnExactOrdersDifferCard : Claim7 := { stood := { row := fnExactOrdersDifferRow, standIns := [], harness := (true, "ff982eab35c6c7e289f19b493f6d6d873289fbeb00bb525b7a64af6b77684ddf"), looks := true }, kinds := [], alts := [], laidByText := true, laidKinds := [.data, .data, .data], laidTests := true, laidLooks := .later }
def FnExactOrdersDifferCardSaid : Prop := Claim7.holds Tryz.pinned (.plain (OpenSpec.ofChange fnExactOrdersDifferSpec)) fnExactOrdersDifferCard

/-- THE SECOND FORM's CARD OF 'laws.FnExactChoice'. -/
def fnExactChoiceUptoCard : Claim7 := { stood := { row := fnExactChoiceUptoRow, standIns := [], harness := (true, "ff982eab35c6c7e289f19b493f6d6d873289fbeb00bb525b7a64af6b77684ddf"), looks := true }, kinds := [], alts := [], laidByText := true, laidKinds := [.data, .data, .data], laidTests := true, laidLooks := .later }
def FnExactChoiceUptoCardSaid : Prop := Claim7.holds Tryz.pinned (.plain (OpenSpec.upto fnExactChoiceSpec)) fnExactChoiceUptoCard

/-- THE SECOND FORM's CARD OF 'laws.FnExactLongForm'. -/
def fnExactLongFormUptoCard : Claim7 := { stood := { row := fnExactLongFormUptoRow, standIns := [], harness := (true, "ff982eab35c6c7e289f19b493f6d6d873289fbeb00bb525b7a64af6b77684ddf"), looks := true }, kinds := [], alts := [], laidByText := true, laidKinds := [.data, .data, .data], laidTests := true, laidLooks := .later }
def FnExactLongFormUptoCardSaid : Prop := Claim7.holds Tryz.pinned (.plain (OpenSpec.upto fnExactLongFormSpec)) fnExactLongFormUptoCard

/-- THE SECOND FORM's CARD OF 'laws.FnExactPairForm'. -/
def fnExactPairFormUptoCard : Claim7 := { stood := { row := fnExactPairFormUptoRow, standIns := [], harness := (true, "ff982eab35c6c7e289f19b493f6d6d873289fbeb00bb525b7a64af6b77684ddf"), looks := true }, kinds := [], alts := [], laidByText := true, laidKinds := [.data, .data, .data], laidTests := true, laidLooks := .later }
def FnExactPairFormUptoCardSaid : Prop := Claim7.holds Tryz.pinned (.plain (OpenSpec.upto fnExactPairFormSpec)) fnExactPairFormUptoCard

/-- THE SECOND FORM's CARD OF 'laws.FnExactNotForm'. -/
def fnExactNotFormUptoCard : Claim7 := { stood := { row := fnExactNotFormUptoRow, standIns := [], harness := (true, "ff982eab35c6c7e289f19b493f6d6d873289fbeb00bb525b7a64af6b77684ddf"), looks := true }, kinds := [], alts := [], laidByText := true, laidKinds := [.data, .data, .data], laidTests := true, laidLooks := .later }
def FnExactNotFormUptoCardSaid : Prop := Claim7.holds Tryz.pinned (.plain (OpenSpec.upto fnExactNotFormSpec)) fnExactNotFormUptoCard

/-- THE SECOND FORM's CARD OF 'laws.FnExactOrdersDiffer'. -/
def fnExactOrdersDifferUptoCard : Claim7 := { stood := { row := fnExactOrdersDifferUptoRow, standIns := [], harness := (true, "ff982eab35c6c7e289f19b493f6d6d873289fbeb00bb525b7a64af6b77684ddf"), looks := true }, kinds := [], alts := [], laidByText := true, laidKinds := [.data, .data, .data], laidTests := true, laidLooks := .later }
def FnExactOrdersDifferUptoCardSaid : Prop := Claim7.holds Tryz.pinned (.plain (OpenSpec.upto fnExactOrdersDifferSpec)) fnExactOrdersDifferUptoCard
end Rows
end Go.Proofs.YtaagbnbekfogiaaGreatDoor

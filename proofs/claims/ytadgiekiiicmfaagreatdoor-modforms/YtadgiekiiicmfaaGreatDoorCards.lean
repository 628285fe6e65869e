/-
  DERIVED. GIVEN WITH THE SEED: THE CARDS: each row of YtadgiekiiicmfaaGreatDoorRows.lean that lists a variable, with what it lists TIED to the program's text (the seventh form; the later family's looks); each row that meets fmt, with fmt's text TOLD by the authors' own Lean function (tested against real Go, not proved from fmt's source: count such statements apart). THE CARD IS WHAT COUNTS. Prove the row's statement (the work); the ties are given (YtadgiekiiicmfaaGreatDoorTie.lean); close each card by the builder's one call (the guide's Derived/Test/ToyasCard.lean, 'card_holds'). Laid BY PROGRAM, IN A SANDBOX (cutbox-door.mjs). By AI agents, Wed Nov 11 2026. No macro, syntax, notation, axiom, sorry.
-/
import Derived.Test.YtadgiekiiicmfaaGreatDoorRows
import GoSem.ClaimSeven
namespace Go.Proofs.YtadgiekiiicmfaaGreatDoor
namespace Rows

/-- THE TIED CARD OF 'cloakroomlaw8.ModTakes'. -/
def modTakesCard : Claim7 := { stood := { row := modTakesRow, standIns := [], harness := (true, "77fb6416b1a70d18d32ed414af85bf484c0c91d44a24974977772e786d7934af"), looks := false }, kinds := [], alts := [], laidByText := true, laidKinds := [.data, .pinned], laidTests := true, laidLooks := .later }
def ModTakesCardSaid : Prop := Claim7.holds Tryz.pinned (.plain (OpenSpec.ofChange modTakesSpec)) modTakesCard

/-- THE TIED CARD OF 'cloakroomlaw8.ModTurned'. -/
def modTurnedCard : Claim7 := { stood := { row := modTurnedRow, standIns := [], harness := (true, "77fb6416b1a70d18d32ed414af85bf484c0c91d44a24974977772e786d7934af"), looks := false }, kinds := [], alts := [], laidByText := true, laidKinds := [.data, .pinned], laidTests := true, laidLooks := .later }
def ModTurnedCardSaid : Prop := Claim7.holds Tryz.pinned (.plain (OpenSpec.ofChange modTurnedSpec)) modTurnedCard

/-- THE TIED CARD OF 'cloakroomlaw8.ModCut'. -/
def modCutCard : Claim7 := { stood := { row := modCutRow, standIns := [], harness := (true, "77fb6416b1a70d18d32ed414af85bf484c0c91d44a24974977772e786d7934af"), looks := false }, kinds := [], alts := [], laidByText := true, laidKinds := [.data, .pinned], laidTests := true, laidLooks := .later }
def ModCutCardSaid : Prop := Claim7.holds Tryz.pinned (.plain (OpenSpec.ofChange modCutSpec)) modCutCard

/-- THE TIED CARD OF 'cloakroomlaw8.ModForms'. -/
def modFormsCard : Claim7 := { stood := { row := modFormsRow, standIns := [], harness := (true, "77fb6416b1a70d18d32ed414af85bf484c0c91d44a24974977772e786d7934af"), looks := false }, kinds := [], alts := [], laidByText := true, laidKinds := [.data, .pinned], laidTests := true, laidLooks := .later }
def ModFormsCardSaid : Prop := Claim7.holds Tryz.pinned (.plain (OpenSpec.ofChange modFormsSpec)) modFormsCard

/-- THE SECOND FORM's CARD OF 'cloakroomlaw8.ModTakes'. -/
def modTakesUptoCard : Claim7 := { stood := { row := modTakesUptoRow, standIns := [], harness := (true, "77fb6416b1a70d18d32ed414af85bf484c0c91d44a24974977772e786d7934af"), looks := false }, kinds := [], alts := [], laidByText := true, laidKinds := [.data, .pinned], laidTests := true, laidLooks := .later }
def ModTakesUptoCardSaid : Prop := Claim7.holds Tryz.pinned (.plain (OpenSpec.upto modTakesSpec)) modTakesUptoCard

/-- THE SECOND FORM's CARD OF 'cloakroomlaw8.ModTurned'. -/
def modTurnedUptoCard : Claim7 := { stood := { row := modTurnedUptoRow, standIns := [], harness := (true, "77fb6416b1a70d18d32ed414af85bf484c0c91d44a24974977772e786d7934af"), looks := false }, kinds := [], alts := [], laidByText := true, laidKinds := [.data, .pinned], laidTests := true, laidLooks := .later }
def ModTurnedUptoCardSaid : Prop := Claim7.holds Tryz.pinned (.plain (OpenSpec.upto modTurnedSpec)) modTurnedUptoCard

/-- THE SECOND FORM's CARD OF 'cloakroomlaw8.ModCut'. -/
def modCutUptoCard : Claim7 := { stood := { row := modCutUptoRow, standIns := [], harness := (true, "77fb6416b1a70d18d32ed414af85bf484c0c91d44a24974977772e786d7934af"), looks := false }, kinds := [], alts := [], laidByText := true, laidKinds := [.data, .pinned], laidTests := true, laidLooks := .later }
def ModCutUptoCardSaid : Prop := Claim7.holds Tryz.pinned (.plain (OpenSpec.upto modCutSpec)) modCutUptoCard

/-- THE SECOND FORM's CARD OF 'cloakroomlaw8.ModForms'. -/
def modFormsUptoCard : Claim7 := { stood := { row := modFormsUptoRow, standIns := [], harness := (true, "77fb6416b1a70d18d32ed414af85bf484c0c91d44a24974977772e786d7934af"), looks := false }, kinds := [], alts := [], laidByText := true, laidKinds := [.data, .pinned], laidTests := true, laidLooks := .later }
def ModFormsUptoCardSaid : Prop := Claim7.holds Tryz.pinned (.plain (OpenSpec.upto modFormsSpec)) modFormsUptoCard
end Rows
end Go.Proofs.YtadgiekiiicmfaaGreatDoor

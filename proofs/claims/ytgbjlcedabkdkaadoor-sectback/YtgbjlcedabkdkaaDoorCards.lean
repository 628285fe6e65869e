/-
  DERIVED. GIVEN WITH THE SEED: THE CARDS: each row of YtgbjlcedabkdkaaDoorRows.lean that lists a variable, with what it lists TIED to the program's text (the seventh form; the later family's looks); each row that meets fmt, with fmt's text TOLD by the authors' own Lean function (tested against real Go, not proved from fmt's source: count such statements apart). THE CARD IS WHAT COUNTS. Prove the row's statement (the work); the ties are given (YtgbjlcedabkdkaaDoorTie.lean); close each card by the builder's one call (the guide's Derived/Test/ToyasCard.lean, 'card_holds'). Laid BY PROGRAM, IN A SANDBOX (cutbox-door.mjs). By AI agents, Wed Nov 11 2026. No macro, syntax, notation, axiom, sorry.
-/
import Derived.Test.YtgbjlcedabkdkaaDoorRows
import GoSem.ClaimSeven
namespace Go.Proofs.YtgbjlcedabkdkaaDoor
namespace Rows

/-- THE TIED CARD OF 'cloakroomlaw7.SectSplits'. -/
def sectSplitsCard : Claim7 := { stood := { row := sectSplitsRow, standIns := [], harness := (true, "6aefc861ce96083be03d6e54ebed2c4c078c73e8d8b57e0a1dafcdc11ce77514"), looks := false }, kinds := [], alts := [], laidByText := true, laidKinds := [.data, .pinned], laidTests := true, laidLooks := .later }
def SectSplitsCardSaid : Prop := Claim7.holds Tryd.pinned (.plain (OpenSpec.ofChange sectSplitsSpec)) sectSplitsCard

/-- THE TIED CARD OF 'cloakroomlaw7.SectBack'. -/
def sectBackCard : Claim7 := { stood := { row := sectBackRow, standIns := [], harness := (true, "6aefc861ce96083be03d6e54ebed2c4c078c73e8d8b57e0a1dafcdc11ce77514"), looks := false }, kinds := [], alts := [], laidByText := true, laidKinds := [.data, .pinned], laidTests := true, laidLooks := .later }
def SectBackCardSaid : Prop := Claim7.holds Tryd.pinned (.plain (OpenSpec.ofChange sectBackSpec)) sectBackCard

/-- THE TIED CARD OF 'cloakroomlaw7.SectGo'. -/
def sectGoCard : Claim7 := { stood := { row := sectGoRow, standIns := [], harness := (true, "6aefc861ce96083be03d6e54ebed2c4c078c73e8d8b57e0a1dafcdc11ce77514"), looks := false }, kinds := [], alts := [], laidByText := true, laidKinds := [.data, .pinned], laidTests := true, laidLooks := .later }
def SectGoCardSaid : Prop := Claim7.holds Tryd.pinned (.plain (OpenSpec.ofChange sectGoSpec)) sectGoCard

/-- THE TIED CARD OF 'cloakroomlaw7.SectForms'. -/
def sectFormsCard : Claim7 := { stood := { row := sectFormsRow, standIns := [], harness := (true, "6aefc861ce96083be03d6e54ebed2c4c078c73e8d8b57e0a1dafcdc11ce77514"), looks := false }, kinds := [], alts := [], laidByText := true, laidKinds := [.data, .pinned], laidTests := true, laidLooks := .later }
def SectFormsCardSaid : Prop := Claim7.holds Tryd.pinned (.plain (OpenSpec.ofChange sectFormsSpec)) sectFormsCard

/-- THE TIED CARD OF 'cloakroomlaw7.SectTwice'. -/
def sectTwiceCard : Claim7 := { stood := { row := sectTwiceRow, standIns := [], harness := (true, "6aefc861ce96083be03d6e54ebed2c4c078c73e8d8b57e0a1dafcdc11ce77514"), looks := false }, kinds := [], alts := [], laidByText := true, laidKinds := [.data, .pinned], laidTests := true, laidLooks := .later }
def SectTwiceCardSaid : Prop := Claim7.holds Tryd.pinned (.plain (OpenSpec.ofChange sectTwiceSpec)) sectTwiceCard

/-- THE SECOND FORM's CARD OF 'cloakroomlaw7.SectSplits'. -/
def sectSplitsUptoCard : Claim7 := { stood := { row := sectSplitsUptoRow, standIns := [], harness := (true, "6aefc861ce96083be03d6e54ebed2c4c078c73e8d8b57e0a1dafcdc11ce77514"), looks := false }, kinds := [], alts := [], laidByText := true, laidKinds := [.data, .pinned], laidTests := true, laidLooks := .later }
def SectSplitsUptoCardSaid : Prop := Claim7.holds Tryd.pinned (.plain (OpenSpec.upto sectSplitsSpec)) sectSplitsUptoCard

/-- THE SECOND FORM's CARD OF 'cloakroomlaw7.SectBack'. -/
def sectBackUptoCard : Claim7 := { stood := { row := sectBackUptoRow, standIns := [], harness := (true, "6aefc861ce96083be03d6e54ebed2c4c078c73e8d8b57e0a1dafcdc11ce77514"), looks := false }, kinds := [], alts := [], laidByText := true, laidKinds := [.data, .pinned], laidTests := true, laidLooks := .later }
def SectBackUptoCardSaid : Prop := Claim7.holds Tryd.pinned (.plain (OpenSpec.upto sectBackSpec)) sectBackUptoCard

/-- THE SECOND FORM's CARD OF 'cloakroomlaw7.SectGo'. -/
def sectGoUptoCard : Claim7 := { stood := { row := sectGoUptoRow, standIns := [], harness := (true, "6aefc861ce96083be03d6e54ebed2c4c078c73e8d8b57e0a1dafcdc11ce77514"), looks := false }, kinds := [], alts := [], laidByText := true, laidKinds := [.data, .pinned], laidTests := true, laidLooks := .later }
def SectGoUptoCardSaid : Prop := Claim7.holds Tryd.pinned (.plain (OpenSpec.upto sectGoSpec)) sectGoUptoCard

/-- THE SECOND FORM's CARD OF 'cloakroomlaw7.SectForms'. -/
def sectFormsUptoCard : Claim7 := { stood := { row := sectFormsUptoRow, standIns := [], harness := (true, "6aefc861ce96083be03d6e54ebed2c4c078c73e8d8b57e0a1dafcdc11ce77514"), looks := false }, kinds := [], alts := [], laidByText := true, laidKinds := [.data, .pinned], laidTests := true, laidLooks := .later }
def SectFormsUptoCardSaid : Prop := Claim7.holds Tryd.pinned (.plain (OpenSpec.upto sectFormsSpec)) sectFormsUptoCard

/-- THE SECOND FORM's CARD OF 'cloakroomlaw7.SectTwice'. -/
def sectTwiceUptoCard : Claim7 := { stood := { row := sectTwiceUptoRow, standIns := [], harness := (true, "6aefc861ce96083be03d6e54ebed2c4c078c73e8d8b57e0a1dafcdc11ce77514"), looks := false }, kinds := [], alts := [], laidByText := true, laidKinds := [.data, .pinned], laidTests := true, laidLooks := .later }
def SectTwiceUptoCardSaid : Prop := Claim7.holds Tryd.pinned (.plain (OpenSpec.upto sectTwiceSpec)) sectTwiceUptoCard
end Rows
end Go.Proofs.YtgbjlcedabkdkaaDoor

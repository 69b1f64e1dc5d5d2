/-
  DERIVED. GIVEN WITH THE SEED: THE CARDS: each row of YtgidbcjeaeiinaaDoorRows.lean that lists a variable, with what it lists TIED to the program's text (the seventh form; the later family's looks); each row that meets fmt, with fmt's text TOLD by the authors' own Lean function (tested against real Go, not proved from fmt's source: count such statements apart). THE CARD IS WHAT COUNTS. Prove the row's statement (the work); the ties are given (YtgidbcjeaeiinaaDoorTie.lean); close each card by the builder's one call (the guide's Derived/Test/ToyasCard.lean, 'card_holds'). Laid BY PROGRAM, IN A SANDBOX (cutbox-door.mjs). By AI agents, Wed Nov 11 2026. No macro, syntax, notation, axiom, sorry.
-/
import Derived.Test.YtgidbcjeaeiinaaDoorRows
import GoSem.ClaimSeven
namespace Go.Proofs.YtgidbcjeaeiinaaDoor
namespace Rows

/-- THE TIED CARD OF 'pinfoldlaw4.Rrs'. -/
def rrsCard : Claim7 := { stood := { row := rrsRow, standIns := [], harness := (true, "91013a159a6e05e1da8a695959bf2439b062f863e740f13a9807ba3768e83799"), looks := false }, kinds := [], alts := [], laidByText := true, laidKinds := [.data], laidTests := true, laidLooks := .later }
def RrsCardSaid : Prop := Claim7.holds Tryd.pinned (.plain (OpenSpec.ofChange rrsSpec)) rrsCard

/-- THE TIED CARD OF 'pinfoldlaw4.RrBack'. -/
def rrBackCard : Claim7 := { stood := { row := rrBackRow, standIns := [], harness := (true, "91013a159a6e05e1da8a695959bf2439b062f863e740f13a9807ba3768e83799"), looks := false }, kinds := [], alts := [], laidByText := true, laidKinds := [.data], laidTests := true, laidLooks := .later }
def RrBackCardSaid : Prop := Claim7.holds Tryd.pinned (.plain (OpenSpec.ofChange rrBackSpec)) rrBackCard

/-- THE TIED CARD OF 'pinfoldlaw4.RrForms'. -/
def rrFormsCard : Claim7 := { stood := { row := rrFormsRow, standIns := [], harness := (true, "91013a159a6e05e1da8a695959bf2439b062f863e740f13a9807ba3768e83799"), looks := false }, kinds := [], alts := [], laidByText := true, laidKinds := [.data], laidTests := true, laidLooks := .later }
def RrFormsCardSaid : Prop := Claim7.holds Tryd.pinned (.plain (OpenSpec.ofChange rrFormsSpec)) rrFormsCard

/-- THE TIED CARD OF 'pinfoldlaw4.RrCut'. -/
def rrCutCard : Claim7 := { stood := { row := rrCutRow, standIns := [], harness := (true, "91013a159a6e05e1da8a695959bf2439b062f863e740f13a9807ba3768e83799"), looks := false }, kinds := [], alts := [], laidByText := true, laidKinds := [.data], laidTests := true, laidLooks := .later }
def RrCutCardSaid : Prop := Claim7.holds Tryd.pinned (.plain (OpenSpec.ofChange rrCutSpec)) rrCutCard

/-- THE TIED CARD OF 'pinfoldlaw4.RrUnlike'. -/
def rrUnlikeCard : Claim7 := { stood := { row := rrUnlikeRow, standIns := [], harness := (true, "91013a159a6e05e1da8a695959bf2439b062f863e740f13a9807ba3768e83799"), looks := false }, kinds := [], alts := [], laidByText := true, laidKinds := [.data], laidTests := true, laidLooks := .later }
def RrUnlikeCardSaid : Prop := Claim7.holds Tryd.pinned (.plain (OpenSpec.ofChange rrUnlikeSpec)) rrUnlikeCard

/-- THE SECOND FORM's CARD OF 'pinfoldlaw4.Rrs'. -/
def rrsUptoCard : Claim7 := { stood := { row := rrsUptoRow, standIns := [], harness := (true, "91013a159a6e05e1da8a695959bf2439b062f863e740f13a9807ba3768e83799"), looks := false }, kinds := [], alts := [], laidByText := true, laidKinds := [.data], laidTests := true, laidLooks := .later }
def RrsUptoCardSaid : Prop := Claim7.holds Tryd.pinned (.plain (OpenSpec.upto rrsSpec)) rrsUptoCard

/-- THE SECOND FORM's CARD OF 'pinfoldlaw4.RrBack'. -/
def rrBackUptoCard : Claim7 := { stood := { row := rrBackUptoRow, standIns := [], harness := (true, "91013a159a6e05e1da8a695959bf2439b062f863e740f13a9807ba3768e83799"), looks := false }, kinds := [], alts := [], laidByText := true, laidKinds := [.data], laidTests := true, laidLooks := .later }
def RrBackUptoCardSaid : Prop := Claim7.holds Tryd.pinned (.plain (OpenSpec.upto rrBackSpec)) rrBackUptoCard

/-- THE SECOND FORM's CARD OF 'pinfoldlaw4.RrForms'. -/
def rrFormsUptoCard : Claim7 := { stood := { row := rrFormsUptoRow, standIns := [], harness := (true, "91013a159a6e05e1da8a695959bf2439b062f863e740f13a9807ba3768e83799"), looks := false }, kinds := [], alts := [], laidByText := true, laidKinds := [.data], laidTests := true, laidLooks := .later }
def RrFormsUptoCardSaid : Prop := Claim7.holds Tryd.pinned (.plain (OpenSpec.upto rrFormsSpec)) rrFormsUptoCard

/-- THE SECOND FORM's CARD OF 'pinfoldlaw4.RrCut'. -/
def rrCutUptoCard : Claim7 := { stood := { row := rrCutUptoRow, standIns := [], harness := (true, "91013a159a6e05e1da8a695959bf2439b062f863e740f13a9807ba3768e83799"), looks := false }, kinds := [], alts := [], laidByText := true, laidKinds := [.data], laidTests := true, laidLooks := .later }
def RrCutUptoCardSaid : Prop := Claim7.holds Tryd.pinned (.plain (OpenSpec.upto rrCutSpec)) rrCutUptoCard

/-- THE SECOND FORM's CARD OF 'pinfoldlaw4.RrUnlike'. -/
def rrUnlikeUptoCard : Claim7 := { stood := { row := rrUnlikeUptoRow, standIns := [], harness := (true, "91013a159a6e05e1da8a695959bf2439b062f863e740f13a9807ba3768e83799"), looks := false }, kinds := [], alts := [], laidByText := true, laidKinds := [.data], laidTests := true, laidLooks := .later }
def RrUnlikeUptoCardSaid : Prop := Claim7.holds Tryd.pinned (.plain (OpenSpec.upto rrUnlikeSpec)) rrUnlikeUptoCard
end Rows
end Go.Proofs.YtgidbcjeaeiinaaDoor

/-
  DERIVED. GIVEN WITH THE SEED: THE CARDS: each row of YtodjgbdjkncpgaaGreatDoorRows.lean that lists a variable, with what it lists TIED to the program's text (the seventh form; the later family's looks); each row that meets fmt, with fmt's text TOLD by the authors' own Lean function (tested against real Go, not proved from fmt's source: count such statements apart). THE CARD IS WHAT COUNTS. Prove the row's statement (the work); the ties are given (YtodjgbdjkncpgaaGreatDoorTie.lean); close each card by the builder's one call (the guide's Derived/Test/ToyasCard.lean, 'card_holds'). Laid BY PROGRAM, IN A SANDBOX (cutbox-door.mjs). By AI agents, Wed Nov 11 2026. No macro, syntax, notation, axiom, sorry.
-/
import Derived.Test.YtodjgbdjkncpgaaGreatDoorRows
import GoSem.ClaimSeven
namespace Go.Proofs.YtodjgbdjkncpgaaGreatDoor
namespace Rows

/-- THE TIED CARD OF 'pinfoldlaw5.Dnses'. -/
def dnsesCard : Claim7 := { stood := { row := dnsesRow, standIns := [], harness := (true, "4e6b30fb2fe812b5476f1f26ccd5fa5b5ea9777b5dfff0a1a75b736b874c33f4"), looks := false }, kinds := [], alts := [], laidByText := true, laidKinds := [.data], laidTests := true, laidLooks := .later }
def DnsesCardSaid : Prop := Claim7.holds Tryz.pinned (.plain (OpenSpec.ofChange dnsesSpec)) dnsesCard

/-- THE TIED CARD OF 'pinfoldlaw5.DnsBack'. -/
def dnsBackCard : Claim7 := { stood := { row := dnsBackRow, standIns := [], harness := (true, "4e6b30fb2fe812b5476f1f26ccd5fa5b5ea9777b5dfff0a1a75b736b874c33f4"), looks := false }, kinds := [], alts := [], laidByText := true, laidKinds := [.data], laidTests := true, laidLooks := .later }
def DnsBackCardSaid : Prop := Claim7.holds Tryz.pinned (.plain (OpenSpec.ofChange dnsBackSpec)) dnsBackCard

/-- THE TIED CARD OF 'pinfoldlaw5.DnsForms'. -/
def dnsFormsCard : Claim7 := { stood := { row := dnsFormsRow, standIns := [], harness := (true, "4e6b30fb2fe812b5476f1f26ccd5fa5b5ea9777b5dfff0a1a75b736b874c33f4"), looks := false }, kinds := [], alts := [], laidByText := true, laidKinds := [.data], laidTests := true, laidLooks := .later }
def DnsFormsCardSaid : Prop := Claim7.holds Tryz.pinned (.plain (OpenSpec.ofChange dnsFormsSpec)) dnsFormsCard

/-- THE TIED CARD OF 'pinfoldlaw5.DnsHeads'. -/
def dnsHeadsCard : Claim7 := { stood := { row := dnsHeadsRow, standIns := [], harness := (true, "4e6b30fb2fe812b5476f1f26ccd5fa5b5ea9777b5dfff0a1a75b736b874c33f4"), looks := false }, kinds := [], alts := [], laidByText := true, laidKinds := [.data], laidTests := true, laidLooks := .later }
def DnsHeadsCardSaid : Prop := Claim7.holds Tryz.pinned (.plain (OpenSpec.ofChange dnsHeadsSpec)) dnsHeadsCard

/-- THE SECOND FORM's CARD OF 'pinfoldlaw5.Dnses'. -/
def dnsesUptoCard : Claim7 := { stood := { row := dnsesUptoRow, standIns := [], harness := (true, "4e6b30fb2fe812b5476f1f26ccd5fa5b5ea9777b5dfff0a1a75b736b874c33f4"), looks := false }, kinds := [], alts := [], laidByText := true, laidKinds := [.data], laidTests := true, laidLooks := .later }
def DnsesUptoCardSaid : Prop := Claim7.holds Tryz.pinned (.plain (OpenSpec.upto dnsesSpec)) dnsesUptoCard

/-- THE SECOND FORM's CARD OF 'pinfoldlaw5.DnsBack'. -/
def dnsBackUptoCard : Claim7 := { stood := { row := dnsBackUptoRow, standIns := [], harness := (true, "4e6b30fb2fe812b5476f1f26ccd5fa5b5ea9777b5dfff0a1a75b736b874c33f4"), looks := false }, kinds := [], alts := [], laidByText := true, laidKinds := [.data], laidTests := true, laidLooks := .later }
def DnsBackUptoCardSaid : Prop := Claim7.holds Tryz.pinned (.plain (OpenSpec.upto dnsBackSpec)) dnsBackUptoCard

/-- THE SECOND FORM's CARD OF 'pinfoldlaw5.DnsForms'. -/
def dnsFormsUptoCard : Claim7 := { stood := { row := dnsFormsUptoRow, standIns := [], harness := (true, "4e6b30fb2fe812b5476f1f26ccd5fa5b5ea9777b5dfff0a1a75b736b874c33f4"), looks := false }, kinds := [], alts := [], laidByText := true, laidKinds := [.data], laidTests := true, laidLooks := .later }
def DnsFormsUptoCardSaid : Prop := Claim7.holds Tryz.pinned (.plain (OpenSpec.upto dnsFormsSpec)) dnsFormsUptoCard

/-- THE SECOND FORM's CARD OF 'pinfoldlaw5.DnsHeads'. -/
def dnsHeadsUptoCard : Claim7 := { stood := { row := dnsHeadsUptoRow, standIns := [], harness := (true, "4e6b30fb2fe812b5476f1f26ccd5fa5b5ea9777b5dfff0a1a75b736b874c33f4"), looks := false }, kinds := [], alts := [], laidByText := true, laidKinds := [.data], laidTests := true, laidLooks := .later }
def DnsHeadsUptoCardSaid : Prop := Claim7.holds Tryz.pinned (.plain (OpenSpec.upto dnsHeadsSpec)) dnsHeadsUptoCard
end Rows
end Go.Proofs.YtodjgbdjkncpgaaGreatDoor

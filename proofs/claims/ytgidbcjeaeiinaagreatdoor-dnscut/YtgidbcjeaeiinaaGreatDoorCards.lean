/-
  DERIVED. GIVEN WITH THE SEED: THE CARDS: each row of YtgidbcjeaeiinaaGreatDoorRows.lean that lists a variable, with what it lists TIED to the program's text (the seventh form; the later family's looks); each row that meets fmt, with fmt's text TOLD by the authors' own Lean function (tested against real Go, not proved from fmt's source: count such statements apart). THE CARD IS WHAT COUNTS. Prove the row's statement (the work); the ties are given (YtgidbcjeaeiinaaGreatDoorTie.lean); close each card by the builder's one call (the guide's Derived/Test/ToyasCard.lean, 'card_holds'). Laid BY PROGRAM, IN A SANDBOX (cutbox-door.mjs). By AI agents, Wed Nov 11 2026. No macro, syntax, notation, axiom, sorry.
-/
import Derived.Test.YtgidbcjeaeiinaaGreatDoorRows
import GoSem.ClaimSeven
namespace Go.Proofs.YtgidbcjeaeiinaaGreatDoor
namespace Rows

/-- THE TIED CARD OF 'pinfoldlaw5.Dnses'. -/
def dnsesCard : Claim7 := { stood := { row := dnsesRow, standIns := [], harness := (true, "cdcbb8fe20791c0a85526c352f751e53286c1595fe8daab28be6ef617765bb7a"), looks := false }, kinds := [], alts := [], laidByText := true, laidKinds := [.data], laidTests := true, laidLooks := .later }
def DnsesCardSaid : Prop := Claim7.holds Tryz.pinned (.plain (OpenSpec.ofChange dnsesSpec)) dnsesCard

/-- THE TIED CARD OF 'pinfoldlaw5.DnsBack'. -/
def dnsBackCard : Claim7 := { stood := { row := dnsBackRow, standIns := [], harness := (true, "cdcbb8fe20791c0a85526c352f751e53286c1595fe8daab28be6ef617765bb7a"), looks := false }, kinds := [], alts := [], laidByText := true, laidKinds := [.data], laidTests := true, laidLooks := .later }
def DnsBackCardSaid : Prop := Claim7.holds Tryz.pinned (.plain (OpenSpec.ofChange dnsBackSpec)) dnsBackCard

/-- THE TIED CARD OF 'pinfoldlaw5.DnsForms'. -/
def dnsFormsCard : Claim7 := { stood := { row := dnsFormsRow, standIns := [], harness := (true, "cdcbb8fe20791c0a85526c352f751e53286c1595fe8daab28be6ef617765bb7a"), looks := false }, kinds := [], alts := [], laidByText := true, laidKinds := [.data], laidTests := true, laidLooks := .later }
def DnsFormsCardSaid : Prop := Claim7.holds Tryz.pinned (.plain (OpenSpec.ofChange dnsFormsSpec)) dnsFormsCard

/-- THE TIED CARD OF 'pinfoldlaw5.DnsHeads'. -/
def dnsHeadsCard : Claim7 := { stood := { row := dnsHeadsRow, standIns := [], harness := (true, "cdcbb8fe20791c0a85526c352f751e53286c1595fe8daab28be6ef617765bb7a"), looks := false }, kinds := [], alts := [], laidByText := true, laidKinds := [.data], laidTests := true, laidLooks := .later }
def DnsHeadsCardSaid : Prop := Claim7.holds Tryz.pinned (.plain (OpenSpec.ofChange dnsHeadsSpec)) dnsHeadsCard

/-- THE TIED CARD OF 'pinfoldlaw5.DnsCut'. -/
def dnsCutCard : Claim7 := { stood := { row := dnsCutRow, standIns := [], harness := (true, "cdcbb8fe20791c0a85526c352f751e53286c1595fe8daab28be6ef617765bb7a"), looks := false }, kinds := [], alts := [], laidByText := true, laidKinds := [.data], laidTests := true, laidLooks := .later }
def DnsCutCardSaid : Prop := Claim7.holds Tryz.pinned (.plain (OpenSpec.ofChange dnsCutSpec)) dnsCutCard

/-- THE TIED CARD OF 'pinfoldlaw5.DnsRoom'. -/
def dnsRoomCard : Claim7 := { stood := { row := dnsRoomRow, standIns := [], harness := (true, "cdcbb8fe20791c0a85526c352f751e53286c1595fe8daab28be6ef617765bb7a"), looks := false }, kinds := [], alts := [], laidByText := true, laidKinds := [.data], laidTests := true, laidLooks := .later }
def DnsRoomCardSaid : Prop := Claim7.holds Tryz.pinned (.plain (OpenSpec.ofChange dnsRoomSpec)) dnsRoomCard

/-- THE SECOND FORM's CARD OF 'pinfoldlaw5.Dnses'. -/
def dnsesUptoCard : Claim7 := { stood := { row := dnsesUptoRow, standIns := [], harness := (true, "cdcbb8fe20791c0a85526c352f751e53286c1595fe8daab28be6ef617765bb7a"), looks := false }, kinds := [], alts := [], laidByText := true, laidKinds := [.data], laidTests := true, laidLooks := .later }
def DnsesUptoCardSaid : Prop := Claim7.holds Tryz.pinned (.plain (OpenSpec.upto dnsesSpec)) dnsesUptoCard

/-- THE SECOND FORM's CARD OF 'pinfoldlaw5.DnsBack'. -/
def dnsBackUptoCard : Claim7 := { stood := { row := dnsBackUptoRow, standIns := [], harness := (true, "cdcbb8fe20791c0a85526c352f751e53286c1595fe8daab28be6ef617765bb7a"), looks := false }, kinds := [], alts := [], laidByText := true, laidKinds := [.data], laidTests := true, laidLooks := .later }
def DnsBackUptoCardSaid : Prop := Claim7.holds Tryz.pinned (.plain (OpenSpec.upto dnsBackSpec)) dnsBackUptoCard

/-- THE SECOND FORM's CARD OF 'pinfoldlaw5.DnsForms'. -/
def dnsFormsUptoCard : Claim7 := { stood := { row := dnsFormsUptoRow, standIns := [], harness := (true, "cdcbb8fe20791c0a85526c352f751e53286c1595fe8daab28be6ef617765bb7a"), looks := false }, kinds := [], alts := [], laidByText := true, laidKinds := [.data], laidTests := true, laidLooks := .later }
def DnsFormsUptoCardSaid : Prop := Claim7.holds Tryz.pinned (.plain (OpenSpec.upto dnsFormsSpec)) dnsFormsUptoCard

/-- THE SECOND FORM's CARD OF 'pinfoldlaw5.DnsHeads'. -/
def dnsHeadsUptoCard : Claim7 := { stood := { row := dnsHeadsUptoRow, standIns := [], harness := (true, "cdcbb8fe20791c0a85526c352f751e53286c1595fe8daab28be6ef617765bb7a"), looks := false }, kinds := [], alts := [], laidByText := true, laidKinds := [.data], laidTests := true, laidLooks := .later }
def DnsHeadsUptoCardSaid : Prop := Claim7.holds Tryz.pinned (.plain (OpenSpec.upto dnsHeadsSpec)) dnsHeadsUptoCard

/-- THE SECOND FORM's CARD OF 'pinfoldlaw5.DnsCut'. -/
def dnsCutUptoCard : Claim7 := { stood := { row := dnsCutUptoRow, standIns := [], harness := (true, "cdcbb8fe20791c0a85526c352f751e53286c1595fe8daab28be6ef617765bb7a"), looks := false }, kinds := [], alts := [], laidByText := true, laidKinds := [.data], laidTests := true, laidLooks := .later }
def DnsCutUptoCardSaid : Prop := Claim7.holds Tryz.pinned (.plain (OpenSpec.upto dnsCutSpec)) dnsCutUptoCard

/-- THE SECOND FORM's CARD OF 'pinfoldlaw5.DnsRoom'. -/
def dnsRoomUptoCard : Claim7 := { stood := { row := dnsRoomUptoRow, standIns := [], harness := (true, "cdcbb8fe20791c0a85526c352f751e53286c1595fe8daab28be6ef617765bb7a"), looks := false }, kinds := [], alts := [], laidByText := true, laidKinds := [.data], laidTests := true, laidLooks := .later }
def DnsRoomUptoCardSaid : Prop := Claim7.holds Tryz.pinned (.plain (OpenSpec.upto dnsRoomSpec)) dnsRoomUptoCard
end Rows
end Go.Proofs.YtgidbcjeaeiinaaGreatDoor

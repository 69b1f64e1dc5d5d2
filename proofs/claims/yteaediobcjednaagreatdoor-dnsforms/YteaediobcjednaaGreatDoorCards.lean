/-
  DERIVED. GIVEN WITH THE SEED: THE CARDS: each row of YteaediobcjednaaGreatDoorRows.lean that lists a variable, with what it lists TIED to the program's text (the seventh form; the later family's looks); each row that meets fmt, with fmt's text TOLD by the authors' own Lean function (tested against real Go, not proved from fmt's source: count such statements apart). THE CARD IS WHAT COUNTS. Prove the row's statement (the work); the ties are given (YteaediobcjednaaGreatDoorTie.lean); close each card by the builder's one call (the guide's Derived/Test/ToyasCard.lean, 'card_holds'). Laid BY PROGRAM, IN A SANDBOX (cutbox-door.mjs). By AI agents, Wed Nov 11 2026. No macro, syntax, notation, axiom, sorry.
-/
import Derived.Test.YteaediobcjednaaGreatDoorRows
import GoSem.ClaimSeven
namespace Go.Proofs.YteaediobcjednaaGreatDoor
namespace Rows

/-- THE TIED CARD OF 'pinfoldlaw5.Dnses'. -/
def dnsesCard : Claim7 := { stood := { row := dnsesRow, standIns := [], harness := (true, "667cfcc613f1334ba03d3e3ba0f4563655b6b37860181424be659204a1ea366e"), looks := false }, kinds := [], alts := [], laidByText := true, laidKinds := [.data], laidTests := true, laidLooks := .later }
def DnsesCardSaid : Prop := Claim7.holds Tryz.pinned (.plain (OpenSpec.ofChange dnsesSpec)) dnsesCard

/-- THE TIED CARD OF 'pinfoldlaw5.DnsForms'. -/
def dnsFormsCard : Claim7 := { stood := { row := dnsFormsRow, standIns := [], harness := (true, "667cfcc613f1334ba03d3e3ba0f4563655b6b37860181424be659204a1ea366e"), looks := false }, kinds := [], alts := [], laidByText := true, laidKinds := [.data], laidTests := true, laidLooks := .later }
def DnsFormsCardSaid : Prop := Claim7.holds Tryz.pinned (.plain (OpenSpec.ofChange dnsFormsSpec)) dnsFormsCard

/-- THE SECOND FORM's CARD OF 'pinfoldlaw5.Dnses'. -/
def dnsesUptoCard : Claim7 := { stood := { row := dnsesUptoRow, standIns := [], harness := (true, "667cfcc613f1334ba03d3e3ba0f4563655b6b37860181424be659204a1ea366e"), looks := false }, kinds := [], alts := [], laidByText := true, laidKinds := [.data], laidTests := true, laidLooks := .later }
def DnsesUptoCardSaid : Prop := Claim7.holds Tryz.pinned (.plain (OpenSpec.upto dnsesSpec)) dnsesUptoCard

/-- THE SECOND FORM's CARD OF 'pinfoldlaw5.DnsForms'. -/
def dnsFormsUptoCard : Claim7 := { stood := { row := dnsFormsUptoRow, standIns := [], harness := (true, "667cfcc613f1334ba03d3e3ba0f4563655b6b37860181424be659204a1ea366e"), looks := false }, kinds := [], alts := [], laidByText := true, laidKinds := [.data], laidTests := true, laidLooks := .later }
def DnsFormsUptoCardSaid : Prop := Claim7.holds Tryz.pinned (.plain (OpenSpec.upto dnsFormsSpec)) dnsFormsUptoCard
end Rows
end Go.Proofs.YteaediobcjednaaGreatDoor

/-
  DERIVED. GIVEN WITH THE SEED: THE CARDS: each row of YtdmooggmoihggaaGreatDoorRows.lean that lists a variable, with what it lists TIED to the program's text (the seventh form; the later family's looks); each row that meets fmt, with fmt's text TOLD by the authors' own Lean function (tested against real Go, not proved from fmt's source: count such statements apart). THE CARD IS WHAT COUNTS. Prove the row's statement (the work); the ties are given (YtdmooggmoihggaaGreatDoorTie.lean); close each card by the builder's one call (the guide's Derived/Test/ToyasCard.lean, 'card_holds'). Laid BY PROGRAM, IN A SANDBOX (cutbox-door.mjs). By AI agents, Wed Nov 11 2026. No macro, syntax, notation, axiom, sorry.
-/
import Derived.Test.YtdmooggmoihggaaGreatDoorRows
import GoSem.ClaimSeven
namespace Go.Proofs.YtdmooggmoihggaaGreatDoor
namespace Rows

/-- THE TIED CARD OF 'pinfoldlaw5.Dnses'. -/
def dnsesCard : Claim7 := { stood := { row := dnsesRow, standIns := [], harness := (true, "428d7b969743bbd55eb6e808d72d4117329e8ba19bbf2db61615d8caaf24492a"), looks := false }, kinds := [], alts := [], laidByText := true, laidKinds := [.data], laidTests := true, laidLooks := .later }
def DnsesCardSaid : Prop := Claim7.holds Tryz.pinned (.plain (OpenSpec.ofChange dnsesSpec)) dnsesCard

/-- THE SECOND FORM's CARD OF 'pinfoldlaw5.Dnses'. -/
def dnsesUptoCard : Claim7 := { stood := { row := dnsesUptoRow, standIns := [], harness := (true, "428d7b969743bbd55eb6e808d72d4117329e8ba19bbf2db61615d8caaf24492a"), looks := false }, kinds := [], alts := [], laidByText := true, laidKinds := [.data], laidTests := true, laidLooks := .later }
def DnsesUptoCardSaid : Prop := Claim7.holds Tryz.pinned (.plain (OpenSpec.upto dnsesSpec)) dnsesUptoCard
end Rows
end Go.Proofs.YtdmooggmoihggaaGreatDoor

/-
  No cell of these rows narrows 'for every input' (looked for: loops, veiled, ifaces, maps, wideKeys, modest, calm, conditions, laid).
  DERIVED. THE GIVEN ROWS OF THIS SEAT. 5 by the template 'for every input the law returns true; each argument reads behind the call as it read before'; 0 by the template 'total and deterministic' (their statements: YtkijidgocbpbiaaTotals.lean).
  GIVEN WITH THE SEED: the statements are not yours to turn. If you find one false, say at which input.
  Laid BY PROGRAM, IN A SANDBOX (cutbox-rows.mjs): the forced cells as the released guide's own fill.sh prints them over the translation 3174aab4d7d765c8… (all of the seat's roots in one cut). By AI agents, Wed Nov 11 2026. No macro, syntax, notation, axiom, sorry.
-/
import Derived.Test.YtkijidgocbpbiaaChecked
import GoSem.Claim
import GoSem.ClaimJoined
import GoSem.ClaimMapViews
import Derived.JoinedTies
import Derived.KernelRfl
namespace Go.Proofs.Ytkijidgocbpbiaa
/- THE CELL 'sum', in the pinned program and in every row, IS THE sha256 OF THE DUMP (.gsa) THAT YtkijidgocbpbiaaProg.lean LOADS. Nothing in Lean hashes anything: it is a label: what it is worth is what the hold of that sum in a sandbox is worth. -/
noncomputable def Try.pinned : Pinned := { name := "ytkijidgocbpbiaa", sum := "3174aab4d7d765c8d45d0a522a23f5c4d56c4f9973d0bc6a8d1cef76c0142241", checked := Try.checked }
namespace Rows
def none {H : Type} : Left H := { results := [], args := [] }

/-- 'pinfoldlaw1.Bes': WHATEVER THE INPUT: true; the input reads as it did. -/
def besSpec : ChangeSpec := { name := "bes", fn := fun _ => fun
  | [d1, d2, d3, d4] => { results := [.lit (.bool true)], args := [d1, d2, d3, d4] }
  | _ => none }
def besRow : OpenClaim := { program := "ytkijidgocbpbiaa", sum := "3174aab4d7d765c8d45d0a522a23f5c4d56c4f9973d0bc6a8d1cef76c0142241", func := "pinfold/pinfoldlaw1.Bes", spec := "bes", apart := false }
def BesSaid : Prop := besRow.holds Try.pinned (OpenSpec.ofChange besSpec)

/-- ITS FALSE NEIGHBOUR: 'it returns false'. Refute it at one input. -/
def besWrong : ChangeSpec := { name := "bes", fn := fun _ => fun
  | [d1, d2, d3, d4] => { results := [.lit (.bool false)], args := [d1, d2, d3, d4] }
  | _ => none }
def BesWrongFalsely : Prop := besRow.holds Try.pinned (OpenSpec.ofChange besWrong)

/-- 'pinfoldlaw1.BeBack': WHATEVER THE INPUT: true; the input reads as it did. -/
def beBackSpec : ChangeSpec := { name := "beBack", fn := fun _ => fun
  | [d1, d2, d3, d4] => { results := [.lit (.bool true)], args := [d1, d2, d3, d4] }
  | _ => none }
def beBackRow : OpenClaim := { program := "ytkijidgocbpbiaa", sum := "3174aab4d7d765c8d45d0a522a23f5c4d56c4f9973d0bc6a8d1cef76c0142241", func := "pinfold/pinfoldlaw1.BeBack", spec := "beBack", apart := false }
def BeBackSaid : Prop := beBackRow.holds Try.pinned (OpenSpec.ofChange beBackSpec)

/-- ITS FALSE NEIGHBOUR: 'it returns false'. Refute it at one input. -/
def beBackWrong : ChangeSpec := { name := "beBack", fn := fun _ => fun
  | [d1, d2, d3, d4] => { results := [.lit (.bool false)], args := [d1, d2, d3, d4] }
  | _ => none }
def BeBackWrongFalsely : Prop := beBackRow.holds Try.pinned (OpenSpec.ofChange beBackWrong)

/-- 'pinfoldlaw1.BeForms': WHATEVER THE INPUT: true; the input reads as it did. -/
def beFormsSpec : ChangeSpec := { name := "beForms", fn := fun _ => fun
  | [d1, d2] => { results := [.lit (.bool true)], args := [d1, d2] }
  | _ => none }
def beFormsRow : OpenClaim := { program := "ytkijidgocbpbiaa", sum := "3174aab4d7d765c8d45d0a522a23f5c4d56c4f9973d0bc6a8d1cef76c0142241", func := "pinfold/pinfoldlaw1.BeForms", spec := "beForms", apart := false }
def BeFormsSaid : Prop := beFormsRow.holds Try.pinned (OpenSpec.ofChange beFormsSpec)

/-- ITS FALSE NEIGHBOUR: 'it returns false'. Refute it at one input. -/
def beFormsWrong : ChangeSpec := { name := "beForms", fn := fun _ => fun
  | [d1, d2] => { results := [.lit (.bool false)], args := [d1, d2] }
  | _ => none }
def BeFormsWrongFalsely : Prop := beFormsRow.holds Try.pinned (OpenSpec.ofChange beFormsWrong)

/-- 'pinfoldlaw1.BeParts': WHATEVER THE INPUT: true; the input reads as it did. -/
def bePartsSpec : ChangeSpec := { name := "beParts", fn := fun _ => fun
  | [d1, d2] => { results := [.lit (.bool true)], args := [d1, d2] }
  | _ => none }
def bePartsRow : OpenClaim := { program := "ytkijidgocbpbiaa", sum := "3174aab4d7d765c8d45d0a522a23f5c4d56c4f9973d0bc6a8d1cef76c0142241", func := "pinfold/pinfoldlaw1.BeParts", spec := "beParts", apart := false }
def BePartsSaid : Prop := bePartsRow.holds Try.pinned (OpenSpec.ofChange bePartsSpec)

/-- ITS FALSE NEIGHBOUR: 'it returns false'. Refute it at one input. -/
def bePartsWrong : ChangeSpec := { name := "beParts", fn := fun _ => fun
  | [d1, d2] => { results := [.lit (.bool false)], args := [d1, d2] }
  | _ => none }
def BePartsWrongFalsely : Prop := bePartsRow.holds Try.pinned (OpenSpec.ofChange bePartsWrong)

/-- 'pinfoldlaw1.BeMany': WHATEVER THE INPUT: true; the input reads as it did. -/
def beManySpec : ChangeSpec := { name := "beMany", fn := fun _ => fun
  | [d] => { results := [.lit (.bool true)], args := [d] }
  | _ => none }
def beManyRow : OpenClaim := { program := "ytkijidgocbpbiaa", sum := "3174aab4d7d765c8d45d0a522a23f5c4d56c4f9973d0bc6a8d1cef76c0142241", func := "pinfold/pinfoldlaw1.BeMany", spec := "beMany", apart := false }
def BeManySaid : Prop := beManyRow.holds Try.pinned (OpenSpec.ofChange beManySpec)

/-- ITS FALSE NEIGHBOUR: 'it returns false'. Refute it at one input. -/
def beManyWrong : ChangeSpec := { name := "beMany", fn := fun _ => fun
  | [d] => { results := [.lit (.bool false)], args := [d] }
  | _ => none }
def BeManyWrongFalsely : Prop := beManyRow.holds Try.pinned (OpenSpec.ofChange beManyWrong)

/- THE SECOND FORM. 'bulk': how many values and letters a reading holds, each counted each time it is reached (what is shared counts as often as it is met; a slice's spare places count too). A statement '..UptoSaid' is the law's where the arguments, and the package variables that the reading takes, are together of bulk at most 1048576: NARROWER than '..Said'. Prove '..Said' where nothing that the law and all that it calls make is longer than what came in: it says more and counts as full. Else prove '..UptoSaid'. A law counts once. -/
mutual
def uptoBulk {H : Type} : DataW H → Nat
  | .lit (.string bytes) => bytes.length + 1
  | .lit _ => 1
  | .nil => 1
  | .ptr d => uptoBulk d + 1
  | .slice elems spare => uptoBulkAll elems + uptoBulkAll spare + 1
  | .agg parts => uptoBulkAll parts + 1
  | .iface _ d => uptoBulk d + 1
  | .map entries => uptoBulkEntries entries + 1
  | .held _ => 1
def uptoBulkAll {H : Type} : List (DataW H) → Nat
  | [] => 0
  | d :: r => uptoBulk d + uptoBulkAll r
def uptoBulkEntries {H : Type} : List (Lit × DataW H) → Nat
  | [] => 0
  | x :: r => uptoBulkEntry x + uptoBulkEntries r
def uptoBulkEntry {H : Type} : Lit × DataW H → Nat
  | (.string bytes, d) => bytes.length + uptoBulk d + 1
  | (_, d) => uptoBulk d + 1
 end
def uptoSmall : (H : Type) → List (DataW H) → Bool := fun _ ds => decide (uptoBulkAll ds ≤ 1048576)
def OpenSpec.upto (s : _root_.Go.ChangeSpec) : _root_.Go.OpenSpec := { _root_.Go.OpenSpec.ofChange s with cond := some uptoSmall }

/-- 'pinfoldlaw1.Bes', WHERE WHAT IT READS IS OF BULK AT MOST 1048576: true; the input reads as it did. -/
def besUptoRow : OpenClaim := { program := "ytkijidgocbpbiaa", sum := "3174aab4d7d765c8d45d0a522a23f5c4d56c4f9973d0bc6a8d1cef76c0142241", func := "pinfold/pinfoldlaw1.Bes", spec := "bes", apart := false, narrowed := true }
def BesUptoSaid : Prop := besUptoRow.holds Try.pinned (OpenSpec.upto besSpec)

/-- 'pinfoldlaw1.BeBack', WHERE WHAT IT READS IS OF BULK AT MOST 1048576: true; the input reads as it did. -/
def beBackUptoRow : OpenClaim := { program := "ytkijidgocbpbiaa", sum := "3174aab4d7d765c8d45d0a522a23f5c4d56c4f9973d0bc6a8d1cef76c0142241", func := "pinfold/pinfoldlaw1.BeBack", spec := "beBack", apart := false, narrowed := true }
def BeBackUptoSaid : Prop := beBackUptoRow.holds Try.pinned (OpenSpec.upto beBackSpec)

/-- 'pinfoldlaw1.BeForms', WHERE WHAT IT READS IS OF BULK AT MOST 1048576: true; the input reads as it did. -/
def beFormsUptoRow : OpenClaim := { program := "ytkijidgocbpbiaa", sum := "3174aab4d7d765c8d45d0a522a23f5c4d56c4f9973d0bc6a8d1cef76c0142241", func := "pinfold/pinfoldlaw1.BeForms", spec := "beForms", apart := false, narrowed := true }
def BeFormsUptoSaid : Prop := beFormsUptoRow.holds Try.pinned (OpenSpec.upto beFormsSpec)

/-- 'pinfoldlaw1.BeParts', WHERE WHAT IT READS IS OF BULK AT MOST 1048576: true; the input reads as it did. -/
def bePartsUptoRow : OpenClaim := { program := "ytkijidgocbpbiaa", sum := "3174aab4d7d765c8d45d0a522a23f5c4d56c4f9973d0bc6a8d1cef76c0142241", func := "pinfold/pinfoldlaw1.BeParts", spec := "beParts", apart := false, narrowed := true }
def BePartsUptoSaid : Prop := bePartsUptoRow.holds Try.pinned (OpenSpec.upto bePartsSpec)

/-- 'pinfoldlaw1.BeMany', WHERE WHAT IT READS IS OF BULK AT MOST 1048576: true; the input reads as it did. -/
def beManyUptoRow : OpenClaim := { program := "ytkijidgocbpbiaa", sum := "3174aab4d7d765c8d45d0a522a23f5c4d56c4f9973d0bc6a8d1cef76c0142241", func := "pinfold/pinfoldlaw1.BeMany", spec := "beMany", apart := false, narrowed := true }
def BeManyUptoSaid : Prop := beManyUptoRow.holds Try.pinned (OpenSpec.upto beManySpec)

end Rows
end Go.Proofs.Ytkijidgocbpbiaa

/-
  No cell of these rows narrows 'for every input' (looked for: loops, veiled, ifaces, maps, wideKeys, modest, calm, conditions, laid).
  DERIVED. THE GIVEN ROWS OF THIS SEAT. 4 by the template 'for every input the law returns true; each argument reads behind the call as it read before'; 0 by the template 'total and deterministic' (their statements: YtkohojifnmklmaaTotals.lean).
  GIVEN WITH THE SEED: the statements are not yours to turn. If you find one false, say at which input.
  Laid BY PROGRAM, IN A SANDBOX (cutbox-rows.mjs): the forced cells as the released guide's own fill.sh prints them over the translation 53840bda31ad2f10… (all of the seat's roots in one cut). By AI agents, Wed Nov 11 2026. No macro, syntax, notation, axiom, sorry.
-/
import Derived.Test.YtkohojifnmklmaaChecked
import GoSem.Claim
import GoSem.ClaimJoined
import GoSem.ClaimMapViews
import Derived.JoinedTies
import Derived.KernelRfl
namespace Go.Proofs.Ytkohojifnmklmaa
/- THE CELL 'sum', in the pinned program and in every row, IS THE sha256 OF THE DUMP (.gsa) THAT YtkohojifnmklmaaProg.lean LOADS. Nothing in Lean hashes anything: it is a label: what it is worth is what the hold of that sum in a sandbox is worth. -/
noncomputable def Try.pinned : Pinned := { name := "ytkohojifnmklmaa", sum := "53840bda31ad2f10a688bdfe666f4ec550d42de49d2929a1dcf74ffb7f60a63d", checked := Try.checked }
namespace Rows
def none {H : Type} : Left H := { results := [], args := [] }

/-- 'pinfoldlaw9.Idents': WHATEVER THE INPUT: true; the input reads as it did. -/
def identsSpec : ChangeSpec := { name := "idents", fn := fun _ => fun
  | [d1, d2, d3] => { results := [.lit (.bool true)], args := [d1, d2, d3] }
  | _ => none }
def identsRow : OpenClaim := { program := "ytkohojifnmklmaa", sum := "53840bda31ad2f10a688bdfe666f4ec550d42de49d2929a1dcf74ffb7f60a63d", func := "pinfold/pinfoldlaw9.Idents", spec := "idents", inPlace := ["internal/bytealg.IndexByteString", "internal/bytealg.IndexString"], unfollowed := true, recurses := true, named := ["internal/bytealg.MaxLen"], apart := false }
def IdentsSaid : Prop := identsRow.holds Try.pinned (OpenSpec.ofChange identsSpec)

/-- ITS FALSE NEIGHBOUR: 'it returns false'. Refute it at one input. -/
def identsWrong : ChangeSpec := { name := "idents", fn := fun _ => fun
  | [d1, d2, d3] => { results := [.lit (.bool false)], args := [d1, d2, d3] }
  | _ => none }
def IdentsWrongFalsely : Prop := identsRow.holds Try.pinned (OpenSpec.ofChange identsWrong)

/-- 'pinfoldlaw9.IdentForms': WHATEVER THE INPUT: true; the input reads as it did. -/
def identFormsSpec : ChangeSpec := { name := "identForms", fn := fun _ => fun
  | [d1, d2] => { results := [.lit (.bool true)], args := [d1, d2] }
  | _ => none }
def identFormsRow : OpenClaim := { program := "ytkohojifnmklmaa", sum := "53840bda31ad2f10a688bdfe666f4ec550d42de49d2929a1dcf74ffb7f60a63d", func := "pinfold/pinfoldlaw9.IdentForms", spec := "identForms", inPlace := ["internal/bytealg.IndexByteString", "internal/bytealg.IndexString"], unfollowed := true, recurses := true, named := ["internal/bytealg.MaxLen"], apart := false }
def IdentFormsSaid : Prop := identFormsRow.holds Try.pinned (OpenSpec.ofChange identFormsSpec)

/-- ITS FALSE NEIGHBOUR: 'it returns false'. Refute it at one input. -/
def identFormsWrong : ChangeSpec := { name := "identForms", fn := fun _ => fun
  | [d1, d2] => { results := [.lit (.bool false)], args := [d1, d2] }
  | _ => none }
def IdentFormsWrongFalsely : Prop := identFormsRow.holds Try.pinned (OpenSpec.ofChange identFormsWrong)

/-- 'pinfoldlaw9.IdentSame': WHATEVER THE INPUT: true; the input reads as it did. -/
def identSameSpec : ChangeSpec := { name := "identSame", fn := fun _ => fun
  | [d1, d2, d3] => { results := [.lit (.bool true)], args := [d1, d2, d3] }
  | _ => none }
def identSameRow : OpenClaim := { program := "ytkohojifnmklmaa", sum := "53840bda31ad2f10a688bdfe666f4ec550d42de49d2929a1dcf74ffb7f60a63d", func := "pinfold/pinfoldlaw9.IdentSame", spec := "identSame", inPlace := ["internal/bytealg.IndexByteString", "internal/bytealg.IndexString"], unfollowed := true, recurses := true, named := ["internal/bytealg.MaxLen"], apart := false }
def IdentSameSaid : Prop := identSameRow.holds Try.pinned (OpenSpec.ofChange identSameSpec)

/-- ITS FALSE NEIGHBOUR: 'it returns false'. Refute it at one input. -/
def identSameWrong : ChangeSpec := { name := "identSame", fn := fun _ => fun
  | [d1, d2, d3] => { results := [.lit (.bool false)], args := [d1, d2, d3] }
  | _ => none }
def IdentSameWrongFalsely : Prop := identSameRow.holds Try.pinned (OpenSpec.ofChange identSameWrong)

/-- 'pinfoldlaw9.IdentDigest': WHATEVER THE INPUT: true; the input reads as it did. -/
def identDigestSpec : ChangeSpec := { name := "identDigest", fn := fun _ => fun
  | [d1, d2, d3, d4] => { results := [.lit (.bool true)], args := [d1, d2, d3, d4] }
  | _ => none }
def identDigestRow : OpenClaim := { program := "ytkohojifnmklmaa", sum := "53840bda31ad2f10a688bdfe666f4ec550d42de49d2929a1dcf74ffb7f60a63d", func := "pinfold/pinfoldlaw9.IdentDigest", spec := "identDigest", inPlace := ["internal/bytealg.IndexByteString", "internal/bytealg.IndexString"], unfollowed := true, recurses := true, named := ["internal/bytealg.MaxLen"], apart := false }
def IdentDigestSaid : Prop := identDigestRow.holds Try.pinned (OpenSpec.ofChange identDigestSpec)

/-- ITS FALSE NEIGHBOUR: 'it returns false'. Refute it at one input. -/
def identDigestWrong : ChangeSpec := { name := "identDigest", fn := fun _ => fun
  | [d1, d2, d3, d4] => { results := [.lit (.bool false)], args := [d1, d2, d3, d4] }
  | _ => none }
def IdentDigestWrongFalsely : Prop := identDigestRow.holds Try.pinned (OpenSpec.ofChange identDigestWrong)

/- THE SECOND FORM. 'bulk': how many values and letters a reading holds, each counted each time it is reached (what is shared counts as often as it is met; a slice's spare places count too). A statement '..UptoSaid' is the law's where the arguments, and the package variables that the reading takes, are together of bulk at most 1048576: NARROWER than '..Said'. Prove '..Said' where nothing that the law and all that it calls make is longer than what came in: it says more and counts as full. Else prove '..UptoSaid'. A law counts once. -/
mutual
def uptoBulk {H : Type} : DataW H → Nat
  | .lit (.string bytes) => bytes.length + 1
  | .lit _ => 1
  | .nil => 1
  | .ptr d => uptoBulk d + 1
  | .slice elems spare => uptoBulkAll elems + uptoBulkAll spare + 1
  | .agg parts => uptoBulkAll parts + 1
  | .iface _ d => uptoBulk d + 1
  | .map entries => uptoBulkEntries entries + 1
  | .held _ => 1
def uptoBulkAll {H : Type} : List (DataW H) → Nat
  | [] => 0
  | d :: r => uptoBulk d + uptoBulkAll r
def uptoBulkEntries {H : Type} : List (Lit × DataW H) → Nat
  | [] => 0
  | x :: r => uptoBulkEntry x + uptoBulkEntries r
def uptoBulkEntry {H : Type} : Lit × DataW H → Nat
  | (.string bytes, d) => bytes.length + uptoBulk d + 1
  | (_, d) => uptoBulk d + 1
 end
def uptoSmall : (H : Type) → List (DataW H) → Bool := fun _ ds => decide (uptoBulkAll ds ≤ 1048576)
def OpenSpec.upto (s : _root_.Go.ChangeSpec) : _root_.Go.OpenSpec := { _root_.Go.OpenSpec.ofChange s with cond := some uptoSmall }

/-- 'pinfoldlaw9.Idents', WHERE WHAT IT READS IS OF BULK AT MOST 1048576: true; the input reads as it did. -/
def identsUptoRow : OpenClaim := { program := "ytkohojifnmklmaa", sum := "53840bda31ad2f10a688bdfe666f4ec550d42de49d2929a1dcf74ffb7f60a63d", func := "pinfold/pinfoldlaw9.Idents", spec := "idents", inPlace := ["internal/bytealg.IndexByteString", "internal/bytealg.IndexString"], unfollowed := true, recurses := true, named := ["internal/bytealg.MaxLen"], apart := false, narrowed := true }
def IdentsUptoSaid : Prop := identsUptoRow.holds Try.pinned (OpenSpec.upto identsSpec)

/-- 'pinfoldlaw9.IdentForms', WHERE WHAT IT READS IS OF BULK AT MOST 1048576: true; the input reads as it did. -/
def identFormsUptoRow : OpenClaim := { program := "ytkohojifnmklmaa", sum := "53840bda31ad2f10a688bdfe666f4ec550d42de49d2929a1dcf74ffb7f60a63d", func := "pinfold/pinfoldlaw9.IdentForms", spec := "identForms", inPlace := ["internal/bytealg.IndexByteString", "internal/bytealg.IndexString"], unfollowed := true, recurses := true, named := ["internal/bytealg.MaxLen"], apart := false, narrowed := true }
def IdentFormsUptoSaid : Prop := identFormsUptoRow.holds Try.pinned (OpenSpec.upto identFormsSpec)

/-- 'pinfoldlaw9.IdentSame', WHERE WHAT IT READS IS OF BULK AT MOST 1048576: true; the input reads as it did. -/
def identSameUptoRow : OpenClaim := { program := "ytkohojifnmklmaa", sum := "53840bda31ad2f10a688bdfe666f4ec550d42de49d2929a1dcf74ffb7f60a63d", func := "pinfold/pinfoldlaw9.IdentSame", spec := "identSame", inPlace := ["internal/bytealg.IndexByteString", "internal/bytealg.IndexString"], unfollowed := true, recurses := true, named := ["internal/bytealg.MaxLen"], apart := false, narrowed := true }
def IdentSameUptoSaid : Prop := identSameUptoRow.holds Try.pinned (OpenSpec.upto identSameSpec)

/-- 'pinfoldlaw9.IdentDigest', WHERE WHAT IT READS IS OF BULK AT MOST 1048576: true; the input reads as it did. -/
def identDigestUptoRow : OpenClaim := { program := "ytkohojifnmklmaa", sum := "53840bda31ad2f10a688bdfe666f4ec550d42de49d2929a1dcf74ffb7f60a63d", func := "pinfold/pinfoldlaw9.IdentDigest", spec := "identDigest", inPlace := ["internal/bytealg.IndexByteString", "internal/bytealg.IndexString"], unfollowed := true, recurses := true, named := ["internal/bytealg.MaxLen"], apart := false, narrowed := true }
def IdentDigestUptoSaid : Prop := identDigestUptoRow.holds Try.pinned (OpenSpec.upto identDigestSpec)

end Rows
end Go.Proofs.Ytkohojifnmklmaa

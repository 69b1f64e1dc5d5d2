/-
  No cell of these rows narrows 'for every input' (looked for: loops, veiled, ifaces, maps, wideKeys, modest, calm, conditions, laid).
  DERIVED. THE GIVEN ROWS OF THIS SEAT. 4 by the template 'for every input the law returns true; each argument reads behind the call as it read before'; 0 by the template 'total and deterministic' (their statements: YteaediobcjednaaTotals.lean).
  GIVEN WITH THE SEED: the statements are not yours to turn. If you find one false, say at which input.
  Laid BY PROGRAM, IN A SANDBOX (cutbox-rows.mjs): the forced cells as the released guide's own fill.sh prints them over the translation abb309d9b4e480c0… (all of the seat's roots in one cut). By AI agents, Wed Nov 11 2026. No macro, syntax, notation, axiom, sorry.
-/
import Derived.Test.YteaediobcjednaaChecked
import GoSem.Claim
import GoSem.ClaimJoined
import GoSem.ClaimMapViews
import Derived.JoinedTies
import Derived.KernelRfl
namespace Go.Proofs.Yteaediobcjednaa
/- THE CELL 'sum', in the pinned program and in every row, IS THE sha256 OF THE DUMP (.gsa) THAT YteaediobcjednaaProg.lean LOADS. Nothing in Lean hashes anything: it is a label: what it is worth is what the hold of that sum in a sandbox is worth. -/
noncomputable def Try.pinned : Pinned := { name := "yteaediobcjednaa", sum := "abb309d9b4e480c09354dab9703f20400f185f64a9cfb7c705e7cc6647a7622f", checked := Try.checked }
namespace Rows
def none {H : Type} : Left H := { results := [], args := [] }

/-- 'pinfoldlaw8.Fqdns': WHATEVER THE INPUT: true; the input reads as it did. -/
def fqdnsSpec : ChangeSpec := { name := "fqdns", fn := fun _ => fun
  | [d1, d2, d3] => { results := [.lit (.bool true)], args := [d1, d2, d3] }
  | _ => none }
def fqdnsRow : OpenClaim := { program := "yteaediobcjednaa", sum := "abb309d9b4e480c09354dab9703f20400f185f64a9cfb7c705e7cc6647a7622f", func := "pinfold/pinfoldlaw8.Fqdns", spec := "fqdns", inPlace := ["internal/bytealg.IndexByteString", "internal/bytealg.IndexString", "internal/abi.NoEscape", "internal/bytealg.MakeNoZero"], unfollowed := true, recurses := true, named := ["internal/bytealg.MaxLen"], plainKeys := false, apart := false }
def FqdnsSaid : Prop := fqdnsRow.holds Try.pinned (OpenSpec.ofChange fqdnsSpec)

/-- ITS FALSE NEIGHBOUR: 'it returns false'. Refute it at one input. -/
def fqdnsWrong : ChangeSpec := { name := "fqdns", fn := fun _ => fun
  | [d1, d2, d3] => { results := [.lit (.bool false)], args := [d1, d2, d3] }
  | _ => none }
def FqdnsWrongFalsely : Prop := fqdnsRow.holds Try.pinned (OpenSpec.ofChange fqdnsWrong)

/-- 'pinfoldlaw8.FqdnBack': WHATEVER THE INPUT: true; the input reads as it did. -/
def fqdnBackSpec : ChangeSpec := { name := "fqdnBack", fn := fun _ => fun
  | [d1, d2] => { results := [.lit (.bool true)], args := [d1, d2] }
  | _ => none }
def fqdnBackRow : OpenClaim := { program := "yteaediobcjednaa", sum := "abb309d9b4e480c09354dab9703f20400f185f64a9cfb7c705e7cc6647a7622f", func := "pinfold/pinfoldlaw8.FqdnBack", spec := "fqdnBack", inPlace := ["internal/bytealg.IndexByteString", "internal/bytealg.IndexString", "internal/abi.NoEscape", "internal/bytealg.MakeNoZero"], unfollowed := true, recurses := true, named := ["internal/bytealg.MaxLen"], plainKeys := false, apart := false }
def FqdnBackSaid : Prop := fqdnBackRow.holds Try.pinned (OpenSpec.ofChange fqdnBackSpec)

/-- ITS FALSE NEIGHBOUR: 'it returns false'. Refute it at one input. -/
def fqdnBackWrong : ChangeSpec := { name := "fqdnBack", fn := fun _ => fun
  | [d1, d2] => { results := [.lit (.bool false)], args := [d1, d2] }
  | _ => none }
def FqdnBackWrongFalsely : Prop := fqdnBackRow.holds Try.pinned (OpenSpec.ofChange fqdnBackWrong)

/-- 'pinfoldlaw8.FqdnForms': WHATEVER THE INPUT: true; the input reads as it did. -/
def fqdnFormsSpec : ChangeSpec := { name := "fqdnForms", fn := fun _ => fun
  | [d1, d2] => { results := [.lit (.bool true)], args := [d1, d2] }
  | _ => none }
def fqdnFormsRow : OpenClaim := { program := "yteaediobcjednaa", sum := "abb309d9b4e480c09354dab9703f20400f185f64a9cfb7c705e7cc6647a7622f", func := "pinfold/pinfoldlaw8.FqdnForms", spec := "fqdnForms", inPlace := ["internal/bytealg.IndexByteString", "internal/bytealg.IndexString", "internal/abi.NoEscape", "internal/bytealg.MakeNoZero"], unfollowed := true, recurses := true, named := ["internal/bytealg.MaxLen"], plainKeys := false, apart := false }
def FqdnFormsSaid : Prop := fqdnFormsRow.holds Try.pinned (OpenSpec.ofChange fqdnFormsSpec)

/-- ITS FALSE NEIGHBOUR: 'it returns false'. Refute it at one input. -/
def fqdnFormsWrong : ChangeSpec := { name := "fqdnForms", fn := fun _ => fun
  | [d1, d2] => { results := [.lit (.bool false)], args := [d1, d2] }
  | _ => none }
def FqdnFormsWrongFalsely : Prop := fqdnFormsRow.holds Try.pinned (OpenSpec.ofChange fqdnFormsWrong)

/-- 'pinfoldlaw8.FqdnUnlike': WHATEVER THE INPUT: true; the input reads as it did. -/
def fqdnUnlikeSpec : ChangeSpec := { name := "fqdnUnlike", fn := fun _ => fun
  | [d1, d2, d3, d4] => { results := [.lit (.bool true)], args := [d1, d2, d3, d4] }
  | _ => none }
def fqdnUnlikeRow : OpenClaim := { program := "yteaediobcjednaa", sum := "abb309d9b4e480c09354dab9703f20400f185f64a9cfb7c705e7cc6647a7622f", func := "pinfold/pinfoldlaw8.FqdnUnlike", spec := "fqdnUnlike", inPlace := ["internal/bytealg.IndexByteString", "internal/bytealg.IndexString", "internal/abi.NoEscape", "internal/bytealg.MakeNoZero"], unfollowed := true, recurses := true, named := ["internal/bytealg.MaxLen"], plainKeys := false, apart := false }
def FqdnUnlikeSaid : Prop := fqdnUnlikeRow.holds Try.pinned (OpenSpec.ofChange fqdnUnlikeSpec)

/-- ITS FALSE NEIGHBOUR: 'it returns false'. Refute it at one input. -/
def fqdnUnlikeWrong : ChangeSpec := { name := "fqdnUnlike", fn := fun _ => fun
  | [d1, d2, d3, d4] => { results := [.lit (.bool false)], args := [d1, d2, d3, d4] }
  | _ => none }
def FqdnUnlikeWrongFalsely : Prop := fqdnUnlikeRow.holds Try.pinned (OpenSpec.ofChange fqdnUnlikeWrong)

/- THE SECOND FORM. 'bulk': how many values and letters a reading holds, each counted each time it is reached (what is shared counts as often as it is met; a slice's spare places count too). A statement '..UptoSaid' is the law's where the arguments, and the package variables that the reading takes, are together of bulk at most 1048576: NARROWER than '..Said'. Prove '..Said' where nothing that the law and all that it calls make is longer than what came in: it says more and counts as full. Else prove '..UptoSaid'. A law counts once. -/
mutual
def uptoBulk {H : Type} : DataW H → Nat
  | .lit (.string bytes) => bytes.length + 1
  | .lit _ => 1
  | .nil => 1
  | .ptr d => uptoBulk d + 1
  | .slice elems spare => uptoBulkAll elems + uptoBulkAll spare + 1
  | .agg parts => uptoBulkAll parts + 1
  | .iface _ d => uptoBulk d + 1
  | .map entries => uptoBulkEntries entries + 1
  | .held _ => 1
def uptoBulkAll {H : Type} : List (DataW H) → Nat
  | [] => 0
  | d :: r => uptoBulk d + uptoBulkAll r
def uptoBulkEntries {H : Type} : List (Lit × DataW H) → Nat
  | [] => 0
  | x :: r => uptoBulkEntry x + uptoBulkEntries r
def uptoBulkEntry {H : Type} : Lit × DataW H → Nat
  | (.string bytes, d) => bytes.length + uptoBulk d + 1
  | (_, d) => uptoBulk d + 1
 end
def uptoSmall : (H : Type) → List (DataW H) → Bool := fun _ ds => decide (uptoBulkAll ds ≤ 1048576)
def OpenSpec.upto (s : _root_.Go.ChangeSpec) : _root_.Go.OpenSpec := { _root_.Go.OpenSpec.ofChange s with cond := some uptoSmall }

/-- 'pinfoldlaw8.Fqdns', WHERE WHAT IT READS IS OF BULK AT MOST 1048576: true; the input reads as it did. -/
def fqdnsUptoRow : OpenClaim := { program := "yteaediobcjednaa", sum := "abb309d9b4e480c09354dab9703f20400f185f64a9cfb7c705e7cc6647a7622f", func := "pinfold/pinfoldlaw8.Fqdns", spec := "fqdns", inPlace := ["internal/bytealg.IndexByteString", "internal/bytealg.IndexString", "internal/abi.NoEscape", "internal/bytealg.MakeNoZero"], unfollowed := true, recurses := true, named := ["internal/bytealg.MaxLen"], plainKeys := false, apart := false, narrowed := true }
def FqdnsUptoSaid : Prop := fqdnsUptoRow.holds Try.pinned (OpenSpec.upto fqdnsSpec)

/-- 'pinfoldlaw8.FqdnBack', WHERE WHAT IT READS IS OF BULK AT MOST 1048576: true; the input reads as it did. -/
def fqdnBackUptoRow : OpenClaim := { program := "yteaediobcjednaa", sum := "abb309d9b4e480c09354dab9703f20400f185f64a9cfb7c705e7cc6647a7622f", func := "pinfold/pinfoldlaw8.FqdnBack", spec := "fqdnBack", inPlace := ["internal/bytealg.IndexByteString", "internal/bytealg.IndexString", "internal/abi.NoEscape", "internal/bytealg.MakeNoZero"], unfollowed := true, recurses := true, named := ["internal/bytealg.MaxLen"], plainKeys := false, apart := false, narrowed := true }
def FqdnBackUptoSaid : Prop := fqdnBackUptoRow.holds Try.pinned (OpenSpec.upto fqdnBackSpec)

/-- 'pinfoldlaw8.FqdnForms', WHERE WHAT IT READS IS OF BULK AT MOST 1048576: true; the input reads as it did. -/
def fqdnFormsUptoRow : OpenClaim := { program := "yteaediobcjednaa", sum := "abb309d9b4e480c09354dab9703f20400f185f64a9cfb7c705e7cc6647a7622f", func := "pinfold/pinfoldlaw8.FqdnForms", spec := "fqdnForms", inPlace := ["internal/bytealg.IndexByteString", "internal/bytealg.IndexString", "internal/abi.NoEscape", "internal/bytealg.MakeNoZero"], unfollowed := true, recurses := true, named := ["internal/bytealg.MaxLen"], plainKeys := false, apart := false, narrowed := true }
def FqdnFormsUptoSaid : Prop := fqdnFormsUptoRow.holds Try.pinned (OpenSpec.upto fqdnFormsSpec)

/-- 'pinfoldlaw8.FqdnUnlike', WHERE WHAT IT READS IS OF BULK AT MOST 1048576: true; the input reads as it did. -/
def fqdnUnlikeUptoRow : OpenClaim := { program := "yteaediobcjednaa", sum := "abb309d9b4e480c09354dab9703f20400f185f64a9cfb7c705e7cc6647a7622f", func := "pinfold/pinfoldlaw8.FqdnUnlike", spec := "fqdnUnlike", inPlace := ["internal/bytealg.IndexByteString", "internal/bytealg.IndexString", "internal/abi.NoEscape", "internal/bytealg.MakeNoZero"], unfollowed := true, recurses := true, named := ["internal/bytealg.MaxLen"], plainKeys := false, apart := false, narrowed := true }
def FqdnUnlikeUptoSaid : Prop := fqdnUnlikeUptoRow.holds Try.pinned (OpenSpec.upto fqdnUnlikeSpec)

end Rows
end Go.Proofs.Yteaediobcjednaa

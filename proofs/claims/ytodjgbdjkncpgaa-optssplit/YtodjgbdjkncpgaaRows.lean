/-
  No cell of these rows narrows 'for every input' (looked for: loops, veiled, ifaces, maps, wideKeys, modest, calm, conditions, laid).
  DERIVED. THE GIVEN ROWS OF THIS SEAT. 5 by the template 'for every input the law returns true; each argument reads behind the call as it read before'; 0 by the template 'total and deterministic' (their statements: YtodjgbdjkncpgaaTotals.lean).
  GIVEN WITH THE SEED: the statements are not yours to turn. If you find one false, say at which input.
  Laid BY PROGRAM, IN A SANDBOX (cutbox-rows.mjs): the forced cells as the released guide's own fill.sh prints them over the translation df0daaa6cb96f26e… (all of the seat's roots in one cut). By AI agents, Wed Nov 11 2026. No macro, syntax, notation, axiom, sorry.
-/
import Derived.Test.YtodjgbdjkncpgaaChecked
import GoSem.Claim
import GoSem.ClaimJoined
import GoSem.ClaimMapViews
import Derived.JoinedTies
import Derived.KernelRfl
namespace Go.Proofs.Ytodjgbdjkncpgaa
/- THE CELL 'sum', in the pinned program and in every row, IS THE sha256 OF THE DUMP (.gsa) THAT YtodjgbdjkncpgaaProg.lean LOADS. Nothing in Lean hashes anything: it is a label: what it is worth is what the hold of that sum in a sandbox is worth. -/
noncomputable def Try.pinned : Pinned := { name := "ytodjgbdjkncpgaa", sum := "df0daaa6cb96f26e2f8c5eef1d5d3d321b799c0b00916d90d0d8ded810be5aa2", checked := Try.checked }
namespace Rows
def none {H : Type} : Left H := { results := [], args := [] }

/-- 'pinfoldlaw6.Opts': WHATEVER THE INPUT: true; the input reads as it did. -/
def optsSpec : ChangeSpec := { name := "opts", fn := fun _ => fun
  | [d1, d2, d3] => { results := [.lit (.bool true)], args := [d1, d2, d3] }
  | _ => none }
def optsRow : OpenClaim := { program := "ytodjgbdjkncpgaa", sum := "df0daaa6cb96f26e2f8c5eef1d5d3d321b799c0b00916d90d0d8ded810be5aa2", func := "pinfold/pinfoldlaw6.Opts", spec := "opts", unfollowed := true, recurses := true, apart := false }
def OptsSaid : Prop := optsRow.holds Try.pinned (OpenSpec.ofChange optsSpec)

/-- ITS FALSE NEIGHBOUR: 'it returns false'. Refute it at one input. -/
def optsWrong : ChangeSpec := { name := "opts", fn := fun _ => fun
  | [d1, d2, d3] => { results := [.lit (.bool false)], args := [d1, d2, d3] }
  | _ => none }
def OptsWrongFalsely : Prop := optsRow.holds Try.pinned (OpenSpec.ofChange optsWrong)

/-- 'pinfoldlaw6.OptsBack': WHATEVER THE INPUT: true; the input reads as it did. -/
def optsBackSpec : ChangeSpec := { name := "optsBack", fn := fun _ => fun
  | [d1, d2, d3] => { results := [.lit (.bool true)], args := [d1, d2, d3] }
  | _ => none }
def optsBackRow : OpenClaim := { program := "ytodjgbdjkncpgaa", sum := "df0daaa6cb96f26e2f8c5eef1d5d3d321b799c0b00916d90d0d8ded810be5aa2", func := "pinfold/pinfoldlaw6.OptsBack", spec := "optsBack", unfollowed := true, recurses := true, apart := false }
def OptsBackSaid : Prop := optsBackRow.holds Try.pinned (OpenSpec.ofChange optsBackSpec)

/-- ITS FALSE NEIGHBOUR: 'it returns false'. Refute it at one input. -/
def optsBackWrong : ChangeSpec := { name := "optsBack", fn := fun _ => fun
  | [d1, d2, d3] => { results := [.lit (.bool false)], args := [d1, d2, d3] }
  | _ => none }
def OptsBackWrongFalsely : Prop := optsBackRow.holds Try.pinned (OpenSpec.ofChange optsBackWrong)

/-- 'pinfoldlaw6.OptsForms': WHATEVER THE INPUT: true; the input reads as it did. -/
def optsFormsSpec : ChangeSpec := { name := "optsForms", fn := fun _ => fun
  | [d1, d2] => { results := [.lit (.bool true)], args := [d1, d2] }
  | _ => none }
def optsFormsRow : OpenClaim := { program := "ytodjgbdjkncpgaa", sum := "df0daaa6cb96f26e2f8c5eef1d5d3d321b799c0b00916d90d0d8ded810be5aa2", func := "pinfold/pinfoldlaw6.OptsForms", spec := "optsForms", unfollowed := true, recurses := true, apart := false }
def OptsFormsSaid : Prop := optsFormsRow.holds Try.pinned (OpenSpec.ofChange optsFormsSpec)

/-- ITS FALSE NEIGHBOUR: 'it returns false'. Refute it at one input. -/
def optsFormsWrong : ChangeSpec := { name := "optsForms", fn := fun _ => fun
  | [d1, d2] => { results := [.lit (.bool false)], args := [d1, d2] }
  | _ => none }
def OptsFormsWrongFalsely : Prop := optsFormsRow.holds Try.pinned (OpenSpec.ofChange optsFormsWrong)

/-- 'pinfoldlaw6.OptsLong': WHATEVER THE INPUT: true; the input reads as it did. -/
def optsLongSpec : ChangeSpec := { name := "optsLong", fn := fun _ => fun
  | [d1, d2] => { results := [.lit (.bool true)], args := [d1, d2] }
  | _ => none }
def optsLongRow : OpenClaim := { program := "ytodjgbdjkncpgaa", sum := "df0daaa6cb96f26e2f8c5eef1d5d3d321b799c0b00916d90d0d8ded810be5aa2", func := "pinfold/pinfoldlaw6.OptsLong", spec := "optsLong", unfollowed := true, recurses := true, apart := false }
def OptsLongSaid : Prop := optsLongRow.holds Try.pinned (OpenSpec.ofChange optsLongSpec)

/-- ITS FALSE NEIGHBOUR: 'it returns false'. Refute it at one input. -/
def optsLongWrong : ChangeSpec := { name := "optsLong", fn := fun _ => fun
  | [d1, d2] => { results := [.lit (.bool false)], args := [d1, d2] }
  | _ => none }
def OptsLongWrongFalsely : Prop := optsLongRow.holds Try.pinned (OpenSpec.ofChange optsLongWrong)

/-- 'pinfoldlaw6.OptsSplit': WHATEVER THE INPUT: true; the input reads as it did. -/
def optsSplitSpec : ChangeSpec := { name := "optsSplit", fn := fun _ => fun
  | [d1, d2] => { results := [.lit (.bool true)], args := [d1, d2] }
  | _ => none }
def optsSplitRow : OpenClaim := { program := "ytodjgbdjkncpgaa", sum := "df0daaa6cb96f26e2f8c5eef1d5d3d321b799c0b00916d90d0d8ded810be5aa2", func := "pinfold/pinfoldlaw6.OptsSplit", spec := "optsSplit", unfollowed := true, recurses := true, apart := false }
def OptsSplitSaid : Prop := optsSplitRow.holds Try.pinned (OpenSpec.ofChange optsSplitSpec)

/-- ITS FALSE NEIGHBOUR: 'it returns false'. Refute it at one input. -/
def optsSplitWrong : ChangeSpec := { name := "optsSplit", fn := fun _ => fun
  | [d1, d2] => { results := [.lit (.bool false)], args := [d1, d2] }
  | _ => none }
def OptsSplitWrongFalsely : Prop := optsSplitRow.holds Try.pinned (OpenSpec.ofChange optsSplitWrong)

/- THE SECOND FORM. 'bulk': how many values and letters a reading holds, each counted each time it is reached (what is shared counts as often as it is met; a slice's spare places count too). A statement '..UptoSaid' is the law's where the arguments, and the package variables that the reading takes, are together of bulk at most 1048576: NARROWER than '..Said'. Prove '..Said' where nothing that the law and all that it calls make is longer than what came in: it says more and counts as full. Else prove '..UptoSaid'. A law counts once. -/
mutual
def uptoBulk {H : Type} : DataW H → Nat
  | .lit (.string bytes) => bytes.length + 1
  | .lit _ => 1
  | .nil => 1
  | .ptr d => uptoBulk d + 1
  | .slice elems spare => uptoBulkAll elems + uptoBulkAll spare + 1
  | .agg parts => uptoBulkAll parts + 1
  | .iface _ d => uptoBulk d + 1
  | .map entries => uptoBulkEntries entries + 1
  | .held _ => 1
def uptoBulkAll {H : Type} : List (DataW H) → Nat
  | [] => 0
  | d :: r => uptoBulk d + uptoBulkAll r
def uptoBulkEntries {H : Type} : List (Lit × DataW H) → Nat
  | [] => 0
  | x :: r => uptoBulkEntry x + uptoBulkEntries r
def uptoBulkEntry {H : Type} : Lit × DataW H → Nat
  | (.string bytes, d) => bytes.length + uptoBulk d + 1
  | (_, d) => uptoBulk d + 1
 end
def uptoSmall : (H : Type) → List (DataW H) → Bool := fun _ ds => decide (uptoBulkAll ds ≤ 1048576)
def OpenSpec.upto (s : _root_.Go.ChangeSpec) : _root_.Go.OpenSpec := { _root_.Go.OpenSpec.ofChange s with cond := some uptoSmall }

/-- 'pinfoldlaw6.Opts', WHERE WHAT IT READS IS OF BULK AT MOST 1048576: true; the input reads as it did. -/
def optsUptoRow : OpenClaim := { program := "ytodjgbdjkncpgaa", sum := "df0daaa6cb96f26e2f8c5eef1d5d3d321b799c0b00916d90d0d8ded810be5aa2", func := "pinfold/pinfoldlaw6.Opts", spec := "opts", unfollowed := true, recurses := true, apart := false, narrowed := true }
def OptsUptoSaid : Prop := optsUptoRow.holds Try.pinned (OpenSpec.upto optsSpec)

/-- 'pinfoldlaw6.OptsBack', WHERE WHAT IT READS IS OF BULK AT MOST 1048576: true; the input reads as it did. -/
def optsBackUptoRow : OpenClaim := { program := "ytodjgbdjkncpgaa", sum := "df0daaa6cb96f26e2f8c5eef1d5d3d321b799c0b00916d90d0d8ded810be5aa2", func := "pinfold/pinfoldlaw6.OptsBack", spec := "optsBack", unfollowed := true, recurses := true, apart := false, narrowed := true }
def OptsBackUptoSaid : Prop := optsBackUptoRow.holds Try.pinned (OpenSpec.upto optsBackSpec)

/-- 'pinfoldlaw6.OptsForms', WHERE WHAT IT READS IS OF BULK AT MOST 1048576: true; the input reads as it did. -/
def optsFormsUptoRow : OpenClaim := { program := "ytodjgbdjkncpgaa", sum := "df0daaa6cb96f26e2f8c5eef1d5d3d321b799c0b00916d90d0d8ded810be5aa2", func := "pinfold/pinfoldlaw6.OptsForms", spec := "optsForms", unfollowed := true, recurses := true, apart := false, narrowed := true }
def OptsFormsUptoSaid : Prop := optsFormsUptoRow.holds Try.pinned (OpenSpec.upto optsFormsSpec)

/-- 'pinfoldlaw6.OptsLong', WHERE WHAT IT READS IS OF BULK AT MOST 1048576: true; the input reads as it did. -/
def optsLongUptoRow : OpenClaim := { program := "ytodjgbdjkncpgaa", sum := "df0daaa6cb96f26e2f8c5eef1d5d3d321b799c0b00916d90d0d8ded810be5aa2", func := "pinfold/pinfoldlaw6.OptsLong", spec := "optsLong", unfollowed := true, recurses := true, apart := false, narrowed := true }
def OptsLongUptoSaid : Prop := optsLongUptoRow.holds Try.pinned (OpenSpec.upto optsLongSpec)

/-- 'pinfoldlaw6.OptsSplit', WHERE WHAT IT READS IS OF BULK AT MOST 1048576: true; the input reads as it did. -/
def optsSplitUptoRow : OpenClaim := { program := "ytodjgbdjkncpgaa", sum := "df0daaa6cb96f26e2f8c5eef1d5d3d321b799c0b00916d90d0d8ded810be5aa2", func := "pinfold/pinfoldlaw6.OptsSplit", spec := "optsSplit", unfollowed := true, recurses := true, apart := false, narrowed := true }
def OptsSplitUptoSaid : Prop := optsSplitUptoRow.holds Try.pinned (OpenSpec.upto optsSplitSpec)

end Rows
end Go.Proofs.Ytodjgbdjkncpgaa

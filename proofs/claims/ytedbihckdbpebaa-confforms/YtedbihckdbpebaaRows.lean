/-
  No cell of these rows narrows 'for every input' (looked for: loops, veiled, ifaces, maps, wideKeys, modest, calm, conditions, laid).
  DERIVED. THE GIVEN ROWS OF THIS SEAT. 5 by the template 'for every input the law returns true; each argument reads behind the call as it read before'; 0 by the template 'total and deterministic' (their statements: YtedbihckdbpebaaTotals.lean).
  GIVEN WITH THE SEED: the statements are not yours to turn. If you find one false, say at which input.
  Laid BY PROGRAM, IN A SANDBOX (cutbox-rows.mjs): the forced cells as the released guide's own fill.sh prints them over the translation 3f11b2452631d4fb… (all of the seat's roots in one cut). By AI agents, Wed Nov 11 2026. No macro, syntax, notation, axiom, sorry.
-/
import Derived.Test.YtedbihckdbpebaaChecked
import GoSem.Claim
import GoSem.ClaimJoined
import GoSem.ClaimMapViews
import Derived.JoinedTies
import Derived.KernelRfl
namespace Go.Proofs.Ytedbihckdbpebaa
/- THE CELL 'sum', in the pinned program and in every row, IS THE sha256 OF THE DUMP (.gsa) THAT YtedbihckdbpebaaProg.lean LOADS. Nothing in Lean hashes anything: it is a label: what it is worth is what the hold of that sum in a sandbox is worth. -/
noncomputable def Try.pinned : Pinned := { name := "ytedbihckdbpebaa", sum := "3f11b2452631d4fb49d39501c524fa18e83e06969f65484ab5e8566d464de892", checked := Try.checked }
namespace Rows
def none {H : Type} : Left H := { results := [], args := [] }

/-- 'pinfoldlaw11.Confs': WHATEVER THE INPUT: true; the input reads as it did. -/
def confsSpec : ChangeSpec := { name := "confs", fn := fun _ => fun
  | [d1, d2, d3, d4] => { results := [.lit (.bool true)], args := [d1, d2, d3, d4] }
  | _ => none }
def confsRow : OpenClaim := { program := "ytedbihckdbpebaa", sum := "3f11b2452631d4fb49d39501c524fa18e83e06969f65484ab5e8566d464de892", func := "pinfold/pinfoldlaw11.Confs", spec := "confs", inPlace := ["internal/bytealg.IndexByteString", "internal/bytealg.IndexString"], unfollowed := true, recurses := true, named := ["internal/bytealg.MaxLen"], apart := false }
def ConfsSaid : Prop := confsRow.holds Try.pinned (OpenSpec.ofChange confsSpec)

/-- ITS FALSE NEIGHBOUR: 'it returns false'. Refute it at one input. -/
def confsWrong : ChangeSpec := { name := "confs", fn := fun _ => fun
  | [d1, d2, d3, d4] => { results := [.lit (.bool false)], args := [d1, d2, d3, d4] }
  | _ => none }
def ConfsWrongFalsely : Prop := confsRow.holds Try.pinned (OpenSpec.ofChange confsWrong)

/-- 'pinfoldlaw11.ConfBack': WHATEVER THE INPUT: true; the input reads as it did. -/
def confBackSpec : ChangeSpec := { name := "confBack", fn := fun _ => fun
  | [d1, d2] => { results := [.lit (.bool true)], args := [d1, d2] }
  | _ => none }
def confBackRow : OpenClaim := { program := "ytedbihckdbpebaa", sum := "3f11b2452631d4fb49d39501c524fa18e83e06969f65484ab5e8566d464de892", func := "pinfold/pinfoldlaw11.ConfBack", spec := "confBack", inPlace := ["internal/bytealg.IndexByteString", "internal/bytealg.IndexString"], unfollowed := true, recurses := true, named := ["internal/bytealg.MaxLen"], apart := false }
def ConfBackSaid : Prop := confBackRow.holds Try.pinned (OpenSpec.ofChange confBackSpec)

/-- ITS FALSE NEIGHBOUR: 'it returns false'. Refute it at one input. -/
def confBackWrong : ChangeSpec := { name := "confBack", fn := fun _ => fun
  | [d1, d2] => { results := [.lit (.bool false)], args := [d1, d2] }
  | _ => none }
def ConfBackWrongFalsely : Prop := confBackRow.holds Try.pinned (OpenSpec.ofChange confBackWrong)

/-- 'pinfoldlaw11.ConfForms': WHATEVER THE INPUT: true; the input reads as it did. -/
def confFormsSpec : ChangeSpec := { name := "confForms", fn := fun _ => fun
  | [d1, d2] => { results := [.lit (.bool true)], args := [d1, d2] }
  | _ => none }
def confFormsRow : OpenClaim := { program := "ytedbihckdbpebaa", sum := "3f11b2452631d4fb49d39501c524fa18e83e06969f65484ab5e8566d464de892", func := "pinfold/pinfoldlaw11.ConfForms", spec := "confForms", inPlace := ["internal/bytealg.IndexByteString", "internal/bytealg.IndexString"], unfollowed := true, recurses := true, named := ["internal/bytealg.MaxLen"], apart := false }
def ConfFormsSaid : Prop := confFormsRow.holds Try.pinned (OpenSpec.ofChange confFormsSpec)

/-- ITS FALSE NEIGHBOUR: 'it returns false'. Refute it at one input. -/
def confFormsWrong : ChangeSpec := { name := "confForms", fn := fun _ => fun
  | [d1, d2] => { results := [.lit (.bool false)], args := [d1, d2] }
  | _ => none }
def ConfFormsWrongFalsely : Prop := confFormsRow.holds Try.pinned (OpenSpec.ofChange confFormsWrong)

/-- 'pinfoldlaw11.ConfHosts': WHATEVER THE INPUT: true; the input reads as it did. -/
def confHostsSpec : ChangeSpec := { name := "confHosts", fn := fun _ => fun
  | [d1, d2] => { results := [.lit (.bool true)], args := [d1, d2] }
  | _ => none }
def confHostsRow : OpenClaim := { program := "ytedbihckdbpebaa", sum := "3f11b2452631d4fb49d39501c524fa18e83e06969f65484ab5e8566d464de892", func := "pinfold/pinfoldlaw11.ConfHosts", spec := "confHosts", inPlace := ["internal/bytealg.IndexByteString", "internal/bytealg.IndexString"], unfollowed := true, recurses := true, named := ["internal/bytealg.MaxLen"], apart := false }
def ConfHostsSaid : Prop := confHostsRow.holds Try.pinned (OpenSpec.ofChange confHostsSpec)

/-- ITS FALSE NEIGHBOUR: 'it returns false'. Refute it at one input. -/
def confHostsWrong : ChangeSpec := { name := "confHosts", fn := fun _ => fun
  | [d1, d2] => { results := [.lit (.bool false)], args := [d1, d2] }
  | _ => none }
def ConfHostsWrongFalsely : Prop := confHostsRow.holds Try.pinned (OpenSpec.ofChange confHostsWrong)

/-- 'pinfoldlaw11.ConfRows': WHATEVER THE INPUT: true; the input reads as it did. -/
def confRowsSpec : ChangeSpec := { name := "confRows", fn := fun _ => fun
  | [d1, d2, d3] => { results := [.lit (.bool true)], args := [d1, d2, d3] }
  | _ => none }
def confRowsRow : OpenClaim := { program := "ytedbihckdbpebaa", sum := "3f11b2452631d4fb49d39501c524fa18e83e06969f65484ab5e8566d464de892", func := "pinfold/pinfoldlaw11.ConfRows", spec := "confRows", inPlace := ["internal/bytealg.IndexByteString", "internal/bytealg.IndexString"], unfollowed := true, recurses := true, named := ["internal/bytealg.MaxLen"], apart := false }
def ConfRowsSaid : Prop := confRowsRow.holds Try.pinned (OpenSpec.ofChange confRowsSpec)

/-- ITS FALSE NEIGHBOUR: 'it returns false'. Refute it at one input. -/
def confRowsWrong : ChangeSpec := { name := "confRows", fn := fun _ => fun
  | [d1, d2, d3] => { results := [.lit (.bool false)], args := [d1, d2, d3] }
  | _ => none }
def ConfRowsWrongFalsely : Prop := confRowsRow.holds Try.pinned (OpenSpec.ofChange confRowsWrong)

/- THE SECOND FORM. 'bulk': how many values and letters a reading holds, each counted each time it is reached (what is shared counts as often as it is met; a slice's spare places count too). A statement '..UptoSaid' is the law's where the arguments, and the package variables that the reading takes, are together of bulk at most 1048576: NARROWER than '..Said'. Prove '..Said' where nothing that the law and all that it calls make is longer than what came in: it says more and counts as full. Else prove '..UptoSaid'. A law counts once. -/
mutual
def uptoBulk {H : Type} : DataW H → Nat
  | .lit (.string bytes) => bytes.length + 1
  | .lit _ => 1
  | .nil => 1
  | .ptr d => uptoBulk d + 1
  | .slice elems spare => uptoBulkAll elems + uptoBulkAll spare + 1
  | .agg parts => uptoBulkAll parts + 1
  | .iface _ d => uptoBulk d + 1
  | .map entries => uptoBulkEntries entries + 1
  | .held _ => 1
def uptoBulkAll {H : Type} : List (DataW H) → Nat
  | [] => 0
  | d :: r => uptoBulk d + uptoBulkAll r
def uptoBulkEntries {H : Type} : List (Lit × DataW H) → Nat
  | [] => 0
  | x :: r => uptoBulkEntry x + uptoBulkEntries r
def uptoBulkEntry {H : Type} : Lit × DataW H → Nat
  | (.string bytes, d) => bytes.length + uptoBulk d + 1
  | (_, d) => uptoBulk d + 1
 end
def uptoSmall : (H : Type) → List (DataW H) → Bool := fun _ ds => decide (uptoBulkAll ds ≤ 1048576)
def OpenSpec.upto (s : _root_.Go.ChangeSpec) : _root_.Go.OpenSpec := { _root_.Go.OpenSpec.ofChange s with cond := some uptoSmall }

/-- 'pinfoldlaw11.Confs', WHERE WHAT IT READS IS OF BULK AT MOST 1048576: true; the input reads as it did. -/
def confsUptoRow : OpenClaim := { program := "ytedbihckdbpebaa", sum := "3f11b2452631d4fb49d39501c524fa18e83e06969f65484ab5e8566d464de892", func := "pinfold/pinfoldlaw11.Confs", spec := "confs", inPlace := ["internal/bytealg.IndexByteString", "internal/bytealg.IndexString"], unfollowed := true, recurses := true, named := ["internal/bytealg.MaxLen"], apart := false, narrowed := true }
def ConfsUptoSaid : Prop := confsUptoRow.holds Try.pinned (OpenSpec.upto confsSpec)

/-- 'pinfoldlaw11.ConfBack', WHERE WHAT IT READS IS OF BULK AT MOST 1048576: true; the input reads as it did. -/
def confBackUptoRow : OpenClaim := { program := "ytedbihckdbpebaa", sum := "3f11b2452631d4fb49d39501c524fa18e83e06969f65484ab5e8566d464de892", func := "pinfold/pinfoldlaw11.ConfBack", spec := "confBack", inPlace := ["internal/bytealg.IndexByteString", "internal/bytealg.IndexString"], unfollowed := true, recurses := true, named := ["internal/bytealg.MaxLen"], apart := false, narrowed := true }
def ConfBackUptoSaid : Prop := confBackUptoRow.holds Try.pinned (OpenSpec.upto confBackSpec)

/-- 'pinfoldlaw11.ConfForms', WHERE WHAT IT READS IS OF BULK AT MOST 1048576: true; the input reads as it did. -/
def confFormsUptoRow : OpenClaim := { program := "ytedbihckdbpebaa", sum := "3f11b2452631d4fb49d39501c524fa18e83e06969f65484ab5e8566d464de892", func := "pinfold/pinfoldlaw11.ConfForms", spec := "confForms", inPlace := ["internal/bytealg.IndexByteString", "internal/bytealg.IndexString"], unfollowed := true, recurses := true, named := ["internal/bytealg.MaxLen"], apart := false, narrowed := true }
def ConfFormsUptoSaid : Prop := confFormsUptoRow.holds Try.pinned (OpenSpec.upto confFormsSpec)

/-- 'pinfoldlaw11.ConfHosts', WHERE WHAT IT READS IS OF BULK AT MOST 1048576: true; the input reads as it did. -/
def confHostsUptoRow : OpenClaim := { program := "ytedbihckdbpebaa", sum := "3f11b2452631d4fb49d39501c524fa18e83e06969f65484ab5e8566d464de892", func := "pinfold/pinfoldlaw11.ConfHosts", spec := "confHosts", inPlace := ["internal/bytealg.IndexByteString", "internal/bytealg.IndexString"], unfollowed := true, recurses := true, named := ["internal/bytealg.MaxLen"], apart := false, narrowed := true }
def ConfHostsUptoSaid : Prop := confHostsUptoRow.holds Try.pinned (OpenSpec.upto confHostsSpec)

/-- 'pinfoldlaw11.ConfRows', WHERE WHAT IT READS IS OF BULK AT MOST 1048576: true; the input reads as it did. -/
def confRowsUptoRow : OpenClaim := { program := "ytedbihckdbpebaa", sum := "3f11b2452631d4fb49d39501c524fa18e83e06969f65484ab5e8566d464de892", func := "pinfold/pinfoldlaw11.ConfRows", spec := "confRows", inPlace := ["internal/bytealg.IndexByteString", "internal/bytealg.IndexString"], unfollowed := true, recurses := true, named := ["internal/bytealg.MaxLen"], apart := false, narrowed := true }
def ConfRowsUptoSaid : Prop := confRowsUptoRow.holds Try.pinned (OpenSpec.upto confRowsSpec)

end Rows
end Go.Proofs.Ytedbihckdbpebaa

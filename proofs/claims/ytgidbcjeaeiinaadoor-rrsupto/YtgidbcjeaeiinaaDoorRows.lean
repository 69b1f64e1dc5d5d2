/-
  NARROWER THAN 'FOR EVERY INPUT', by the rows' own cells (each row's printed sentence says how): Rrs: laid · RrBack: laid · RrForms: laid · RrCut: laid · RrUnlike: laid.
  DERIVED. THE GIVEN ROWS OF THIS SEAT. 5 by the template 'for every input the law returns true; each argument reads behind the call as it read before'; 0 by the template 'total and deterministic' (their statements: YtgidbcjeaeiinaaDoorTotals.lean).
  GIVEN WITH THE SEED: the statements are not yours to turn. If you find one false, say at which input.
  Laid BY PROGRAM, IN A SANDBOX (cutbox-rows.mjs): the forced cells as the released guide's own fill.sh prints them over the translation 20d99dadbd105f5a… (all of the seat's roots in one cut). By AI agents, Wed Nov 11 2026. No macro, syntax, notation, axiom, sorry.
-/
import Derived.Test.YtgidbcjeaeiinaaDoorChecked
import GoSem.Claim
import GoSem.ClaimJoined
import GoSem.ClaimMapViews
import Derived.JoinedTies
import Derived.KernelRfl
namespace Go.Proofs.YtgidbcjeaeiinaaDoor
/- THE CELL 'sum', in the pinned program and in every row, IS THE sha256 OF THE DUMP (.gsa) THAT YtgidbcjeaeiinaaDoorProg.lean LOADS. Nothing in Lean hashes anything: it is a label: what it is worth is what the hold of that sum in a sandbox is worth. -/
noncomputable def Tryd.pinned : Pinned := { name := "ytgidbcjeaeiinaadoor", sum := "20d99dadbd105f5a94297f928f9cdc911f7ba2da0733102e935c2f31d8e11600", checked := Tryd.checked }
namespace Rows
def none {H : Type} : Left H := { results := [], args := [] }

/- WHAT THE LISTED PACKAGE-LEVEL VARIABLES READ AS WHEN THE CALL BEGINS. Each datum BY PROGRAM (the guide's laid-datum.mjs) off the statement by which the dump's own 'gosem.cut.vars' lays the variable. In a bare row this is a premise. The card (YtgidbcjeaeiinaaDoorCards.lean) ties it to the program's text. -/
def laid_pinfold_rr_soaTimes {H : Type} : DataW H := .agg [.lit (.int .i64 60), .lit (.int .i64 60), .lit (.int .i64 600), .lit (.int .i64 60)]

/-- 'pinfoldlaw4.Rrs': WHATEVER THE INPUT: true; the input reads as it did. -/
def rrsSpec : ChangeSpec := { name := "rrs", fn := fun _ => fun
  | [d1, d2, d3, d4] => { results := [.lit (.bool true)], args := [d1, d2, d3, d4] }
  | _ => none }
def rrsRow : OpenClaim := { program := "ytgidbcjeaeiinaadoor", sum := "20d99dadbd105f5a94297f928f9cdc911f7ba2da0733102e935c2f31d8e11600", func := "pinfold/pinfoldlaw4.Rrs", spec := "rrs", inPlace := ["internal/bytealg.IndexByteString", "internal/bytealg.IndexString", "internal/abi.NoEscape", "internal/bytealg.MakeNoZero"], unfollowed := true, recurses := true, named := ["internal/bytealg.MaxLen", "pinfold/rr.soaTimes"], plainKeys := false, apart := false, laid := [("pinfold/rr.soaTimes", laid_pinfold_rr_soaTimes)] }
def RrsSaid : Prop := rrsRow.holds Tryd.pinned (OpenSpec.ofChange rrsSpec)

/-- ITS FALSE NEIGHBOUR: 'it returns false'. Refute it at one input. -/
def rrsWrong : ChangeSpec := { name := "rrs", fn := fun _ => fun
  | [d1, d2, d3, d4] => { results := [.lit (.bool false)], args := [d1, d2, d3, d4] }
  | _ => none }
def RrsWrongFalsely : Prop := rrsRow.holds Tryd.pinned (OpenSpec.ofChange rrsWrong)

/-- 'pinfoldlaw4.RrBack': WHATEVER THE INPUT: true; the input reads as it did. -/
def rrBackSpec : ChangeSpec := { name := "rrBack", fn := fun _ => fun
  | [d] => { results := [.lit (.bool true)], args := [d] }
  | _ => none }
def rrBackRow : OpenClaim := { program := "ytgidbcjeaeiinaadoor", sum := "20d99dadbd105f5a94297f928f9cdc911f7ba2da0733102e935c2f31d8e11600", func := "pinfold/pinfoldlaw4.RrBack", spec := "rrBack", inPlace := ["internal/bytealg.IndexByteString", "internal/bytealg.IndexString", "internal/abi.NoEscape", "internal/bytealg.MakeNoZero"], unfollowed := true, recurses := true, named := ["internal/bytealg.MaxLen", "pinfold/rr.soaTimes"], plainKeys := false, apart := false, laid := [("pinfold/rr.soaTimes", laid_pinfold_rr_soaTimes)] }
def RrBackSaid : Prop := rrBackRow.holds Tryd.pinned (OpenSpec.ofChange rrBackSpec)

/-- ITS FALSE NEIGHBOUR: 'it returns false'. Refute it at one input. -/
def rrBackWrong : ChangeSpec := { name := "rrBack", fn := fun _ => fun
  | [d] => { results := [.lit (.bool false)], args := [d] }
  | _ => none }
def RrBackWrongFalsely : Prop := rrBackRow.holds Tryd.pinned (OpenSpec.ofChange rrBackWrong)

/-- 'pinfoldlaw4.RrForms': WHATEVER THE INPUT: true; the input reads as it did. -/
def rrFormsSpec : ChangeSpec := { name := "rrForms", fn := fun _ => fun
  | [d1, d2] => { results := [.lit (.bool true)], args := [d1, d2] }
  | _ => none }
def rrFormsRow : OpenClaim := { program := "ytgidbcjeaeiinaadoor", sum := "20d99dadbd105f5a94297f928f9cdc911f7ba2da0733102e935c2f31d8e11600", func := "pinfold/pinfoldlaw4.RrForms", spec := "rrForms", inPlace := ["internal/bytealg.IndexByteString", "internal/bytealg.IndexString", "internal/abi.NoEscape", "internal/bytealg.MakeNoZero"], unfollowed := true, recurses := true, named := ["internal/bytealg.MaxLen", "pinfold/rr.soaTimes"], plainKeys := false, apart := false, laid := [("pinfold/rr.soaTimes", laid_pinfold_rr_soaTimes)] }
def RrFormsSaid : Prop := rrFormsRow.holds Tryd.pinned (OpenSpec.ofChange rrFormsSpec)

/-- ITS FALSE NEIGHBOUR: 'it returns false'. Refute it at one input. -/
def rrFormsWrong : ChangeSpec := { name := "rrForms", fn := fun _ => fun
  | [d1, d2] => { results := [.lit (.bool false)], args := [d1, d2] }
  | _ => none }
def RrFormsWrongFalsely : Prop := rrFormsRow.holds Tryd.pinned (OpenSpec.ofChange rrFormsWrong)

/-- 'pinfoldlaw4.RrCut': WHATEVER THE INPUT: true; the input reads as it did. -/
def rrCutSpec : ChangeSpec := { name := "rrCut", fn := fun _ => fun
  | [d1, d2, d3] => { results := [.lit (.bool true)], args := [d1, d2, d3] }
  | _ => none }
def rrCutRow : OpenClaim := { program := "ytgidbcjeaeiinaadoor", sum := "20d99dadbd105f5a94297f928f9cdc911f7ba2da0733102e935c2f31d8e11600", func := "pinfold/pinfoldlaw4.RrCut", spec := "rrCut", inPlace := ["internal/bytealg.IndexByteString", "internal/bytealg.IndexString", "internal/abi.NoEscape", "internal/bytealg.MakeNoZero"], unfollowed := true, recurses := true, named := ["internal/bytealg.MaxLen", "pinfold/rr.soaTimes"], plainKeys := false, apart := false, laid := [("pinfold/rr.soaTimes", laid_pinfold_rr_soaTimes)] }
def RrCutSaid : Prop := rrCutRow.holds Tryd.pinned (OpenSpec.ofChange rrCutSpec)

/-- ITS FALSE NEIGHBOUR: 'it returns false'. Refute it at one input. -/
def rrCutWrong : ChangeSpec := { name := "rrCut", fn := fun _ => fun
  | [d1, d2, d3] => { results := [.lit (.bool false)], args := [d1, d2, d3] }
  | _ => none }
def RrCutWrongFalsely : Prop := rrCutRow.holds Tryd.pinned (OpenSpec.ofChange rrCutWrong)

/-- 'pinfoldlaw4.RrUnlike': WHATEVER THE INPUT: true; the input reads as it did. -/
def rrUnlikeSpec : ChangeSpec := { name := "rrUnlike", fn := fun _ => fun
  | [d1, d2] => { results := [.lit (.bool true)], args := [d1, d2] }
  | _ => none }
def rrUnlikeRow : OpenClaim := { program := "ytgidbcjeaeiinaadoor", sum := "20d99dadbd105f5a94297f928f9cdc911f7ba2da0733102e935c2f31d8e11600", func := "pinfold/pinfoldlaw4.RrUnlike", spec := "rrUnlike", inPlace := ["internal/bytealg.IndexByteString", "internal/bytealg.IndexString", "internal/abi.NoEscape", "internal/bytealg.MakeNoZero"], unfollowed := true, recurses := true, named := ["internal/bytealg.MaxLen", "pinfold/rr.soaTimes"], plainKeys := false, apart := false, laid := [("pinfold/rr.soaTimes", laid_pinfold_rr_soaTimes)] }
def RrUnlikeSaid : Prop := rrUnlikeRow.holds Tryd.pinned (OpenSpec.ofChange rrUnlikeSpec)

/-- ITS FALSE NEIGHBOUR: 'it returns false'. Refute it at one input. -/
def rrUnlikeWrong : ChangeSpec := { name := "rrUnlike", fn := fun _ => fun
  | [d1, d2] => { results := [.lit (.bool false)], args := [d1, d2] }
  | _ => none }
def RrUnlikeWrongFalsely : Prop := rrUnlikeRow.holds Tryd.pinned (OpenSpec.ofChange rrUnlikeWrong)

/- THE SECOND FORM. 'bulk': how many values and letters a reading holds, each counted each time it is reached (what is shared counts as often as it is met; a slice's spare places count too). A statement '..UptoSaid' is the law's where the arguments, and the package variables that the reading takes, are together of bulk at most 1048576: NARROWER than '..Said'. Prove '..Said' where nothing that the law and all that it calls make is longer than what came in: it says more and counts as full. Else prove '..UptoSaid'. A law counts once. -/
mutual
def uptoBulk {H : Type} : DataW H → Nat
  | .lit (.string bytes) => bytes.length + 1
  | .lit _ => 1
  | .nil => 1
  | .ptr d => uptoBulk d + 1
  | .slice elems spare => uptoBulkAll elems + uptoBulkAll spare + 1
  | .agg parts => uptoBulkAll parts + 1
  | .iface _ d => uptoBulk d + 1
  | .map entries => uptoBulkEntries entries + 1
  | .held _ => 1
def uptoBulkAll {H : Type} : List (DataW H) → Nat
  | [] => 0
  | d :: r => uptoBulk d + uptoBulkAll r
def uptoBulkEntries {H : Type} : List (Lit × DataW H) → Nat
  | [] => 0
  | x :: r => uptoBulkEntry x + uptoBulkEntries r
def uptoBulkEntry {H : Type} : Lit × DataW H → Nat
  | (.string bytes, d) => bytes.length + uptoBulk d + 1
  | (_, d) => uptoBulk d + 1
 end
def uptoSmall : (H : Type) → List (DataW H) → Bool := fun _ ds => decide (uptoBulkAll ds ≤ 1048576)
def OpenSpec.upto (s : _root_.Go.ChangeSpec) : _root_.Go.OpenSpec := { _root_.Go.OpenSpec.ofChange s with cond := some uptoSmall }

/-- 'pinfoldlaw4.Rrs', WHERE WHAT IT READS IS OF BULK AT MOST 1048576: true; the input reads as it did. -/
def rrsUptoRow : OpenClaim := { program := "ytgidbcjeaeiinaadoor", sum := "20d99dadbd105f5a94297f928f9cdc911f7ba2da0733102e935c2f31d8e11600", func := "pinfold/pinfoldlaw4.Rrs", spec := "rrs", inPlace := ["internal/bytealg.IndexByteString", "internal/bytealg.IndexString", "internal/abi.NoEscape", "internal/bytealg.MakeNoZero"], unfollowed := true, recurses := true, named := ["internal/bytealg.MaxLen", "pinfold/rr.soaTimes"], plainKeys := false, apart := false, laid := [("pinfold/rr.soaTimes", laid_pinfold_rr_soaTimes)], narrowed := true }
def RrsUptoSaid : Prop := rrsUptoRow.holds Tryd.pinned (OpenSpec.upto rrsSpec)

/-- 'pinfoldlaw4.RrBack', WHERE WHAT IT READS IS OF BULK AT MOST 1048576: true; the input reads as it did. -/
def rrBackUptoRow : OpenClaim := { program := "ytgidbcjeaeiinaadoor", sum := "20d99dadbd105f5a94297f928f9cdc911f7ba2da0733102e935c2f31d8e11600", func := "pinfold/pinfoldlaw4.RrBack", spec := "rrBack", inPlace := ["internal/bytealg.IndexByteString", "internal/bytealg.IndexString", "internal/abi.NoEscape", "internal/bytealg.MakeNoZero"], unfollowed := true, recurses := true, named := ["internal/bytealg.MaxLen", "pinfold/rr.soaTimes"], plainKeys := false, apart := false, laid := [("pinfold/rr.soaTimes", laid_pinfold_rr_soaTimes)], narrowed := true }
def RrBackUptoSaid : Prop := rrBackUptoRow.holds Tryd.pinned (OpenSpec.upto rrBackSpec)

/-- 'pinfoldlaw4.RrForms', WHERE WHAT IT READS IS OF BULK AT MOST 1048576: true; the input reads as it did. -/
def rrFormsUptoRow : OpenClaim := { program := "ytgidbcjeaeiinaadoor", sum := "20d99dadbd105f5a94297f928f9cdc911f7ba2da0733102e935c2f31d8e11600", func := "pinfold/pinfoldlaw4.RrForms", spec := "rrForms", inPlace := ["internal/bytealg.IndexByteString", "internal/bytealg.IndexString", "internal/abi.NoEscape", "internal/bytealg.MakeNoZero"], unfollowed := true, recurses := true, named := ["internal/bytealg.MaxLen", "pinfold/rr.soaTimes"], plainKeys := false, apart := false, laid := [("pinfold/rr.soaTimes", laid_pinfold_rr_soaTimes)], narrowed := true }
def RrFormsUptoSaid : Prop := rrFormsUptoRow.holds Tryd.pinned (OpenSpec.upto rrFormsSpec)

/-- 'pinfoldlaw4.RrCut', WHERE WHAT IT READS IS OF BULK AT MOST 1048576: true; the input reads as it did. -/
def rrCutUptoRow : OpenClaim := { program := "ytgidbcjeaeiinaadoor", sum := "20d99dadbd105f5a94297f928f9cdc911f7ba2da0733102e935c2f31d8e11600", func := "pinfold/pinfoldlaw4.RrCut", spec := "rrCut", inPlace := ["internal/bytealg.IndexByteString", "internal/bytealg.IndexString", "internal/abi.NoEscape", "internal/bytealg.MakeNoZero"], unfollowed := true, recurses := true, named := ["internal/bytealg.MaxLen", "pinfold/rr.soaTimes"], plainKeys := false, apart := false, laid := [("pinfold/rr.soaTimes", laid_pinfold_rr_soaTimes)], narrowed := true }
def RrCutUptoSaid : Prop := rrCutUptoRow.holds Tryd.pinned (OpenSpec.upto rrCutSpec)

/-- 'pinfoldlaw4.RrUnlike', WHERE WHAT IT READS IS OF BULK AT MOST 1048576: true; the input reads as it did. -/
def rrUnlikeUptoRow : OpenClaim := { program := "ytgidbcjeaeiinaadoor", sum := "20d99dadbd105f5a94297f928f9cdc911f7ba2da0733102e935c2f31d8e11600", func := "pinfold/pinfoldlaw4.RrUnlike", spec := "rrUnlike", inPlace := ["internal/bytealg.IndexByteString", "internal/bytealg.IndexString", "internal/abi.NoEscape", "internal/bytealg.MakeNoZero"], unfollowed := true, recurses := true, named := ["internal/bytealg.MaxLen", "pinfold/rr.soaTimes"], plainKeys := false, apart := false, laid := [("pinfold/rr.soaTimes", laid_pinfold_rr_soaTimes)], narrowed := true }
def RrUnlikeUptoSaid : Prop := rrUnlikeUptoRow.holds Tryd.pinned (OpenSpec.upto rrUnlikeSpec)

end Rows
end Go.Proofs.YtgidbcjeaeiinaaDoor

/-
  Contracts of the document's own answers of layer 6: PutOpts, FindOpt, join, GetOpts.
-/
import Derived.Test.YtkohojifnmklmaaOptRef
namespace Go.Proofs.Ytkohojifnmklmaa
open Go.ChangeShapes Go.WideShapes Go.ChangeAt Go.RowKit Go.Pin Go.PlainAid

theorem be_mk {c : Int} (h0 : 0 ≤ c) (h1 : c < 256) : be c 1 = mk [byteO c] := by apply bs_inj; rw [be_one h0 h1, bs_mk]
theorem refOne (c : Int) (w : World) (h0 : 0 ≤ c) (h1 : c < 256) : Calls Try.prog 20 #[.int .i64 c, .int .i64 1] w fun e w' => e = .returned (.string (mk [byteO c])) ∧ Below w.heap.size w w' := by
  rw [← be_mk h0 h1]; exact refNum c 1 w h0 (by omega) (by omega)
end Go.Proofs.Ytkohojifnmklmaa

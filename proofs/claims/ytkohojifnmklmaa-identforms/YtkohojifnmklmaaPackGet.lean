/-
  Contract of package packet's Get, at every text.
-/
import Derived.Test.YtkohojifnmklmaaPackReads
import Derived.Test.YtkohojifnmklmaaPackPutAll
namespace Go.Proofs.Ytkohojifnmklmaa
open Go.ChangeShapes Go.WideShapes Go.ChangeAt Go.RowKit Go.Pin Go.PlainAid

theorem BoxP.keep {w w' : World} {r : Nat} {p : Pk} {a : Option Addr} {c : Nat} (x : BoxP w r p a c) (h : w'.heap[r]? = w.heap[r]?) : BoxP w' r p a c := h.trans x
theorem layP_below {w w0 : World} {n r : Nat} (h : Below n w0 w) (hr : n ≤ r) (P : Pk) (a : Option Addr) (c : Nat) : Below n w0 (layP w r P a c) := by
  unfold layP
  exact (((((((((((h.setCell hr _).setCell hr _).setCell hr _).setCell hr _).setCell hr _).setCell hr _).setCell hr _).setCell hr _).setCell hr _).setCell hr _).setCell hr _).setCell hr _
end Go.Proofs.Ytkohojifnmklmaa

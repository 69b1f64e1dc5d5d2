/-
  Contracts of package name and of SameTexts, with their answers named.
-/
import Derived.Test.YtlnkpgmflaekoaaNum
import Derived.Test.YtlnkpgmflaekoaaNameUnd
import Derived.Test.YtlnkpgmflaekoaaNameFold
namespace Go.Proofs.Ytlnkpgmflaekoaa
open Go.ChangeShapes Go.WideShapes Go.ChangeAt Go.RowKit Go.Pin Go.PlainAid

theorem may_is (s : ByteArray) (b : Bool) (w : World) (hs : s.size ≤ maxLen) (h : mayL (bs s) = b) : Calls Try.prog 14 #[.string s] w fun e w' => e = .returned (.bool b) ∧ Below w.heap.size w w' := by
  rw [← h]; exact may_c s w hs





theorem Lies.alloc {w : World} {a : Option Addr} {ls : List (List UInt8)} (h : Lies w a ls) (o : Obj) : Lies (w.alloc o) a ls := by
  rcases h with h | ⟨g, o', rfl, h⟩
  · exact .inl h
  · refine .inr ⟨g, o', rfl, fun j hj => ?_⟩
    have hc := h j hj
    have hlt := World.block_lt_of_cell? w _ hc
    rw [← hc]
    exact Below.cell ((Below.refl _ _).alloc (Nat.le_refl w.heap.size) o) hlt

end Go.Proofs.Ytlnkpgmflaekoaa

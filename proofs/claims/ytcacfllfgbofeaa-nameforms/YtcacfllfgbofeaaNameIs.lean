/-
  Contracts of package name and of SameTexts, with their answers named.
-/
import Derived.Test.YtcacfllfgbofeaaNum
import Derived.Test.YtcacfllfgbofeaaNameUnd
import Derived.Test.YtcacfllfgbofeaaNameFold
namespace Go.Proofs.Ytcacfllfgbofeaa
open Go.ChangeShapes Go.WideShapes Go.ChangeAt Go.RowKit Go.Pin Go.PlainAid

theorem may_is (s : ByteArray) (b : Bool) (w : World) (hs : s.size ≤ maxLen) (h : mayL (bs s) = b) : Calls Try.prog 10 #[.string s] w fun e w' => e = .returned (.bool b) ∧ Below w.heap.size w w' := by
  rw [← h]; exact may_c s w hs

theorem under_is (s z : ByteArray) (b : Bool) (w : World) (hs : s.size ≤ maxLen) (hz : z.size ≤ maxLen) (h : underL (bs s) (bs z) = b) : Calls Try.prog 16 #[.string s, .string z] w fun e w' => e = .returned (.bool b) ∧ Below w.heap.size w w' := by
  rw [← h]; exact under_c s z w hs hz

theorem fold_is (s : ByteArray) (t : ByteArray) (w : World) (hs : s.size ≤ maxLen) (h : mk (foldL (bs s)) = t) : Calls Try.prog 12 #[.string s] w fun e w' => e = .returned (.string t) ∧ Below w.heap.size w w' := by
  rw [← h]; exact fold_c s w hs

theorem labels_is (s : ByteArray) (ls : List (List UInt8)) (w : World) (hs : s.size ≤ maxLen) (h : labsL (bs s) = ls) : Calls Try.prog 9 #[.string s] w fun e w' => (∃ v, e = .returned v ∧ Texts w' w.heap.size v ls) ∧ Below w.heap.size w w' := by
  rw [← h]; exact labels_c s w hs

theorem same_is (a1 a2 : Option Addr) (ls : List (List UInt8)) (n1 n2 c1 c2 : Nat) (w : World) (e1 : n1 = ls.length) (e2 : n2 = ls.length) (h8 : ls.length ≤ 1000000000) (h1 : Lies w a1 ls) (h2 : Lies w a2 ls) :
    Calls Try.prog 14 #[.slice a1 n1 c1, .slice a2 n2 c2] w fun e w' => e = .returned (.bool true) ∧ Below w.heap.size w w' := by
  subst e1 e2
  have := same_c a1 a2 ls ls c1 c2 w rfl h8 h1 h2
  simpa using this

theorem Lies.alloc {w : World} {a : Option Addr} {ls : List (List UInt8)} (h : Lies w a ls) (o : Obj) : Lies (w.alloc o) a ls := by
  rcases h with h | ⟨g, o', rfl, h⟩
  · exact .inl h
  · refine .inr ⟨g, o', rfl, fun j hj => ?_⟩
    have hc := h j hj
    have hlt := World.block_lt_of_cell? w _ hc
    rw [← hc]
    exact Below.cell ((Below.refl _ _).alloc (Nat.le_refl w.heap.size) o) hlt

end Go.Proofs.Ytcacfllfgbofeaa

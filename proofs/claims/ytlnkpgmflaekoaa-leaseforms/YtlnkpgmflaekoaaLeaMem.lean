/-
  Leases in memory.
-/
import Derived.Test.YtlnkpgmflaekoaaLeaPure
import Derived.Test.YtlnkpgmflaekoaaNameIs
import Derived.Test.YtlnkpgmflaekoaaWirePure
namespace Go.Proofs.Ytlnkpgmflaekoaa
open Go.ChangeShapes Go.WideShapes Go.ChangeAt Go.RowKit Go.Pin Go.PlainAid

/-- Block b is a lease, boxed. -/
def BoxL (w : World) (b : Nat) (l : Lea) : Prop := w.heap[b]? = some (.cells (cellsL l) 23 (0, 0))
theorem BoxL.new (w : World) (l : Lea) : BoxL (w.alloc (.cells (cellsL l) 23)) w.heap.size l := heap_alloc_new w _
theorem BoxL.lt {w : World} {b : Nat} {l : Lea} (x : BoxL w b l) : b < w.heap.size := (Array.getElem?_eq_some_iff.1 x).1
theorem BoxL.keep {w w' : World} {b : Nat} {l : Lea} (x : BoxL w b l) (h : w'.heap[b]? = w.heap[b]?) : BoxL w' b l := h.trans x
theorem BoxL.below {w w' : World} {b : Nat} {l : Lea} (x : BoxL w b l) (hb : Below w.heap.size w w') : BoxL w' b l := (hb.block b x.lt).trans x
theorem BoxL.cell {w : World} {b : Nat} {l : Lea} (x : BoxL w b l) (j : Nat) : w.cell? ⟨b, j, none⟩ = (cellsL l)[j]? := by
  rw [BoxL] at x
  simp only [World.cell?, x]
  simp
theorem BoxL.fz {w : World} {b : Nat} {l : Lea} (x : BoxL w b l) (j : Nat) : w.frozen? ⟨b, j, none⟩ = false := by
  rw [BoxL] at x
  simp only [World.frozen?, x]
  simp
theorem BoxL.set {w : World} {b : Nat} {l l' : Lea} (x : BoxL w b l) (j : Nat) (v : Value) (he : (cellsL l).setIfInBounds j v = cellsL l') : BoxL (w.setCell ⟨b, j, none⟩ v) b l' := by
  unfold BoxL
  rw [heap_set x, he]
theorem BoxL.far {w : World} {b d j : Nat} {l : Lea} {u : Value} (x : BoxL w b l) (hn : b ≠ d) : BoxL (w.setCell ⟨d, j, none⟩ u) b l := (Below.heap_setCell _ _ _ _ hn).trans x
/-- All cells. -/
theorem BoxL.all {w : World} {b : Nat} {l : Lea} (x : BoxL w b l) : w.cell? ⟨b, 0, none⟩ = some (.int .i64 l.h) ∧ w.cell? ⟨b, 1, none⟩ = some (.int .i64 l.st) ∧ w.cell? ⟨b, 2, none⟩ = some (.string l.c) ∧ w.cell? ⟨b, 3, none⟩ = some (.int .i64 l.u) ∧ w.cell? ⟨b, 4, none⟩ = some (.string l.n) ∧ w.cell? ⟨b, 5, none⟩ = some (.bool l.won) :=
  ⟨x.cell 0, x.cell 1, x.cell 2, x.cell 3, x.cell 4, x.cell 5⟩

end Go.Proofs.Ytlnkpgmflaekoaa

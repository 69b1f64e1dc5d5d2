/-
  Contracts of slices.Equal and of the laws' SameTexts at lists of texts: what each call returns.
-/
import Derived.Test.YtlnkpgmflaekoaaName
namespace Go.Proofs.Ytlnkpgmflaekoaa
open Go.ChangeShapes Go.WideShapes Go.ChangeAt Go.RowKit Go.Pin Go.PlainAid

/-- Cells of a list of texts, wherever it lies. -/
def Lies (w : World) (a : Option Addr) (ls : List (List UInt8)) : Prop := ls = [] ∨ ∃ g o, a = some ⟨g, o, none⟩ ∧ ∀ j, j < ls.length → w.cell? ⟨g, o + j, none⟩ = some (.string (mk (ls.getD j [])))


theorem toList_mk (x : List UInt8) : (mk x).toList = x := by rw [ByteArray.toList_eq]; rfl
theorem same_yes {x y : List UInt8} (h : x = y) : ((mk x).toList == (mk y).toList) = true := by rw [h]; simp
theorem same_no {x y : List UInt8} (h : x ≠ y) : ((mk x).toList == (mk y).toList) = false := by rw [toList_mk, toList_mk]; simpa using h
theorem Lies.of_cells {w wr : World} {a : Option Addr} {ls : List (List UInt8)} (h : Lies w a ls) (hc : ∀ p, wr.cell? p = w.cell? p) : Lies wr a ls := by
  rcases h with h | ⟨g, o, rfl, h⟩
  · exact .inl h
  · exact .inr ⟨g, o, rfl, fun j hj => (hc _).trans (h j hj)⟩

theorem eq_of_getD {a b : List (List UInt8)} (hl : a.length = b.length) (h : ∀ j, j < a.length → a.getD j [] = b.getD j []) : a = b := by
  apply List.ext_getElem hl
  intro j h1 h2
  have := h j h1
  simpa [List.getD, h1, h2] using this




end Go.Proofs.Ytlnkpgmflaekoaa

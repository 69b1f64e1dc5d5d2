/-
  The contract of name.Under, at whatever two texts.
-/
import Derived.Test.YtlnkpgmflaekoaaNameTexts
namespace Go.Proofs.Ytlnkpgmflaekoaa
open Go.ChangeShapes Go.WideShapes Go.ChangeAt Go.RowKit Go.Pin Go.PlainAid

/-- A list of the call's own is nil, or lies in a block of its own. -/
theorem Texts.cases {w : World} {base : Nat} {v : Value} {ls : List (List UInt8)} (h : Texts w base v ls) :
    (v = .slice none 0 0 ∧ ls = []) ∨ ∃ g cap, v = .slice (some ⟨g, 0, none⟩) ls.length cap ∧ ls.length ≤ cap ∧ cap ≤ maxLen ∧ base ≤ g ∧ g < w.heap.size ∧ (∀ j, j < ls.length → w.cell? ⟨g, j, none⟩ = some (.string (mk (ls.getD j [])))) ∧ ∀ j, w.frozen? ⟨g, j, none⟩ = false := by
  have hh := h
  obtain ⟨_, h | ⟨g, cap, cur, hv, hg, hb, hn, hm, hz, ht⟩⟩ := h
  · exact .inl ⟨h.1, List.eq_nil_of_length_eq_zero h.2⟩
  · refine .inr ⟨g, cap, hv, hn, hm, hg, (Array.getElem?_eq_some_iff.1 hb).1, ?_, ?_⟩
    · intro j hj
      subst hv
      have := World.ownsRow.cellAt hh j (by omega)
      rw [this]
      simp [List.getD, hj]
    · intro j
      subst hv
      exact World.ownsRow.frozenAt hh j

theorem Texts.lies {w : World} {base : Nat} {v : Value} {ls : List (List UInt8)} (h : Texts w base v ls) : ∃ a cap, v = .slice a ls.length cap ∧ Lies w a ls := by
  rcases h.cases with ⟨rfl, rfl⟩ | ⟨g, cap, rfl, _, _, _, _, hc, _⟩
  · exact ⟨none, 0, rfl, .inl rfl⟩
  · exact ⟨_, cap, rfl, .inr ⟨g, 0, rfl, fun j hj => by rw [Nat.zero_add]; exact hc j hj⟩⟩


end Go.Proofs.Ytlnkpgmflaekoaa

/-
  Contracts of the laws' CopyOptions, LendOptions, KeptOptions and SpoilOptions.
-/
import Derived.Test.YtkohojifnmklmaaOptRef4
namespace Go.Proofs.Ytkohojifnmklmaa
open Go.ChangeShapes Go.WideShapes Go.ChangeAt Go.RowKit Go.Pin Go.PlainAid

theorem op_from {w : World} {base g n c : Nat} {ks : List Opn} (h : Opts w base (.slice (some ⟨g, 0, none⟩) n c) ks) : OpFrom w ⟨g, 0, none⟩ ks ∧ n ≤ c ∧ base ≤ g ∧ g < w.heap.size := by
  obtain ⟨a, cap, hv, hl⟩ := h.lies
  rcases h.2 with ⟨hh, _⟩ | ⟨g', c', cur, hv', hg, hb, hn, _⟩
  · cases hh
  · simp only [Value.slice.injEq, Option.some.injEq, Addr.mk.injEq, and_true] at hv'
    obtain ⟨rfl, rfl, rfl⟩ := hv'
    simp only [Value.slice.injEq] at hv
    obtain ⟨rfl, _, rfl⟩ := hv
    refine ⟨?_, hn, hg, (Array.getElem?_eq_some_iff.1 hb).1⟩
    rcases hl with rfl | ⟨x, hx, hl⟩
    · intro j hj; simp at hj
    · cases hx; exact hl

end Go.Proofs.Ytkohojifnmklmaa

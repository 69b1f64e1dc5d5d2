/-
  Contracts of the document's own answers of layer 7: its reader's num; over.
-/
import Derived.Test.YtkohojifnmklmaaPackRef
namespace Go.Proofs.Ytkohojifnmklmaa
open Go.ChangeShapes Go.WideShapes Go.ChangeAt Go.RowKit Go.Pin Go.PlainAid

/-- A list of options in memory; the empty one is nil. -/
def LiesN (w : World) (a : Option Addr) (ks : List Opn) : Prop := (ks = [] ∧ a = none) ∨ ∃ x, a = some x ∧ OpFrom w x ks
theorem LiesN.below {w w' : World} {a : Option Addr} {ks : List Opn} (h : LiesN w a ks) (hb : Below w.heap.size w w') : LiesN w' a ks := by
  rcases h with h | ⟨x, h1, h2⟩
  · exact .inl h
  · exact .inr ⟨x, h1, h2.below hb⟩
theorem LiesN.lies {w : World} {a : Option Addr} {ks : List Opn} (h : LiesN w a ks) : OpLies w a ks := by
  rcases h with ⟨h, _⟩ | ⟨x, h1, h2⟩
  · exact .inl h
  · exact .inr ⟨x, h1, h2⟩
theorem Opts.liesN {w : World} {base n c : Nat} {a : Option Addr} {ks : List Opn} (h : Opts w base (.slice a n c) ks) (hne : ks ≠ []) : LiesN w a ks := by
  obtain ⟨a', c', e, hl⟩ := h.lies
  simp only [Value.slice.injEq] at e
  rw [e.1]
  rcases hl with hl | ⟨x, h1, h2⟩
  · exact absurd hl hne
  · exact .inr ⟨x, h1, h2⟩
theorem Opts.place {w : World} {base n c : Nat} {a : Option Addr} {ks : List Opn} (h : Opts w base (.slice a n c) ks) : ∀ x, a = some x → base ≤ x.block := by
  intro x hx
  rcases h.2 with ⟨h, _⟩ | ⟨g, cap, cur, hv, hg, _⟩
  · simp only [Value.slice.injEq] at h; rw [hx] at h; cases h.1
  · simp only [Value.slice.injEq] at hv; rw [hx] at hv; cases hv.1; exact hg
theorem OpLies.heap {w w' : World} {a : Option Addr} {ks : List Opn} (h : OpLies w a ks) (hk : ∀ x, a = some x → w'.heap[x.block]? = w.heap[x.block]?) : OpLies w' a ks := by
  rcases h with h | ⟨x, h1, h2⟩
  · exact .inl h
  · have hb := hk x h1
    have key : ∀ y : Addr, y.block = x.block → w'.cell? y = w.cell? y := fun y hy => by unfold World.cell?; rw [hy, hb]
    refine .inr ⟨x, h1, fun j hj => ?_⟩
    obtain ⟨g0, g1⟩ := h2 j hj
    have e : (x.add (j * 2)).block = x.block := by unfold Addr.add; split <;> rfl
    exact ⟨(key _ e).trans g0, (key ⟨(x.add (j * 2)).block, (x.add (j * 2)).off + 1, none⟩ e).trans g1⟩
theorem OpLies.set {w : World} {a : Option Addr} {ks : List Opn} (h : OpLies w a ks) {q : Nat} (hq : ∀ x, a = some x → x.block = q → False) (j : Nat) (u : Value) : OpLies (w.setCell ⟨q, j, none⟩ u) a ks :=
  h.heap fun x hx => Below.heap_setCell _ _ _ _ (fun e => hq x hx e)
end Go.Proofs.Ytkohojifnmklmaa

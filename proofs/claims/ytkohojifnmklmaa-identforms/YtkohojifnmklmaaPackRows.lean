/-
  Contracts of slices.Grow and slices.Concat over lists of options.
-/
import Derived.Test.YtkohojifnmklmaaPackPure
import Derived.Test.YtkohojifnmklmaaOptGot
import Derived.Lib.AppendZerosOnto
import Derived.Laws.AppendOwnNone
import Derived.Lib.SliceRun
namespace Go.Proofs.Ytkohojifnmklmaa
open Go.ChangeShapes Go.WideShapes Go.ChangeAt Go.RowKit Go.Pin Go.PlainAid

theorem zero_size (z : Array Value) (n : Nat) : (Builtin.zeroCells z n).size = n * z.size := by simp [Builtin.zeroCells]
/-! ### several lists -/
/-- Where a list lies, its room, its options. -/
abbrev RowV := Option Addr × Nat × List Opn
def rowV (r : RowV) : Value := .slice r.1 r.2.2.length r.2.1
def RowLies (w : World) (r : RowV) : Prop := (r.1 = none ∧ r.2.1 = 0 ∧ r.2.2 = []) ∨ ∃ x, r.1 = some x ∧ OpFrom w x r.2.2
theorem RowLies.below {w w' : World} {r : RowV} (h : RowLies w r) (hb : Below w.heap.size w w') : RowLies w' r := by
  rcases h with h | ⟨x, h1, h2⟩
  · exact .inl h
  · exact .inr ⟨x, h1, h2.below hb⟩
theorem Opts.row {w : World} {base : Nat} {v : Value} {ks : List Opn} (h : Opts w base v ks) : ∃ a c, v = rowV (a, c, ks) ∧ RowLies w (a, c, ks) := by
  have hh := h
  obtain ⟨a, c, hv, hl⟩ := h.lies
  obtain ⟨_, h | ⟨g, cap, cur, hv2, _⟩⟩ := hh
  · have : ks = [] := List.eq_nil_of_length_eq_zero h.2
    subst this
    exact ⟨none, 0, by rw [h.1]; rfl, .inl ⟨rfl, rfl, rfl⟩⟩
  · refine ⟨some ⟨g, 0, none⟩, cap, hv2, .inr ⟨_, rfl, ?_⟩⟩
    rw [hv2] at hv
    simp only [Value.slice.injEq] at hv
    rcases hl with h | ⟨x, h1, h2⟩
    · subst h; intro j hj; simp at hj
    · rw [h1] at hv
      obtain ⟨e, _, _⟩ := hv
      cases e
      exact h2
/-- Lists that lie behind one another. -/
def RowsAt (w : World) (x : Addr) (rs : List RowV) : Prop := ∀ j r, rs[j]? = some r → w.cell? (x.add j) = some (rowV r) ∧ RowLies w r
theorem RowsAt.below {w w' : World} {x : Addr} {rs : List RowV} (h : RowsAt w x rs) (hb : Below w.heap.size w w') : RowsAt w' x rs := fun j r hj => by
  obtain ⟨h1, h2⟩ := h j r hj
  exact ⟨(hb.cell (World.block_lt_of_cell? w _ h1)).trans h1, h2.below hb⟩
def catO (rs : List RowV) : List Opn := rs.flatMap (·.2.2)
theorem catO_take {rs : List RowV} {j : Nat} {r : RowV} (h : rs[j]? = some r) : catO (rs.take (j + 1)) = catO (rs.take j) ++ r.2.2 := by
  rw [List.take_add_one, h]
  simp [catO]
theorem catO_len {rs : List RowV} (h : ∀ r ∈ rs, r.2.2.length ≤ 32) : (catO rs).length ≤ 32 * rs.length := by
  induction rs with
  | nil => simp [catO]
  | cons r rs ih =>
    have h1 := ih (fun x hx => h x (List.mem_cons_of_mem _ hx))
    have h2 := h r (by simp)
    simp only [catO, List.flatMap_cons, List.length_append, List.length_cons] at *
    omega
theorem catO_take_len {rs : List RowV} (h : ∀ r ∈ rs, r.2.2.length ≤ 32) (h3 : rs.length ≤ 3) (j : Nat) : (catO (rs.take j)).length ≤ 96 := by
  have := catO_len (rs := rs.take j) (fun r hr => h r (List.mem_of_mem_take hr))
  rw [List.length_take] at this
  omega
end Go.Proofs.Ytkohojifnmklmaa

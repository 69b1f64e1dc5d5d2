/-
  Contracts of package packet's told and joined.
-/
import Derived.Test.YtkohojifnmklmaaPackRows
namespace Go.Proofs.Ytkohojifnmklmaa
open Go.ChangeShapes Go.WideShapes Go.ChangeAt Go.RowKit Go.Pin Go.PlainAid

theorem Opts.keep {w w' : World} {base : Nat} {v : Value} {ks : List Opn} (h : Opts w base v ks) (hk : ∀ g, base ≤ g → g < w.heap.size → (∃ cur, w.heap[g]? = some (.cells cur 39 (0, 0))) → v.ownBlock = some g → w'.heap[g]? = w.heap[g]?) : Opts w' base v ks := by
  obtain ⟨h1, h2⟩ := h
  refine ⟨h1, ?_⟩
  rcases h2 with h2 | ⟨g, cap, cur, hv, hg, hh, r⟩
  · exact .inl h2
  · exact .inr ⟨g, cap, cur, hv, hg, (hk g hg (Array.getElem?_eq_some_iff.1 hh).1 ⟨cur, hh⟩ (by rw [hv]; rfl)).trans hh, r⟩
theorem Opts.turn3 {w w' : World} {b base : Nat} {v : Value} {ks : List Opn} (h : Opts w base v ks) (hb : b < base) (hu : Turn b w w') : Opts w' base v ks := h.keep fun g hg hl _ _ => hu.oth g (by omega) hl
/-- What a text tells; is it one. -/
def toldO (t : ByteArray) : List Opn := (getO (bs t) []).getD []
def toldK (t : ByteArray) : Bool := (getO (bs t) []).isSome
/-! ### joined -/
theorem rows_take {L : List Opn} {j : Nat} (h : j < L.length) : rowsJ (L.take (j + 1)) = rowsJ (L.take j) ++ (if (opAt L j).1 ≠ 52 then partsL (byteO (opAt L j).1) (opAt L j).2 else []) := by
  unfold opAt
  rw [List.take_add_one, List.getElem?_eq_getElem h, List.getD_eq_getElem?_getD, List.getElem?_eq_getElem h]
  simp only [rowsJ, Option.toList_some, List.filter_append, Option.getD_some]
  by_cases h52 : (L[j]).1 = 52
  · simp [h52, bodyO]
  · simp [h52, bodyO]
theorem rows_max {L : List Opn} (h : ∀ o ∈ L, o.2.length ≤ 512) : (rowsJ L).length ≤ 518 * L.length := by
  have h1 := body_max (os := L.filter fun o => decide (o.1 ≠ 52)) (fun o ho => h o (List.mem_filter.1 ho).1)
  have h2 : (L.filter fun o => decide (o.1 ≠ 52)).length ≤ L.length := List.length_filter_le _ _
  unfold rowsJ
  have := Nat.mul_le_mul_left 518 h2
  omega
theorem putA_one {o : Opn} (h : okO o = true) : putA [o] = (partsL (byteO o.1) o.2 ++ [255], 0) := by
  have ho := (okO_iff o).1 h
  have hm : mayO [o] = true := by simp [mayO, MayO, h]
  have e : putO [o] = partsL (byteO o.1) o.2 ++ [255] := by simp [putO, bodyO]
  have hl := parts_max (byteO o.1) ho.2.2
  unfold putA
  rw [hm, if_pos rfl, e, if_neg (by rw [List.length_append, List.length_cons, List.length_nil]; omega)]
theorem builder_below {T e : TypeId} {B b : Nat} {cs : List Value} {w w' : World} (h : Lib.IsBuilderF T e B b cs w) (hb : Below w.heap.size w w') : Lib.IsBuilderF T e B b cs w' := by
  have key : ∀ p, Lib.BuilderAtF T e B b p cs w → Lib.BuilderAtF T e B b p cs w' := by
    rintro p ⟨hB, v, hk, hown, hne⟩
    refine ⟨hB, v, (hb.block b (Array.getElem?_eq_some_iff.1 hk).1).trans hk, ?_, hne⟩
    obtain ⟨h1, h2⟩ := hown
    refine ⟨h1, ?_⟩
    rcases h2 with h2 | ⟨g, cap, cur, fz, hv, hg, hh, r⟩
    · exact .inl h2
    · exact .inr ⟨g, cap, cur, fz, hv, hg, (hb.block g (Array.getElem?_eq_some_iff.1 hh).1).trans hh, r⟩
  rcases h with h | h
  · exact .inl (key _ h)
  · exact .inr (key _ h)
theorem Opts.others {w w' : World} {base b : Nat} {v : Value} {ks : List Opn} (h : Opts w base v ks) (hb : b < base) (hk : Lib.OthersKept 5 (some b) w w') : Opts w' base v ks :=
  h.keep fun g hg _ ⟨cur, hc⟩ _ => (hk g _ hc (by simp; omega) (by intro c fz e; simp only [Obj.cells.injEq] at e; exact absurd e.2.1 (by decide))).trans hc.symm
theorem op_new (w : World) (c : Int) (d : ByteArray) (t : TypeId) : OpLies (w.alloc (.cells #[.int .i64 c, .string d] t)) (some ⟨w.heap.size, 0, none⟩) [(c, bs d)] := by
  refine .inr ⟨_, rfl, fun j hj => ?_⟩
  simp only [List.length_cons, List.length_nil] at hj
  obtain rfl : j = 0 := by omega
  rw [addr_add, Nat.zero_add]
  exact ⟨new_cell w _ _ _ _ rfl, new_cell w _ _ _ _ (by simp [opAt, mk_bs])⟩
end Go.Proofs.Ytkohojifnmklmaa

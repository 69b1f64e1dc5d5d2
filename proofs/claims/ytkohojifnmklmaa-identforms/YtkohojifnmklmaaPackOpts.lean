/-
  Contract of package packet's options: those behind, those of the two places.
-/
import Derived.Test.YtkohojifnmklmaaPackJoin
import Derived.Test.YtkohojifnmklmaaOptRead
namespace Go.Proofs.Ytkohojifnmklmaa
open Go.ChangeShapes Go.WideShapes Go.ChangeAt Go.RowKit Go.Pin Go.PlainAid

theorem told_may (t : ByteArray) : MayO (toldO t) := by
  unfold toldO
  cases h : getO (bs t) [] with
  | none => simp [MayO]
  | some os =>
    rw [read_is] at h
    cases hg : getR (bs t) [] with
    | none => rw [hg] at h; simp at h
    | some o2 =>
      rw [hg] at h
      simp only at h
      split at h
      · rename_i hm
        cases h
        simpa [mayO] using hm
      · cases h
/-- Behind, and of the two places: which options; how far. -/
def optsT (s : ByteArray) (x : Tk) (boot file : ByteArray) : List Opn × Tk :=
  let a := toldO (restT s x).1
  let x2 := mustT (toldK (restT s x).1) (restT s x).2
  if mk (ovr a) = ⟨#[1]⟩ then ((joinP (a ++ toldO file)).getD [], mustT (joinP (a ++ toldO file)).isSome (mustT (toldK file) x2))
  else if mk (ovr a) = ⟨#[2]⟩ then ((joinP (a ++ toldO boot)).getD [], mustT (joinP (a ++ toldO boot)).isSome (mustT (toldK boot) x2))
  else if mk (ovr a) = ⟨#[3]⟩ then ((joinP (a ++ toldO file ++ toldO boot)).getD [], mustT (joinP (a ++ toldO file ++ toldO boot)).isSome (mustT (toldK boot) (mustT (toldK file) x2)))
  else (a, x2)
theorem rows_new (w : World) (cs : Array Value) (t : TypeId) (rs : List RowV) (h : cs = (rs.map rowV).toArray) (hr : ∀ r ∈ rs, RowLies w r) : RowsAt (w.alloc (.cells cs t)) ⟨w.heap.size, 0, none⟩ rs := by
  subst h
  intro j r hj
  refine ⟨?_, (hr r (List.mem_of_getElem? hj)).below ((Below.refl _ _).alloc (Nat.le_refl _) _)⟩
  rw [addr_add, Nat.zero_add]
  exact new_cell w _ _ _ _ (by rw [List.getElem?_toArray, List.getElem?_map, hj]; rfl)
theorem RowLies.lies {w : World} {a : Option Addr} {c : Nat} {ks : List Opn} (h : RowLies w (a, c, ks)) : OpLies w a ks := by
  rcases h with ⟨_, _, h⟩ | ⟨x, h1, h2⟩
  · exact .inl h
  · exact .inr ⟨x, h1, h2⟩
theorem Opts.rowlies {w : World} {base n c : Nat} {a : Option Addr} {ks : List Opn} (h : Opts w base (.slice a n c) ks) : RowLies w (a, c, ks) := by
  obtain ⟨a', c', e, hl⟩ := h.row
  simp only [rowV, Value.slice.injEq] at e
  rw [e.1, e.2.2]; exact hl
end Go.Proofs.Ytkohojifnmklmaa

/-
  Lists of records in memory: how they lie there, rows that the call made, a list behind a row.
-/
import Derived.Test.YtedbihckdbpebaaRrOpen
import Derived.Test.YtedbihckdbpebaaBName
import Derived.Laws.OwnMore
namespace Go.Proofs.Ytedbihckdbpebaa
open Go.ChangeShapes Go.WideShapes Go.ChangeAt Go.RowKit Go.Pin Go.PlainAid

theorem Try.infoRR : (Try.prog.info? 49).map (fun i => (i.zero, i.size, i.bytes)) = some (some (.agg #[.string ByteArray.empty, .int .i64 0, .int .i64 0, .int .i64 0, .string ByteArray.empty, .string ByteArray.empty, .int .i64 0]), 7, 80) := by kernel_rfl
def Recs (w : World) (base : Nat) (v : Value) (rs : List Rec) : Prop := w.ownsRow base 49 7 v rs.length (rs.flatMap cellsR)
theorem row_below {w w' : World} {base : Nat} {e : TypeId} {s : Nat} {v : Value} {n : Nat} {xs : List Value} (h : w.ownsRow base e s v n xs) (hb : Below w.heap.size w w') : w'.ownsRow base e s v n xs := by
  obtain ⟨h1, h2⟩ := h
  refine ⟨h1, ?_⟩
  rcases h2 with h2 | ⟨g, cap, cur, hv, hg, hh, r⟩
  · exact .inl h2
  · exact .inr ⟨g, cap, cur, hv, hg, (hb.block g (Array.getElem?_eq_some_iff.1 hh).1).trans hh, r⟩
theorem row_form {w : World} {base : Nat} {e : TypeId} {s : Nat} {v : Value} {n : Nat} {xs : List Value} (h : w.ownsRow base e s v n xs) : ∃ a cap, v = .slice a n cap := by
  obtain ⟨_, h | ⟨g, cap, cur, hv, _⟩⟩ := h
  · exact ⟨none, 0, by rw [h.1, h.2]⟩
  · exact ⟨_, cap, hv⟩
theorem row_cell {w : World} {base : Nat} {e : TypeId} {s : Nat} {a : Option Addr} {n cap : Nat} {xs : List Value} (h : w.ownsRow base e s (.slice a n cap) n xs) (hn : 0 < n) : ∃ g, a = some ⟨g, 0, none⟩ ∧ g < w.heap.size ∧ ∀ j, j < n * s → w.cell? ⟨g, j, none⟩ = xs[j]? := by
  have hh := h
  obtain ⟨_, h | ⟨g, cap', cur, hv, hb, hg, _⟩⟩ := h
  · omega
  · simp only [Value.slice.injEq, true_and] at hv
    obtain ⟨rfl, rfl⟩ := hv
    exact ⟨g, rfl, (Array.getElem?_eq_some_iff.1 hg).1, fun j hj => World.ownsRow.cellAt hh j hj⟩
theorem owns_apart {w : World} {b1 b2 : Nat} {e1 e2 : TypeId} {s1 s2 : Nat} {v1 v2 : Value} {n1 n2 : Nat} {xs1 xs2 : List Value} (h1 : w.ownsRow b1 e1 s1 v1 n1 xs1) (h2 : w.ownsRow b2 e2 s2 v2 n2 xs2) (hne : e1 ≠ e2) : v1.ownBlock = none ∨ v1.ownBlock ≠ v2.ownBlock := by
  rcases h1.2 with ⟨rfl, _⟩ | ⟨g, cap, cur, rfl, _, hg, _⟩
  · exact .inl rfl
  · right
    rcases h2.2 with ⟨rfl, _⟩ | ⟨g2, cap2, cur2, rfl, _, hg2, _⟩
    · simp [Value.ownBlock]
    · simp only [Value.ownBlock, ne_eq, Option.some.injEq]
      rintro rfl
      rw [hg] at hg2
      simp only [Option.some.injEq, Obj.cells.injEq] at hg2
      exact hne hg2.2.1
theorem flat_at : ∀ (l : List Rec) (I : Nat) (r : Rec) (j : Nat), l[I]? = some r → j < 7 → (l.flatMap cellsR)[I * 7 + j]? = (cellsR r)[j]?
  | [], _, _, _, h, _ => by simp at h
  | a :: l, 0, r, j, h, hj => by
    simp only [List.getElem?_cons_zero, Option.some.injEq] at h
    subst h
    rw [List.flatMap_cons, Nat.zero_mul, Nat.zero_add, List.getElem?_append_left (by simp [cellsR]; omega)]
  | a :: l, I + 1, r, j, h, hj => by
    simp only [List.getElem?_cons_succ] at h
    rw [List.flatMap_cons, List.getElem?_append_right (by simp [cellsR]; omega)]
    have : (I + 1) * 7 + j - (cellsR a).length = I * 7 + j := by simp [cellsR]; omega
    rw [this]
    exact flat_at l I r j h hj
/-- From y on there lies a record. -/
def RecFrom (w : World) (y : Addr) (r : Rec) : Prop := w.cell? y = some (.string r.n) ∧ w.cell? ⟨y.block, y.off + 1, none⟩ = some (.int .i64 r.ty) ∧ w.cell? ⟨y.block, y.off + 2, none⟩ = some (.int .i64 r.ttl) ∧ w.cell? ⟨y.block, y.off + 3, none⟩ = some (.int .i64 r.ad) ∧ w.cell? ⟨y.block, y.off + 4, none⟩ = some (.string r.tg) ∧ w.cell? ⟨y.block, y.off + 5, none⟩ = some (.string r.tx) ∧ w.cell? ⟨y.block, y.off + 6, none⟩ = some (.int .i64 r.se)
theorem RecFrom.lt {w : World} {y : Addr} {r : Rec} (h : RecFrom w y r) : y.block < w.heap.size := World.block_lt_of_cell? w _ h.1
theorem RecFrom.below {w w' : World} {y : Addr} {r : Rec} (h : RecFrom w y r) {n : Nat} (hb : Below n w w') (hn : y.block < n) : RecFrom w' y r := by
  obtain ⟨h0, h1, h2, h3, h4, h5, h6⟩ := h
  exact ⟨(hb.cell hn).trans h0, (hb.cell (p := ⟨y.block, y.off + 1, none⟩) hn).trans h1, (hb.cell (p := ⟨y.block, y.off + 2, none⟩) hn).trans h2, (hb.cell (p := ⟨y.block, y.off + 3, none⟩) hn).trans h3, (hb.cell (p := ⟨y.block, y.off + 4, none⟩) hn).trans h4, (hb.cell (p := ⟨y.block, y.off + 5, none⟩) hn).trans h5, (hb.cell (p := ⟨y.block, y.off + 6, none⟩) hn).trans h6⟩
theorem from_recs {w : World} {x : Addr} {i : Nat} {r : Rec} (h : ∀ j, j < 7 → w.cell? (x.add (i * 7 + j)) = (cellsR r)[j]?) : RecFrom w (x.add (i * 7)) r := by
  have e : ∀ j, 0 < j → (⟨(x.add (i * 7)).block, (x.add (i * 7)).off + j, none⟩ : Addr) = x.add (i * 7 + j) := by
    intro j hj
    unfold Addr.add
    rw [if_neg (by omega : ¬ (i * 7 + j = 0))]
    by_cases hz : i * 7 = 0
    · rw [if_pos hz, hz]; simp
    · rw [if_neg hz]; simp only [Addr.mk.injEq, and_true, true_and]; omega
  refine ⟨h 0 (by omega), ?_, ?_, ?_, ?_, ?_, ?_⟩
  · rw [e 1 (by omega)]; exact h 1 (by omega)
  · rw [e 2 (by omega)]; exact h 2 (by omega)
  · rw [e 3 (by omega)]; exact h 3 (by omega)
  · rw [e 4 (by omega)]; exact h 4 (by omega)
  · rw [e 5 (by omega)]; exact h 5 (by omega)
  · rw [e 6 (by omega)]; exact h 6 (by omega)
theorem RecFrom.keep {w w' : World} {y : Addr} {r : Rec} (h : RecFrom w y r) (hb : w'.heap[y.block]? = w.heap[y.block]?) : RecFrom w' y r := by
  obtain ⟨h0, h1, h2, h3, h4, h5, h6⟩ := h
  exact ⟨(World.cell?_of_block hb).trans h0, (World.cell?_of_block (a := ⟨y.block, y.off + 1, none⟩) hb).trans h1, (World.cell?_of_block (a := ⟨y.block, y.off + 2, none⟩) hb).trans h2, (World.cell?_of_block (a := ⟨y.block, y.off + 3, none⟩) hb).trans h3, (World.cell?_of_block (a := ⟨y.block, y.off + 4, none⟩) hb).trans h4, (World.cell?_of_block (a := ⟨y.block, y.off + 5, none⟩) hb).trans h5, (World.cell?_of_block (a := ⟨y.block, y.off + 6, none⟩) hb).trans h6⟩
theorem add_block (x : Addr) (n : Nat) : (x.add n).block = x.block := by unfold Addr.add; split <;> rfl
/-- The records rs lie behind the address a. -/
def RecsLie (w : World) (a : Option Addr) (rs : List Rec) : Prop := rs = [] ∨ ∃ x, a = some x ∧ ∀ j r, rs[j]? = some r → RecFrom w (x.add (j * 7)) r
theorem RecsLie.lt {w : World} {x : Addr} {rs : List Rec} (h : RecsLie w (some x) rs) (hn : rs ≠ []) : x.block < w.heap.size := by
  rcases h with h | ⟨y, e, h⟩
  · exact absurd h hn
  · cases e
    obtain ⟨r, rs', rfl⟩ : ∃ r rs', rs = r :: rs' := by cases rs with | nil => exact absurd rfl hn | cons r rs => exact ⟨r, rs, rfl⟩
    have := (h 0 r rfl).lt
    rw [add_block] at this; exact this
theorem RecsLie.keep {w w' : World} {a : Option Addr} {rs : List Rec} (h : RecsLie w a rs) (hb : ∀ x, a = some x → rs ≠ [] → w'.heap[x.block]? = w.heap[x.block]?) : RecsLie w' a rs := by
  rcases h with h | ⟨x, rfl, h⟩
  · exact .inl h
  · refine .inr ⟨x, rfl, fun j r hj => (h j r hj).keep ?_⟩
    rw [add_block]; exact hb x rfl (by intro e; rw [e] at hj; simp at hj)
theorem RecsLie.below {w w' : World} {a : Option Addr} {rs : List Rec} (h : RecsLie w a rs) (hb : Below w.heap.size w w') : RecsLie w' a rs :=
  h.keep fun x hx hn => by subst hx; exact hb.block _ (h.lt hn)
theorem row_base {w : World} {base base' : Nat} {e : TypeId} {s : Nat} {v : Value} {n : Nat} {xs : List Value} (h : w.ownsRow base e s v n xs) (hb : base' ≤ base) : w.ownsRow base' e s v n xs := by
  obtain ⟨h1, h2⟩ := h
  refine ⟨h1, ?_⟩
  rcases h2 with h2 | ⟨g, cap, cur, hv, hg, r⟩
  · exact .inl h2
  · exact .inr ⟨g, cap, cur, hv, by omega, r⟩
theorem row_set {w : World} {base c j : Nat} {u : Value} {e : TypeId} {s : Nat} {v : Value} {n : Nat} {xs : List Value} (h : w.ownsRow base e s v n xs) (hb : c < base) : (w.setCell ⟨c, j, none⟩ u).ownsRow base e s v n xs := by
  obtain ⟨h1, h2⟩ := h
  refine ⟨h1, ?_⟩
  rcases h2 with h2 | ⟨g, cap, cur, hv, hg, hh, r⟩
  · exact .inl h2
  · exact .inr ⟨g, cap, cur, hv, hg, (Below.heap_setCell _ _ _ _ (by simp only; omega)).trans hh, r⟩
theorem run_append_none {P : Program} {w : World} (base : Nat) (t ty e : TypeId) (i : TypeInfo) (size : Nat) (ht : P.underlying t = some (.slice e)) (hi : P.info? e = some i)
    (v : Value) (n : Nat) (xs : List Value) (c : Nat) (hown : w.ownsRow base e size v n xs) :
    (Builtin.append_ #[t, t] ty #[v, .slice none 0 c]).run P w = .ok v w := by
  rcases hown.2 with ⟨rfl, rfl⟩ | ⟨g, cap, cur, rfl, _, _, hnc, _⟩
  · simp [Builtin.append_, run_underlying ht, sizeOf, typeInfo, hi, Builtin.lenOf, Builtin.firstCells]
  · simp [Builtin.append_, run_underlying ht, sizeOf, typeInfo, hi, Builtin.lenOf, Builtin.firstCells, hnc, storeCells]
theorem wpList_append_none {P : Program} {w : World} {ops : Array Oper} {rest : List Oper} {o : Oper} {a : Act} {Q : Exit → Act → World → Prop} (hgd : o.guard = none) (s x : Operand) (t : TypeId)
    (ho : o.op = .call { callee := .builtin .append, args := #[s, x], argTypes := #[t, t] })
    (base : Nat) (e : TypeId) (i : TypeInfo) (size : Nat) (ht : P.underlying t = some (.slice e)) (hi : P.info? e = some i)
    (v : Value) (n : Nat) (xs : List Value) (c : Nat) (hs : a.eval s = v) (hown : w.ownsRow base e size v n xs) (hx : a.eval x = .slice none 0 c)
    (h : wpList P ops Q rest (a.put o.dst v) w) : wpList P ops Q (o :: rest) a w := by
  refine wpList_plain hgd fun K hK => ?_
  have hrun := run_append_none (P := P) (w := w) base t o.type e i size ht hi v n xs c hown
  unfold Oper.wp
  simp [execOp, ho, resolve, invoke, builtin, hs, hx, hrun, Result.andThen]
  exact hK _ _ h
theorem recs_empty (w : World) : Recs (w.alloc (.cells #[] 49)) w.heap.size (.slice (some ⟨w.heap.size, 0, none⟩) 0 0) [] :=
  World.ownsRow_lit w #[] 0 (Nat.le_refl _) (by unfold maxLen; omega) rfl
theorem cellsR_len (rs : List Rec) : (rs.flatMap cellsR).length = rs.length * 7 := by
  induction rs with
  | nil => rfl
  | cons r rs ih => simp [List.flatMap_cons, ih, cellsR]; omega
theorem cellsR_one (rs : List Rec) : ∀ u ∈ rs.flatMap cellsR, u.oneCell' = true := by
  intro u hu
  simp only [List.mem_flatMap, cellsR] at hu
  obtain ⟨r, _, hu⟩ := hu
  simp at hu
  rcases hu with rfl | rfl | rfl | rfl | rfl | rfl | rfl <;> rfl
theorem add_more (x : Addr) (a k : Nat) (hk : k ≠ 0) : x.add (a + k) = ⟨(x.add a).block, (x.add a).off + k, none⟩ := by
  unfold Addr.add
  rw [if_neg (by omega)]
  by_cases h : a = 0
  · subst h; simp
  · rw [if_neg h]; simp; omega
theorem rcells_of_from {w : World} {x : Addr} {rs : List Rec} (h : ∀ j r, rs[j]? = some r → RecFrom w (x.add (j * 7)) r) : ∀ j u, (rs.flatMap cellsR)[j]? = some u → w.cell? (x.add j) = some u := by
  intro j u hj
  have hjl := (List.getElem?_eq_some_iff.1 hj).1
  rw [cellsR_len] at hjl
  obtain ⟨q, k, rfl, hk⟩ : ∃ q k, j = q * 7 + k ∧ k < 7 := ⟨j / 7, j % 7, by omega, by omega⟩
  obtain ⟨r, hr⟩ : ∃ r, rs[q]? = some r := ⟨_, List.getElem?_eq_getElem (by omega)⟩
  have hf := flat_at rs q r k hr hk
  rw [hj] at hf
  obtain ⟨h0, h1, h2, h3, h4, h5, h6⟩ := h q r hr
  rcases (by omega : k = 0 ∨ k = 1 ∨ k = 2 ∨ k = 3 ∨ k = 4 ∨ k = 5 ∨ k = 6) with rfl | rfl | rfl | rfl | rfl | rfl | rfl
  · rw [Nat.add_zero, h0]; exact hf.symm
  · rw [add_more _ _ _ (by omega), h1]; exact hf.symm
  · rw [add_more _ _ _ (by omega), h2]; exact hf.symm
  · rw [add_more _ _ _ (by omega), h3]; exact hf.symm
  · rw [add_more _ _ _ (by omega), h4]; exact hf.symm
  · rw [add_more _ _ _ (by omega), h5]; exact hf.symm
  · rw [add_more _ _ _ (by omega), h6]; exact hf.symm
/-- A list that is nil, or leads to its cells. -/
def Led (w : World) (a : Option Addr) (n : Nat) (cs : List Value) : Prop := (a = none ∧ n = 0) ∨ ∃ x, a = some x ∧ ∀ j u, cs[j]? = some u → w.cell? (x.add j) = some u
theorem Led.below {w w' : World} {a : Option Addr} {n : Nat} {cs : List Value} (h : Led w a n cs) (hb : Below w.heap.size w w') : Led w' a n cs := by
  rcases h with h | ⟨x, h1, h2⟩
  · exact .inl h
  · exact .inr ⟨x, h1, fun j u hj => (hb.cell (World.block_lt_of_cell? w _ (h2 j u hj))).trans (h2 j u hj)⟩
theorem led_recs {w : World} {a : Option Addr} {rs : List Rec} (h : RecsLie w a rs) : Led w a rs.length (rs.flatMap cellsR) := by
  rcases h with rfl | ⟨x, rfl, h⟩
  · cases a with
    | none => exact .inl ⟨rfl, rfl⟩
    | some x => exact .inr ⟨x, rfl, fun j u hj => by simp at hj⟩
  · exact .inr ⟨x, rfl, rcells_of_from h⟩
theorem heap_set {w : World} {c j : Nat} {cs : Array Value} {t : TypeId} {fr : Nat × Nat} {v : Value} (h : w.heap[c]? = some (.cells cs t fr)) : (w.setCell ⟨c, j, none⟩ v).heap[c]? = some (.cells (cs.setIfInBounds j v) t fr) := by
  simp [World.setCell, Array.getElem?_modify, h]

end Go.Proofs.Ytedbihckdbpebaa

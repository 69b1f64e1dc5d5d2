/-
  Contracts of package opts's reader: what is joined to what was taken.
-/
import Derived.Test.YtkohojifnmklmaaOptGet
namespace Go.Proofs.Ytkohojifnmklmaa
open Go.ChangeShapes Go.WideShapes Go.ChangeAt Go.RowKit Go.Pin Go.PlainAid

/-- Block m is a map that tells where each code stands. -/
def PlacesO (w : World) (m : Nat) (os : List Opn) : Prop := ∃ D : DataW Unit, w.ownsMap Try.prog 3 (plainElem Try.prog 3) m os.length D ∧ ∀ c : Int, Maps.has D (.int .i64 c) = (placeO os c).isSome ∧ D.atKey (.int .i64 c) (.lit (.int .i64 0)) = .lit (.int .i64 (((placeO os c).getD 0 : Nat) : Int))
theorem PlacesO.keep {w w' : World} {m : Nat} {os : List Opn} (h : PlacesO w m os) (he : w'.heap[m]? = w.heap[m]?) : PlacesO w' m os := by
  obtain ⟨D, ⟨es, clock, hb, r⟩, hf⟩ := h
  exact ⟨D, ⟨es, clock, he.trans hb, r⟩, hf⟩
theorem PlacesO.lt {w : World} {m : Nat} {os : List Opn} (h : PlacesO w m os) : m < w.heap.size := by
  obtain ⟨D, hown, _⟩ := h
  exact hown.lt
theorem PlacesO.not {w : World} {m base : Nat} {os os' : List Opn} {v : Value} (h : PlacesO w m os) (ho : Opts w base v os') : v.ownBlock ≠ some m := by
  obtain ⟨D, ⟨es, clock, hb, r⟩, hf⟩ := h
  intro e
  obtain ⟨_, ⟨rfl, _⟩ | ⟨g, cap, cur, rfl, _, hh, _⟩⟩ := ho
  · cases e
  · simp only [Value.ownBlock, Option.some.injEq] at e
    subst e
    rw [hb] at hh
    cases hh
theorem PlacesO.codes {w : World} {m : Nat} {os os' : List Opn} (h : PlacesO w m os) (he : os'.map (·.1) = os.map (·.1)) : PlacesO w m os' := by
  obtain ⟨D, hown, hf⟩ := h
  have hl : os'.length = os.length := by have := congrArg List.length he; simpa using this
  exact ⟨D, by rw [hl]; exact hown, fun c => by rw [place_codes he c]; exact hf c⟩
theorem oPlaces_put {w : World} {m : Nat} {os : List Opn} {D : DataW Unit} {c : Int} (hw : (Lit.int .i64 c).wf = true) (hown : w.ownsMap Try.prog 3 (plainElem Try.prog 3) m (os.length + 1) (D.put (.int .i64 c) (.lit (.int .i64 (os.length : Int))))) (hD : Maps.IsMap D)
    (hf : ∀ c : Int, Maps.has D (.int .i64 c) = (placeO os c).isSome ∧ D.atKey (.int .i64 c) (.lit (.int .i64 0)) = .lit (.int .i64 (((placeO os c).getD 0 : Nat) : Int))) (hn : placeO os c = none) (d : List UInt8) : PlacesO w m (os ++ [(c, d)]) := by
  have hk := Try.intKeyed.key (Maps.keyOf_int_mk Try.underlying3 hw)
  refine ⟨_, by simpa using hown, fun x => ?_⟩
  rw [place_snoc]
  by_cases hx : x = c
  · subst hx
    rw [Maps.has_put_same hD hk, Maps.atKey_put_same hD hk, hn]
    simp
  · have hne : (Lit.int .i64 x) ≠ .int .i64 c := by intro e; injection e with _ e; exact hx e
    rw [Maps.has_put_other hne, Maps.atKey_put_other hne]
    have := hf x
    cases hp : placeO os x with
    | some j => rw [hp] at this; simpa using this
    | none =>
      rw [hp] at this
      simp only
      rw [if_neg (fun e => hx (Eq.symm e))]
      simpa using this

/-- Block b is a reader of options: how far it is, what it took. -/
structure RdAt (w : World) (n b m : Nat) (s : ByteArray) (x : Tk) (os : List Opn) : Prop where
  tk : TkAt w b s x
  ex : ∃ a cap, w.cell? ⟨b, 3, none⟩ = some (.slice a os.length cap) ∧ Opts w (b + 1) (.slice a os.length cap) os
  c4 : w.cell? ⟨b, 4, none⟩ = some (.map (some m))
  pl : PlacesO w m os
  nb : n ≤ b
  nm : n ≤ m
  mb : m ≠ b
theorem opCells_set {os : List Opn} {j : Nat} {o : Opn} (hj : j < os.length) (hc : (opAt os j).1 = o.1) : opCells (os.set j o) = (opCells os).set (j * 2 + 1) (.string (mk o.2)) := by
  induction os generalizing j with
  | nil => simp at hj
  | cons k r ih =>
    have e1 : opCells (k :: r) = .int .i64 k.1 :: .string (mk k.2) :: opCells r := rfl
    cases j with
    | zero =>
      have : k.1 = o.1 := hc
      simp [opCells, this]
    | succ j =>
      have := ih (j := j) (by simp at hj; omega) hc
      have e2 : opCells ((k :: r).set (j + 1) o) = .int .i64 k.1 :: .string (mk k.2) :: opCells (r.set j o) := rfl
      rw [e1, e2, this, show (j + 1) * 2 + 1 = (j * 2 + 1) + 1 + 1 by omega]
      rfl
theorem set_opts {w : World} {base g cap : Nat} {os : List Opn} (h : Opts w base (.slice (some ⟨g, 0, none⟩) os.length cap) os) {j : Nat} {o : Opn} (hj : j < os.length) (hc : (opAt os j).1 = o.1) :
    Opts (w.setCell ⟨g, j * 2 + 1, none⟩ (.string (mk o.2))) base (.slice (some ⟨g, 0, none⟩) os.length cap) (os.set j o) := by
  have := World.ownsRow.stored h (j * 2 + 1) (.string (mk o.2))
  unfold Opts
  rw [opCells_set hj hc, List.length_set]
  exact this.1

theorem Opts.turn {w w' : World} {b base : Nat} {v : Value} {os : List Opn} (h : Opts w base v os) (hU : Turn b w w') (hb : b < base) : Opts w' base v os := by
  obtain ⟨h1, h2⟩ := h
  refine ⟨h1, ?_⟩
  rcases h2 with h2 | ⟨g, cap, cur, hv, hg, hh, r⟩
  · exact .inl h2
  · exact .inr ⟨g, cap, cur, hv, hg, (hU.oth g (by omega) (Array.getElem?_eq_some_iff.1 hh).1).trans hh, r⟩
theorem RdAt.turn {w w' : World} {n b m : Nat} {s : ByteArray} {x y : Tk} {os : List Opn} (h : RdAt w n b m s x os) (hT : TkAt w' b s y) (hU : Turn b w w') : RdAt w' n b m s y os := by
  obtain ⟨_, ⟨a, cap, c3, hO⟩, c4, hP, nb, nm, mb⟩ := h
  exact ⟨hT, ⟨a, cap, (hU.cel 3 (by omega)).trans c3, hO.turn hU (by omega)⟩, (hU.cel 4 (by omega)).trans c4, hP.keep (hU.oth m mb hP.lt), nb, nm, mb⟩
theorem TkAt.other {w : World} {b : Nat} {s : ByteArray} {x : Tk} (h : TkAt w b s x) {g j : Nat} (hg : b ≠ g) (u : Value) : TkAt (w.setCell ⟨g, j, none⟩ u) b s x := by
  have hb : (w.setCell ⟨g, j, none⟩ u).heap[b]? = w.heap[b]? := Below.heap_setCell _ _ _ _ hg
  exact ⟨(World.cell?_of_block hb).trans h.c0, (World.cell?_of_block hb).trans h.c1, (World.cell?_of_block hb).trans h.c2, fun j => (World.frozen?_of_block hb).trans (h.fz j), by rw [setCell_size]; exact h.lt, h.rg, h.wf⟩
/-- More bytes for one that there is. -/
theorem rd_more {w : World} {n b m : Nat} {s : ByteArray} {x : Tk} {os : List Opn} {c : Int} {d : List UInt8} {j g cap : Nat} (h : RdAt w n b m s x os) (c3 : w.cell? ⟨b, 3, none⟩ = some (.slice (some ⟨g, 0, none⟩) os.length cap)) (hp : placeO os c = some j) :
    RdAt (w.setCell ⟨g, j * 2 + 1, none⟩ (.string (mk (opAt os j).2 ++ mk d))) n b m s x (joinO os c d) ∧ Below n w (w.setCell ⟨g, j * 2 + 1, none⟩ (.string (mk (opAt os j).2 ++ mk d))) ∧
      (w.setCell ⟨g, j * 2 + 1, none⟩ (.string (mk (opAt os j).2 ++ mk d))).cell? ⟨b, 3, none⟩ = some (.slice (some ⟨g, 0, none⟩) os.length cap) ∧
      (w.setCell ⟨g, j * 2 + 1, none⟩ (.string (mk (opAt os j).2 ++ mk d))).cell? ⟨g, j * 2 + 1, none⟩ = some (.string (mk (opAt os j).2 ++ mk d)) := by
  obtain ⟨hT, ⟨a, cap', c3', hO⟩, c4, hP, nb, nm, mb⟩ := h
  rw [c3] at c3'
  simp only [Option.some.injEq, Value.slice.injEq, true_and] at c3'
  obtain ⟨rfl, rfl⟩ := c3'
  have hj := place_lt hp
  have hg : b + 1 ≤ g := by
    rcases hO.2 with ⟨h, _⟩ | ⟨g', cap', cur, hv, hg, _⟩
    · cases h
    · simp only [Value.slice.injEq, Option.some.injEq, Addr.mk.injEq, and_true] at hv; omega
  have hmg : m ≠ g := fun e => hP.not hO (by rw [e]; rfl)
  have hcell : w.cell? ⟨g, j * 2 + 1, none⟩ = some (.string (mk (opAt os j).2)) := by
    rw [World.ownsRow.cellAt hO _ (by omega)]; exact (opCells_at os j hj).2
  have hc1 : (opAt os j).1 = c := (find_old hp).2
  have e : joinO os c d = os.set j (c, (opAt os j).2 ++ d) := join_old hp d
  have hbk : ∀ k, k ≠ g → (w.setCell ⟨g, j * 2 + 1, none⟩ (.string (mk (opAt os j).2 ++ mk d))).heap[k]? = w.heap[k]? := fun k hk => Below.heap_setCell _ _ _ _ hk
  refine ⟨⟨hT.other (by omega) _, ⟨some ⟨g, 0, none⟩, cap, ?_, ?_⟩, (World.cell?_of_block (hbk b (by omega))).trans c4, ?_, nb, nm, mb⟩, (Below.refl n w).setCell (show n ≤ (⟨g, j * 2 + 1, none⟩ : Addr).block by simp only; omega) _, (World.cell?_of_block (hbk b (by omega))).trans c3, way_cell hcell hcell |>.trans (by simp)⟩
  · rw [join_len_old hp]; exact (World.cell?_of_block (hbk b (by omega))).trans c3
  · rw [join_len_old hp, e, mk_append]
    exact set_opts (o := (c, (opAt os j).2 ++ d)) hO hj hc1
  · rw [e]
    exact (hP.keep (hbk m hmg)).codes (codes_set hp _)
theorem room_old {os : List Opn} {c : Int} {j : Nat} (hp : placeO os c = some j) (d : List UInt8) (hl : os.length ≤ 32) : roomO (joinO os c d) c = decide (((mk (opAt os j).2).size : Int) + ((mk d).size : Int) ≤ 512) := by
  have h1 := (find_old (join_place hp d)).1
  rw [join_old hp d] at h1
  have hj := place_lt hp
  have h2 : (os.set j (c, (os.getD j (0, [])).2 ++ d)).getD j (0, []) = (c, (os.getD j (0, [])).2 ++ d) := by
    rw [List.getD_eq_getElem?_getD (l := os.set j _), List.getElem?_set_self hj]; rfl
  rw [h2] at h1
  unfold roomO
  rw [join_len_old hp, join_old hp d, h1, size_mk, size_mk]
  simp only [Option.getD_some]
  have e : opAt os j = os.getD j (0, []) := rfl
  rw [e]
  have : decide (os.length ≤ 32) = true := by simpa using hl
  rw [this, Bool.true_and]
  apply decide_eq_decide.2
  rw [List.length_append]
  omega

theorem room_new {os : List Opn} {c : Int} (hp : placeO os c = none) (d : List UInt8) : roomO (joinO os c d) c = (decide ((os.length : Int) + 1 ≤ 32) && decide (((mk d).size : Int) ≤ 512)) := by
  unfold roomO
  rw [join_new hp, find_last hp, size_mk]
  simp only [List.length_append, List.length_cons, List.length_nil, Option.getD_some]
  congr 1
  · apply decide_eq_decide.2; omega
  · apply decide_eq_decide.2; omega

/-- A new one, without bytes yet. -/
theorem rd_new {w w2 w3 : World} {n b m : Nat} {s : ByteArray} {x : Tk} {os : List Opn} {c : Int} {D : DataW Unit} {a : Option Addr} {cap : Nat} {v : Value} {o : Obj} (h : RdAt w n b m s x os) (c3 : w.cell? ⟨b, 3, none⟩ = some (.slice a os.length cap)) (hw : (Lit.int .i64 c).wf = true) (hn : placeO os c = none)
    (hown : w.ownsMap Try.prog 3 (plainElem Try.prog 3) m os.length D) (hf : ∀ c : Int, Maps.has D (.int .i64 c) = (placeO os c).isSome ∧ D.atKey (.int .i64 c) (.lit (.int .i64 0)) = .lit (.int .i64 (((placeO os c).getD 0 : Nat) : Int)))
    (hown2 : w2.ownsMap Try.prog 3 (plainElem Try.prog 3) m (os.length + 1) (D.put (.int .i64 c) (.lit (.int .i64 (os.length : Int))))) (hg2 : w.grownBy w2 (some m))
    (hrow : w3.ownsRow (b + 1) 39 2 v (os.length + 1) (opCells os ++ [.int .i64 c, .string ⟨#[]⟩])) (hg3 : (w2.alloc o).grownBy w3 (Value.slice a os.length cap).ownBlock) :
    ∃ g cap', v = .slice (some ⟨g, 0, none⟩) (os.length + 1) cap' ∧ RdAt (w3.setCell ⟨b, 3, none⟩ v) n b m s x (os ++ [(c, [])]) ∧ Below n w (w3.setCell ⟨b, 3, none⟩ v) ∧ (w3.setCell ⟨b, 3, none⟩ v).cell? ⟨b, 3, none⟩ = some v ∧ w3.cell? ⟨b, 3, none⟩ = some (.slice a os.length cap) ∧ w3.frozen? ⟨b, 3, none⟩ = false ∧ g ≠ b ∧
      (w3.setCell ⟨b, 3, none⟩ v).cell? ⟨g, os.length * 2 + 1, none⟩ = some (.string ⟨#[]⟩) ∧ (w3.setCell ⟨b, 3, none⟩ v).frozen? ⟨g, os.length * 2 + 1, none⟩ = false := by
  have hP0 := h.pl
  obtain ⟨hT, ⟨a0, cap0, c30, hO⟩, c4, hP, nb, nm, mb⟩ := h
  rw [c3] at c30
  simp only [Option.some.injEq, Value.slice.injEq, true_and] at c30
  obtain ⟨rfl, rfl⟩ := c30
  have hnot : (Value.slice a os.length cap).ownBlock ≠ some m := hP0.not hO
  have hsz2 := hg2.size
  have hlb := hT.lt
  have hlm := hP0.lt
  have b2 : w2.heap[b]? = w.heap[b]? := hg2.block b hlb (by simp [Ne.symm mb])
  have hrowO : ∀ k, (Value.slice a os.length cap).ownBlock = some k → b + 1 ≤ k ∧ k < w.heap.size := World.ownsRow.lt hO
  have b3 : w3.heap[b]? = w.heap[b]? := (hg3.block b (by simp; omega) (fun e => by have := (hrowO _ e.symm).1; omega)).trans ((Below.heap_alloc _ _ _ (by omega)).trans b2)
  have m3 : w3.heap[m]? = w2.heap[m]? := (hg3.block m (by simp; omega) (fun e => hnot e.symm)).trans (Below.heap_alloc _ _ _ (by omega))
  obtain ⟨g, cap', hv, hgb⟩ : ∃ g cap', v = .slice (some ⟨g, 0, none⟩) (os.length + 1) cap' ∧ b + 1 ≤ g := by
    rcases hrow.2 with ⟨_, h⟩ | ⟨g, cap', cur, hv, hg, _⟩
    · omega
    · exact ⟨g, cap', hv, hg⟩
  have hb4 : ∀ k, k ≠ b → (w3.setCell ⟨b, 3, none⟩ v).heap[k]? = w3.heap[k]? := fun k hk => Below.heap_setCell _ _ _ _ hk
  have d3 : w3.cell? ⟨b, 3, none⟩ = some (.slice a os.length cap) := (World.cell?_of_block (a := ⟨b, 3, none⟩) b3).trans c3
  have hO3 : Opts w3 (b + 1) v (os ++ [(c, [])]) := by
    unfold Opts
    rw [opCells_append]
    have e : (os ++ [(c, ([] : List UInt8))]).length = os.length + 1 := by simp
    rw [e]
    exact hrow
  have hO4 : Opts (w3.setCell ⟨b, 3, none⟩ v) (b + 1) v (os ++ [(c, [])]) := ownsRow_setCell_below hO3 (by simp only; omega) _
  have hsz3 : w.heap.size ≤ w3.heap.size := by have := hg3.size; simp at this; omega
  have hT4 : TkAt (w3.setCell ⟨b, 3, none⟩ v) b s x := by
    have k0 := (World.cell?_of_block (a := ⟨b, 0, none⟩) b3).trans hT.c0
    have k1 := (World.cell?_of_block (a := ⟨b, 1, none⟩) b3).trans hT.c1
    have k2 := (World.cell?_of_block (a := ⟨b, 2, none⟩) b3).trans hT.c2
    exact ⟨way_cell k0 d3, way_cell k1 d3, way_cell k2 d3, fun j => by rw [World.frozen?_setCell]; exact (World.frozen?_of_block (a := ⟨b, j, none⟩) b3).trans (hT.fz j), by rw [setCell_size]; omega, hT.rg, hT.wf⟩
  refine ⟨g, cap', hv, ⟨hT4, ⟨some ⟨g, 0, none⟩, cap', ?_, ?_⟩, way_cell ((World.cell?_of_block (a := ⟨b, 4, none⟩) b3).trans c4) d3, ?_, nb, nm, mb⟩, ?_, way_cell d3 d3, d3, (World.frozen?_of_block (a := ⟨b, 3, none⟩) b3).trans (hT.fz 3), by omega, ?_, ?_⟩
  · have e : (os ++ [(c, ([] : List UInt8))]).length = os.length + 1 := by simp
    rw [e, ← hv]; exact way_cell d3 d3
  · have e : (os ++ [(c, ([] : List UInt8))]).length = os.length + 1 := by simp
    rw [e, ← hv]; exact hO4
  · exact (oPlaces_put hw hown2 hown.isMap hf hn []).keep ((hb4 m mb).trans m3)
  · have B2 : Below n w w2 := ⟨hg2.os, hg2.tape, hg2.output, hg2.size, fun k hk => hg2.block k (by omega) (by simp; omega)⟩
    exact ((B2.alloc (by omega) o).grown hg3 (by simp; omega) (fun k hk => by have := (hrowO k hk).1; omega)).setCell (show n ≤ (⟨b, 3, none⟩ : Addr).block from nb) _
  · have := hO4
    unfold Opts at this
    have e : (os ++ [(c, ([] : List UInt8))]).length = os.length + 1 := by simp
    rw [e] at this
    rw [hv] at this ⊢
    rw [World.ownsRow.cellAt this _ (by omega), opCells_append, List.getElem?_append_right (by rw [opCells_len]; omega), opCells_len]
    rw [show os.length * 2 + 1 - os.length * 2 = 1 by omega]
    rfl
  · have := hO4
    unfold Opts at this
    have e : (os ++ [(c, ([] : List UInt8))]).length = os.length + 1 := by simp
    rw [e] at this
    rw [hv] at this ⊢
    exact World.ownsRow.frozenAt this _

end Go.Proofs.Ytkohojifnmklmaa

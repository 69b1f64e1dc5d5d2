/-
  Several texts in one.
-/
import Derived.Test.YtkohojifnmklmaaBTake
import Derived.Deep.RegionLaw
import Derived.Lib.BufferWrite
import Derived.Test.YtkohojifnmklmaaBPut
import Derived.Lib.AppendStr
import Derived.Deep.RegionHeld3
/-
  Contracts of package giver: numbers, texts and names that it puts, at every state.
-/
namespace Go.Proofs.Ytkohojifnmklmaa
set_option maxRecDepth 100000
open Go.ChangeShapes Go.WideShapes Go.ChangeAt Go.RowKit Go.Pin Go.PlainAid

/-- v is a slice of the bytes P that the call made, behind 'base'. -/
def Bytes (w : World) (base : Nat) (v : Value) (P : List UInt8) : Prop := w.ownsRow base 5 1 v P.length (Lib.strCells (mk P))
theorem Bytes.nil (w : World) (base : Nat) : Bytes w base (.slice none 0 0) [] := World.ownsRow_nil _ _ _ _
theorem Bytes.keep {w w' : World} {base : Nat} {v : Value} {P : List UInt8} (h : Bytes w base v P) (hb : ∀ g, v.ownBlock = some g → w'.heap[g]? = w.heap[g]?) : Bytes w' base v P := by
  obtain ⟨h1, h2⟩ := h
  refine ⟨h1, ?_⟩
  rcases h2 with h2 | ⟨g, cap, cur, hv, hg, hh, r⟩
  · exact .inl h2
  · exact .inr ⟨g, cap, cur, hv, hg, (hb g (by rw [hv]; rfl)).trans hh, r⟩
theorem Bytes.form {w : World} {base : Nat} {v : Value} {P : List UInt8} (h : Bytes w base v P) : ∃ a cap, v = .slice a P.length cap := by
  obtain ⟨_, h | ⟨g, cap, cur, hv, _⟩⟩ := h
  · exact ⟨none, 0, by rw [h.1, h.2]⟩
  · exact ⟨_, cap, hv⟩
/-- Is block c a row of bytes? -/
def isBytes (w : World) (c : Nat) : Prop := ∃ cur f, w.heap[c]? = some (.cells cur 5 f)
theorem Bytes.is {w : World} {base : Nat} {v : Value} {P : List UInt8} (h : Bytes w base v P) {g : Nat} (hg : v.ownBlock = some g) : isBytes w g ∧ base ≤ g := by
  obtain ⟨_, h | ⟨g', cap, cur, hv, hb, hh, _⟩⟩ := h
  · rw [h.1] at hg; cases hg
  · rw [hv] at hg
    simp only [Value.ownBlock, Option.some.injEq] at hg
    subst hg
    exact ⟨⟨cur, _, hh⟩, hb⟩
/-- From w to w' nothing turned but the cells of block b, rows of bytes behind it, and what is new. -/
structure Ink (b : Nat) (w w' : World) : Prop where
  bel : Below b w w'
  oth : ∀ c, c < w.heap.size → c ≠ b → ¬ isBytes w c → w'.heap[c]? = w.heap[c]?
theorem Ink.refl (b : Nat) (w : World) : Ink b w w := ⟨Below.refl _ _, fun _ _ _ _ => rfl⟩
theorem Ink.trans {b : Nat} {w w1 w2 : World} (h1 : Ink b w w1) (h2 : Ink b w1 w2) : Ink b w w2 :=
  ⟨h1.bel.trans h2.bel, fun c hl hb hn => by
    have e := h1.oth c hl hb hn
    exact (h2.oth c (Nat.lt_of_lt_of_le hl h1.bel.size) hb (fun ⟨cur, f, hf⟩ => hn ⟨cur, f, e ▸ hf⟩)).trans e⟩
theorem Ink.of_below {b : Nat} {w w' : World} (h : Below w.heap.size w w') (hb : b < w.heap.size) : Ink b w w' := ⟨h.mono (Nat.le_of_lt hb), fun c hl _ _ => h.block c hl⟩
theorem Ink.set {b : Nat} (w : World) (j : Nat) (u : Value) : Ink b w (w.setCell ⟨b, j, none⟩ u) :=
  ⟨(Below.refl b w).setCell (show b ≤ (⟨b, j, none⟩ : Addr).block from Nat.le_refl b) u, fun _ _ hc _ => Below.heap_setCell _ _ _ _ hc⟩
theorem Ink.grown {b : Nat} {w w' : World} {v : Value} {P : List UInt8} (h : Bytes w (b + 1) v P) (hg : w.grownBy w' v.ownBlock) (hb : b < w.heap.size) : Ink b w w' :=
  ⟨⟨hg.os, hg.tape, hg.output, hg.size, fun k hk => hg.block k (by omega) (fun e => by have := (h.is e.symm).2; omega)⟩,
   fun c hl _ hn => hg.block c hl (fun e => hn (h.is e.symm).1)⟩

theorem KnLies.keep {w w' : World} {a : Option Addr} {ks : List Kn} (h : KnLies w a ks) (hb : ∀ x, a = some x → ks ≠ [] → w'.heap[x.block]? = w.heap[x.block]?) : KnLies w' a ks := by
  rcases h with h | ⟨x, rfl, h⟩
  · exact .inl h
  · refine .inr ⟨x, rfl, fun j hj => ?_⟩
    have hx := hb x rfl (by intro e; rw [e] at hj; simp at hj)
    obtain ⟨h1, h2⟩ := h j hj
    have hbk : (x.add (j * 2)).block = x.block := by unfold Addr.add; split <;> rfl
    refine ⟨(World.cell?_of_block ?_).trans h1, (World.cell?_of_block ?_).trans h2⟩
    · rw [hbk]; exact hx
    · simp only; rw [hbk]; exact hx
theorem KnLies.lt {w : World} {x : Addr} {ks : List Kn} (h : KnLies w (some x) ks) (hk : ks ≠ []) : x.block < w.heap.size := by
  rcases h with h | ⟨y, e, h⟩
  · exact absurd h hk
  · cases e
    have := (h 0 (List.length_pos_iff.2 hk)).1
    have hbk : (x.add (0 * 2)).block = x.block := by unfold Addr.add; split <;> rfl
    have hlt := World.block_lt_of_cell? w _ this
    rw [hbk] at hlt
    exact hlt

theorem Knowns.not {w : World} {base : Nat} {v : Value} {ks : List Kn} (h : Knowns w base v ks) {g : Nat} (hg : v.ownBlock = some g) : ¬ isBytes w g ∧ base ≤ g ∧ g < w.heap.size := by
  obtain ⟨_, h | ⟨g', cap, cur, hv, hb, hh, _⟩⟩ := h
  · rw [h.1] at hg; cases hg
  · rw [hv] at hg
    simp only [Value.ownBlock, Option.some.injEq] at hg
    subst hg
    refine ⟨fun ⟨c2, f, e⟩ => ?_, hb, (Array.getElem?_eq_some_iff.1 hh).1⟩
    rw [hh] at e
    simp only [Option.some.injEq, Obj.cells.injEq] at e
    exact absurd e.2.1 (by decide)
theorem Knowns.keep {w w' : World} {base : Nat} {v : Value} {ks : List Kn} (h : Knowns w base v ks) (hb : ∀ g, v.ownBlock = some g → w'.heap[g]? = w.heap[g]?) : Knowns w' base v ks := by
  obtain ⟨h1, h2⟩ := h
  refine ⟨h1, ?_⟩
  rcases h2 with h2 | ⟨g, cap, cur, hv, hg, hh, r⟩
  · exact .inl h2
  · exact .inr ⟨g, cap, cur, hv, hg, (hb g (by rw [hv]; rfl)).trans hh, r⟩
theorem Knowns.ink {w w' : World} {b : Nat} {v : Value} {ks : List Kn} (h : Knowns w (b + 1) v ks) (hi : Ink b w w') : Knowns w' (b + 1) v ks :=
  h.keep fun g hg => by obtain ⟨h1, h2, h3⟩ := h.not hg; exact hi.oth g h3 (by omega) h1

/-- What is put, what is known, is it refused. -/
structure Wt where
  P : List UInt8
  ks : List Kn
  rf : Bool
/-- Block b is a writer at this state. -/
structure Wr (w : World) (b : Nat) (at_ : Int) (G : Bool) (x : Wt) : Prop where
  c0 : w.cell? ⟨b, 0, none⟩ = some (.int .i64 at_)
  c3 : w.cell? ⟨b, 3, none⟩ = some (.bool x.rf)
  ex : ∃ a cap ka kcap, w.cell? ⟨b, 1, none⟩ = some (.slice a x.P.length cap) ∧ Bytes w (b + 1) (.slice a x.P.length cap) x.P ∧ w.cell? ⟨b, 2, none⟩ = some (.slice ka x.ks.length kcap) ∧ KnLies w ka x.ks ∧
    (∀ y, ka = some y → x.ks ≠ [] → y.block < b ∨ (y.block ≠ b ∧ ¬ isBytes w y.block)) ∧ (G = true → x.rf = false → Knowns w (b + 1) (.slice ka x.ks.length kcap) x.ks)
  fz : ∀ j, w.frozen? ⟨b, j, none⟩ = false
  lt : b < w.heap.size
theorem Wr.below {w w' : World} {b : Nat} {at_ : Int} {G : Bool} {x : Wt} (h : Wr w b at_ G x) (hb : Below w.heap.size w w') : Wr w' b at_ G x := by
  obtain ⟨c0, c3, ⟨a, cap, ka, kcap, h1, h2, h3, h4, h5, h6⟩, fz, lt⟩ := h
  have hc : ∀ j, w'.cell? ⟨b, j, none⟩ = w.cell? ⟨b, j, none⟩ := fun j => hb.cell lt
  refine ⟨(hc 0).trans c0, (hc 3).trans c3, ⟨a, cap, ka, kcap, (hc 1).trans h1, h2.keep (fun g hg => ?_), (hc 2).trans h3, h4.below hb, fun y hy hn => ?_, fun hG hr => (h6 hG hr).below hb⟩, fun j => (hb.frozen lt).trans (fz j), Nat.lt_of_lt_of_le lt hb.size⟩
  · obtain ⟨⟨cur, f, hf⟩, _⟩ := h2.is hg
    exact hb.block g (Array.getElem?_eq_some_iff.1 hf).1
  · rcases h5 y hy hn with h | ⟨h, hh⟩
    · exact .inl h
    · subst hy
      refine .inr ⟨h, fun ⟨cur, f, hf⟩ => hh ⟨cur, f, ?_⟩⟩
      rw [hb.block _ (h4.lt hn)] at hf; exact hf

/-- Behind an append: the row turns, the cell that holds it is yet to be stored. -/
theorem Wr.more {w w' : World} {b : Nat} {at_ : Int} {G : Bool} {P : List UInt8} {ks : List Kn} {rf : Bool} {a : Option Addr} {cap : Nat} {ka : Option Addr} {kcap : Nat} {v' : Value} {Q : List UInt8}
    (lt : b < w.heap.size) (c0 : w.cell? ⟨b, 0, none⟩ = some (.int .i64 at_)) (c1 : w.cell? ⟨b, 1, none⟩ = some (.slice a P.length cap)) (c2 : w.cell? ⟨b, 2, none⟩ = some (.slice ka ks.length kcap)) (c3 : w.cell? ⟨b, 3, none⟩ = some (.bool rf))
    (h2 : Bytes w (b + 1) (.slice a P.length cap) P) (h4 : KnLies w ka ks) (h5 : ∀ y, ka = some y → ks ≠ [] → y.block < b ∨ (y.block ≠ b ∧ ¬ isBytes w y.block)) (h6 : G = true → rf = false → Knowns w (b + 1) (.slice ka ks.length kcap) ks) (fz : ∀ j, w.frozen? ⟨b, j, none⟩ = false)
    (hg : w.grownBy w' (Value.slice a P.length cap).ownBlock) (hv : Bytes w' (b + 1) v' Q) : Wr (w'.setCell ⟨b, 1, none⟩ v') b at_ G ⟨Q, ks, rf⟩ := by
  have hi := Ink.grown h2 hg lt
  have hbk : w'.heap[b]? = w.heap[b]? := hg.block b lt (fun e => by have := (h2.is e.symm).2; omega)
  have hc : ∀ j, w'.cell? ⟨b, j, none⟩ = w.cell? ⟨b, j, none⟩ := fun j => World.cell?_of_block hbk
  have hf : ∀ j, w'.frozen? ⟨b, j, none⟩ = w.frozen? ⟨b, j, none⟩ := fun j => World.frozen?_of_block hbk
  have d0 := (hc 0).trans c0
  have d1 := (hc 1).trans c1
  have d2 := (hc 2).trans c2
  have d3 := (hc 3).trans c3
  obtain ⟨a', cap', rfl⟩ := hv.form
  have hsame : ∀ k, k ≠ b → (w'.setCell ⟨b, 1, none⟩ (Value.slice a' Q.length cap')).heap[k]? = w'.heap[k]? := fun k hk => Below.heap_setCell _ _ _ _ hk
  refine ⟨way_cell d0 d1, way_cell d3 d1, ⟨a', cap', ka, kcap, way_cell d1 d1, hv.keep (fun g hg => hsame g (by have := (hv.is hg).2; omega)), way_cell d2 d1, ?_, fun y hy hn => ?_, fun hG hr => (h6 hG hr).ink (hi.trans (Ink.set (b := b) w' 1 _))⟩, fun j => by rw [World.frozen?_setCell, hf]; exact fz j, by rw [setCell_size]; exact Nat.lt_of_lt_of_le lt hg.size⟩
  · refine h4.keep fun x hx hn => ?_
    subst hx
    rcases h5 x rfl hn with h | ⟨h, hh⟩
    · rw [hsame _ (by omega)]; exact hi.bel.block _ h
    · rw [hsame _ h]; exact hi.oth _ (h4.lt hn) h hh
  · rcases h5 y hy hn with h | ⟨h, hh⟩
    · exact .inl h
    · subst hy
      refine .inr ⟨h, fun ⟨cur, f, e⟩ => hh ⟨cur, f, ?_⟩⟩
      rw [hsame _ h, hi.oth _ (h4.lt hn) h hh] at e; exact e

theorem strCells_more (P : List UInt8) (s : ByteArray) : Lib.strCells (mk P) ++ Lib.strCells s = Lib.strCells (mk (P ++ bs s)) := by simp [Lib.strCells, mk, bs]
theorem bytes_more {w : World} {base : Nat} {v : Value} {P : List UInt8} {s : ByteArray} (h : w.ownsRow base 5 1 v (P.length + s.size) (Lib.strCells (mk P) ++ Lib.strCells s)) : Bytes w base v (P ++ bs s) := by
  rw [strCells_more] at h
  unfold Bytes
  rw [List.length_append, length_bs]
  exact h


/-- Bytes as they are. -/
def textW (t : ByteArray) (x : Wt) : Wt := if x.rf then x else { x with P := x.P ++ bs t }
/-- A number in k bytes. -/
def numW (v : Int) (k : Nat) (x : Wt) : Wt := textW (be v k) x
/-- A name. -/
def nameW (at_ : Int) (n : List UInt8) (x : Wt) : Wt :=
  if x.rf then x else if mayPutL (at_ + x.P.length) x.ks n then ⟨x.P ++ putS x.ks (labsL n), x.ks ++ putN x.ks (at_ + x.P.length) (labsL n), false⟩ else { x with rf := true }
theorem textW_rf (t : ByteArray) (x : Wt) : (textW t x).rf = x.rf := by unfold textW; split <;> simp_all
theorem numW_rf (v : Int) (k : Nat) (x : Wt) : (numW v k x).rf = x.rf := textW_rf _ _

/-- The mark is stored. -/
theorem Wr.mark {w : World} {b : Nat} {at_ : Int} {G : Bool} {x : Wt} (h : Wr w b at_ G x) (rf G' : Bool) (hr : G' = true → rf = false → G = true ∧ x.rf = false) : Wr (w.setCell ⟨b, 3, none⟩ (.bool rf)) b at_ G' { x with rf := rf } := by
  obtain ⟨c0, c3, ⟨a, cap, ka, kcap, c1, h2, c2, h4, h5, h6⟩, fz, lt⟩ := h
  have hsame : ∀ k, k ≠ b → (w.setCell ⟨b, 3, none⟩ (.bool rf)).heap[k]? = w.heap[k]? := fun k hk => Below.heap_setCell _ _ _ _ hk
  refine ⟨way_cell c0 c3, way_cell c3 c3, ⟨a, cap, ka, kcap, way_cell c1 c3, h2.keep (fun g hg => hsame g (by have := (h2.is hg).2; omega)), way_cell c2 c3, ?_, fun y hy hn => ?_, fun hG hf => ?_⟩, fun j => by rw [World.frozen?_setCell]; exact fz j, by rw [setCell_size]; exact lt⟩
  · refine h4.keep fun y hy hn => hsame _ ?_
    rcases h5 y hy hn with h | ⟨h, _⟩
    · omega
    · exact h
  · rcases h5 y hy hn with h | ⟨h, hh⟩
    · exact .inl h
    · refine .inr ⟨h, fun ⟨cur, f, e⟩ => hh ⟨cur, f, ?_⟩⟩
      rw [hsame _ h] at e; exact e
  · obtain ⟨q1, q2⟩ := hr hG hf
    exact (h6 q1 q2).keep fun g hg => hsame g (by have := ((h6 q1 q2).not hg).2.1; omega)
/-- What is known is stored. -/
theorem Wr.knows {w : World} {b : Nat} {at_ : Int} {G : Bool} {x : Wt} {ks : List Kn} {ka : Option Addr} {kcap : Nat} (h : Wr w b at_ G x) (hk : KnLies w ka ks) (h5 : ∀ y, ka = some y → ks ≠ [] → y.block < b ∨ (y.block ≠ b ∧ ¬ isBytes w y.block)) (h6 : Knowns w (b + 1) (.slice ka ks.length kcap) ks) :
    Wr (w.setCell ⟨b, 2, none⟩ (.slice ka ks.length kcap)) b at_ true { x with ks := ks } := by
  obtain ⟨c0, c3, ⟨a, cap, ka0, kcap0, c1, h2, c2, h4, _, _⟩, fz, lt⟩ := h
  have hsame : ∀ k, k ≠ b → (w.setCell ⟨b, 2, none⟩ (.slice ka ks.length kcap)).heap[k]? = w.heap[k]? := fun k hk => Below.heap_setCell _ _ _ _ hk
  refine ⟨way_cell c0 c2, way_cell c3 c2, ⟨a, cap, ka, kcap, way_cell c1 c2, h2.keep (fun g hg => hsame g (by have := (h2.is hg).2; omega)), way_cell c2 c2, ?_, fun y hy hn => ?_, fun _ _ => h6.keep fun g hg => hsame g (by have := (h6.not hg).2.1; omega)⟩, fun j => by rw [World.frozen?_setCell]; exact fz j, by rw [setCell_size]; exact lt⟩
  · refine hk.keep fun y hy hn => hsame _ ?_
    rcases h5 y hy hn with h | ⟨h, _⟩
    · omega
    · exact h
  · rcases h5 y hy hn with h | ⟨h, hh⟩
    · exact .inl h
    · refine .inr ⟨h, fun ⟨cur, f, e⟩ => hh ⟨cur, f, ?_⟩⟩
      rw [hsame _ h] at e; exact e
theorem Wr.refused {w : World} {b : Nat} {at_ : Int} {G : Bool} {x : Wt} (h : Wr w b at_ G x) (hr : x.rf = true) : Wr w b at_ true x := by
  obtain ⟨c0, c3, ⟨a, cap, ka, kcap, c1, h2, c2, h4, h5, h6⟩, fz, lt⟩ := h
  exact ⟨c0, c3, ⟨a, cap, ka, kcap, c1, h2, c2, h4, h5, fun _ hf => by rw [hr] at hf; cases hf⟩, fz, lt⟩
theorem Knowns.apart {w : World} {base b : Nat} {v : Value} {ks : List Kn} (h : Knowns w base v ks) (hb : b < base) : ∀ a cap y, v = .slice a ks.length cap → a = some y → ks ≠ [] → y.block < b ∨ (y.block ≠ b ∧ ¬ isBytes w y.block) := by
  intro a cap y hv hy hn
  obtain ⟨_, h | ⟨g, cap', cur, hv', hg, hh, _⟩⟩ := h
  · exact absurd (List.eq_nil_of_length_eq_zero h.2) hn
  · rw [hv] at hv'
    simp only [Value.slice.injEq] at hv'
    rw [hy] at hv'
    obtain ⟨h1, _, _⟩ := hv'
    cases h1
    refine .inr ⟨by simp only; omega, fun ⟨c2, f, e⟩ => ?_⟩
    simp only at e
    rw [hh] at e
    simp only [Option.some.injEq, Obj.cells.injEq] at e
    exact absurd e.2.1 (by decide)

theorem Bytes.below {w w' : World} {base : Nat} {v : Value} {P : List UInt8} (h : Bytes w base v P) (hb : Below w.heap.size w w') : Bytes w' base v P :=
  h.keep fun g hg => by obtain ⟨⟨cur, f, hf⟩, _⟩ := h.is hg; exact hb.block g (Array.getElem?_eq_some_iff.1 hf).1
theorem apart_below {w w' : World} {b : Nat} {ka : Option Addr} {ks : List Kn} (hb : Below w.heap.size w w') (h4 : KnLies w ka ks) (h5 : ∀ y, ka = some y → ks ≠ [] → y.block < b ∨ (y.block ≠ b ∧ ¬ isBytes w y.block)) :
    ∀ y, ka = some y → ks ≠ [] → y.block < b ∨ (y.block ≠ b ∧ ¬ isBytes w' y.block) := fun y hy hn => by
  rcases h5 y hy hn with h | ⟨h, hh⟩
  · exact .inl h
  · subst hy
    refine .inr ⟨h, fun ⟨cur, f, hf⟩ => hh ⟨cur, f, ?_⟩⟩
    rw [hb.block _ (h4.lt hn)] at hf; exact hf


/-! ### Text -/
theorem text_skip (b : Nat) (at_ : Int) (G : Bool) (x : Wt) (v : Value) (w : World) (h : Wr w b at_ G x) (hf : x.rf = true) :
    Calls Try.prog 23 #[.pointer (some ⟨b, 0, none⟩), v] w fun e w' => e = .returned (.tuple #[]) ∧ w' = w := by
  have c3 := h.c3
  rw [hf] at c3
  clear h
  go_enter Try.func23, Try.ntmps23
  go_wp2
  go_end0
  exact ⟨rfl, rfl⟩

set_option maxHeartbeats 1000000 in
theorem text_put (b : Nat) (at_ : Int) (G : Bool) (x : Wt) (B : ByteArray) (w : World) (h : Wr w b at_ G x) (hf : x.rf = false) (hP : x.P.length ≤ 100000) (hB : B.size ≤ 100000) :
    Calls Try.prog 23 #[.pointer (some ⟨b, 0, none⟩), .string B] w fun e w' => e = .returned (.tuple #[]) ∧ Wr w' b at_ G ⟨x.P ++ bs B, x.ks, false⟩ ∧ Ink b w w' := by
  obtain ⟨i0, hi, hz0, hz1, hz2⟩ := info_parts Try.infoU8
  obtain ⟨Q, hQ⟩ : ∃ Q, Hid (x.P ++ bs B = Q) := ⟨_, rfl⟩
  rw [show x.P ++ bs B = Q from hQ.out]
  obtain ⟨c0, c3, ⟨a, cap, ka, kcap, c1, h2, c2, h4, h5, h6⟩, fz, lt⟩ := h
  rw [hf] at c3 h6
  have f1 := fz 1
  have H5 : Hid (_) := h5
  have H6 : Hid (G = true → Knowns w (b + 1) (.slice ka x.ks.length kcap) x.ks) := fun hG => h6 hG rfl
  have H4 : Hid (_) := h4
  have Hfz : Hid (_) := fz
  clear h5 h4 fz h6
  go_enter Try.func23, Try.ntmps23
  go_wp2_with (first
    | (at_builtin; refine Lib.wpList_append_own_string _ rfl _ _ 37 9 rfl (b + 1) 5 i0 Try.underlying37 Try.underlying9 hi hz0 hz1 hz2 _ _ _ rfl h2 _ rfl ?c1 ?c2 ?c3 ?_)
    | fail)
  case c1 => unfold maxLen; omega
  case c2 => omega
  case c3 => omega
  intro v' w2 hown hgrow _
  have hV : Bytes w2 (b + 1) v' Q := by rw [← hQ.out]; exact bytes_more hown
  have R := Wr.more lt c0 c1 c2 c3 h2 H4.out H5.out (fun hG _ => H6.out hG) Hfz.out hgrow hV
  have B2 : Hid (Ink b w (w2.setCell ⟨b, 1, none⟩ v')) := (Ink.grown h2 hgrow lt).trans (Ink.set _ _ _)
  have hbk : w2.heap[b]? = w.heap[b]? := hgrow.block b lt (fun e => by have := (h2.is e.symm).2; omega)
  have e1 : w2.cell? ⟨b, 1, none⟩ = some (.slice a x.P.length cap) := (World.cell?_of_block hbk).trans c1
  have e2 : w2.frozen? ⟨b, 1, none⟩ = false := (World.frozen?_of_block hbk).trans f1
  obtain ⟨a', cap', rfl⟩ := hV.form
  have HR : Hid (_) := R
  clear hown hgrow c0 c1 c2 c3 f1 H5 H6 H4 Hfz hbk R hV h2
  go_wp2
  go_end0
  exact ⟨rfl, HR.out, B2.out⟩
theorem text_g (b : Nat) (at_ : Int) (G : Bool) (x : Wt) (B : ByteArray) (w : World) (h : Wr w b at_ G x) (hP : x.P.length ≤ 100000) (hB : B.size ≤ 100000) :
    Calls Try.prog 23 #[.pointer (some ⟨b, 0, none⟩), .string B] w fun e w' => e = .returned (.tuple #[]) ∧ Wr w' b at_ G (textW B x) ∧ Ink b w w' := by
  unfold textW
  cases hf : x.rf with
  | true => exact (text_skip b at_ G x _ w h hf).mono fun e w' ⟨h1, h2⟩ => ⟨h1, by rw [h2]; simpa using h, by rw [h2]; exact Ink.refl _ _⟩
  | false =>
    refine (text_put b at_ G x B w h hf hP (by omega)).mono fun e w' ⟨h1, h2, h3⟩ => ⟨h1, ?_, h3⟩
    simpa [hf] using h2

/-! ### numbers -/
theorem number_g (b : Nat) (at_ : Int) (G : Bool) (x : Wt) (v : Int) (k : Nat) (w : World) (h : Wr w b at_ G x) (hv : inB v k) (hP : x.P.length ≤ 100000) :
    Calls Try.prog 24 #[.pointer (some ⟨b, 0, none⟩), .int .i64 v, .int .i64 k] w fun e w' => e = .returned (.tuple #[]) ∧ Wr w' b at_ G (numW v k x) ∧ Ink b w w' := by
  have HB : Hid (∀ w, _) := fun w => put_ok v k w hv
  simp only [Int.toNat_natCast] at HB
  have hk4 : (be v k).size ≤ 100000 := by rw [size_be]; unfold inB at hv; omega
  have HT : Hid (∀ w, Wr w b at_ G x → _) := fun w h => text_g b at_ G x (be v k) w h hP hk4
  unfold numW
  generalize textW (be v k) x = X at *
  generalize be v k = B at *
  clear hv hk4
  have hrf : Hid (∀ w, Wr w b at_ G x → Wr (w.setCell ⟨b, 3, none⟩ (.bool x.rf)) b at_ G x) := fun w h => h.mark x.rf G (fun h1 h2 => ⟨h1, h2⟩)
  have H0 : Hid (∀ w', Below w.heap.size w w' → Wr w' b at_ G x) := fun w' hb => h.below hb
  have lt := h.lt
  clear h
  cases hr : x.rf
  all_goals
    rw [hr] at hrf
    go_enter Try.func24, Try.ntmps24
    go_wp2_with fail
    refine (HB.out _).mono ?_; rintro e w1 ⟨rfl, hb1⟩
    have W1 := H0.out _ hb1
    have B1 : Hid (Ink b w w1) := Ink.of_below hb1 lt
    have W2 : Hid (_) := hrf.out _ W1
    have c3 := W1.c3
    have f3 := W1.fz 3
    rw [hr] at c3
    clear hb1 W1 HB
    go_wp2_with fail
    refine (HT.out _ W2.out).mono ?_; rintro e w2 ⟨rfl, hW, hI⟩
    have B2 : Hid (Ink b w w2) := B1.out.trans ((Ink.set _ _ _).trans hI)
    clear hI B1
    go_wp2
    go_end0
    exact ⟨rfl, hW, B2.out⟩

theorem Wr.fresh (w : World) (t : TypeId) : Wr (w.alloc (.cells #[.int .i64 0, .slice none 0 0, .slice none 0 0, .bool false] t)) w.heap.size 0 false ⟨[], [], false⟩ :=
  ⟨new_cell _ _ _ _ _ rfl, new_cell _ _ _ _ _ rfl, ⟨none, 0, none, 0, new_cell _ _ _ _ _ rfl, Bytes.nil _ _, new_cell _ _ _ _ _ rfl, .inl rfl, (fun y h => by cases h), (fun h => by cases h)⟩, fun _ => new_frozen _ _ _ _, by simp⟩
end Go.Proofs.Ytkohojifnmklmaa

/-
  Contracts of package giver's By: a part put by a function that tells its bytes and what is known then.
-/
namespace Go.Proofs.Ytkohojifnmklmaa
set_option maxRecDepth 100000
open Go.ChangeShapes Go.WideShapes Go.ChangeAt Go.RowKit Go.Pin Go.PlainAid

theorem Knowns.lies' {w : World} {base : Nat} {ka : Option Addr} {kcap : Nat} {ks : List Kn} (h : Knowns w base (.slice ka ks.length kcap) ks) : KnLies w ka ks := by
  obtain ⟨a, c, e, hl⟩ := h.lies
  simp only [Value.slice.injEq, true_and] at e
  rw [e.1]; exact hl

/-! ### By, of string -/
/-! ### names -/
/-! ### what is asked -/
theorem from_g (at_ : Int) (a : Option Addr) (n cap : Nat) (w : World) : Calls Try.prog 22 #[.int .i64 at_, .slice a n cap] w fun e w' => e = .returned (.agg #[.int .i64 at_, .slice none 0 0, .slice a n cap, .bool false]) ∧ Below w.heap.size w w' := by
  go_enter Try.func22, Try.ntmps22
  go_wp2
  refine bodyPost_ret (v := .agg #[.int .i64 at_, .slice none 0 0, .slice a n cap, .bool false]) (by simp [results, Try.results22, go_sem]) rfl ⟨rfl, (Below.refl _ _).alloc (Nat.le_refl _) _⟩
theorem strCells_map (P : List UInt8) : Lib.strCells (mk P) = (P.map fun c => (c.toNat : Int)).map (Value.int .u8) := by simp [Lib.strCells, mk]
theorem given_g (b : Nat) (at_ : Int) (G : Bool) (x : Wt) (w : World) (h : Wr w b at_ G x) : Calls Try.prog 26 #[.pointer (some ⟨b, 0, none⟩)] w fun e w' => e = .returned (.string (mk x.P)) ∧ w' = w := by
  obtain ⟨c0, c3, ⟨a, cap, ka, kcap, c1, h2, c2, h4, h5, h6⟩, fz, lt⟩ := h
  have hcv := conv_owned (P := Try.prog) (w := w) (ns := x.P.map fun c => (c.toNat : Int)) 37 9 Try.underlying37 Try.underlying5 Try.underlying9 (base := b + 1) (v := .slice a x.P.length cap) (n := x.P.length) (by rw [← strCells_map]; exact h2)
  have hstr : str (x.P.map fun c => (c.toNat : Int)) = mk x.P := by simp [str, mk, Function.comp_def]
  rw [hstr] at hcv
  clear h2 h4 h5 h6 fz hstr c2
  go_enter Try.func26, Try.ntmps26
  go_wp2
  go_ret
  exact ⟨rfl, rfl⟩

end Go.Proofs.Ytkohojifnmklmaa

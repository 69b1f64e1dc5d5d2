/-
  Configurations in memory: how a configuration and its lists lie there.
-/
import Derived.Test.YtedbihckdbpebaaConfPure
import Derived.Test.YtedbihckdbpebaaRecMem
namespace Go.Proofs.Ytedbihckdbpebaa
open Go.ChangeShapes Go.WideShapes Go.ChangeAt Go.RowKit Go.Pin Go.PlainAid

/-! ### numbers -/
/-- The numbers xs lie behind the address a. -/
def NumsLie (w : World) (a : Option Addr) (xs : List Int) : Prop := xs = [] ∨ ∃ x, a = some x ∧ ∀ j n, xs[j]? = some n → w.cell? (x.add j) = some (.int .i64 n)
theorem NumsLie.below {w w' : World} {a : Option Addr} {xs : List Int} (h : NumsLie w a xs) (hb : Below w.heap.size w w') : NumsLie w' a xs := by
  rcases h with h | ⟨x, h1, h2⟩
  · exact .inl h
  · exact .inr ⟨x, h1, fun j n hj => (hb.cell (World.block_lt_of_cell? w _ (h2 j n hj))).trans (h2 j n hj)⟩

/-! ### reservations -/
def cellsV (r : Rsv) : List Value := [.string r.c, .int .i64 r.h]
def qv (r : Rsv) : Value := .agg #[.string r.c, .int .i64 r.h]
def RsvFrom (w : World) (y : Addr) (r : Rsv) : Prop := w.cell? y = some (.string r.c) ∧ w.cell? ⟨y.block, y.off + 1, none⟩ = some (.int .i64 r.h)
theorem RsvFrom.below {w w' : World} {y : Addr} {r : Rsv} (h : RsvFrom w y r) (hb : Below w.heap.size w w') : RsvFrom w' y r :=
  ⟨(hb.cell (World.block_lt_of_cell? w _ h.1)).trans h.1, (hb.cell (World.block_lt_of_cell? w _ h.2)).trans h.2⟩
/-- The reservations rs lie behind the address a. -/
def RsvsLie (w : World) (a : Option Addr) (rs : List Rsv) : Prop := rs = [] ∨ ∃ x, a = some x ∧ ∀ j r, rs[j]? = some r → RsvFrom w (x.add (j * 2)) r
theorem RsvsLie.below {w w' : World} {a : Option Addr} {rs : List Rsv} (h : RsvsLie w a rs) (hb : Below w.heap.size w w') : RsvsLie w' a rs := by
  rcases h with h | ⟨x, h1, h2⟩
  · exact .inl h
  · exact .inr ⟨x, h1, fun j r hj => (h2 j r hj).below hb⟩

/-! ### configurations -/
/-- Where a configuration's lists lie, and how much room they have. -/
structure CPl where
  ea : Option Addr
  ec : Nat
  ra : Option Addr
  rc : Nat
  sa : Option Addr
  sc : Nat
def nilC : CPl := ⟨none, 0, none, 0, none, 0⟩
def cellsC (c : Cf) (p : CPl) : Array Value := #[.int .i64 c.fi, .int .i64 c.la, .slice p.ea c.ex.length p.ec, .slice p.ra c.rs.length p.rc, .int .i64 c.ti, .string c.zo, .slice p.sa c.st.length p.sc]
/-- As a value of Go's. -/
def cv (c : Cf) (p : CPl) : Value := .agg (cellsC c p)
structure CfLies (w : World) (c : Cf) (p : CPl) : Prop where
  e : NumsLie w p.ea c.ex
  r : RsvsLie w p.ra c.rs
  s : RecsLie w p.sa c.st
theorem CfLies.below {w w' : World} {c : Cf} {p : CPl} (l : CfLies w c p) (hb : Below w.heap.size w w') : CfLies w' c p := ⟨l.e.below hb, l.r.below hb, l.s.below hb⟩
/-- Texts and lists that a machine can hold. -/
structure CfFits (c : Cf) : Prop where
  z : c.zo.size ≤ maxLen
  r : ∀ r ∈ c.rs, r.c.size ≤ maxLen
  s : ∀ r ∈ c.st, IsRec r
  el : c.ex.length ≤ maxLen
  rl : c.rs.length ≤ maxLen
  sl : c.st.length ≤ maxLen
/-- Block b is a configuration, boxed. -/
def BoxC (w : World) (b : Nat) (c : Cf) (p : CPl) : Prop := w.heap[b]? = some (.cells (cellsC c p) 26 (0, 0))
theorem BoxC.new (w : World) (c : Cf) (p : CPl) : BoxC (w.alloc (.cells (cellsC c p) 26)) w.heap.size c p := heap_alloc_new w _
theorem BoxC.lt {w : World} {b : Nat} {c : Cf} {p : CPl} (x : BoxC w b c p) : b < w.heap.size := (Array.getElem?_eq_some_iff.1 x).1
theorem BoxC.keep {w w' : World} {b : Nat} {c : Cf} {p : CPl} (x : BoxC w b c p) (h : w'.heap[b]? = w.heap[b]?) : BoxC w' b c p := h.trans x
theorem BoxC.below {w w' : World} {b : Nat} {c : Cf} {p : CPl} (x : BoxC w b c p) (hb : Below w.heap.size w w') : BoxC w' b c p := (hb.block b x.lt).trans x
theorem BoxC.cell {w : World} {b : Nat} {c : Cf} {p : CPl} (x : BoxC w b c p) (j : Nat) : w.cell? ⟨b, j, none⟩ = (cellsC c p)[j]? := by
  rw [BoxC] at x
  simp only [World.cell?, x]
  simp
theorem BoxC.fz {w : World} {b : Nat} {c : Cf} {p : CPl} (x : BoxC w b c p) (j : Nat) : w.frozen? ⟨b, j, none⟩ = false := by
  rw [BoxC] at x
  simp only [World.frozen?, x]
  simp
theorem BoxC.set {w : World} {b : Nat} {c c' : Cf} {p p' : CPl} (x : BoxC w b c p) (j : Nat) (v : Value) (he : (cellsC c p).setIfInBounds j v = cellsC c' p') : BoxC (w.setCell ⟨b, j, none⟩ v) b c' p' := by
  unfold BoxC
  rw [heap_set x, he]
theorem BoxC.far {w : World} {b d j : Nat} {c : Cf} {p : CPl} {u : Value} (x : BoxC w b c p) (hn : b ≠ d) : BoxC (w.setCell ⟨d, j, none⟩ u) b c p := (Below.heap_setCell _ _ _ _ hn).trans x
/-- All cells. -/
theorem BoxC.all {w : World} {b : Nat} {c : Cf} {p : CPl} (x : BoxC w b c p) : w.cell? ⟨b, 0, none⟩ = some (.int .i64 c.fi) ∧ w.cell? ⟨b, 1, none⟩ = some (.int .i64 c.la) ∧ w.cell? ⟨b, 2, none⟩ = some (.slice p.ea c.ex.length p.ec) ∧ w.cell? ⟨b, 3, none⟩ = some (.slice p.ra c.rs.length p.rc) ∧ w.cell? ⟨b, 4, none⟩ = some (.int .i64 c.ti) ∧ w.cell? ⟨b, 5, none⟩ = some (.string c.zo) ∧ w.cell? ⟨b, 6, none⟩ = some (.slice p.sa c.st.length p.sc) :=
  ⟨x.cell 0, x.cell 1, x.cell 2, x.cell 3, x.cell 4, x.cell 5, x.cell 6⟩

end Go.Proofs.Ytedbihckdbpebaa

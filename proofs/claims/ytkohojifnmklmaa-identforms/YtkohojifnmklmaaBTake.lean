/-
  Several texts in one.
-/
import Derived.Test.YtkohojifnmklmaaBWire
import Derived.Lib.Join
import Derived.Test.YtkohojifnmklmaaBPut
import Derived.Test.YtkohojifnmklmaaShelf2
import Derived.Deep.RegionHeld3
/-
  Contracts of package taker, at every text and place.
-/
namespace Go.Proofs.Ytkohojifnmklmaa
open Go.ChangeShapes Go.WideShapes Go.ChangeAt Go.RowKit Go.Pin Go.PlainAid

/-- How far a text is taken: where it goes on; has it failed. -/
structure Tk where
  at_ : Int
  f : Bool
/-- Block b is a taker of s that stands at x. -/
structure TkAt (w : World) (b : Nat) (s : ByteArray) (x : Tk) : Prop where
  c0 : w.cell? ⟨b, 0, none⟩ = some (.string s)
  c1 : w.cell? ⟨b, 1, none⟩ = some (.int .i64 x.at_)
  c2 : w.cell? ⟨b, 2, none⟩ = some (.bool x.f)
  fz : ∀ j, w.frozen? ⟨b, j, none⟩ = false
  lt : b < w.heap.size
  rg : x.f = false → 0 ≤ x.at_ ∧ x.at_ ≤ s.size
  wf : -9223372036854775808 ≤ x.at_ ∧ x.at_ ≤ 9223372036854775807
/-- From w to w' nothing turned but the first three cells of block b and what is new. -/
structure Turn (b : Nat) (w w' : World) : Prop where
  bel : Below b w w'
  oth : ∀ c, c ≠ b → c < w.heap.size → w'.heap[c]? = w.heap[c]?
  cel : ∀ j, 3 ≤ j → w'.cell? ⟨b, j, none⟩ = w.cell? ⟨b, j, none⟩
theorem Turn.refl (b : Nat) (w : World) : Turn b w w := ⟨Below.refl _ _, fun _ _ _ => rfl, fun _ _ => rfl⟩
theorem Turn.trans {b : Nat} {w w1 w2 : World} (h1 : Turn b w w1) (h2 : Turn b w1 w2) : Turn b w w2 :=
  ⟨h1.bel.trans h2.bel, fun c hc hl => (h2.oth c hc (Nat.lt_of_lt_of_le hl h1.bel.size)).trans (h1.oth c hc hl), fun j hj => (h2.cel j hj).trans (h1.cel j hj)⟩
theorem Turn.of_below {b : Nat} {w w' : World} (h : Below w.heap.size w w') (hb : b < w.heap.size) : Turn b w w' := ⟨h.mono (Nat.le_of_lt hb), fun _ _ hl => h.block _ hl, fun _ _ => h.cell hb⟩
theorem Turn.set {b : Nat} (w : World) (j : Nat) (u : Value) (hj : j < 3 := by decide) : Turn b w (w.setCell ⟨b, j, none⟩ u) :=
  ⟨(Below.refl b w).setCell (show b ≤ (⟨b, j, none⟩ : Addr).block from Nat.le_refl b) u, fun _ hc _ => Below.heap_setCell _ _ _ _ (fun e => hc e), fun k hk => World.cell?_setCell_other _ _ _ _ (by intro e; injection e with _ e; omega)⟩
theorem TkAt.below {w w' : World} {b : Nat} {s : ByteArray} {x : Tk} (h : TkAt w b s x) {n : Nat} (hb : Below n w w') (hn : b < n) : TkAt w' b s x := by
  have hc : ∀ j, w'.cell? ⟨b, j, none⟩ = w.cell? ⟨b, j, none⟩ := fun j => hb.cell hn
  exact ⟨(hc 0).trans h.c0, (hc 1).trans h.c1, (hc 2).trans h.c2, fun j => (hb.frozen hn).trans (h.fz j), Nat.lt_of_lt_of_le h.lt hb.size, h.rg, h.wf⟩
theorem TkAt.set1 {w : World} {b : Nat} {s : ByteArray} {x : Tk} (h : TkAt w b s x) (n : Int) (hr : x.f = false → 0 ≤ n ∧ n ≤ s.size) (hw : -9223372036854775808 ≤ n ∧ n ≤ 9223372036854775807) : TkAt (w.setCell ⟨b, 1, none⟩ (.int .i64 n)) b s { x with at_ := n } :=
  ⟨way_cell h.c0 h.c1, way_cell h.c1 h.c1, way_cell h.c2 h.c1, fun j => by rw [World.frozen?_setCell]; exact h.fz j, by simp; exact h.lt, hr, hw⟩
theorem TkAt.fail {w : World} {b : Nat} {s : ByteArray} {x : Tk} (h : TkAt w b s x) : TkAt (w.setCell ⟨b, 2, none⟩ (.bool true)) b s { x with f := true } :=
  ⟨way_cell h.c0 h.c2, way_cell h.c1 h.c2, way_cell h.c2 h.c2, fun j => by rw [World.frozen?_setCell]; exact h.fz j, by simp; exact h.lt, (fun h => by cases h), h.wf⟩

def mustT (so : Bool) (x : Tk) : Tk := { x with f := x.f || !so }
/-! ### numbers -/
/-- What be's Get tells. -/
def getB (s : ByteArray) (a : Int) (k : Nat) : Int × Int := if a < 0 then (0, 100) else if (s.size : Int) < a + k then (0, 101) else (num s a.toNat k, 0)
/-- A number of k bytes. -/
def numT (s : ByteArray) (k : Nat) (x : Tk) : Int × Tk := if x.f then (0, x) else if (getB s x.at_ k).2 = 0 then ((getB s x.at_ k).1, ⟨x.at_ + k, false⟩) else (0, ⟨x.at_, true⟩)

theorem setCell_size (w : World) (p : Addr) (u : Value) : (w.setCell p u).heap.size = w.heap.size := by simp
theorem drew_tk {w : World} {b : Nat} {s : ByteArray} {x : Tk} (h : TkAt w b s x) : TkAt w.drew b s x := h.below (below_drewN (Below.refl w.heap.size _) 1) h.lt
theorem dn_turn {b : Nat} {w w' : World} (h : Turn b (w.drewN 1) w') : Turn b w w' := ⟨⟨h.bel.os, h.bel.tape, h.bel.output, h.bel.size, h.bel.block⟩, h.oth, h.cel⟩

end Go.Proofs.Ytkohojifnmklmaa

/-
  Contracts of package taker for names and texts, at every text and place.
-/
namespace Go.Proofs.Ytkohojifnmklmaa
open Go.ChangeShapes Go.WideShapes Go.ChangeAt Go.RowKit Go.Pin Go.PlainAid

/-- A name. -/
def nameT (s : ByteArray) (x : Tk) : ByteArray × Tk := if x.f then (⟨#[]⟩, x) else if (getL (bs s) x.at_.toNat).2.2 = 0 then (mk (getL (bs s) x.at_.toNat).1, ⟨(getL (bs s) x.at_.toNat).2.1, false⟩) else (⟨#[]⟩, ⟨x.at_, true⟩)

/-! ### texts -/
theorem wrap_in (v : Int) (h0 : -9223372036854775808 ≤ v) (h1 : v ≤ 9223372036854775807) : IntKind.i64.wrap v = v := IntWalk.i64_in v ⟨h0, h1⟩
theorem clone_str (s : ByteArray) (w : World) (hs : s.size ≤ 281474976710656) : Calls Try.prog 34 #[.string s] w fun e w' => e = .returned (.string s) ∧ Below w.heap.size w w' := by
  have H : Hid (∀ w, _) := fun w => Try.stringslite_Clone s w (by omega)
  go_enter Try.func34, Try.ntmps34
  go_wp2_with fail
  refine (H.out _).mono ?_; rintro e w1 ⟨rfl, hb⟩
  go_wp2
  go_ret
  exact ⟨rfl, hb⟩
/-- n bytes. -/
def textT (s : ByteArray) (n : Nat) (x : Tk) : ByteArray × Tk := if x.f then (⟨#[]⟩, x) else if (n : Int) ≤ s.size - x.at_ then (s.extract x.at_.toNat (x.at_.toNat + n), ⟨x.at_ + n, false⟩) else (⟨#[]⟩, ⟨x.at_, true⟩)

end Go.Proofs.Ytkohojifnmklmaa

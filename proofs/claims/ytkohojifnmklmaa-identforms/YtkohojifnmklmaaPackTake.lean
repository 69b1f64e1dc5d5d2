/-
  Contract of package packet's reader: all there is, at every text.
-/
import Derived.Test.YtkohojifnmklmaaPackOpts
import Derived.Test.YtkohojifnmklmaaPackMay
import Derived.Deep.DeepCutAuto
import Derived.Deep.CutRange
namespace Go.Proofs.Ytkohojifnmklmaa
open Go.ChangeShapes Go.WideShapes Go.ChangeAt Go.RowKit Go.Pin Go.PlainAid

theorem Turn.store {b r : Nat} {w w' : World} (h : Turn b w w') (hr : w.heap.size ≤ r) (hb : b < r) (j : Nat) (u : Value) : Turn b w (w'.setCell ⟨r, j, none⟩ u) :=
  ⟨h.bel.setCell (show b ≤ (⟨r, j, none⟩ : Addr).block from Nat.le_of_lt hb) u, fun c hc hl => (Below.heap_setCell _ _ _ _ (show c ≠ r by omega)).trans (h.oth c hc hl), fun k hk => (World.cell?_setCell_other _ _ _ _ (by intro e; injection e; omega)).trans (h.cel k hk)⟩
theorem TkAt.store {w : World} {b r : Nat} {s : ByteArray} {x : Tk} (h : TkAt w b s x) (hr : b ≠ r) (j : Nat) (u : Value) : TkAt (w.setCell ⟨r, j, none⟩ u) b s x := by
  have hc : ∀ k, (w.setCell ⟨r, j, none⟩ u).cell? ⟨b, k, none⟩ = w.cell? ⟨b, k, none⟩ := fun k => World.cell?_setCell_other _ _ _ _ (by intro e; injection e with e; exact hr e.symm)
  exact ⟨(hc 0).trans h.c0, (hc 1).trans h.c1, (hc 2).trans h.c2, fun k => by rw [World.frozen?_setCell]; exact h.fz k, by rw [setCell_size]; exact h.lt, h.rg, h.wf⟩
theorem BoxP.turn {w w' : World} {b r : Nat} {p : Pk} {a : Option Addr} {c : Nat} (x : BoxP w r p a c) (h : Turn b w w') (hr : r ≠ b) : BoxP w' r p a c := (h.oth r hr x.lt).trans x
theorem BoxP.fz {w : World} {r : Nat} {p : Pk} {a : Option Addr} {c : Nat} (x : BoxP w r p a c) (j : Nat) : w.frozen? ⟨r, j, none⟩ = false := by
  rw [BoxP] at x
  simp [World.frozen?, x]
theorem BoxP.other {w : World} {r q : Nat} {p : Pk} {a : Option Addr} {c : Nat} (x : BoxP w r p a c) (hq : r ≠ q) (j : Nat) (u : Value) : BoxP (w.setCell ⟨q, j, none⟩ u) r p a c := (Below.heap_setCell _ _ _ _ hq).trans x
theorem BoxP.set {w : World} {r : Nat} {p p' : Pk} {a a' : Option Addr} {c c' : Nat} (x : BoxP w r p a c) (j : Nat) (u : Value) (h : (cellsP p a c).set! j u = cellsP p' a' c') : BoxP (w.setCell ⟨r, j, none⟩ u) r p' a' c' := by
  unfold BoxP at x ⊢
  rw [← h]
  simp [World.setCell, Array.getElem?_modify, x]
def zeroP : Pk := ⟨0, 0, 0, 0, 0, 0, 0, 0, 0, 0, ⟨#[]⟩, []⟩

/-! ### how far, what -/
def pk1 (s : ByteArray) := numT s 1 ⟨0, false⟩
def pk2 (s : ByteArray) := numT s 1 (pk1 s).2
def pk3 (s : ByteArray) := numT s 1 (pk2 s).2
def pk3m (s : ByteArray) := mustT (decide ((pk3 s).1 ≤ 16)) (pk3 s).2
def pk4 (s : ByteArray) := numT s 1 (pk3m s)
def pk5 (s : ByteArray) := numT s 4 (pk4 s).2
def pk6 (s : ByteArray) := numT s 2 (pk5 s).2
def pk7 (s : ByteArray) := numT s 2 (pk6 s).2
def pk8 (s : ByteArray) := numT s 4 (pk7 s).2
def pk9 (s : ByteArray) := numT s 4 (pk8 s).2
def pk10 (s : ByteArray) := numT s 4 (pk9 s).2
def pk11 (s : ByteArray) := numT s 4 (pk10 s).2
def pk12 (s : ByteArray) := textT s (pk3 s).1.toNat (pk11 s).2
def pk13 (s : ByteArray) := textT s (16 - (pk3 s).1).toNat (pk12 s).2
def pk14 (s : ByteArray) := textT s 64 (pk13 s).2
def pk15 (s : ByteArray) := textT s 128 (pk14 s).2
def pk16 (s : ByteArray) := numT s 4 (pk15 s).2
def pk16m (s : ByteArray) := mustT ((pk16 s).1 == 1669485411) (pk16 s).2
def pk17 (s : ByteArray) := optsT s (pk16m s) (pk14 s).1 (pk15 s).1
def pkT (s : ByteArray) : Pk := ⟨(pk1 s).1, (pk2 s).1, (pk4 s).1, (pk5 s).1, (pk6 s).1, (pk7 s).1, (pk8 s).1, (pk9 s).1, (pk10 s).1, (pk11 s).1, (pk12 s).1, (pk17 s).1⟩
theorem set_same {w : World} {b j : Nat} {v : Value} (h : w.cell? ⟨b, j, none⟩ = some v) : w.setCell ⟨b, j, none⟩ v = w := by
  have key : ∀ h', h' = w.heap → ({ w with heap := h' } : World) = w := by rintro _ rfl; rfl
  unfold World.setCell
  refine key _ ?_
  · apply Array.ext (by simp)
    intro i h1 h2
    rw [Array.getElem_modify]
    by_cases hi : b = i
    · subst hi
      rw [if_pos rfl]
      simp only [World.cell?, Array.getElem?_eq_getElem h2] at h
      cases ho : w.heap[b] with
      | cells c el fr =>
        rw [ho] at h
        simp at h
        simp only [Option.isSome_none, Bool.false_eq_true, if_false]
        congr 1
        apply Array.ext (by simp)
        intro k k1 k2
        rw [Array.getElem_setIfInBounds]
        split
        · rename_i hk
          subst hk
          rw [Array.getElem?_eq_getElem k2] at h
          cases h; rfl
        · rfl
      | _ => rfl
    · rw [if_neg hi]
/-- All cells of a packet stored into block r. -/
def layP (w : World) (r : Nat) (P : Pk) (a : Option Addr) (c : Nat) : World := ((((((((((((((((((((((((w).setCell ⟨r, 0, none⟩ (.int .i64 P.op))).setCell ⟨r, 1, none⟩ (.int .i64 P.ht))).setCell ⟨r, 2, none⟩ (.int .i64 P.ho))).setCell ⟨r, 3, none⟩ (.int .i64 P.xid))).setCell ⟨r, 4, none⟩ (.int .i64 P.sc))).setCell ⟨r, 5, none⟩ (.int .i64 P.fl))).setCell ⟨r, 6, none⟩ (.int .i64 P.ci))).setCell ⟨r, 7, none⟩ (.int .i64 P.yi))).setCell ⟨r, 8, none⟩ (.int .i64 P.si))).setCell ⟨r, 9, none⟩ (.int .i64 P.gi))).setCell ⟨r, 10, none⟩ (.string P.ch))).setCell ⟨r, 11, none⟩ (.slice a P.os.length c))
theorem layP_box {w : World} {r : Nat} {p : Pk} {a0 : Option Addr} {c0 : Nat} (h : BoxP w r p a0 c0) (P : Pk) (a : Option Addr) (c : Nat) : BoxP (layP w r P a c) r P a c := by
  unfold layP
  have h1 := (h).set (p' := { p with op := P.op }) (a' := a0) (c' := c0) 0 (.int .i64 P.op) rfl
  have h2 := (h1).set (p' := { p with op := P.op, ht := P.ht }) (a' := a0) (c' := c0) 1 (.int .i64 P.ht) rfl
  have h3 := (h2).set (p' := { p with op := P.op, ht := P.ht, ho := P.ho }) (a' := a0) (c' := c0) 2 (.int .i64 P.ho) rfl
  have h4 := (h3).set (p' := { p with op := P.op, ht := P.ht, ho := P.ho, xid := P.xid }) (a' := a0) (c' := c0) 3 (.int .i64 P.xid) rfl
  have h5 := (h4).set (p' := { p with op := P.op, ht := P.ht, ho := P.ho, xid := P.xid, sc := P.sc }) (a' := a0) (c' := c0) 4 (.int .i64 P.sc) rfl
  have h6 := (h5).set (p' := { p with op := P.op, ht := P.ht, ho := P.ho, xid := P.xid, sc := P.sc, fl := P.fl }) (a' := a0) (c' := c0) 5 (.int .i64 P.fl) rfl
  have h7 := (h6).set (p' := { p with op := P.op, ht := P.ht, ho := P.ho, xid := P.xid, sc := P.sc, fl := P.fl, ci := P.ci }) (a' := a0) (c' := c0) 6 (.int .i64 P.ci) rfl
  have h8 := (h7).set (p' := { p with op := P.op, ht := P.ht, ho := P.ho, xid := P.xid, sc := P.sc, fl := P.fl, ci := P.ci, yi := P.yi }) (a' := a0) (c' := c0) 7 (.int .i64 P.yi) rfl
  have h9 := (h8).set (p' := { p with op := P.op, ht := P.ht, ho := P.ho, xid := P.xid, sc := P.sc, fl := P.fl, ci := P.ci, yi := P.yi, si := P.si }) (a' := a0) (c' := c0) 8 (.int .i64 P.si) rfl
  have h10 := (h9).set (p' := { p with op := P.op, ht := P.ht, ho := P.ho, xid := P.xid, sc := P.sc, fl := P.fl, ci := P.ci, yi := P.yi, si := P.si, gi := P.gi }) (a' := a0) (c' := c0) 9 (.int .i64 P.gi) rfl
  have h11 := (h10).set (p' := { p with op := P.op, ht := P.ht, ho := P.ho, xid := P.xid, sc := P.sc, fl := P.fl, ci := P.ci, yi := P.yi, si := P.si, gi := P.gi, ch := P.ch }) (a' := a0) (c' := c0) 10 (.string P.ch) rfl
  have h12 := (h11).set (p' := { p with op := P.op, ht := P.ht, ho := P.ho, xid := P.xid, sc := P.sc, fl := P.fl, ci := P.ci, yi := P.yi, si := P.si, gi := P.gi, ch := P.ch, os := P.os }) (a' := a) (c' := c) 11 (.slice a P.os.length c) rfl
  exact h12
theorem TkAt.lay {w : World} {b r : Nat} {s : ByteArray} {x : Tk} (h : TkAt w b s x) (hr : b ≠ r) (P : Pk) (a : Option Addr) (c : Nat) : TkAt (layP w r P a c) b s x := by
  unfold layP
  exact (((((((((((h.store hr 0 _).store hr 1 _).store hr 2 _).store hr 3 _).store hr 4 _).store hr 5 _).store hr 6 _).store hr 7 _).store hr 8 _).store hr 9 _).store hr 10 _).store hr 11 _
theorem Turn.lay {b r : Nat} {w w' : World} (h : Turn b w w') (hr : w.heap.size ≤ r) (hb : b < r) (P : Pk) (a : Option Addr) (c : Nat) : Turn b w (layP w' r P a c) := by
  unfold layP
  exact (((((((((((h.store hr hb 0 _).store hr hb 1 _).store hr hb 2 _).store hr hb 3 _).store hr hb 4 _).store hr hb 5 _).store hr hb 6 _).store hr hb 7 _).store hr hb 8 _).store hr hb 9 _).store hr hb 10 _).store hr hb 11 _
theorem layP_other (w : World) (r k : Nat) (P : Pk) (a : Option Addr) (c : Nat) (hk : k ≠ r) : (layP w r P a c).heap[k]? = w.heap[k]? := by
  unfold layP
  rw [Below.heap_setCell _ _ _ _ hk, Below.heap_setCell _ _ _ _ hk, Below.heap_setCell _ _ _ _ hk, Below.heap_setCell _ _ _ _ hk, Below.heap_setCell _ _ _ _ hk, Below.heap_setCell _ _ _ _ hk, Below.heap_setCell _ _ _ _ hk, Below.heap_setCell _ _ _ _ hk, Below.heap_setCell _ _ _ _ hk, Below.heap_setCell _ _ _ _ hk, Below.heap_setCell _ _ _ _ hk, Below.heap_setCell _ _ _ _ hk]

theorem textT_size (s : ByteArray) (n : Nat) (x : Tk) : (textT s n x).1.size ≤ n := by
  unfold textT
  split
  · exact Nat.zero_le _
  · split
    · simp only [ByteArray.size_extract]; omega
    · exact Nat.zero_le _
theorem numT_fp {s : ByteArray} {k : Nat} {x : Tk} (h : x.f = true) : (numT s k x).2.f = true := by unfold numT; rw [if_pos h]; exact h
theorem textT_fp {s : ByteArray} {k : Nat} {x : Tk} (h : x.f = true) : (textT s k x).2.f = true := by unfold textT; rw [if_pos h]; exact h
theorem pk_over {s : ByteArray} (h : 16 < (pk3 s).1) : (pk12 s).2.f = true := by
  have h3 : (pk3m s).f = true := by unfold pk3m mustT; simp; omega
  exact textT_fp (numT_fp (numT_fp (numT_fp (numT_fp (numT_fp (numT_fp (numT_fp (numT_fp h3))))))))
end Go.Proofs.Ytkohojifnmklmaa

/-
  Packets in memory; the contract of package packet's May, at every packet.
-/
import Derived.Test.YtkohojifnmklmaaPackPut
namespace Go.Proofs.Ytkohojifnmklmaa
open Go.ChangeShapes Go.WideShapes Go.ChangeAt Go.RowKit Go.Pin Go.PlainAid

def cellsP (p : Pk) (a : Option Addr) (c : Nat) : Array Value := #[.int .i64 p.op, .int .i64 p.ht, .int .i64 p.ho, .int .i64 p.xid, .int .i64 p.sc, .int .i64 p.fl, .int .i64 p.ci, .int .i64 p.yi, .int .i64 p.si, .int .i64 p.gi, .string p.ch, .slice a p.os.length c]
/-- As a value of Go's. -/
def pv (p : Pk) (a : Option Addr) (c : Nat) : Value := .agg (cellsP p a c)
/-- Block b is a packet, boxed. -/
def BoxP (w : World) (b : Nat) (p : Pk) (a : Option Addr) (c : Nat) : Prop := w.heap[b]? = some (.cells (cellsP p a c) 24 (0, 0))
theorem BoxP.new (w : World) (p : Pk) (a : Option Addr) (c : Nat) : BoxP (w.alloc (.cells (cellsP p a c) 24)) w.heap.size p a c := heap_alloc_new w _
theorem BoxP.lt {w : World} {b : Nat} {p : Pk} {a : Option Addr} {c : Nat} (x : BoxP w b p a c) : b < w.heap.size := (Array.getElem?_eq_some_iff.1 x).1
theorem BoxP.below {w w' : World} {b : Nat} {p : Pk} {a : Option Addr} {c : Nat} (x : BoxP w b p a c) (hb : Below w.heap.size w w') : BoxP w' b p a c := (hb.block b x.lt).trans x
theorem BoxP.cell {w : World} {b : Nat} {p : Pk} {a : Option Addr} {c : Nat} (x : BoxP w b p a c) (j : Nat) : w.cell? ⟨b, j, none⟩ = (cellsP p a c)[j]? := by
  rw [BoxP] at x
  simp only [World.cell?, x]
  simp
theorem BoxP.not {w : World} {b : Nat} {p : Pk} {a : Option Addr} {c : Nat} (x : BoxP w b p a c) : ¬ isBytes w b := fun ⟨cur, f, e⟩ => by
  rw [BoxP] at x
  rw [x] at e
  simp only [Option.some.injEq, Obj.cells.injEq] at e
  exact absurd e.2.1 (by decide)
theorem BoxP.ink {w w' : World} {b r : Nat} {p : Pk} {a : Option Addr} {c : Nat} (x : BoxP w b p a c) (hi : Ink r w w') (hc : b ≠ r) : BoxP w' b p a c := (hi.oth b x.lt hc x.not).trans x
/-- All cells. -/
theorem BoxP.all {w : World} {b : Nat} {p : Pk} {a : Option Addr} {c : Nat} (x : BoxP w b p a c) : w.cell? ⟨b, 0, none⟩ = some (.int .i64 p.op) ∧ w.cell? ⟨b, 1, none⟩ = some (.int .i64 p.ht) ∧ w.cell? ⟨b, 2, none⟩ = some (.int .i64 p.ho) ∧ w.cell? ⟨b, 3, none⟩ = some (.int .i64 p.xid) ∧ w.cell? ⟨b, 4, none⟩ = some (.int .i64 p.sc) ∧ w.cell? ⟨b, 5, none⟩ = some (.int .i64 p.fl) ∧ w.cell? ⟨b, 6, none⟩ = some (.int .i64 p.ci) ∧
    w.cell? ⟨b, 7, none⟩ = some (.int .i64 p.yi) ∧ w.cell? ⟨b, 8, none⟩ = some (.int .i64 p.si) ∧ w.cell? ⟨b, 9, none⟩ = some (.int .i64 p.gi) ∧ w.cell? ⟨b, 10, none⟩ = some (.string p.ch) ∧ w.cell? ⟨b, 11, none⟩ = some (.slice a p.os.length c) :=
  ⟨x.cell 0, x.cell 1, x.cell 2, x.cell 3, x.cell 4, x.cell 5, x.cell 6, x.cell 7, x.cell 8, x.cell 9, x.cell 10, x.cell 11⟩
/-- Numbers written out. -/
theorem ints_new (w : World) (cs : Array Value) (t : TypeId) (ns : List Int) (h : cs = (ns.map (Value.int .i64)).toArray) : IntsFrom (w.alloc (.cells cs t)) ⟨w.heap.size, 0, none⟩ ns := by
  subst h
  intro j hj
  rw [addr_add, Nat.zero_add]
  refine new_cell w _ _ _ _ ?_
  rw [List.getElem?_toArray, List.getElem?_map, List.getElem?_eq_getElem hj, List.getD_eq_getElem?_getD, List.getElem?_eq_getElem hj]
  rfl
theorem room_c (ns : List Int) (k : Nat) (cs : Array Value) (w : World) (hl : ns.length ≤ 100) (h : cs = (ns.map (Value.int .i64)).toArray) :
    Calls Try.prog 32 #[.int .i64 k, .slice (some ⟨w.heap.size, 0, none⟩) ns.length ns.length] (w.alloc (.cells cs 3)) fun e w' => e = .returned (.bool (allB k ns)) ∧ Below w.heap.size w w' :=
  (haveRoom_c ⟨w.heap.size, 0, none⟩ ns.length ns k _ hl (ints_new w cs _ ns h)).mono fun _ _ ⟨h1, h2⟩ => ⟨h1, bel_trans ((Below.refl _ _).alloc (Nat.le_refl _) _) h2⟩
theorem room_1 (a b c : Int) (w : World) : Calls Try.prog 32 #[.int .i64 1, .slice (some ⟨w.heap.size, 0, none⟩) 3 3] (w.alloc (.cells #[.int .i64 a, .int .i64 b, .int .i64 c] 3)) fun e w' => e = .returned (.bool (allB 1 [a, b, c])) ∧ Below w.heap.size w w' :=
  room_c [a, b, c] 1 _ w (by simp) rfl
theorem room_2 (a b : Int) (w : World) : Calls Try.prog 32 #[.int .i64 2, .slice (some ⟨w.heap.size, 0, none⟩) 2 2] (w.alloc (.cells #[.int .i64 a, .int .i64 b] 3)) fun e w' => e = .returned (.bool (allB 2 [a, b])) ∧ Below w.heap.size w w' :=
  room_c [a, b] 2 _ w (by simp) rfl
theorem room_4 (a b c d f : Int) (w : World) : Calls Try.prog 32 #[.int .i64 4, .slice (some ⟨w.heap.size, 0, none⟩) 5 5] (w.alloc (.cells #[.int .i64 a, .int .i64 b, .int .i64 c, .int .i64 d, .int .i64 f] 3)) fun e w' => e = .returned (.bool (allB 4 [a, b, c, d, f])) ∧ Below w.heap.size w w' :=
  room_c [a, b, c, d, f] 4 _ w (by simp) rfl
theorem may_err (os : List Opn) : ((putA os).2 != 600) = mayO os := by
  have := (putA_cases os).1
  cases h : mayO os <;> simp_all
set_option maxHeartbeats 1000000 in
theorem pMay_c (p : Pk) (a : Option Addr) (c : Nat) (w : World) (hL : OpLies w a p.os) (hch : p.ch.size ≤ maxLen) : Calls Try.prog 16 #[pv p a c] w fun e w' => e = .returned (.bool (mayP p)) ∧ Below w.heap.size w w' := by
  have HP : Hid (∀ w', Below w.heap.size w w' → _) := fun w' hb => oPut_c a c p.os w' (hL.below hb)
  have R1 : Hid (∀ w, _) := fun w => room_1 p.op p.ht p.ho w
  have R2 : Hid (∀ w, _) := fun w => room_2 p.sc p.fl w
  have R4 : Hid (∀ w, _) := fun w => room_4 p.xid p.ci p.yi p.si p.gi w
  have hE := may_err p.os
  have hv : mayP p = (allB 1 [p.op, p.ht, p.ho] && allB 2 [p.sc, p.fl] && allB 4 [p.xid, p.ci, p.yi, p.si, p.gi] && decide (p.ch.size ≤ 16) && mayO p.os) := rfl
  have BX : Hid (BoxP (w.alloc (.cells (cellsP p a c) 24)) w.heap.size p a c) := BoxP.new w p a c
  generalize mayP p = V at *
  generalize allB 1 [p.op, p.ht, p.ho] = v1 at *
  generalize allB 2 [p.sc, p.fl] = v2 at *
  generalize allB 4 [p.xid, p.ci, p.yi, p.si, p.gi] = v4 at *
  generalize mayO p.os = vo at *
  generalize (putA p.os).2 = E at *
  generalize mk (putA p.os).1 = T at *
  have hchl : p.ch.size ≤ 9223372036854775807 := by unfold maxLen at hch; omega
  have hd : decide ((p.ch.size : Int) ≤ 16) = decide (p.ch.size ≤ 16) := by simp; omega
  have hcell : Hid (∀ w', BoxP w' w.heap.size p a c → _) := fun w' h => h.all
  have hbel : Hid (∀ w' w'', BoxP w' w.heap.size p a c → Below w'.heap.size w' w'' → BoxP w'' w.heap.size p a c) := fun w' w'' h1 h2 => h1.below h2
  clear hL hch
  simp only [pv, cellsP] at *
  have B0 : Hid (Below w.heap.size w _) := (Below.refl w.heap.size w).alloc (Nat.le_refl _) (.cells #[.int .i64 p.op, .int .i64 p.ht, .int .i64 p.ho, .int .i64 p.xid, .int .i64 p.sc, .int .i64 p.fl, .int .i64 p.ci, .int .i64 p.yi, .int .i64 p.si, .int .i64 p.gi, .string p.ch, .slice a p.os.length c] 24)
  go_enter Try.func16, Try.ntmps16
  go_wp2_with fail
  refine (HP.out _ B0.out).mono ?_; rintro e w1 ⟨rfl, hb⟩
  have B1 : Hid (Below w.heap.size w w1) := bel_trans B0.out hb
  have X1 : Hid (BoxP w1 w.heap.size p a c) := hbel.out _ _ BX.out hb
  obtain ⟨c0, c1, c2, c3, c4, c5, c6, c7, c8, c9, c10, c11⟩ := hcell.out _ X1.out
  clear hb B0 BX HP
  go_wp2_with fail
  refine (R1.out _).mono ?_; rintro e w2 ⟨rfl, hb⟩
  have B2 : Hid (Below w.heap.size w w2) := bel_trans B1.out hb
  have X2 : Hid (BoxP w2 w.heap.size p a c) := hbel.out _ _ X1.out hb
  clear hb B1 X1 R1 c0 c1 c2 c3 c4 c5 c6 c7 c8 c9 c10 c11
  obtain ⟨c0, c1, c2, c3, c4, c5, c6, c7, c8, c9, c10, c11⟩ := hcell.out _ X2.out
  cases v1
  · go_wp2
    go_ret
    exact ⟨ret_bool (by simp [hv]), B2.out⟩
  go_wp2_with fail
  refine (R2.out _).mono ?_; rintro e w3 ⟨rfl, hb⟩
  have B3 : Hid (Below w.heap.size w w3) := bel_trans B2.out hb
  have X3 : Hid (BoxP w3 w.heap.size p a c) := hbel.out _ _ X2.out hb
  clear hb B2 X2 R2 c0 c1 c2 c3 c4 c5 c6 c7 c8 c9 c10 c11
  obtain ⟨c0, c1, c2, c3, c4, c5, c6, c7, c8, c9, c10, c11⟩ := hcell.out _ X3.out
  cases v2
  · go_wp2
    go_ret
    exact ⟨ret_bool (by simp [hv]), B3.out⟩
  go_wp2_with fail
  refine (R4.out _).mono ?_; rintro e w4 ⟨rfl, hb⟩
  have B4 : Hid (Below w.heap.size w w4) := bel_trans B3.out hb
  have X4 : Hid (BoxP w4 w.heap.size p a c) := hbel.out _ _ X3.out hb
  clear hb B3 X3 R4 c0 c1 c2 c3 c4 c5 c6 c7 c8 c9 c10 c11
  obtain ⟨c0, c1, c2, c3, c4, c5, c6, c7, c8, c9, c10, c11⟩ := hcell.out _ X4.out
  cases v4
  · go_wp2
    go_ret
    exact ⟨ret_bool (by simp [hv]), B4.out⟩
  by_cases h16 : p.ch.size ≤ 16
  · rw [decide_eq_true h16] at hd hv
    go_wp2
    go_ret
    exact ⟨ret_bool (by simp [hv]), B4.out⟩
  · rw [decide_eq_false h16] at hd hv
    go_wp2
    go_ret
    exact ⟨ret_bool (by simp [hv]), B4.out⟩
end Go.Proofs.Ytkohojifnmklmaa

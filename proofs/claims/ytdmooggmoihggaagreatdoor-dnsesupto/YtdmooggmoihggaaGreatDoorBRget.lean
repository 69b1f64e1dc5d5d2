/-
  Several texts in one.
-/
import Derived.Test.YtdmooggmoihggaaGreatDoorBTake
import Derived.Test.YtdmooggmoihggaaGreatDoorRrMay
import Derived.Handy
/-
  Contracts of package rr's Get and the reader that it makes, at every text and place.
-/
namespace Go.Proofs.YtdmooggmoihggaaGreatDoor
set_option maxRecDepth 100000
open Go.ChangeShapes Go.WideShapes Go.ChangeAt Go.RowKit Go.Pin Go.PlainAid

theorem TkAt.keep {w w' : World} {b : Nat} {s : ByteArray} {x : Tk} (h : TkAt w b s x) (hb : w'.heap[b]? = w.heap[b]?) (hs : w.heap.size ≤ w'.heap.size) : TkAt w' b s x := by
  have hc : ∀ j, w'.cell? ⟨b, j, none⟩ = w.cell? ⟨b, j, none⟩ := fun j => World.cell?_of_block hb
  have hf : ∀ j, w'.frozen? ⟨b, j, none⟩ = w.frozen? ⟨b, j, none⟩ := fun j => World.frozen?_of_block hb
  exact ⟨(hc 0).trans h.c0, (hc 1).trans h.c1, (hc 2).trans h.c2, fun j => (hf j).trans (h.fz j), Nat.lt_of_lt_of_le h.lt hs, h.rg, h.wf⟩
theorem RecAt.turn {w w' : World} {b c : Nat} {r : Rec} (h : RecAt w c r) (hb : Turn b w w') (hn : c ≠ b) : RecAt w' c r := h.keep (hb.oth c hn h.lt) hb.bel.size
theorem setCell_size (w : World) (p : Addr) (u : Value) : (w.setCell p u).heap.size = w.heap.size := by simp
theorem TkAt.set {w : World} {b c j : Nat} {s : ByteArray} {x : Tk} {u : Value} (h : TkAt w b s x) (hn : b ≠ c) : TkAt (w.setCell ⟨c, j, none⟩ u) b s x :=
  h.keep (Below.heap_setCell _ _ _ _ hn) (by rw [setCell_size]; exact Nat.le_refl _)
theorem RecAt.set3 {w : World} {c : Nat} {r : Rec} (h : RecAt w c r) (v : Int) : RecAt (w.setCell ⟨c, 3, none⟩ (.int .i64 v)) c { r with ad := v } :=
  ⟨way_cell h.c0 h.c3, way_cell h.c1 h.c3, way_cell h.c2 h.c3, way_cell h.c3 h.c3, way_cell h.c4 h.c3, way_cell h.c5 h.c3, way_cell h.c6 h.c3, fun j => by rw [World.frozen?_setCell]; exact h.fz j, by rw [setCell_size]; exact h.lt⟩
theorem RecAt.set4 {w : World} {c : Nat} {r : Rec} (h : RecAt w c r) (v : ByteArray) : RecAt (w.setCell ⟨c, 4, none⟩ (.string v)) c { r with tg := v } :=
  ⟨way_cell h.c0 h.c4, way_cell h.c1 h.c4, way_cell h.c2 h.c4, way_cell h.c3 h.c4, way_cell h.c4 h.c4, way_cell h.c5 h.c4, way_cell h.c6 h.c4, fun j => by rw [World.frozen?_setCell]; exact h.fz j, by rw [setCell_size]; exact h.lt⟩
theorem RecAt.set5 {w : World} {c : Nat} {r : Rec} (h : RecAt w c r) (v : ByteArray) : RecAt (w.setCell ⟨c, 5, none⟩ (.string v)) c { r with tx := v } :=
  ⟨way_cell h.c0 h.c5, way_cell h.c1 h.c5, way_cell h.c2 h.c5, way_cell h.c3 h.c5, way_cell h.c4 h.c5, way_cell h.c5 h.c5, way_cell h.c6 h.c5, fun j => by rw [World.frozen?_setCell]; exact h.fz j, by rw [setCell_size]; exact h.lt⟩
theorem RecAt.set6 {w : World} {c : Nat} {r : Rec} (h : RecAt w c r) (v : Int) : RecAt (w.setCell ⟨c, 6, none⟩ (.int .i64 v)) c { r with se := v } :=
  ⟨way_cell h.c0 h.c6, way_cell h.c1 h.c6, way_cell h.c2 h.c6, way_cell h.c3 h.c6, way_cell h.c4 h.c6, way_cell h.c5 h.c6, way_cell h.c6 h.c6, fun j => by rw [World.frozen?_setCell]; exact h.fz j, by rw [setCell_size]; exact h.lt⟩
theorem RecAt.set0 {w : World} {c : Nat} {r : Rec} (h : RecAt w c r) (v : ByteArray) : RecAt (w.setCell ⟨c, 0, none⟩ (.string v)) c { r with n := v } :=
  ⟨way_cell h.c0 h.c0, way_cell h.c1 h.c0, way_cell h.c2 h.c0, way_cell h.c3 h.c0, way_cell h.c4 h.c0, way_cell h.c5 h.c0, way_cell h.c6 h.c0, fun j => by rw [World.frozen?_setCell]; exact h.fz j, by rw [setCell_size]; exact h.lt⟩
theorem RecAt.set1 {w : World} {c : Nat} {r : Rec} (h : RecAt w c r) (v : Int) : RecAt (w.setCell ⟨c, 1, none⟩ (.int .i64 v)) c { r with ty := v } :=
  ⟨way_cell h.c0 h.c1, way_cell h.c1 h.c1, way_cell h.c2 h.c1, way_cell h.c3 h.c1, way_cell h.c4 h.c1, way_cell h.c5 h.c1, way_cell h.c6 h.c1, fun j => by rw [World.frozen?_setCell]; exact h.fz j, by rw [setCell_size]; exact h.lt⟩
theorem RecAt.set2 {w : World} {c : Nat} {r : Rec} (h : RecAt w c r) (v : Int) : RecAt (w.setCell ⟨c, 2, none⟩ (.int .i64 v)) c { r with ttl := v } :=
  ⟨way_cell h.c0 h.c2, way_cell h.c1 h.c2, way_cell h.c2 h.c2, way_cell h.c3 h.c2, way_cell h.c4 h.c2, way_cell h.c5 h.c2, way_cell h.c6 h.c2, fun j => by rw [World.frozen?_setCell]; exact h.fz j, by rw [setCell_size]; exact h.lt⟩
/-- From w to w' nothing turned but the cells of blocks b and c and what is new. -/
structure Turn2 (b c : Nat) (w w' : World) : Prop where
  os : w'.os = w.os
  tape : w'.tape = w.tape
  output : w'.output = w.output
  size : w.heap.size ≤ w'.heap.size
  oth : ∀ k, k ≠ b → k ≠ c → k < w.heap.size → w'.heap[k]? = w.heap[k]?
  cel : b ≠ c → ∀ j, 3 ≤ j → w'.cell? ⟨b, j, none⟩ = w.cell? ⟨b, j, none⟩
theorem Turn2.of1 {b c : Nat} {w w' : World} (h : Turn b w w') : Turn2 b c w w' := ⟨h.bel.os, h.bel.tape, h.bel.output, h.bel.size, fun k h1 _ h3 => h.oth k h1 h3, fun _ => h.cel⟩
theorem Turn2.trans {b c : Nat} {w w1 w2 : World} (h1 : Turn2 b c w w1) (h2 : Turn2 b c w1 w2) : Turn2 b c w w2 :=
  ⟨h2.os.trans h1.os, h2.tape.trans h1.tape, h2.output.trans h1.output, Nat.le_trans h1.size h2.size, fun k hb hc hl => (h2.oth k hb hc (Nat.lt_of_lt_of_le hl h1.size)).trans (h1.oth k hb hc hl), fun hn j hj => (h2.cel hn j hj).trans (h1.cel hn j hj)⟩
theorem Turn2.set {b c : Nat} (w : World) (j : Nat) (u : Value) : Turn2 b c w (w.setCell ⟨c, j, none⟩ u) :=
  ⟨rfl, rfl, rfl, by rw [setCell_size]; exact Nat.le_refl _, fun _ _ hc _ => Below.heap_setCell _ _ _ _ hc, fun hn _ _ => World.cell?_of_block (Below.heap_setCell _ _ _ _ hn)⟩
/-- The numbers that stand behind a serial. -/
def Laid (w : World) : Prop := w.cell? ⟨0, 0, none⟩ = some (.int .i64 60) ∧ w.cell? ⟨0, 1, none⟩ = some (.int .i64 60) ∧ w.cell? ⟨0, 2, none⟩ = some (.int .i64 600) ∧ w.cell? ⟨0, 3, none⟩ = some (.int .i64 60)
theorem Laid.lt {w : World} (h : Laid w) : 0 < w.heap.size := by
  have := World.block_lt_of_cell? w _ h.1; simpa using this
theorem Laid.keep {w w' : World} (h : Laid w) (hb : w'.heap[0]? = w.heap[0]?) : Laid w' := by
  have hc : ∀ j, w'.cell? ⟨0, j, none⟩ = w.cell? ⟨0, j, none⟩ := fun j => World.cell?_of_block hb
  exact ⟨(hc 0).trans h.1, (hc 1).trans h.2.1, (hc 2).trans h.2.2.1, (hc 3).trans h.2.2.2⟩
theorem Laid.below {w w' : World} (h : Laid w) (hb : Below w.heap.size w w') : Laid w' := h.keep (hb.block 0 h.lt)
theorem Laid.turn2 {w w' : World} {b c : Nat} (h : Laid w) (hb : Turn2 b c w w') (h1 : b ≠ 0) (h2 : c ≠ 0) : Laid w' := h.keep (hb.oth 0 h1.symm h2.symm h.lt)

/-- A number that must be. -/
def isT4 (s : ByteArray) (v : Int) (x : Tk) : Tk := mustT ((numT s 4 x).1 == v) (numT s 4 x).2
def soaT (s : ByteArray) (x : Tk) : (ByteArray × Int) × Tk :=
  let y := nameT s x
  let z := nameT s y.2
  let q := numT s 4 (mustT (z.1.toList == y.1.toList) z.2)
  ((y.1, q.1), isT4 s 60 (isT4 s 600 (isT4 s 60 (isT4 s 60 q.2))))
/-- What a record's type names. -/
def dataT (s : ByteArray) (size : Nat) (r : Rec) (x : Tk) : Rec × Tk :=
  if r.ty = 1 then ({ r with ad := (numT s 4 x).1 }, (numT s 4 x).2)
  else if isN r.ty then ({ r with tg := (nameT s x).1 }, (nameT s x).2)
  else if r.ty = 6 then ({ r with tg := (soaT s x).1.1, se := (soaT s x).1.2 }, (soaT s x).2)
  else if r.ty = 16 then ({ r with tx := (textT s (numT s 1 x).1.toNat (numT s 1 x).2).1 }, (textT s (numT s 1 x).1.toNat (numT s 1 x).2).2)
  else if r.ty = 49 then ({ r with tx := (textT s size x).1 }, (textT s size x).2)
  else (r, x)

theorem number_1t (b : Nat) (s : ByteArray) (x : Tk) (w : World) (hs : s.size ≤ 1125899906842624) (h : TkAt w b s x) :
    Calls Tryz.prog 49 #[.pointer (some ⟨b, 0, none⟩), .int .i64 1] w fun e w' => e = .returned (.int .i64 (numT s 1 x).1) ∧ TkAt w' b s (numT s 1 x).2 ∧ Turn b w w' := number_c b s x 1 w (by omega) hs h
theorem number_2t (b : Nat) (s : ByteArray) (x : Tk) (w : World) (hs : s.size ≤ 1125899906842624) (h : TkAt w b s x) :
    Calls Tryz.prog 49 #[.pointer (some ⟨b, 0, none⟩), .int .i64 2] w fun e w' => e = .returned (.int .i64 (numT s 2 x).1) ∧ TkAt w' b s (numT s 2 x).2 ∧ Turn b w w' := number_c b s x 2 w (by omega) hs h
theorem number_4t (b : Nat) (s : ByteArray) (x : Tk) (w : World) (hs : s.size ≤ 1125899906842624) (h : TkAt w b s x) :
    Calls Tryz.prog 49 #[.pointer (some ⟨b, 0, none⟩), .int .i64 4] w fun e w' => e = .returned (.int .i64 (numT s 4 x).1) ∧ TkAt w' b s (numT s 4 x).2 ∧ Turn b w w' := number_c b s x 4 w (by omega) hs h

theorem rdata_1 (b c : Nat) (s : ByteArray) (x : Tk) (r : Rec) (v : Value) (w : World) (hs : s.size ≤ 1125899906842624) (h : TkAt w b s x) (hr : RecAt w c r) (hbc : b ≠ c) (ht : r.ty = 1) :
    Calls Tryz.prog 113 #[.pointer (some ⟨b, 0, none⟩), .pointer (some ⟨c, 0, none⟩), v] w fun e w' => e = .returned (.tuple #[]) ∧ TkAt w' b s (numT s 4 x).2 ∧ RecAt w' c { r with ad := (numT s 4 x).1 } ∧ Turn2 b c w w' := by
  have HC : Hid (∀ w, TkAt w b s x → _) := fun w h => number_4t b s x w hs h
  have hR : Hid (RecAt w c r) := hr
  obtain ⟨c0, c1, c2, c3, c4, c5, c6, fz, lt⟩ := hr
  rw [ht] at c1
  generalize (numT s 4 x).1 = y at *
  generalize (numT s 4 x).2 = z at *
  clear fz hs
  go_enter Tryz.func113, Tryz.ntmps113
  go_wp2_with fail
  refine (HC.out _ h).mono ?_; rintro e w1 ⟨rfl, hT1, hb1⟩
  have hR1 := hR.out.turn hb1 hbc.symm
  have d3 := hR1.c3
  have f3 := hR1.fz 3
  go_wp2
  go_end0
  exact ⟨rfl, hT1.set hbc, hR1.set3 _, (Turn2.of1 hb1).trans (Turn2.set _ _ _)⟩

theorem rdata_n (b c : Nat) (s : ByteArray) (x : Tk) (r : Rec) (v : Value) (w : World) (hs : s.size ≤ 1125899906842624) (h : TkAt w b s x) (hr : RecAt w c r) (hbc : b ≠ c) (ht : isN r.ty = true) :
    Calls Tryz.prog 113 #[.pointer (some ⟨b, 0, none⟩), .pointer (some ⟨c, 0, none⟩), v] w fun e w' => e = .returned (.tuple #[]) ∧ TkAt w' b s (nameT s x).2 ∧ RecAt w' c { r with tg := (nameT s x).1 } ∧ Turn2 b c w w' := by
  have HC : Hid (∀ w, TkAt w b s x → _) := fun w h => name_c b s x w hs h
  have hR : Hid (RecAt w c r) := hr
  obtain ⟨c0, c1, c2, c3, c4, c5, c6, fz, lt⟩ := hr
  generalize (nameT s x).1 = y at *
  generalize (nameT s x).2 = z at *
  simp only [isN, decide_eq_true_eq] at ht
  clear fz hs
  rcases ht with ht | ht | ht <;> rw [ht] at c1
  all_goals
    go_enter Tryz.func113, Tryz.ntmps113
    go_wp2_with fail
    refine (HC.out _ h).mono ?_; rintro e w1 ⟨rfl, hT1, hb1⟩
    have hR1 := hR.out.turn hb1 hbc.symm
    have d4 := hR1.c4
    have f4 := hR1.fz 4
    go_wp2
    go_end0
    exact ⟨rfl, hT1.set hbc, hR1.set4 _, (Turn2.of1 hb1).trans (Turn2.set _ _ _)⟩

theorem rdata_49 (b c : Nat) (s : ByteArray) (x : Tk) (r : Rec) (n : Nat) (w : World) (hs : s.size ≤ 1125899906842624) (hn : n ≤ 65535) (h : TkAt w b s x) (hr : RecAt w c r) (hbc : b ≠ c) (ht : r.ty = 49) :
    Calls Tryz.prog 113 #[.pointer (some ⟨b, 0, none⟩), .pointer (some ⟨c, 0, none⟩), .int .i64 n] w fun e w' => e = .returned (.tuple #[]) ∧ TkAt w' b s (textT s n x).2 ∧ RecAt w' c { r with tx := (textT s n x).1 } ∧ Turn2 b c w w' := by
  have HC : Hid (∀ w, TkAt w b s x → _) := fun w h => text_c b s x n w hs (by omega) h
  have hR : Hid (RecAt w c r) := hr
  obtain ⟨c0, c1, c2, c3, c4, c5, c6, fz, lt⟩ := hr
  rw [ht] at c1
  generalize (textT s n x).1 = y at *
  generalize (textT s n x).2 = z at *
  clear fz hs
  go_enter Tryz.func113, Tryz.ntmps113
  go_wp2_with fail
  refine (HC.out _ h).mono ?_; rintro e w1 ⟨rfl, hT1, hb1⟩
  have hR1 := hR.out.turn hb1 hbc.symm
  have d5 := hR1.c5
  have f5 := hR1.fz 5
  go_wp2
  go_end0
  exact ⟨rfl, hT1.set hbc, hR1.set5 _, (Turn2.of1 hb1).trans (Turn2.set _ _ _)⟩

theorem rdata_no (b c : Nat) (r : Rec) (v : Value) (w : World) (hr : RecAt w c r) (ht : typeB r.ty = false) :
    Calls Tryz.prog 113 #[.pointer (some ⟨b, 0, none⟩), .pointer (some ⟨c, 0, none⟩), v] w fun e w' => e = .returned (.tuple #[]) ∧ w' = w := by
  obtain ⟨c0, c1, c2, c3, c4, c5, c6, fz, lt⟩ := hr
  simp only [typeB, isN, isT, Bool.or_eq_false_iff, decide_eq_false_iff_not, not_or] at ht
  obtain ⟨⟨⟨h1, h2, h5, h12⟩, h6⟩, h16, h49⟩ := ht
  clear fz
  go_enter Tryz.func113, Tryz.ntmps113
  go_wp2
  go_end0
  exact ⟨rfl, rfl⟩

theorem drew_tk {w : World} {b : Nat} {s : ByteArray} {x : Tk} (h : TkAt w b s x) : TkAt w.drew b s x := h.below (below_drewN (Below.refl w.heap.size _) 1) h.lt
theorem drew_turn {w : World} {b : Nat} (h : b < w.heap.size) : Turn b w w.drew := Turn.of_below (below_drewN (Below.refl _ _) 1) h
theorem getB_bd (s : ByteArray) (a : Int) (k : Nat) : 0 ≤ (getB s a k).1 ∧ (getB s a k).1 < 256 ^ k := by
  have hp : (0 : Int) < 256 ^ k := Int.pow_pos (by omega)
  unfold getB
  split
  · exact ⟨Int.le_refl _, hp⟩
  · split
    · exact ⟨Int.le_refl _, hp⟩
    · exact num_bd s a.toNat k
theorem numT_bd (s : ByteArray) (k : Nat) (x : Tk) : 0 ≤ (numT s k x).1 ∧ (numT s k x).1 < 256 ^ k := by
  have hp : (0 : Int) < 256 ^ k := Int.pow_pos (by omega)
  unfold numT
  split
  · exact ⟨Int.le_refl _, hp⟩
  · split
    · exact getB_bd s x.at_ k
    · exact ⟨Int.le_refl _, hp⟩
theorem num_small (s : ByteArray) (x : Tk) : ∃ n : Nat, (numT s 1 x).1 = n ∧ n ≤ 65535 ∧ (numT s 1 x).1.toNat = n := by
  have := numT_bd s 1 x
  exact ⟨(numT s 1 x).1.toNat, by omega, by omega, rfl⟩

set_option maxHeartbeats 1000000 in
theorem rdata_16 (b c : Nat) (s : ByteArray) (x : Tk) (r : Rec) (v : Value) (w : World) (hs : s.size ≤ 1125899906842624) (h : TkAt w b s x) (hr : RecAt w c r) (hbc : b ≠ c) (ht : r.ty = 16) :
    Calls Tryz.prog 113 #[.pointer (some ⟨b, 0, none⟩), .pointer (some ⟨c, 0, none⟩), v] w fun e w' => e = .returned (.tuple #[]) ∧ TkAt w' b s (textT s (numT s 1 x).1.toNat (numT s 1 x).2).2 ∧ RecAt w' c { r with tx := (textT s (numT s 1 x).1.toNat (numT s 1 x).2).1 } ∧ Turn2 b c w w' := by
  obtain ⟨n, e1, e2, e3⟩ := num_small s x
  have HC : Hid (∀ w, TkAt w b s x → _) := fun w h => number_1t b s x w hs h
  rw [e1] at HC
  rw [e3]
  have HD : Hid (∀ w, TkAt w b s (numT s 1 x).2 → _) := fun w h => text_c b s (numT s 1 x).2 n w hs (by omega) h
  clear e1 e3
  generalize (numT s 1 x).2 = z at *
  generalize (textT s n z).1 = y at *
  generalize (textT s n z).2 = q at *
  have hR : Hid (RecAt w c r) := hr
  have hh : Hid (TkAt w b s x) := h
  have lt := h.lt
  have c1 := hr.c1
  rw [ht] at c1
  clear hs h hr
  go_enter Tryz.func113, Tryz.ntmps113
  go_wp2_with fail
  go_region_held3 (fun _ => True) (exact trivial)
    (first
      | (go_at_call 49; refine (HC.out _ ?_).mono ?_; (exact drew_tk hh.out); rintro e w1 ⟨rfl, hT1, hb1⟩; have B1 : Turn b w w1 := (drew_turn lt).trans hb1)
      | (go_at_call 102; refine (HD.out _ ?_).mono ?_; (exact hT1); rintro e w2 ⟨rfl, hT2, hb2⟩; have B2 : Turn b w w2 := B1.trans hb2; have hR2 := hR.out.turn B2 hbc.symm; have d5 := hR2.c5; have f5 := hR2.fz 5))
  go_wp2
  go_end0
  exact ⟨rfl, hT2.set hbc, hR2.set5 _, (Turn2.of1 B2).trans (Turn2.set _ _ _)⟩

theorem soa_at0 (w : World) : (Instr.index 113 (.agg #[.int .i64 60, .int .i64 60, .int .i64 600, .int .i64 60]) (.int .i64 0)).run Tryz.prog w = .ok (.int .i64 60) w := by kernel_rfl
theorem soa_at1 (w : World) : (Instr.index 113 (.agg #[.int .i64 60, .int .i64 60, .int .i64 600, .int .i64 60]) (.int .i64 1)).run Tryz.prog w = .ok (.int .i64 60) w := by kernel_rfl
theorem soa_at2 (w : World) : (Instr.index 113 (.agg #[.int .i64 60, .int .i64 60, .int .i64 600, .int .i64 60]) (.int .i64 2)).run Tryz.prog w = .ok (.int .i64 600) w := by kernel_rfl
theorem soa_at3 (w : World) : (Instr.index 113 (.agg #[.int .i64 60, .int .i64 60, .int .i64 600, .int .i64 60]) (.int .i64 3)).run Tryz.prog w = .ok (.int .i64 60) w := by kernel_rfl
set_option maxHeartbeats 2000000 in
theorem rdata_6 (b c : Nat) (s : ByteArray) (x : Tk) (r : Rec) (v : Value) (w : World) (hs : s.size ≤ 1125899906842624) (h : TkAt w b s x) (hr : RecAt w c r) (hbc : b ≠ c) (ht : r.ty = 6) (hL : Laid w) (hb0 : b ≠ 0) (hc0 : c ≠ 0) :
    Calls Tryz.prog 113 #[.pointer (some ⟨b, 0, none⟩), .pointer (some ⟨c, 0, none⟩), v] w fun e w' => e = .returned (.tuple #[]) ∧ TkAt w' b s (soaT s x).2 ∧ RecAt w' c { r with tg := (soaT s x).1.1, se := (soaT s x).1.2 } ∧ Turn2 b c w w' := by
  have HN1 : Hid (∀ w, TkAt w b s x → _) := fun w h => name_c b s x w hs h
  have HN2 : Hid (∀ w, TkAt w b s (nameT s x).2 → _) := fun w h => name_c b s (nameT s x).2 w hs h
  have HQ : Hid (∀ z w, TkAt w b s z → _) := fun z w h => number_4t b s z w hs h
  have HM : Hid (∀ z so w, TkAt w b s z → _) := fun z so w h => must_c b s z so w h
  have e1 : (soaT s x).1.1 = (nameT s x).1 := rfl
  have e2 : (soaT s x).1.2 = (numT s 4 (mustT ((nameT s (nameT s x).2).1.toList == (nameT s x).1.toList) (nameT s (nameT s x).2).2)).1 := rfl
  have e3 : (soaT s x).2 = isT4 s 60 (isT4 s 600 (isT4 s 60 (isT4 s 60 (numT s 4 (mustT ((nameT s (nameT s x).2).1.toList == (nameT s x).1.toList) (nameT s (nameT s x).2).2)).2))) := rfl
  rw [e1, e2, e3]
  clear e1 e2 e3
  generalize (nameT s x).1 = y1 at *
  generalize (nameT s x).2 = z1 at *
  generalize (nameT s z1).1 = y2 at *
  generalize (nameT s z1).2 = z2 at *
  have HM1 : Hid (∀ w, TkAt w b s z2 → _) := fun w h => must_c b s z2 (y2.toList == y1.toList) w h
  generalize mustT (y2.toList == y1.toList) z2 = z4 at *
  have HQ1 : Hid (∀ w, TkAt w b s z4 → _) := fun w h => number_4t b s z4 w hs h
  generalize (numT s 4 z4).1 = q at *
  generalize (numT s 4 z4).2 = z5 at *
  have hR : Hid (RecAt w c r) := hr
  have hh : Hid (TkAt w b s x) := h
  have HL : Hid (Laid w) := hL
  have lt := h.lt
  have c1 := hr.c1
  rw [ht] at c1
  clear hs h hr hL
  go_enter Tryz.func113, Tryz.ntmps113
  go_wp2_with fail
  refine (HN1.out _ hh.out).mono ?_; rintro e w1 ⟨rfl, hT1, hb1⟩
  have hR1 := hR.out.turn hb1 hbc.symm
  have d4 := hR1.c4
  have f4 := hR1.fz 4
  have hT2 : Hid (TkAt (w1.setCell ⟨c, 4, none⟩ (.string y1)) b s z1) := hT1.set hbc
  have hR2 : Hid (RecAt (w1.setCell ⟨c, 4, none⟩ (.string y1)) c { r with tg := y1 }) := hR1.set4 y1
  have B2 : Hid (Turn2 b c w (w1.setCell ⟨c, 4, none⟩ (.string y1))) := (Turn2.of1 hb1).trans (Turn2.set _ _ _)
  clear hT1 hb1 hR1
  go_wp2_with fail
  generalize w1.setCell ⟨c, 4, none⟩ (.string y1) = w2 at *
  have d4 := hR2.out.c4
  have lt2 := hT2.out.lt
  simp only at d4
  go_region_held3 (fun w' => w'.cell? ⟨c, 4, none⟩ = some (.string y1)) (first | exact d4 | exact d4a | exact d4b)
    (first
      | (go_at_call 85; refine (HN2.out _ ?_).mono ?_; (exact drew_tk hT2.out); rintro e w3 ⟨rfl, hT3, hb3⟩; have B3 : Turn b w2 w3 := (drew_turn lt2).trans hb3; have hR3 := hR2.out.turn B3 hbc.symm; have d4a := hR3.c4; simp only at d4a)
      | (go_at_call 20; refine (HM1.out _ ?_).mono ?_; (exact hT3); rintro e w4 ⟨rfl, hT4, hb4⟩; have B4 : Turn b w2 w4 := B3.trans hb4; have hR4 := hR2.out.turn B4 hbc.symm; have d4b := hR4.c4; simp only at d4b))
  have B4' : Hid (Turn2 b c w w4) := B2.out.trans (Turn2.of1 B4)
  have hR4' : Hid (_) := hR4
  clear hT3 hb3 B3 hR3 d4a d4 d4b hb4 B4 hR4 B2 hR2 hT2 hh hR
  go_wp2_with fail
  refine (HQ1.out _ hT4).mono ?_; rintro e w5 ⟨rfl, hT5, hb5⟩
  clear hT4
  have hR5 := hR4'.out.turn hb5 hbc.symm
  have d6 := hR5.c6
  have f6 := hR5.fz 6
  have hT6 : TkAt (w5.setCell ⟨c, 6, none⟩ (.int .i64 q)) b s z5 := hT5.set hbc
  have hR6 : Hid (RecAt (w5.setCell ⟨c, 6, none⟩ (.int .i64 q)) c { r with tg := y1, se := q }) := hR5.set6 q
  have B6 : Hid (Turn2 b c w (w5.setCell ⟨c, 6, none⟩ (.int .i64 q))) := B4'.out.trans ((Turn2.of1 hb5).trans (Turn2.set _ _ _))
  obtain ⟨l0, l1, l2, l3⟩ := HL.out.turn2 B6.out hb0 hc0
  clear hT5 hb5 hR5 hR4' B4' HL
  have hw0 : Hid (TkAt (w5.setCell ⟨c, 6, none⟩ (.int .i64 q)) b s z5) := hT6
  clear hT6
  go_wp2_with fail
  generalize w5.setCell ⟨c, 6, none⟩ (.int .i64 q) = w6 at *
  have x0 := soa_at0
  have x1 := soa_at1
  have x2 := soa_at2
  have x3 := soa_at3
  refine wp_loop_rounds 5 ?_
  rw [rounds_succ]
  go_wp2_with fail
  have lt7 := hw0.out.lt
  go_region_held3 (fun _ => True) (exact trivial)
    (first
      | (go_at_call 49; refine (HQ.out z5 _ ?_).mono ?_; (exact drew_tk hw0.out); rintro e w7 ⟨rfl, hT7, hb7⟩; have B7 : Turn b w6 w7 := (drew_turn lt7).trans hb7)
      | (go_at_call 20; refine (HM.out (numT s 4 z5).2 _ _ ?_).mono ?_; (exact hT7); rintro e w8 ⟨rfl, hT8, hb8⟩; have B8 : Turn b w6 w8 := B7.trans hb8))
  have hw1 : Hid (TkAt w8 b s (isT4 s 60 z5)) := hT8
  have hR8 : Hid (RecAt w8 c _) := hR6.out.turn B8 hbc.symm
  have D8 : Hid (Turn2 b c w w8) := B6.out.trans (Turn2.of1 B8)
  clear hT7 hb7 B7 hT8 hb8 B8 hw0 hR6 B6 lt7
  go_wp2_with fail
  rw [rounds_succ]
  go_wp2_with fail
  have lt9 := hw1.out.lt
  go_region_held3 (fun _ => True) (exact trivial)
    (first
      | (go_at_call 49; refine (HQ.out (isT4 s 60 z5) _ ?_).mono ?_; (exact drew_tk hw1.out); rintro e w9 ⟨rfl, hT9, hb9⟩; have B9 : Turn b w8 w9 := (drew_turn lt9).trans hb9)
      | (go_at_call 20; refine (HM.out (numT s 4 (isT4 s 60 z5)).2 _ _ ?_).mono ?_; (exact hT9); rintro e w10 ⟨rfl, hT10, hb10⟩; have B10 : Turn b w8 w10 := B9.trans hb10))
  have hw2 : Hid (TkAt w10 b s (isT4 s 60 (isT4 s 60 z5))) := hT10
  have hR10 : Hid (RecAt w10 c _) := hR8.out.turn B10 hbc.symm
  have D10 : Hid (Turn2 b c w w10) := D8.out.trans (Turn2.of1 B10)
  clear hT9 hb9 B9 hT10 hb10 B10 hw1 hR8 D8 lt9
  go_wp2_with fail
  rw [rounds_succ]
  go_wp2_with fail
  have lt11 := hw2.out.lt
  go_region_held3 (fun _ => True) (exact trivial)
    (first
      | (go_at_call 49; refine (HQ.out (isT4 s 60 (isT4 s 60 z5)) _ ?_).mono ?_; (exact drew_tk hw2.out); rintro e w11 ⟨rfl, hT11, hb11⟩; have B11 : Turn b w10 w11 := (drew_turn lt11).trans hb11)
      | (go_at_call 20; refine (HM.out (numT s 4 (isT4 s 60 (isT4 s 60 z5))).2 _ _ ?_).mono ?_; (exact hT11); rintro e w12 ⟨rfl, hT12, hb12⟩; have B12 : Turn b w10 w12 := B11.trans hb12))
  have hw3 : Hid (TkAt w12 b s (isT4 s 600 (isT4 s 60 (isT4 s 60 z5)))) := hT12
  have hR12 : Hid (RecAt w12 c _) := hR10.out.turn B12 hbc.symm
  have D12 : Hid (Turn2 b c w w12) := D10.out.trans (Turn2.of1 B12)
  clear hT11 hb11 B11 hT12 hb12 B12 hw2 hR10 D10 lt11
  go_wp2_with fail
  rw [rounds_succ]
  go_wp2_with fail
  have lt13 := hw3.out.lt
  go_region_held3 (fun _ => True) (exact trivial)
    (first
      | (go_at_call 49; refine (HQ.out (isT4 s 600 (isT4 s 60 (isT4 s 60 z5))) _ ?_).mono ?_; (exact drew_tk hw3.out); rintro e w13 ⟨rfl, hT13, hb13⟩; have B13 : Turn b w12 w13 := (drew_turn lt13).trans hb13)
      | (go_at_call 20; refine (HM.out (numT s 4 (isT4 s 600 (isT4 s 60 (isT4 s 60 z5)))).2 _ _ ?_).mono ?_; (exact hT13); rintro e w14 ⟨rfl, hT14, hb14⟩; have B14 : Turn b w12 w14 := B13.trans hb14))
  have hw4 : Hid (TkAt w14 b s (isT4 s 60 (isT4 s 600 (isT4 s 60 (isT4 s 60 z5))))) := hT14
  have hR14 : Hid (RecAt w14 c _) := hR12.out.turn B14 hbc.symm
  have D14 : Hid (Turn2 b c w w14) := D12.out.trans (Turn2.of1 B14)
  clear hT13 hb13 B13 hT14 hb14 B14 hw3 hR12 D12 lt13
  go_wp2_with fail
  rw [rounds_succ]
  go_wp2
  go_end0
  exact ⟨rfl, hw4.out, hR14.out, D14.out⟩

theorem rdata_c (b c : Nat) (s : ByteArray) (x : Tk) (r : Rec) (n : Nat) (w : World) (hs : s.size ≤ 1125899906842624) (hn : n ≤ 65535) (h : TkAt w b s x) (hr : RecAt w c r) (hbc : b ≠ c) (hL : Laid w) (hb0 : b ≠ 0) (hc0 : c ≠ 0) :
    Calls Tryz.prog 113 #[.pointer (some ⟨b, 0, none⟩), .pointer (some ⟨c, 0, none⟩), .int .i64 n] w fun e w' => e = .returned (.tuple #[]) ∧ TkAt w' b s (dataT s n r x).2 ∧ RecAt w' c (dataT s n r x).1 ∧ Turn2 b c w w' := by
  unfold dataT
  by_cases h1 : r.ty = 1
  · rw [if_pos h1]; exact rdata_1 b c s x r _ w hs h hr hbc h1
  · rw [if_neg h1]
    by_cases h2 : isN r.ty = true
    · rw [if_pos h2]; exact rdata_n b c s x r _ w hs h hr hbc h2
    · rw [if_neg h2]
      by_cases h3 : r.ty = 6
      · rw [if_pos h3]; exact rdata_6 b c s x r _ w hs h hr hbc h3 hL hb0 hc0
      · rw [if_neg h3]
        by_cases h4 : r.ty = 16
        · rw [if_pos h4]; exact rdata_16 b c s x r _ w hs h hr hbc h4
        · rw [if_neg h4]
          by_cases h5 : r.ty = 49
          · rw [if_pos h5]; exact rdata_49 b c s x r n w hs hn h hr hbc h5
          · rw [if_neg h5]
            refine (rdata_no b c r _ w hr ?_).mono fun e w' ⟨h1, h2⟩ => ⟨h1, by rw [h2]; exact h, by rw [h2]; exact hr, by rw [h2]; exact Turn2.of1 (Turn.refl _ _)⟩
            simp only [typeB, isT, h1, h3, h4, h5, Bool.or_eq_false_iff, decide_false, or_self, and_true, true_and]
            simpa using h2

end Go.Proofs.YtdmooggmoihggaaGreatDoor

/-
  Contract of package rr's Get, at every text and place.
-/
namespace Go.Proofs.YtdmooggmoihggaaGreatDoor
set_option maxRecDepth 100000
open Go.ChangeShapes Go.WideShapes Go.ChangeAt Go.RowKit Go.Pin Go.PlainAid

theorem Turn.over {b c j : Nat} {w W : World} {u : Value} (h : Turn b w W) (hc : w.heap.size ≤ c) (hb : b < w.heap.size) : Turn b w (W.setCell ⟨c, j, none⟩ u) :=
  ⟨h.bel.setCell (show b ≤ (⟨c, j, none⟩ : Addr).block from by simp only; omega) u, fun k h1 h2 => (Below.heap_setCell _ _ _ _ (show k ≠ (⟨c, j, none⟩ : Addr).block from by simp only; omega)).trans (h.oth k h1 h2), fun i hi => (World.cell?_of_block (Below.heap_setCell _ _ _ _ (show b ≠ (⟨c, j, none⟩ : Addr).block from by simp only; omega))).trans (h.cel i hi)⟩
theorem Turn.two {b c : Nat} {w W W' : World} (h : Turn b w W) (h2 : Turn2 b c W W') (hc : w.heap.size ≤ c) (hb : b < w.heap.size) : Turn b w W' :=
  ⟨⟨h2.os.trans h.bel.os, h2.tape.trans h.bel.tape, h2.output.trans h.bel.output, Nat.le_trans h.bel.size h2.size, fun k hk => (h2.oth k (by omega) (by omega) (by have := h.bel.size; omega)).trans (h.bel.block k hk)⟩,
   fun k h1 h3 => (h2.oth k h1 (by omega) (by have := h.bel.size; omega)).trans (h.oth k h1 h3), fun j hj => (h2.cel (by omega) j hj).trans (h.cel j hj)⟩

/-- In the midst of a record: the taker, the record so far, the answer's place, and what was there. -/
structure Rd (w0 W : World) (b : Nat) (s : ByteArray) (x : Tk) (r : Rec) : Prop where
  tk : TkAt W b s x
  rc : RecAt W (w0.heap.size + 1) r
  rs : RecAt W w0.heap.size zeroR
  tn : Turn b w0 W
theorem Rd.call {w0 W W' : World} {b : Nat} {s : ByteArray} {x x' : Tk} {r : Rec} (h : Rd w0 W b s x r) (hb : b < w0.heap.size) (ht : TkAt W' b s x') (hn : Turn b W W') : Rd w0 W' b s x' r :=
  ⟨ht, h.rc.turn hn (by omega), h.rs.turn hn (by omega), h.tn.trans hn⟩
theorem Rd.data {w0 W W' : World} {b : Nat} {s : ByteArray} {x x' : Tk} {r r' : Rec} (h : Rd w0 W b s x r) (hb : b < w0.heap.size) (ht : TkAt W' b s x') (hr : RecAt W' (w0.heap.size + 1) r') (hn : Turn2 b (w0.heap.size + 1) W W') : Rd w0 W' b s x' r' :=
  ⟨ht, hr, h.rs.keep (hn.oth _ (by omega) (by omega) h.rs.lt) hn.size, h.tn.two hn (by omega) hb⟩
theorem RecAt.set {w : World} {b c j : Nat} {r : Rec} {u : Value} (h : RecAt w b r) (hn : b ≠ c) : RecAt (w.setCell ⟨c, j, none⟩ u) b r :=
  h.keep (Below.heap_setCell _ _ _ _ hn) (by rw [setCell_size]; exact Nat.le_refl _)
theorem Rd.put {w0 W : World} {b j : Nat} {s : ByteArray} {x : Tk} {r r' : Rec} {u : Value} (h : Rd w0 W b s x r) (hb : b < w0.heap.size) (hr : RecAt (W.setCell ⟨w0.heap.size + 1, j, none⟩ u) (w0.heap.size + 1) r') : Rd w0 (W.setCell ⟨w0.heap.size + 1, j, none⟩ u) b s x r' :=
  ⟨h.tk.set (by omega), hr, h.rs.set (by omega), h.tn.over (by omega) hb⟩

def recT (s : ByteArray) (x : Tk) : Rec × Tk :=
  let a := nameT s x
  let b := numT s 2 a.2
  let c := numT s 2 b.2
  let e := numT s 4 (mustT (c.1 == 1) c.2)
  let f := numT s 2 e.2
  let g := dataT s f.1.toNat ⟨a.1, b.1, e.1, 0, ⟨#[]⟩, ⟨#[]⟩, 0⟩ f.2
  (g.1, mustT (g.2.at_ == f.2.at_ + f.1) g.2)

theorem numT_sum (s : ByteArray) (x : Tk) (hs : s.size ≤ 1125899906842624) (hw : -9223372036854775808 ≤ (numT s 2 x).2.at_ ∧ (numT s 2 x).2.at_ ≤ 9223372036854775807) (hr : (numT s 2 x).2.f = false → 0 ≤ (numT s 2 x).2.at_ ∧ (numT s 2 x).2.at_ ≤ s.size) :
    -9223372036854775808 ≤ (numT s 2 x).2.at_ + (numT s 2 x).1 ∧ (numT s 2 x).2.at_ + (numT s 2 x).1 ≤ 9223372036854775807 := by
  have hb := numT_bd s 2 x
  cases hf : (numT s 2 x).2.f with
  | false => have := hr hf; omega
  | true =>
    have : (numT s 2 x).1 = 0 := by
      unfold numT at hf ⊢
      split
      · rfl
      · rename_i hx
        rw [if_neg hx] at hf
        split
        · rename_i hy; rw [if_pos hy] at hf; cases hf
        · rfl
    omega

set_option maxHeartbeats 4000000 in
theorem record_c (b : Nat) (s : ByteArray) (x : Tk) (w : World) (hs : s.size ≤ 1125899906842624) (h : TkAt w b s x) (hL : Laid w) (hb0 : b ≠ 0) :
    Calls Tryz.prog 101 #[.pointer (some ⟨b, 0, none⟩)] w fun e w' => e = .returned (rv (recT s x).1) ∧ TkAt w' b s (recT s x).2 ∧ Turn b w w' := by
  have HN : Hid (∀ w, TkAt w b s x → _) := fun w h => name_c b s x w hs h
  have e1 : (recT s x).1 = (dataT s (numT s 2 (numT s 4 (mustT ((numT s 2 (numT s 2 (nameT s x).2).2).1 == 1) (numT s 2 (numT s 2 (nameT s x).2).2).2)).2).1.toNat ⟨(nameT s x).1, (numT s 2 (nameT s x).2).1, (numT s 4 (mustT ((numT s 2 (numT s 2 (nameT s x).2).2).1 == 1) (numT s 2 (numT s 2 (nameT s x).2).2).2)).1, 0, ⟨#[]⟩, ⟨#[]⟩, 0⟩ (numT s 2 (numT s 4 (mustT ((numT s 2 (numT s 2 (nameT s x).2).2).1 == 1) (numT s 2 (numT s 2 (nameT s x).2).2).2)).2).2).1 := rfl
  have e2 : (recT s x).2 = mustT ((dataT s (numT s 2 (numT s 4 (mustT ((numT s 2 (numT s 2 (nameT s x).2).2).1 == 1) (numT s 2 (numT s 2 (nameT s x).2).2).2)).2).1.toNat ⟨(nameT s x).1, (numT s 2 (nameT s x).2).1, (numT s 4 (mustT ((numT s 2 (numT s 2 (nameT s x).2).2).1 == 1) (numT s 2 (numT s 2 (nameT s x).2).2).2)).1, 0, ⟨#[]⟩, ⟨#[]⟩, 0⟩ (numT s 2 (numT s 4 (mustT ((numT s 2 (numT s 2 (nameT s x).2).2).1 == 1) (numT s 2 (numT s 2 (nameT s x).2).2).2)).2).2).2.at_ == (numT s 2 (numT s 4 (mustT ((numT s 2 (numT s 2 (nameT s x).2).2).1 == 1) (numT s 2 (numT s 2 (nameT s x).2).2).2)).2).2.at_ + (numT s 2 (numT s 4 (mustT ((numT s 2 (numT s 2 (nameT s x).2).2).1 == 1) (numT s 2 (numT s 2 (nameT s x).2).2).2)).2).1) (dataT s (numT s 2 (numT s 4 (mustT ((numT s 2 (numT s 2 (nameT s x).2).2).1 == 1) (numT s 2 (numT s 2 (nameT s x).2).2).2)).2).1.toNat ⟨(nameT s x).1, (numT s 2 (nameT s x).2).1, (numT s 4 (mustT ((numT s 2 (numT s 2 (nameT s x).2).2).1 == 1) (numT s 2 (numT s 2 (nameT s x).2).2).2)).1, 0, ⟨#[]⟩, ⟨#[]⟩, 0⟩ (numT s 2 (numT s 4 (mustT ((numT s 2 (numT s 2 (nameT s x).2).2).1 == 1) (numT s 2 (numT s 2 (nameT s x).2).2).2)).2).2).2 := rfl
  rw [e1, e2]
  clear e1 e2
  generalize (nameT s x).1 = nm at *
  generalize (nameT s x).2 = x1 at *
  have HT : Hid (∀ w, TkAt w b s x1 → _) := fun w h => number_2t b s x1 w hs h
  generalize (numT s 2 x1).1 = ty at *
  generalize (numT s 2 x1).2 = x2 at *
  have HC : Hid (∀ w, TkAt w b s x2 → _) := fun w h => number_2t b s x2 w hs h
  generalize (numT s 2 x2).1 = cl at *
  generalize (numT s 2 x2).2 = x3 at *
  have HM : Hid (∀ w, TkAt w b s x3 → _) := fun w h => must_c b s x3 (cl == 1) w h
  generalize mustT (cl == 1) x3 = x4 at *
  have HTT : Hid (∀ w, TkAt w b s x4 → _) := fun w h => number_4t b s x4 w hs h
  generalize (numT s 4 x4).1 = ttl at *
  generalize (numT s 4 x4).2 = x5 at *
  have HS : Hid (∀ w, TkAt w b s x5 → _) := fun w h => number_2t b s x5 w hs h
  have HB : Hid (_) := numT_bd s 2 x5
  have HU : Hid (_) := numT_sum s x5 hs
  generalize (numT s 2 x5).1 = sz at *
  generalize (numT s 2 x5).2 = x6 at *
  obtain ⟨k, hk, hk2⟩ : ∃ k : Nat, sz = k ∧ k ≤ 65535 := ⟨sz.toNat, by have := HB.out; omega, by have := HB.out; omega⟩
  subst hk
  simp only [Int.toNat_natCast] at *
  have HD : Hid (∀ c w, TkAt w b s x6 → RecAt w c ⟨nm, ty, ttl, 0, ⟨#[]⟩, ⟨#[]⟩, 0⟩ → b ≠ c → Laid w → c ≠ 0 → _) := fun c w h1 h2 h3 h4 h5 => rdata_c b c s x6 ⟨nm, ty, ttl, 0, ⟨#[]⟩, ⟨#[]⟩, 0⟩ k w hs hk2 h1 h2 h3 h4 hb0 h5
  generalize (dataT s k ⟨nm, ty, ttl, 0, ⟨#[]⟩, ⟨#[]⟩, 0⟩ x6).1 = R at *
  generalize (dataT s k ⟨nm, ty, ttl, 0, ⟨#[]⟩, ⟨#[]⟩, 0⟩ x6).2 = x7 at *
  have HM2 : Hid (∀ w, TkAt w b s x7 → _) := fun w h => must_c b s x7 (x7.at_ == x6.at_ + k) w h
  have HA6 : Hid (∀ w, TkAt w b s x6 → _) := fun w h => at_c b s x6 w h
  have HA7 : Hid (∀ w, TkAt w b s x7 → _) := fun w h => at_c b s x7 w h
  generalize mustT (x7.at_ == x6.at_ + k) x7 = x8 at *
  have lt := h.lt
  have HL0 : Hid (Laid w) := hL
  have hw : Hid (TkAt w b s x) := h
  have hz : Hid (rv R = .agg #[.string R.n, .int .i64 R.ty, .int .i64 R.ttl, .int .i64 R.ad, .string R.tg, .string R.tx, .int .i64 R.se]) := rfl
  clear h hL hs HB
  go_enter Tryz.func101, Tryz.ntmps101
  go_wp2_with fail
  have T0 : Turn b w ((w.alloc (.cells #[.string ⟨#[]⟩, .int .i64 0, .int .i64 0, .int .i64 0, .string ⟨#[]⟩, .string ⟨#[]⟩, .int .i64 0] 82)).alloc (.cells #[.string ⟨#[]⟩, .int .i64 0, .int .i64 0, .int .i64 0, .string ⟨#[]⟩, .string ⟨#[]⟩, .int .i64 0] 82)) := Turn.of_below (((Below.refl _ _).alloc (Nat.le_refl _) _).alloc (by simp) _) lt
  have R0 : Hid (Rd w ((w.alloc (.cells #[.string ⟨#[]⟩, .int .i64 0, .int .i64 0, .int .i64 0, .string ⟨#[]⟩, .string ⟨#[]⟩, .int .i64 0] 82)).alloc (.cells #[.string ⟨#[]⟩, .int .i64 0, .int .i64 0, .int .i64 0, .string ⟨#[]⟩, .string ⟨#[]⟩, .int .i64 0] 82)) b s x zeroR) := by
    have hn := RecAt.new w zeroR 82
    have hn2 := RecAt.new (w.alloc (.cells #[.string ⟨#[]⟩, .int .i64 0, .int .i64 0, .int .i64 0, .string ⟨#[]⟩, .string ⟨#[]⟩, .int .i64 0] 82)) zeroR 82
    rw [show (w.alloc (.cells #[.string ⟨#[]⟩, .int .i64 0, .int .i64 0, .int .i64 0, .string ⟨#[]⟩, .string ⟨#[]⟩, .int .i64 0] 82)).heap.size = w.heap.size + 1 by simp] at hn2
    exact ⟨hw.out.keep (T0.bel.trans (Below.refl _ _) |>.block b |> fun _ => (((Below.refl w.heap.size w).alloc (Nat.le_refl _) _).alloc (by simp) _).block b lt) T0.bel.size, hn2, hn.below ((Below.refl _ _).alloc (Nat.le_refl _) _) (by simp), T0⟩
  clear T0 hw
  refine (HN.out _ R0.out.tk).mono ?_; rintro e w1 ⟨rfl, hT, hn⟩
  have R1 : Hid (Rd w w1 b s x1 zeroR) := R0.out.call lt hT hn
  clear R0 hT hn HN
  have d0 := R1.out.rc.c0
  have d1 := R1.out.rc.c1
  have d2 := R1.out.rc.c2
  have f0 := R1.out.rc.fz 0
  have f1 := R1.out.rc.fz 1
  have f2 := R1.out.rc.fz 2
  have R2 : Hid (Rd w (w1.setCell ⟨w.heap.size + 1, 0, none⟩ (.string nm)) b s x1 ⟨nm, 0, 0, 0, ⟨#[]⟩, ⟨#[]⟩, 0⟩) := R1.out.put lt (R1.out.rc.set0 nm)
  clear R1
  go_wp2_with fail
  generalize w1.setCell ⟨w.heap.size + 1, 0, none⟩ (.string nm) = w2 at *
  clear d0 d1 d2 f0 f1 f2
  refine (HT.out _ R2.out.tk).mono ?_; rintro e w3 ⟨rfl, hT, hn⟩
  have R3 : Hid (Rd w w3 b s x2 ⟨nm, 0, 0, 0, ⟨#[]⟩, ⟨#[]⟩, 0⟩) := R2.out.call lt hT hn
  clear R2 hT hn HT
  have d0 := R3.out.rc.c0
  have d1 := R3.out.rc.c1
  have d2 := R3.out.rc.c2
  have f0 := R3.out.rc.fz 0
  have f1 := R3.out.rc.fz 1
  have f2 := R3.out.rc.fz 2
  have R4 : Hid (Rd w (w3.setCell ⟨w.heap.size + 1, 1, none⟩ (.int .i64 ty)) b s x2 ⟨nm, ty, 0, 0, ⟨#[]⟩, ⟨#[]⟩, 0⟩) := R3.out.put lt (R3.out.rc.set1 ty)
  clear R3
  go_wp2_with fail
  generalize w3.setCell ⟨w.heap.size + 1, 1, none⟩ (.int .i64 ty) = w4 at *
  clear d0 d1 d2 f0 f1 f2
  have lt4 := R4.out.tk.lt
  go_region_held3 (fun _ => True) (exact trivial)
    (first
      | (go_at_call 49; refine (HC.out _ ?_).mono ?_; (exact drew_tk R4.out.tk); rintro e w5 ⟨rfl, hT5, hb5⟩; have B5 : Turn b w4 w5 := (drew_turn lt4).trans hb5)
      | (go_at_call 20; refine (HM.out _ ?_).mono ?_; (exact hT5); rintro e w6 ⟨rfl, hT6, hb6⟩; have B6 : Turn b w4 w6 := B5.trans hb6))
  have R6 : Hid (Rd w w6 b s x4 ⟨nm, ty, 0, 0, ⟨#[]⟩, ⟨#[]⟩, 0⟩) := R4.out.call lt hT6 B6
  clear R4 hT5 hb5 B5 hT6 hb6 B6 HC HM
  go_wp2_with fail
  refine (HTT.out _ R6.out.tk).mono ?_; rintro e w7 ⟨rfl, hT, hn⟩
  have R7 : Hid (Rd w w7 b s x5 ⟨nm, ty, 0, 0, ⟨#[]⟩, ⟨#[]⟩, 0⟩) := R6.out.call lt hT hn
  clear R6 hT hn HTT
  have d0 := R7.out.rc.c0
  have d1 := R7.out.rc.c1
  have d2 := R7.out.rc.c2
  have f0 := R7.out.rc.fz 0
  have f1 := R7.out.rc.fz 1
  have f2 := R7.out.rc.fz 2
  have R8 : Hid (Rd w (w7.setCell ⟨w.heap.size + 1, 2, none⟩ (.int .i64 ttl)) b s x5 ⟨nm, ty, ttl, 0, ⟨#[]⟩, ⟨#[]⟩, 0⟩) := R7.out.put lt (R7.out.rc.set2 ttl)
  clear R7
  go_wp2_with fail
  generalize w7.setCell ⟨w.heap.size + 1, 2, none⟩ (.int .i64 ttl) = w8 at *
  clear d0 d1 d2 f0 f1 f2
  refine (HS.out _ R8.out.tk).mono ?_; rintro e w9 ⟨rfl, hT, hn⟩
  have R9 : Hid (Rd w w9 b s x6 ⟨nm, ty, ttl, 0, ⟨#[]⟩, ⟨#[]⟩, 0⟩) := R8.out.call lt hT hn
  have hu := HU.out hT.wf hT.rg
  clear R8 hT hn HS HU
  obtain ⟨u1, u2⟩ := hu
  go_wp2_with fail
  refine (HA6.out _ R9.out.tk).mono ?_; rintro e w9' ⟨rfl, rfl⟩
  go_wp2_with fail
  refine (HD.out _ _ R9.out.tk R9.out.rc (by omega) (HL0.out.keep (R9.out.tn.oth 0 (Ne.symm hb0) HL0.out.lt)) (by omega)).mono ?_; rintro e w10 ⟨rfl, hT, hr, hn⟩
  have R10 : Hid (Rd w w10 b s x7 R) := R9.out.data lt hT hr hn
  clear R9 hT hr hn HD HL0
  go_wp2_with fail
  have lt10 := R10.out.tk.lt
  go_region_held3 (fun _ => True) (exact trivial)
    (first
      | (go_at_call 21; refine (HA7.out _ ?_).mono ?_; (exact drew_tk R10.out.tk); rintro e w11 ⟨rfl, hw11⟩; have hT11 : TkAt w11 b s x7 := (by rw [hw11]; exact drew_tk R10.out.tk); have B11 : Turn b w10 w11 := (by rw [hw11]; exact drew_turn lt10); clear hw11)
      | (go_at_call 20; refine (HM2.out _ ?_).mono ?_; (exact hT11); rintro e w12 ⟨rfl, hT12, hb12⟩; have B12 : Turn b w10 w12 := B11.trans hb12))
  have R12 : Hid (Rd w w12 b s x8 R) := R10.out.call lt hT12 B12
  clear R10 hT11 B11 hT12 hb12 B12 HM2 HA6 HA7 lt10 lt4 u1 u2
  obtain ⟨g0, g1, g2, g3, g4, g5, g6, _, ltc⟩ := R12.out.rc
  have hz0 := R12.out.rs
  obtain ⟨q0, q1, q2, q3, q4, q5, q6, fq, ltq⟩ := hz0
  simp only [zeroR] at q0 q1 q2 q3 q4 q5 q6
  have p0 := fq 0
  have p1 := fq 1
  have p2 := fq 2
  have p3 := fq 3
  have p4 := fq 4
  have p5 := fq 5
  have p6 := fq 6
  clear fq
  go_wp2
  have hfin := ((((((R12.out.rs.set0 R.n).set1 R.ty).set2 R.ttl).set3 R.ad).set4 R.tg).set5 R.tx).set6 R.se
  have Bf := ((((((R12.out.tn.over (j := 0) (u := .string R.n) (Nat.le_refl _) lt).over (j := 1) (u := .int .i64 R.ty) (Nat.le_refl _) lt).over (j := 2) (u := .int .i64 R.ttl) (Nat.le_refl _) lt).over (j := 3) (u := .int .i64 R.ad) (Nat.le_refl _) lt).over (j := 4) (u := .string R.tg) (Nat.le_refl _) lt).over (j := 5) (u := .string R.tx) (Nat.le_refl _) lt).over (j := 6) (u := .int .i64 R.se) (Nat.le_refl _) lt
  have hne : b ≠ w.heap.size := by omega
  have Tf := ((((((R12.out.tk.set (j := 0) (u := .string R.n) hne).set (j := 1) (u := .int .i64 R.ty) hne).set (j := 2) (u := .int .i64 R.ttl) hne).set (j := 3) (u := .int .i64 R.ad) hne).set (j := 4) (u := .string R.tg) hne).set (j := 5) (u := .string R.tx) hne).set (j := 6) (u := .int .i64 R.se) hne
  generalize ((((((w12.setCell ⟨w.heap.size, 0, none⟩ (.string R.n)).setCell ⟨w.heap.size, 1, none⟩ (.int .i64 R.ty)).setCell ⟨w.heap.size, 2, none⟩ (.int .i64 R.ttl)).setCell ⟨w.heap.size, 3, none⟩ (.int .i64 R.ad)).setCell ⟨w.heap.size, 4, none⟩ (.string R.tg)).setCell ⟨w.heap.size, 5, none⟩ (.string R.tx)).setCell ⟨w.heap.size, 6, none⟩ (.int .i64 R.se) = wf at *
  obtain ⟨a0, a1, a2, a3, a4, a5, a6, _, _⟩ := hfin
  simp only at a0 a1 a2 a3 a4 a5 a6
  refine bodyPost_ret (v := rv R) (by rw [hz.out]; simp [results, Tryz.results101, go_sem, a0, a1, a2, a3, a4, a5, a6]) rfl ⟨rfl, Tf, Bf⟩

/-! ### Get -/
/-- A record laid over block c. -/
def layR (w : World) (c : Nat) (r : Rec) : World := ((((((w.setCell ⟨c, 0, none⟩ (.string r.n)).setCell ⟨c, 1, none⟩ (.int .i64 r.ty)).setCell ⟨c, 2, none⟩ (.int .i64 r.ttl)).setCell ⟨c, 3, none⟩ (.int .i64 r.ad)).setCell ⟨c, 4, none⟩ (.string r.tg)).setCell ⟨c, 5, none⟩ (.string r.tx)).setCell ⟨c, 6, none⟩ (.int .i64 r.se)
theorem layR_rec {w : World} {c : Nat} {r0 : Rec} (h : RecAt w c r0) (r : Rec) : RecAt (layR w c r) c r := ((((((h.set0 r.n).set1 r.ty).set2 r.ttl).set3 r.ad).set4 r.tg).set5 r.tx).set6 r.se
theorem layR_far {w : World} {b c : Nat} {r : Rec} (h : RecAt w b r) (hn : ¬ b = c) (q : Rec) : RecAt (layR w c q) b r := ((((((h.set hn).set hn).set hn).set hn).set hn).set hn).set hn
theorem layR_below {w w0 : World} {c n : Nat} (h : Below n w0 w) (hc : n ≤ c) (r : Rec) : Below n w0 (layR w c r) :=
  ((((((h.setCell hc _).setCell hc _).setCell hc _).setCell hc _).setCell hc _).setCell hc _).setCell hc _
def startT (s : ByteArray) (a : Int) : Tk := ⟨a, decide (a < 0) || decide ((s.size : Int) < a)⟩
/-- What Get tells. -/
def getRec (s : ByteArray) (a : Int) : Option (Rec × Int) := if (recT s (startT s a)).2.f || !mayR (recT s (startT s a)).1 then none else some ((recT s (startT s a)).1, (recT s (startT s a)).2.at_)
def gotR : Option (Rec × Int) → Ending
  | none => .returned (.tuple #[rv zeroR, .int .i64 0, .int .i64 400])
  | some (r, e) => .returned (.tuple #[rv r, .int .i64 e, .int .i64 0])
theorem nameT_len (s : ByteArray) (x : Tk) : (nameT s x).1.size ≤ 72 := by
  unfold nameT
  split
  · simp [ByteArray.size]
  · split
    · rename_i h
      rw [size_mk]
      exact (get_may (s := bs s) (at_ := x.at_.toNat) (n := (getL (bs s) x.at_.toNat).1) (e := (getL (bs s) x.at_.toNat).2.1) (by rw [← h])).2
    · simp [ByteArray.size]
theorem dataT_len (s : ByteArray) (k : Nat) (r : Rec) (x : Tk) (h : r.tg.size ≤ 72) : (dataT s k r x).1.tg.size ≤ 72 ∧ (dataT s k r x).1.n = r.n := by
  unfold dataT
  repeat' split
  · exact ⟨h, rfl⟩
  · exact ⟨nameT_len s x, rfl⟩
  · exact ⟨nameT_len s x, rfl⟩
  · exact ⟨h, rfl⟩
  · exact ⟨h, rfl⟩
  · exact ⟨h, rfl⟩
theorem recT_len (s : ByteArray) (x : Tk) : (recT s x).1.n.size ≤ maxLen ∧ (recT s x).1.tg.size ≤ maxLen := by
  have h := dataT_len s (numT s 2 (numT s 4 (mustT ((numT s 2 (numT s 2 (nameT s x).2).2).1 == 1) (numT s 2 (numT s 2 (nameT s x).2).2).2)).2).1.toNat ⟨(nameT s x).1, (numT s 2 (nameT s x).2).1, (numT s 4 (mustT ((numT s 2 (numT s 2 (nameT s x).2).2).1 == 1) (numT s 2 (numT s 2 (nameT s x).2).2).2)).1, 0, ⟨#[]⟩, ⟨#[]⟩, 0⟩ (numT s 2 (numT s 4 (mustT ((numT s 2 (numT s 2 (nameT s x).2).2).1 == 1) (numT s 2 (numT s 2 (nameT s x).2).2).2)).2).2 (by simp [ByteArray.size])
  have h1 := nameT_len s x
  have e1 : (recT s x).1.tg.size ≤ 72 := h.1
  have e2 : (recT s x).1.n = (nameT s x).1 := h.2
  rw [e2]
  simp only [maxLen]
  omega

set_option maxHeartbeats 2000000 in
theorem rrGet_c (s : ByteArray) (a : Int) (w : World) (hs : s.size ≤ 1125899906842624) (ha : -9223372036854775808 ≤ a ∧ a ≤ 9223372036854775807) (hL : Laid w) :
    Calls Tryz.prog 87 #[.string s, .int .i64 a] w fun e w' => e = gotR (getRec s a) ∧ Below w.heap.size w w' := by
  have HF : Hid (∀ w, _) := fun w => from_c s a w
  have hlen := recT_len s (startT s a)
  have HR : Hid (∀ b w, TkAt w b s (startT s a) → Laid w → b ≠ 0 → _) := fun b w h1 h2 h3 => record_c b s (startT s a) w hs h1 h2 h3
  have hst : Hid (startT s a = ⟨a, decide (a < 0) || decide ((s.size : Int) < a)⟩) := rfl
  have hrg : Hid ((decide (a < 0) || decide ((s.size : Int) < a)) = false → 0 ≤ a ∧ a ≤ s.size) := by intro h; simp at h; omega
  have hG : Hid (getRec s a = if (recT s (startT s a)).2.f || !mayR (recT s (startT s a)).1 then none else some ((recT s (startT s a)).1, (recT s (startT s a)).2.at_)) := rfl
  generalize getRec s a = V at *
  generalize startT s a = x0 at *
  generalize (recT s x0).1 = R at *
  generalize (recT s x0).2 = y at *
  have HM : Hid (∀ w, _) := fun w => rrMay_c R w hlen.1 hlen.2
  generalize mayR R = m at *
  generalize (decide (a < 0) || decide ((s.size : Int) < a)) = f0 at *
  have HO : Hid (∀ b w, TkAt w b s y → _) := fun b w h => ok_c b s y w h
  have HA : Hid (∀ b w, TkAt w b s y → _) := fun b w h => at_c b s y w h
  have HL0 : Hid (Laid w) := hL
  have lt0 := hL.lt
  clear hlen hL hs
  go_enter Tryz.func87, Tryz.ntmps87
  go_wp2_with fail
  refine (HF.out _).mono ?_; rintro e w1 ⟨rfl, hb1⟩
  have hs1 := hb1.size
  have Z1 : Hid (RecAt w1 w.heap.size zeroR) := (RecAt.new w zeroR 82).below hb1 (by simp)
  have B1 : Hid (Below w.heap.size w w1) := bel_trans ((Below.refl _ _).alloc (Nat.le_refl _) _) hb1
  simp at hs1
  clear hb1 HF
  go_wp2_with fail
  have T1 : Hid (TkAt (w1.alloc (.cells #[.string s, .int .i64 a, .bool f0] 145)) w1.heap.size s x0) := by
    rw [hst.out]
    exact ⟨new_cell _ _ _ _ _ rfl, new_cell _ _ _ _ _ rfl, new_cell _ _ _ _ _ rfl, fun _ => new_frozen _ _ _ _, by simp, hrg.out, ha⟩
  have BA : Below w1.heap.size w1 (w1.alloc (.cells #[.string s, .int .i64 a, .bool f0] 145)) := (Below.refl _ _).alloc (Nat.le_refl _) _
  have L1 : Laid (w1.alloc (.cells #[.string s, .int .i64 a, .bool f0] 145)) := (HL0.out.below B1.out).below BA
  refine (HR.out _ _ T1.out L1 (by omega)).mono ?_; rintro e w2 ⟨rfl, T2, hn2⟩
  have Z2 : Hid (RecAt w2 w.heap.size zeroR) := (Z1.out.below BA (by omega)).turn hn2 (by omega)
  have B2 : Hid (Below w.heap.size w w2) := B1.out.trans ((BA.trans hn2.bel).mono (by omega))
  have T2' : Hid (TkAt w2 w1.heap.size s y) := T2
  have lt2 := T2.lt
  have hz2 := hn2.bel.size
  simp at hz2
  clear hn2 T2 L1 BA T1 Z1 B1 HL0 HR
  simp only [rv]
  go_wp2_with fail
  have T3 : Hid (TkAt (w2.alloc (.cells #[.string R.n, .int .i64 R.ty, .int .i64 R.ttl, .int .i64 R.ad, .string R.tg, .string R.tx, .int .i64 R.se] 82)) w1.heap.size s y) := T2'.out.below ((Below.refl _ _).alloc (Nat.le_refl _) _) (by omega)
  have Z3 : Hid (RecAt (w2.alloc (.cells #[.string R.n, .int .i64 R.ty, .int .i64 R.ttl, .int .i64 R.ad, .string R.tg, .string R.tx, .int .i64 R.se] 82)) w.heap.size zeroR) := Z2.out.below ((Below.refl _ _).alloc (Nat.le_refl _) _) (by omega)
  have Q3 : Hid (RecAt (w2.alloc (.cells #[.string R.n, .int .i64 R.ty, .int .i64 R.ttl, .int .i64 R.ad, .string R.tg, .string R.tx, .int .i64 R.se] 82)) w2.heap.size R) := RecAt.new w2 R 82
  have B3 : Hid (Below w.heap.size w (w2.alloc (.cells #[.string R.n, .int .i64 R.ty, .int .i64 R.ttl, .int .i64 R.ad, .string R.tg, .string R.tx, .int .i64 R.se] 82))) := B2.out.alloc B2.out.size _
  clear T2' Z2 B2
  generalize (w2.alloc (.cells #[.string R.n, .int .i64 R.ty, .int .i64 R.ttl, .int .i64 R.ad, .string R.tg, .string R.tx, .int .i64 R.se] 82)) = w3 at *
  refine (HO.out _ _ T3.out).mono ?_; rintro e w3' ⟨rfl, rfl⟩
  obtain ⟨g0, g1, g2, g3, g4, g5, g6, _, ltc⟩ := Q3.out
  have lt3 := T3.out.lt
  obtain ⟨q0, q1, q2, q3, q4, q5, q6, fq, ltq⟩ := Z3.out
  simp only [zeroR] at q0 q1 q2 q3 q4 q5 q6
  have p0 := fq 0
  have p1 := fq 1
  have p2 := fq 2
  have p3 := fq 3
  have p4 := fq 4
  have p5 := fq 5
  have p6 := fq 6
  clear fq
  have hV := hG.out
  clear hG
  cases hy : y.f
  · rw [hy] at hV
    go_wp2_with fail
    have HM' := HM.out
    simp only [rv] at HM'
    refine (HM' _).mono ?_; rintro e w4 ⟨rfl, hb4⟩
    clear HM' g0 g1 g2 g3 g4 g5 g6 q0 q1 q2 q3 q4 q5 q6 p0 p1 p2 p3 p4 p5 p6
    have T4 : Hid (_) := T3.out.below hb4 lt3
    have Z4 : Hid (_) := Z3.out.below hb4 ltq
    have Q4 : Hid (_) := Q3.out.below hb4 ltc
    have B4 : Hid (Below w.heap.size w w4) := bel_trans B3.out hb4
    clear T3 Z3 Q3 B3 hb4 HM
    obtain ⟨g0, g1, g2, g3, g4, g5, g6, _, ltc4⟩ := Q4.out
    have lt4 := T4.out.lt
    obtain ⟨q0, q1, q2, q3, q4, q5, q6, fq, ltq4⟩ := Z4.out
    simp only [zeroR] at q0 q1 q2 q3 q4 q5 q6
    have p0 := fq 0
    have p1 := fq 1
    have p2 := fq 2
    have p3 := fq 3
    have p4 := fq 4
    have p5 := fq 5
    have p6 := fq 6
    clear fq
    cases m
    · go_wp2
      have hf : RecAt (layR w4 w.heap.size zeroR) w.heap.size zeroR := layR_rec Z4.out zeroR
      have Bf : Below w.heap.size w (layR w4 w.heap.size zeroR) := layR_below B4.out (Nat.le_refl _) zeroR
      simp only [layR, zeroR] at hf Bf
      obtain ⟨a0, a1, a2, a3, a4, a5, a6, _, _⟩ := hf
      simp only at a0 a1 a2 a3 a4 a5 a6
      refine bodyPost_ret (v := .tuple #[.agg #[.string ⟨#[]⟩, .int .i64 0, .int .i64 0, .int .i64 0, .string ⟨#[]⟩, .string ⟨#[]⟩, .int .i64 0], .int .i64 0, .int .i64 400]) (by simp [results, Tryz.results87, go_sem, a0, a1, a2, a3, a4, a5, a6]) rfl ⟨?_, Bf⟩
      rw [hV]; rfl
    · go_wp2_with fail
      have hne : ¬ w2.heap.size = w.heap.size := by omega
      have hne' : ¬ w.heap.size = w2.heap.size := by omega
      have hq : Hid (RecAt (layR w4 w.heap.size R).drew w2.heap.size R) := (layR_far Q4.out hne R).below (below_drewN (Below.refl (layR w4 w.heap.size R).heap.size _) 1) (layR_far Q4.out hne R).lt
      have hf : Hid (RecAt (layR w4 w.heap.size R).drew w.heap.size R) := (layR_rec Z4.out R).below (below_drewN (Below.refl (layR w4 w.heap.size R).heap.size _) 1) (layR_rec Z4.out R).lt
      have Bf : Hid (Below w.heap.size w (layR w4 w.heap.size R).drew) := below_drewN (layR_below B4.out (Nat.le_refl _) R) 1
      have hV' : Hid (V = some (R, y.at_)) := hV
      clear hV HO hrg hst ha lt0 lt2 lt3 ltc ltq hz2 hs1 hy ltc4 ltq4 lt4
      go_region_with (refine (HA.out _ _ (drew_tk T4.out)).mono ?_; rintro e w5 ⟨rfl, rfl⟩)
      all_goals
        go_wp2
        have hf' := hf.out
        have Bf' := Bf.out
        simp only [layR] at hf' Bf'
        obtain ⟨a0, a1, a2, a3, a4, a5, a6, _, _⟩ := hf'
        refine bodyPost_ret (v := .tuple #[.agg #[.string R.n, .int .i64 R.ty, .int .i64 R.ttl, .int .i64 R.ad, .string R.tg, .string R.tx, .int .i64 R.se], .int .i64 y.at_, .int .i64 0]) (by simp [results, Tryz.results87, go_sem, a0, a1, a2, a3, a4, a5, a6]) rfl ⟨?_, Bf'⟩
        rw [hV'.out]; rfl
  · rw [hy] at hV
    go_wp2
    have hf : RecAt (layR w3' w.heap.size zeroR) w.heap.size zeroR := layR_rec Z3.out zeroR
    have Bf : Below w.heap.size w (layR w3' w.heap.size zeroR) := layR_below B3.out (Nat.le_refl _) zeroR
    simp only [layR, zeroR] at hf Bf
    obtain ⟨a0, a1, a2, a3, a4, a5, a6, _, _⟩ := hf
    simp only at a0 a1 a2 a3 a4 a5 a6
    refine bodyPost_ret (v := .tuple #[.agg #[.string ⟨#[]⟩, .int .i64 0, .int .i64 0, .int .i64 0, .string ⟨#[]⟩, .string ⟨#[]⟩, .int .i64 0], .int .i64 0, .int .i64 400]) (by simp [results, Tryz.results87, go_sem, a0, a1, a2, a3, a4, a5, a6]) rfl ⟨?_, Bf⟩
    rw [hV]; rfl

end Go.Proofs.YtdmooggmoihggaaGreatDoor

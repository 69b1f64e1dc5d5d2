/-
  Contracts of package rr's Get and the reader that it makes, at every text and place.
-/
import Derived.Test.YtgidbcjeaeiinaaGreatDoorTaker2
import Derived.Test.YtgidbcjeaeiinaaGreatDoorRrMay
import Derived.Handy
namespace Go.Proofs.YtgidbcjeaeiinaaGreatDoor
set_option maxRecDepth 100000
open Go.ChangeShapes Go.WideShapes Go.ChangeAt Go.RowKit Go.Pin Go.PlainAid

theorem TkAt.keep {w w' : World} {b : Nat} {s : ByteArray} {x : Tk} (h : TkAt w b s x) (hb : w'.heap[b]? = w.heap[b]?) (hs : w.heap.size ≤ w'.heap.size) : TkAt w' b s x := by
  have hc : ∀ j, w'.cell? ⟨b, j, none⟩ = w.cell? ⟨b, j, none⟩ := fun j => World.cell?_of_block hb
  have hf : ∀ j, w'.frozen? ⟨b, j, none⟩ = w.frozen? ⟨b, j, none⟩ := fun j => World.frozen?_of_block hb
  exact ⟨(hc 0).trans h.c0, (hc 1).trans h.c1, (hc 2).trans h.c2, fun j => (hf j).trans (h.fz j), Nat.lt_of_lt_of_le h.lt hs, h.rg, h.wf⟩
theorem RecAt.turn {w w' : World} {b c : Nat} {r : Rec} (h : RecAt w c r) (hb : Turn b w w') (hn : c ≠ b) : RecAt w' c r := h.keep (hb.oth c hn h.lt) hb.bel.size
theorem setCell_size (w : World) (p : Addr) (u : Value) : (w.setCell p u).heap.size = w.heap.size := by simp
theorem TkAt.set {w : World} {b c j : Nat} {s : ByteArray} {x : Tk} {u : Value} (h : TkAt w b s x) (hn : b ≠ c) : TkAt (w.setCell ⟨c, j, none⟩ u) b s x :=
  h.keep (Below.heap_setCell _ _ _ _ hn) (by rw [setCell_size]; exact Nat.le_refl _)
theorem RecAt.set3 {w : World} {c : Nat} {r : Rec} (h : RecAt w c r) (v : Int) : RecAt (w.setCell ⟨c, 3, none⟩ (.int .i64 v)) c { r with ad := v } :=
  ⟨way_cell h.c0 h.c3, way_cell h.c1 h.c3, way_cell h.c2 h.c3, way_cell h.c3 h.c3, way_cell h.c4 h.c3, way_cell h.c5 h.c3, way_cell h.c6 h.c3, fun j => by rw [World.frozen?_setCell]; exact h.fz j, by rw [setCell_size]; exact h.lt⟩
theorem RecAt.set4 {w : World} {c : Nat} {r : Rec} (h : RecAt w c r) (v : ByteArray) : RecAt (w.setCell ⟨c, 4, none⟩ (.string v)) c { r with tg := v } :=
  ⟨way_cell h.c0 h.c4, way_cell h.c1 h.c4, way_cell h.c2 h.c4, way_cell h.c3 h.c4, way_cell h.c4 h.c4, way_cell h.c5 h.c4, way_cell h.c6 h.c4, fun j => by rw [World.frozen?_setCell]; exact h.fz j, by rw [setCell_size]; exact h.lt⟩
theorem RecAt.set5 {w : World} {c : Nat} {r : Rec} (h : RecAt w c r) (v : ByteArray) : RecAt (w.setCell ⟨c, 5, none⟩ (.string v)) c { r with tx := v } :=
  ⟨way_cell h.c0 h.c5, way_cell h.c1 h.c5, way_cell h.c2 h.c5, way_cell h.c3 h.c5, way_cell h.c4 h.c5, way_cell h.c5 h.c5, way_cell h.c6 h.c5, fun j => by rw [World.frozen?_setCell]; exact h.fz j, by rw [setCell_size]; exact h.lt⟩
theorem RecAt.set6 {w : World} {c : Nat} {r : Rec} (h : RecAt w c r) (v : Int) : RecAt (w.setCell ⟨c, 6, none⟩ (.int .i64 v)) c { r with se := v } :=
  ⟨way_cell h.c0 h.c6, way_cell h.c1 h.c6, way_cell h.c2 h.c6, way_cell h.c3 h.c6, way_cell h.c4 h.c6, way_cell h.c5 h.c6, way_cell h.c6 h.c6, fun j => by rw [World.frozen?_setCell]; exact h.fz j, by rw [setCell_size]; exact h.lt⟩
theorem RecAt.set0 {w : World} {c : Nat} {r : Rec} (h : RecAt w c r) (v : ByteArray) : RecAt (w.setCell ⟨c, 0, none⟩ (.string v)) c { r with n := v } :=
  ⟨way_cell h.c0 h.c0, way_cell h.c1 h.c0, way_cell h.c2 h.c0, way_cell h.c3 h.c0, way_cell h.c4 h.c0, way_cell h.c5 h.c0, way_cell h.c6 h.c0, fun j => by rw [World.frozen?_setCell]; exact h.fz j, by rw [setCell_size]; exact h.lt⟩
theorem RecAt.set1 {w : World} {c : Nat} {r : Rec} (h : RecAt w c r) (v : Int) : RecAt (w.setCell ⟨c, 1, none⟩ (.int .i64 v)) c { r with ty := v } :=
  ⟨way_cell h.c0 h.c1, way_cell h.c1 h.c1, way_cell h.c2 h.c1, way_cell h.c3 h.c1, way_cell h.c4 h.c1, way_cell h.c5 h.c1, way_cell h.c6 h.c1, fun j => by rw [World.frozen?_setCell]; exact h.fz j, by rw [setCell_size]; exact h.lt⟩
theorem RecAt.set2 {w : World} {c : Nat} {r : Rec} (h : RecAt w c r) (v : Int) : RecAt (w.setCell ⟨c, 2, none⟩ (.int .i64 v)) c { r with ttl := v } :=
  ⟨way_cell h.c0 h.c2, way_cell h.c1 h.c2, way_cell h.c2 h.c2, way_cell h.c3 h.c2, way_cell h.c4 h.c2, way_cell h.c5 h.c2, way_cell h.c6 h.c2, fun j => by rw [World.frozen?_setCell]; exact h.fz j, by rw [setCell_size]; exact h.lt⟩
/-- From w to w' nothing turned but the cells of blocks b and c and what is new. -/
structure Turn2 (b c : Nat) (w w' : World) : Prop where
  os : w'.os = w.os
  tape : w'.tape = w.tape
  output : w'.output = w.output
  size : w.heap.size ≤ w'.heap.size
  oth : ∀ k, k ≠ b → k ≠ c → k < w.heap.size → w'.heap[k]? = w.heap[k]?
theorem Turn2.of1 {b c : Nat} {w w' : World} (h : Turn b w w') : Turn2 b c w w' := ⟨h.bel.os, h.bel.tape, h.bel.output, h.bel.size, fun k h1 _ h3 => h.oth k h1 h3⟩
theorem Turn2.trans {b c : Nat} {w w1 w2 : World} (h1 : Turn2 b c w w1) (h2 : Turn2 b c w1 w2) : Turn2 b c w w2 :=
  ⟨h2.os.trans h1.os, h2.tape.trans h1.tape, h2.output.trans h1.output, Nat.le_trans h1.size h2.size, fun k hb hc hl => (h2.oth k hb hc (Nat.lt_of_lt_of_le hl h1.size)).trans (h1.oth k hb hc hl)⟩
theorem Turn2.set {b c : Nat} (w : World) (j : Nat) (u : Value) : Turn2 b c w (w.setCell ⟨c, j, none⟩ u) :=
  ⟨rfl, rfl, rfl, by rw [setCell_size]; exact Nat.le_refl _, fun _ _ hc _ => Below.heap_setCell _ _ _ _ hc⟩
/-- The numbers that stand behind a serial. -/
def Laid (w : World) : Prop := w.cell? ⟨0, 0, none⟩ = some (.int .i64 60) ∧ w.cell? ⟨0, 1, none⟩ = some (.int .i64 60) ∧ w.cell? ⟨0, 2, none⟩ = some (.int .i64 600) ∧ w.cell? ⟨0, 3, none⟩ = some (.int .i64 60)
theorem Laid.lt {w : World} (h : Laid w) : 0 < w.heap.size := by
  have := World.block_lt_of_cell? w _ h.1; simpa using this
theorem Laid.keep {w w' : World} (h : Laid w) (hb : w'.heap[0]? = w.heap[0]?) : Laid w' := by
  have hc : ∀ j, w'.cell? ⟨0, j, none⟩ = w.cell? ⟨0, j, none⟩ := fun j => World.cell?_of_block hb
  exact ⟨(hc 0).trans h.1, (hc 1).trans h.2.1, (hc 2).trans h.2.2.1, (hc 3).trans h.2.2.2⟩
theorem Laid.below {w w' : World} (h : Laid w) (hb : Below w.heap.size w w') : Laid w' := h.keep (hb.block 0 h.lt)
theorem Laid.turn2 {w w' : World} {b c : Nat} (h : Laid w) (hb : Turn2 b c w w') (h1 : b ≠ 0) (h2 : c ≠ 0) : Laid w' := h.keep (hb.oth 0 h1.symm h2.symm h.lt)

/-- A number that must be. -/
def isT4 (s : ByteArray) (v : Int) (x : Tk) : Tk := mustT ((numT s 4 x).1 == v) (numT s 4 x).2
def soaT (s : ByteArray) (x : Tk) : (ByteArray × Int) × Tk :=
  let y := nameT s x
  let z := nameT s y.2
  let q := numT s 4 (mustT (z.1.toList == y.1.toList) z.2)
  ((y.1, q.1), isT4 s 60 (isT4 s 600 (isT4 s 60 (isT4 s 60 q.2))))
/-- What a record's type names. -/
def dataT (s : ByteArray) (size : Nat) (r : Rec) (x : Tk) : Rec × Tk :=
  if r.ty = 1 then ({ r with ad := (numT s 4 x).1 }, (numT s 4 x).2)
  else if isN r.ty then ({ r with tg := (nameT s x).1 }, (nameT s x).2)
  else if r.ty = 6 then ({ r with tg := (soaT s x).1.1, se := (soaT s x).1.2 }, (soaT s x).2)
  else if r.ty = 16 then ({ r with tx := (textT s (numT s 1 x).1.toNat (numT s 1 x).2).1 }, (textT s (numT s 1 x).1.toNat (numT s 1 x).2).2)
  else if r.ty = 49 then ({ r with tx := (textT s size x).1 }, (textT s size x).2)
  else (r, x)

theorem number_1t (b : Nat) (s : ByteArray) (x : Tk) (w : World) (hs : s.size ≤ 1125899906842624) (h : TkAt w b s x) :
    Calls Tryz.prog 54 #[.pointer (some ⟨b, 0, none⟩), .int .i64 1] w fun e w' => e = .returned (.int .i64 (numT s 1 x).1) ∧ TkAt w' b s (numT s 1 x).2 ∧ Turn b w w' := number_c b s x 1 w (by omega) hs h
theorem number_2t (b : Nat) (s : ByteArray) (x : Tk) (w : World) (hs : s.size ≤ 1125899906842624) (h : TkAt w b s x) :
    Calls Tryz.prog 54 #[.pointer (some ⟨b, 0, none⟩), .int .i64 2] w fun e w' => e = .returned (.int .i64 (numT s 2 x).1) ∧ TkAt w' b s (numT s 2 x).2 ∧ Turn b w w' := number_c b s x 2 w (by omega) hs h
theorem number_4t (b : Nat) (s : ByteArray) (x : Tk) (w : World) (hs : s.size ≤ 1125899906842624) (h : TkAt w b s x) :
    Calls Tryz.prog 54 #[.pointer (some ⟨b, 0, none⟩), .int .i64 4] w fun e w' => e = .returned (.int .i64 (numT s 4 x).1) ∧ TkAt w' b s (numT s 4 x).2 ∧ Turn b w w' := number_c b s x 4 w (by omega) hs h

theorem rdata_1 (b c : Nat) (s : ByteArray) (x : Tk) (r : Rec) (v : Value) (w : World) (hs : s.size ≤ 1125899906842624) (h : TkAt w b s x) (hr : RecAt w c r) (hbc : b ≠ c) (ht : r.ty = 1) :
    Calls Tryz.prog 118 #[.pointer (some ⟨b, 0, none⟩), .pointer (some ⟨c, 0, none⟩), v] w fun e w' => e = .returned (.tuple #[]) ∧ TkAt w' b s (numT s 4 x).2 ∧ RecAt w' c { r with ad := (numT s 4 x).1 } ∧ Turn2 b c w w' := by
  have HC : Hid (∀ w, TkAt w b s x → _) := fun w h => number_4t b s x w hs h
  have hR : Hid (RecAt w c r) := hr
  obtain ⟨c0, c1, c2, c3, c4, c5, c6, fz, lt⟩ := hr
  rw [ht] at c1
  generalize (numT s 4 x).1 = y at *
  generalize (numT s 4 x).2 = z at *
  clear fz hs
  go_enter Tryz.func118, Tryz.ntmps118
  go_wp2_with fail
  refine (HC.out _ h).mono ?_; rintro e w1 ⟨rfl, hT1, hb1⟩
  have hR1 := hR.out.turn hb1 hbc.symm
  have d3 := hR1.c3
  have f3 := hR1.fz 3
  go_wp2
  go_end0
  exact ⟨rfl, hT1.set hbc, hR1.set3 _, (Turn2.of1 hb1).trans (Turn2.set _ _ _)⟩

theorem rdata_n (b c : Nat) (s : ByteArray) (x : Tk) (r : Rec) (v : Value) (w : World) (hs : s.size ≤ 1125899906842624) (h : TkAt w b s x) (hr : RecAt w c r) (hbc : b ≠ c) (ht : isN r.ty = true) :
    Calls Tryz.prog 118 #[.pointer (some ⟨b, 0, none⟩), .pointer (some ⟨c, 0, none⟩), v] w fun e w' => e = .returned (.tuple #[]) ∧ TkAt w' b s (nameT s x).2 ∧ RecAt w' c { r with tg := (nameT s x).1 } ∧ Turn2 b c w w' := by
  have HC : Hid (∀ w, TkAt w b s x → _) := fun w h => name_c b s x w hs h
  have hR : Hid (RecAt w c r) := hr
  obtain ⟨c0, c1, c2, c3, c4, c5, c6, fz, lt⟩ := hr
  generalize (nameT s x).1 = y at *
  generalize (nameT s x).2 = z at *
  simp only [isN, decide_eq_true_eq] at ht
  clear fz hs
  rcases ht with ht | ht | ht <;> rw [ht] at c1
  all_goals
    go_enter Tryz.func118, Tryz.ntmps118
    go_wp2_with fail
    refine (HC.out _ h).mono ?_; rintro e w1 ⟨rfl, hT1, hb1⟩
    have hR1 := hR.out.turn hb1 hbc.symm
    have d4 := hR1.c4
    have f4 := hR1.fz 4
    go_wp2
    go_end0
    exact ⟨rfl, hT1.set hbc, hR1.set4 _, (Turn2.of1 hb1).trans (Turn2.set _ _ _)⟩

theorem rdata_49 (b c : Nat) (s : ByteArray) (x : Tk) (r : Rec) (n : Nat) (w : World) (hs : s.size ≤ 1125899906842624) (hn : n ≤ 65535) (h : TkAt w b s x) (hr : RecAt w c r) (hbc : b ≠ c) (ht : r.ty = 49) :
    Calls Tryz.prog 118 #[.pointer (some ⟨b, 0, none⟩), .pointer (some ⟨c, 0, none⟩), .int .i64 n] w fun e w' => e = .returned (.tuple #[]) ∧ TkAt w' b s (textT s n x).2 ∧ RecAt w' c { r with tx := (textT s n x).1 } ∧ Turn2 b c w w' := by
  have HC : Hid (∀ w, TkAt w b s x → _) := fun w h => text_c b s x n w hs hn h
  have hR : Hid (RecAt w c r) := hr
  obtain ⟨c0, c1, c2, c3, c4, c5, c6, fz, lt⟩ := hr
  rw [ht] at c1
  generalize (textT s n x).1 = y at *
  generalize (textT s n x).2 = z at *
  clear fz hs
  go_enter Tryz.func118, Tryz.ntmps118
  go_wp2_with fail
  refine (HC.out _ h).mono ?_; rintro e w1 ⟨rfl, hT1, hb1⟩
  have hR1 := hR.out.turn hb1 hbc.symm
  have d5 := hR1.c5
  have f5 := hR1.fz 5
  go_wp2
  go_end0
  exact ⟨rfl, hT1.set hbc, hR1.set5 _, (Turn2.of1 hb1).trans (Turn2.set _ _ _)⟩

theorem rdata_no (b c : Nat) (r : Rec) (v : Value) (w : World) (hr : RecAt w c r) (ht : typeB r.ty = false) :
    Calls Tryz.prog 118 #[.pointer (some ⟨b, 0, none⟩), .pointer (some ⟨c, 0, none⟩), v] w fun e w' => e = .returned (.tuple #[]) ∧ w' = w := by
  obtain ⟨c0, c1, c2, c3, c4, c5, c6, fz, lt⟩ := hr
  simp only [typeB, isN, isT, Bool.or_eq_false_iff, decide_eq_false_iff_not, not_or] at ht
  obtain ⟨⟨⟨h1, h2, h5, h12⟩, h6⟩, h16, h49⟩ := ht
  clear fz
  go_enter Tryz.func118, Tryz.ntmps118
  go_wp2
  go_end0
  exact ⟨rfl, rfl⟩

theorem drew_tk {w : World} {b : Nat} {s : ByteArray} {x : Tk} (h : TkAt w b s x) : TkAt w.drew b s x := h.below (below_drewN (Below.refl w.heap.size _) 1) h.lt
theorem drew_turn {w : World} {b : Nat} (h : b < w.heap.size) : Turn b w w.drew := Turn.of_below (below_drewN (Below.refl _ _) 1) h
theorem getB_bd (s : ByteArray) (a : Int) (k : Nat) : 0 ≤ (getB s a k).1 ∧ (getB s a k).1 < 256 ^ k := by
  have hp : (0 : Int) < 256 ^ k := Int.pow_pos (by omega)
  unfold getB
  split
  · exact ⟨Int.le_refl _, hp⟩
  · split
    · exact ⟨Int.le_refl _, hp⟩
    · exact num_bd s a.toNat k
theorem numT_bd (s : ByteArray) (k : Nat) (x : Tk) : 0 ≤ (numT s k x).1 ∧ (numT s k x).1 < 256 ^ k := by
  have hp : (0 : Int) < 256 ^ k := Int.pow_pos (by omega)
  unfold numT
  split
  · exact ⟨Int.le_refl _, hp⟩
  · split
    · exact getB_bd s x.at_ k
    · exact ⟨Int.le_refl _, hp⟩
theorem num_small (s : ByteArray) (x : Tk) : ∃ n : Nat, (numT s 1 x).1 = n ∧ n ≤ 65535 ∧ (numT s 1 x).1.toNat = n := by
  have := numT_bd s 1 x
  exact ⟨(numT s 1 x).1.toNat, by omega, by omega, rfl⟩

set_option maxHeartbeats 1000000 in
theorem rdata_16 (b c : Nat) (s : ByteArray) (x : Tk) (r : Rec) (v : Value) (w : World) (hs : s.size ≤ 1125899906842624) (h : TkAt w b s x) (hr : RecAt w c r) (hbc : b ≠ c) (ht : r.ty = 16) :
    Calls Tryz.prog 118 #[.pointer (some ⟨b, 0, none⟩), .pointer (some ⟨c, 0, none⟩), v] w fun e w' => e = .returned (.tuple #[]) ∧ TkAt w' b s (textT s (numT s 1 x).1.toNat (numT s 1 x).2).2 ∧ RecAt w' c { r with tx := (textT s (numT s 1 x).1.toNat (numT s 1 x).2).1 } ∧ Turn2 b c w w' := by
  obtain ⟨n, e1, e2, e3⟩ := num_small s x
  have HC : Hid (∀ w, TkAt w b s x → _) := fun w h => number_1t b s x w hs h
  rw [e1] at HC
  rw [e3]
  have HD : Hid (∀ w, TkAt w b s (numT s 1 x).2 → _) := fun w h => text_c b s (numT s 1 x).2 n w hs e2 h
  clear e1 e3
  generalize (numT s 1 x).2 = z at *
  generalize (textT s n z).1 = y at *
  generalize (textT s n z).2 = q at *
  have hR : Hid (RecAt w c r) := hr
  have hh : Hid (TkAt w b s x) := h
  have lt := h.lt
  have c1 := hr.c1
  rw [ht] at c1
  clear hs h hr
  go_enter Tryz.func118, Tryz.ntmps118
  go_wp2_with fail
  go_region_held3 (fun _ => True) (exact trivial)
    (first
      | (go_at_call 54; refine (HC.out _ ?_).mono ?_; (exact drew_tk hh.out); rintro e w1 ⟨rfl, hT1, hb1⟩; have B1 : Turn b w w1 := (drew_turn lt).trans hb1)
      | (go_at_call 107; refine (HD.out _ ?_).mono ?_; (exact hT1); rintro e w2 ⟨rfl, hT2, hb2⟩; have B2 : Turn b w w2 := B1.trans hb2; have hR2 := hR.out.turn B2 hbc.symm; have d5 := hR2.c5; have f5 := hR2.fz 5))
  go_wp2
  go_end0
  exact ⟨rfl, hT2.set hbc, hR2.set5 _, (Turn2.of1 B2).trans (Turn2.set _ _ _)⟩

theorem soa_at0 (w : World) : (Instr.index 116 (.agg #[.int .i64 60, .int .i64 60, .int .i64 600, .int .i64 60]) (.int .i64 0)).run Tryz.prog w = .ok (.int .i64 60) w := by kernel_rfl
theorem soa_at1 (w : World) : (Instr.index 116 (.agg #[.int .i64 60, .int .i64 60, .int .i64 600, .int .i64 60]) (.int .i64 1)).run Tryz.prog w = .ok (.int .i64 60) w := by kernel_rfl
theorem soa_at2 (w : World) : (Instr.index 116 (.agg #[.int .i64 60, .int .i64 60, .int .i64 600, .int .i64 60]) (.int .i64 2)).run Tryz.prog w = .ok (.int .i64 600) w := by kernel_rfl
theorem soa_at3 (w : World) : (Instr.index 116 (.agg #[.int .i64 60, .int .i64 60, .int .i64 600, .int .i64 60]) (.int .i64 3)).run Tryz.prog w = .ok (.int .i64 60) w := by kernel_rfl
set_option maxHeartbeats 2000000 in
theorem rdata_6 (b c : Nat) (s : ByteArray) (x : Tk) (r : Rec) (v : Value) (w : World) (hs : s.size ≤ 1125899906842624) (h : TkAt w b s x) (hr : RecAt w c r) (hbc : b ≠ c) (ht : r.ty = 6) (hL : Laid w) (hb0 : b ≠ 0) (hc0 : c ≠ 0) :
    Calls Tryz.prog 118 #[.pointer (some ⟨b, 0, none⟩), .pointer (some ⟨c, 0, none⟩), v] w fun e w' => e = .returned (.tuple #[]) ∧ TkAt w' b s (soaT s x).2 ∧ RecAt w' c { r with tg := (soaT s x).1.1, se := (soaT s x).1.2 } ∧ Turn2 b c w w' := by
  have HN1 : Hid (∀ w, TkAt w b s x → _) := fun w h => name_c b s x w hs h
  have HN2 : Hid (∀ w, TkAt w b s (nameT s x).2 → _) := fun w h => name_c b s (nameT s x).2 w hs h
  have HQ : Hid (∀ z w, TkAt w b s z → _) := fun z w h => number_4t b s z w hs h
  have HM : Hid (∀ z so w, TkAt w b s z → _) := fun z so w h => must_c b s z so w h
  have e1 : (soaT s x).1.1 = (nameT s x).1 := rfl
  have e2 : (soaT s x).1.2 = (numT s 4 (mustT ((nameT s (nameT s x).2).1.toList == (nameT s x).1.toList) (nameT s (nameT s x).2).2)).1 := rfl
  have e3 : (soaT s x).2 = isT4 s 60 (isT4 s 600 (isT4 s 60 (isT4 s 60 (numT s 4 (mustT ((nameT s (nameT s x).2).1.toList == (nameT s x).1.toList) (nameT s (nameT s x).2).2)).2))) := rfl
  rw [e1, e2, e3]
  clear e1 e2 e3
  generalize (nameT s x).1 = y1 at *
  generalize (nameT s x).2 = z1 at *
  generalize (nameT s z1).1 = y2 at *
  generalize (nameT s z1).2 = z2 at *
  have HM1 : Hid (∀ w, TkAt w b s z2 → _) := fun w h => must_c b s z2 (y2.toList == y1.toList) w h
  generalize mustT (y2.toList == y1.toList) z2 = z4 at *
  have HQ1 : Hid (∀ w, TkAt w b s z4 → _) := fun w h => number_4t b s z4 w hs h
  generalize (numT s 4 z4).1 = q at *
  generalize (numT s 4 z4).2 = z5 at *
  have hR : Hid (RecAt w c r) := hr
  have hh : Hid (TkAt w b s x) := h
  have HL : Hid (Laid w) := hL
  have lt := h.lt
  have c1 := hr.c1
  rw [ht] at c1
  clear hs h hr hL
  go_enter Tryz.func118, Tryz.ntmps118
  go_wp2_with fail
  refine (HN1.out _ hh.out).mono ?_; rintro e w1 ⟨rfl, hT1, hb1⟩
  have hR1 := hR.out.turn hb1 hbc.symm
  have d4 := hR1.c4
  have f4 := hR1.fz 4
  have hT2 : Hid (TkAt (w1.setCell ⟨c, 4, none⟩ (.string y1)) b s z1) := hT1.set hbc
  have hR2 : Hid (RecAt (w1.setCell ⟨c, 4, none⟩ (.string y1)) c { r with tg := y1 }) := hR1.set4 y1
  have B2 : Hid (Turn2 b c w (w1.setCell ⟨c, 4, none⟩ (.string y1))) := (Turn2.of1 hb1).trans (Turn2.set _ _ _)
  clear hT1 hb1 hR1
  go_wp2_with fail
  generalize w1.setCell ⟨c, 4, none⟩ (.string y1) = w2 at *
  have d4 := hR2.out.c4
  have lt2 := hT2.out.lt
  simp only at d4
  go_region_held3 (fun w' => w'.cell? ⟨c, 4, none⟩ = some (.string y1)) (first | exact d4 | exact d4a | exact d4b)
    (first
      | (go_at_call 90; refine (HN2.out _ ?_).mono ?_; (exact drew_tk hT2.out); rintro e w3 ⟨rfl, hT3, hb3⟩; have B3 : Turn b w2 w3 := (drew_turn lt2).trans hb3; have hR3 := hR2.out.turn B3 hbc.symm; have d4a := hR3.c4; simp only at d4a)
      | (go_at_call 26; refine (HM1.out _ ?_).mono ?_; (exact hT3); rintro e w4 ⟨rfl, hT4, hb4⟩; have B4 : Turn b w2 w4 := B3.trans hb4; have hR4 := hR2.out.turn B4 hbc.symm; have d4b := hR4.c4; simp only at d4b))
  have B4' : Hid (Turn2 b c w w4) := B2.out.trans (Turn2.of1 B4)
  have hR4' : Hid (_) := hR4
  clear hT3 hb3 B3 hR3 d4a d4 d4b hb4 B4 hR4 B2 hR2 hT2 hh hR
  go_wp2_with fail
  refine (HQ1.out _ hT4).mono ?_; rintro e w5 ⟨rfl, hT5, hb5⟩
  clear hT4
  have hR5 := hR4'.out.turn hb5 hbc.symm
  have d6 := hR5.c6
  have f6 := hR5.fz 6
  have hT6 : TkAt (w5.setCell ⟨c, 6, none⟩ (.int .i64 q)) b s z5 := hT5.set hbc
  have hR6 : Hid (RecAt (w5.setCell ⟨c, 6, none⟩ (.int .i64 q)) c { r with tg := y1, se := q }) := hR5.set6 q
  have B6 : Hid (Turn2 b c w (w5.setCell ⟨c, 6, none⟩ (.int .i64 q))) := B4'.out.trans ((Turn2.of1 hb5).trans (Turn2.set _ _ _))
  obtain ⟨l0, l1, l2, l3⟩ := HL.out.turn2 B6.out hb0 hc0
  clear hT5 hb5 hR5 hR4' B4' HL
  have hw0 : Hid (TkAt (w5.setCell ⟨c, 6, none⟩ (.int .i64 q)) b s z5) := hT6
  clear hT6
  go_wp2_with fail
  generalize w5.setCell ⟨c, 6, none⟩ (.int .i64 q) = w6 at *
  have x0 := soa_at0
  have x1 := soa_at1
  have x2 := soa_at2
  have x3 := soa_at3
  refine wp_loop_rounds 5 ?_
  rw [rounds_succ]
  go_wp2_with fail
  have lt7 := hw0.out.lt
  go_region_held3 (fun _ => True) (exact trivial)
    (first
      | (go_at_call 54; refine (HQ.out z5 _ ?_).mono ?_; (exact drew_tk hw0.out); rintro e w7 ⟨rfl, hT7, hb7⟩; have B7 : Turn b w6 w7 := (drew_turn lt7).trans hb7)
      | (go_at_call 26; refine (HM.out (numT s 4 z5).2 _ _ ?_).mono ?_; (exact hT7); rintro e w8 ⟨rfl, hT8, hb8⟩; have B8 : Turn b w6 w8 := B7.trans hb8))
  have hw1 : Hid (TkAt w8 b s (isT4 s 60 z5)) := hT8
  have hR8 : Hid (RecAt w8 c _) := hR6.out.turn B8 hbc.symm
  have D8 : Hid (Turn2 b c w w8) := B6.out.trans (Turn2.of1 B8)
  clear hT7 hb7 B7 hT8 hb8 B8 hw0 hR6 B6 lt7
  go_wp2_with fail
  rw [rounds_succ]
  go_wp2_with fail
  have lt9 := hw1.out.lt
  go_region_held3 (fun _ => True) (exact trivial)
    (first
      | (go_at_call 54; refine (HQ.out (isT4 s 60 z5) _ ?_).mono ?_; (exact drew_tk hw1.out); rintro e w9 ⟨rfl, hT9, hb9⟩; have B9 : Turn b w8 w9 := (drew_turn lt9).trans hb9)
      | (go_at_call 26; refine (HM.out (numT s 4 (isT4 s 60 z5)).2 _ _ ?_).mono ?_; (exact hT9); rintro e w10 ⟨rfl, hT10, hb10⟩; have B10 : Turn b w8 w10 := B9.trans hb10))
  have hw2 : Hid (TkAt w10 b s (isT4 s 60 (isT4 s 60 z5))) := hT10
  have hR10 : Hid (RecAt w10 c _) := hR8.out.turn B10 hbc.symm
  have D10 : Hid (Turn2 b c w w10) := D8.out.trans (Turn2.of1 B10)
  clear hT9 hb9 B9 hT10 hb10 B10 hw1 hR8 D8 lt9
  go_wp2_with fail
  rw [rounds_succ]
  go_wp2_with fail
  have lt11 := hw2.out.lt
  go_region_held3 (fun _ => True) (exact trivial)
    (first
      | (go_at_call 54; refine (HQ.out (isT4 s 60 (isT4 s 60 z5)) _ ?_).mono ?_; (exact drew_tk hw2.out); rintro e w11 ⟨rfl, hT11, hb11⟩; have B11 : Turn b w10 w11 := (drew_turn lt11).trans hb11)
      | (go_at_call 26; refine (HM.out (numT s 4 (isT4 s 60 (isT4 s 60 z5))).2 _ _ ?_).mono ?_; (exact hT11); rintro e w12 ⟨rfl, hT12, hb12⟩; have B12 : Turn b w10 w12 := B11.trans hb12))
  have hw3 : Hid (TkAt w12 b s (isT4 s 600 (isT4 s 60 (isT4 s 60 z5)))) := hT12
  have hR12 : Hid (RecAt w12 c _) := hR10.out.turn B12 hbc.symm
  have D12 : Hid (Turn2 b c w w12) := D10.out.trans (Turn2.of1 B12)
  clear hT11 hb11 B11 hT12 hb12 B12 hw2 hR10 D10 lt11
  go_wp2_with fail
  rw [rounds_succ]
  go_wp2_with fail
  have lt13 := hw3.out.lt
  go_region_held3 (fun _ => True) (exact trivial)
    (first
      | (go_at_call 54; refine (HQ.out (isT4 s 600 (isT4 s 60 (isT4 s 60 z5))) _ ?_).mono ?_; (exact drew_tk hw3.out); rintro e w13 ⟨rfl, hT13, hb13⟩; have B13 : Turn b w12 w13 := (drew_turn lt13).trans hb13)
      | (go_at_call 26; refine (HM.out (numT s 4 (isT4 s 600 (isT4 s 60 (isT4 s 60 z5)))).2 _ _ ?_).mono ?_; (exact hT13); rintro e w14 ⟨rfl, hT14, hb14⟩; have B14 : Turn b w12 w14 := B13.trans hb14))
  have hw4 : Hid (TkAt w14 b s (isT4 s 60 (isT4 s 600 (isT4 s 60 (isT4 s 60 z5))))) := hT14
  have hR14 : Hid (RecAt w14 c _) := hR12.out.turn B14 hbc.symm
  have D14 : Hid (Turn2 b c w w14) := D12.out.trans (Turn2.of1 B14)
  clear hT13 hb13 B13 hT14 hb14 B14 hw3 hR12 D12 lt13
  go_wp2_with fail
  rw [rounds_succ]
  go_wp2
  go_end0
  exact ⟨rfl, hw4.out, hR14.out, D14.out⟩

theorem rdata_c (b c : Nat) (s : ByteArray) (x : Tk) (r : Rec) (n : Nat) (w : World) (hs : s.size ≤ 1125899906842624) (hn : n ≤ 65535) (h : TkAt w b s x) (hr : RecAt w c r) (hbc : b ≠ c) (hL : Laid w) (hb0 : b ≠ 0) (hc0 : c ≠ 0) :
    Calls Tryz.prog 118 #[.pointer (some ⟨b, 0, none⟩), .pointer (some ⟨c, 0, none⟩), .int .i64 n] w fun e w' => e = .returned (.tuple #[]) ∧ TkAt w' b s (dataT s n r x).2 ∧ RecAt w' c (dataT s n r x).1 ∧ Turn2 b c w w' := by
  unfold dataT
  by_cases h1 : r.ty = 1
  · rw [if_pos h1]; exact rdata_1 b c s x r _ w hs h hr hbc h1
  · rw [if_neg h1]
    by_cases h2 : isN r.ty = true
    · rw [if_pos h2]; exact rdata_n b c s x r _ w hs h hr hbc h2
    · rw [if_neg h2]
      by_cases h3 : r.ty = 6
      · rw [if_pos h3]; exact rdata_6 b c s x r _ w hs h hr hbc h3 hL hb0 hc0
      · rw [if_neg h3]
        by_cases h4 : r.ty = 16
        · rw [if_pos h4]; exact rdata_16 b c s x r _ w hs h hr hbc h4
        · rw [if_neg h4]
          by_cases h5 : r.ty = 49
          · rw [if_pos h5]; exact rdata_49 b c s x r n w hs hn h hr hbc h5
          · rw [if_neg h5]
            refine (rdata_no b c r _ w hr ?_).mono fun e w' ⟨h1, h2⟩ => ⟨h1, by rw [h2]; exact h, by rw [h2]; exact hr, by rw [h2]; exact Turn2.of1 (Turn.refl _ _)⟩
            simp only [typeB, isT, h1, h3, h4, h5, Bool.or_eq_false_iff, decide_false, or_self, and_true, true_and]
            simpa using h2

end Go.Proofs.YtgidbcjeaeiinaaGreatDoor

/-
  Several texts in one.
-/
import Derived.Test.YtdmooggmoihggaaGreatDoorBWire
import Derived.Test.YtdmooggmoihggaaGreatDoorShelf
import Derived.Test.YtdmooggmoihggaaGreatDoorBPut
import Derived.Test.YtdmooggmoihggaaGreatDoorShelf2
import Derived.Deep.RegionHeld3
/-
  Contracts of package taker, at every text and place.
-/
namespace Go.Proofs.YtdmooggmoihggaaGreatDoor
set_option maxRecDepth 100000
open Go.ChangeShapes Go.WideShapes Go.ChangeAt Go.RowKit Go.Pin Go.PlainAid

/-- How far a text is taken: where it goes on; has it failed. -/
structure Tk where
  at_ : Int
  f : Bool
/-- Block b is a taker of s that stands at x. -/
structure TkAt (w : World) (b : Nat) (s : ByteArray) (x : Tk) : Prop where
  c0 : w.cell? ⟨b, 0, none⟩ = some (.string s)
  c1 : w.cell? ⟨b, 1, none⟩ = some (.int .i64 x.at_)
  c2 : w.cell? ⟨b, 2, none⟩ = some (.bool x.f)
  fz : ∀ j, w.frozen? ⟨b, j, none⟩ = false
  lt : b < w.heap.size
  rg : x.f = false → 0 ≤ x.at_ ∧ x.at_ ≤ s.size
  wf : -9223372036854775808 ≤ x.at_ ∧ x.at_ ≤ 9223372036854775807
/-- From w to w' nothing turned but the first three cells of block b and what is new. -/
structure Turn (b : Nat) (w w' : World) : Prop where
  bel : Below b w w'
  oth : ∀ c, c ≠ b → c < w.heap.size → w'.heap[c]? = w.heap[c]?
  cel : ∀ j, 3 ≤ j → w'.cell? ⟨b, j, none⟩ = w.cell? ⟨b, j, none⟩
theorem Turn.refl (b : Nat) (w : World) : Turn b w w := ⟨Below.refl _ _, fun _ _ _ => rfl, fun _ _ => rfl⟩
theorem Turn.trans {b : Nat} {w w1 w2 : World} (h1 : Turn b w w1) (h2 : Turn b w1 w2) : Turn b w w2 :=
  ⟨h1.bel.trans h2.bel, fun c hc hl => (h2.oth c hc (Nat.lt_of_lt_of_le hl h1.bel.size)).trans (h1.oth c hc hl), fun j hj => (h2.cel j hj).trans (h1.cel j hj)⟩
theorem Turn.of_below {b : Nat} {w w' : World} (h : Below w.heap.size w w') (hb : b < w.heap.size) : Turn b w w' := ⟨h.mono (Nat.le_of_lt hb), fun _ _ hl => h.block _ hl, fun _ _ => h.cell hb⟩
theorem Turn.set {b : Nat} (w : World) (j : Nat) (u : Value) (hj : j < 3 := by decide) : Turn b w (w.setCell ⟨b, j, none⟩ u) :=
  ⟨(Below.refl b w).setCell (show b ≤ (⟨b, j, none⟩ : Addr).block from Nat.le_refl b) u, fun _ hc _ => Below.heap_setCell _ _ _ _ (fun e => hc e), fun k hk => World.cell?_setCell_other _ _ _ _ (by intro e; injection e with _ e; omega)⟩
theorem TkAt.below {w w' : World} {b : Nat} {s : ByteArray} {x : Tk} (h : TkAt w b s x) {n : Nat} (hb : Below n w w') (hn : b < n) : TkAt w' b s x := by
  have hc : ∀ j, w'.cell? ⟨b, j, none⟩ = w.cell? ⟨b, j, none⟩ := fun j => hb.cell hn
  exact ⟨(hc 0).trans h.c0, (hc 1).trans h.c1, (hc 2).trans h.c2, fun j => (hb.frozen hn).trans (h.fz j), Nat.lt_of_lt_of_le h.lt hb.size, h.rg, h.wf⟩
theorem TkAt.set1 {w : World} {b : Nat} {s : ByteArray} {x : Tk} (h : TkAt w b s x) (n : Int) (hr : x.f = false → 0 ≤ n ∧ n ≤ s.size) (hw : -9223372036854775808 ≤ n ∧ n ≤ 9223372036854775807) : TkAt (w.setCell ⟨b, 1, none⟩ (.int .i64 n)) b s { x with at_ := n } :=
  ⟨way_cell h.c0 h.c1, way_cell h.c1 h.c1, way_cell h.c2 h.c1, fun j => by rw [World.frozen?_setCell]; exact h.fz j, by simp; exact h.lt, hr, hw⟩
theorem TkAt.fail {w : World} {b : Nat} {s : ByteArray} {x : Tk} (h : TkAt w b s x) : TkAt (w.setCell ⟨b, 2, none⟩ (.bool true)) b s { x with f := true } :=
  ⟨way_cell h.c0 h.c2, way_cell h.c1 h.c2, way_cell h.c2 h.c2, fun j => by rw [World.frozen?_setCell]; exact h.fz j, by simp; exact h.lt, (fun h => by cases h), h.wf⟩

theorem from_c (s : ByteArray) (a : Int) (w : World) : Calls Tryz.prog 18 #[.string s, .int .i64 a] w fun e w' => e = .returned (.agg #[.string s, .int .i64 a, .bool (decide (a < 0) || decide ((s.size : Int) < a))]) ∧ Below w.heap.size w w' := by
  by_cases h0 : a < 0
  · have h1 : decide (a < 0) = true := by simpa using h0
    rw [h1, Bool.true_or]
    go_enter Tryz.func18, Tryz.ntmps18
    go_wp2
    refine bodyPost_ret (v := .agg #[.string s, .int .i64 a, .bool true]) (by simp [results, Tryz.results18, go_sem]) rfl ⟨rfl, (Below.refl _ _).alloc (Nat.le_refl _) _⟩
  · have h1 : decide (a < 0) = false := by simpa using h0
    rw [h1, Bool.false_or]
    go_enter Tryz.func18, Tryz.ntmps18
    go_wp2
    refine bodyPost_ret (v := .agg #[.string s, .int .i64 a, .bool (decide ((s.size : Int) < a))]) (by simp [results, Tryz.results18, go_sem]) rfl ⟨rfl, (Below.refl _ _).alloc (Nat.le_refl _) _⟩

theorem ok_c (b : Nat) (s : ByteArray) (x : Tk) (w : World) (h : TkAt w b s x) : Calls Tryz.prog 22 #[.pointer (some ⟨b, 0, none⟩)] w fun e w' => e = .returned (.bool (!x.f)) ∧ w' = w := by
  obtain ⟨c0, c1, c2, fz, lt, _, _⟩ := h
  go_enter Tryz.func22, Tryz.ntmps22
  go_wp2
  go_ret
  exact ⟨rfl, rfl⟩
theorem at_c (b : Nat) (s : ByteArray) (x : Tk) (w : World) (h : TkAt w b s x) : Calls Tryz.prog 21 #[.pointer (some ⟨b, 0, none⟩)] w fun e w' => e = .returned (.int .i64 x.at_) ∧ w' = w := by
  obtain ⟨c0, c1, c2, fz, lt, _, _⟩ := h
  go_enter Tryz.func21, Tryz.ntmps21
  go_wp2
  go_ret
  exact ⟨rfl, rfl⟩
theorem must_yes (b : Nat) (w : World) : Calls Tryz.prog 20 #[.pointer (some ⟨b, 0, none⟩), .bool true] w fun e w' => e = .returned (.tuple #[]) ∧ w' = w := by
  go_enter Tryz.func20, Tryz.ntmps20
  go_wp2
  go_end0
  exact ⟨rfl, rfl⟩
theorem must_no (b : Nat) (s : ByteArray) (x : Tk) (w : World) (h : TkAt w b s x) : Calls Tryz.prog 20 #[.pointer (some ⟨b, 0, none⟩), .bool false] w fun e w' => e = .returned (.tuple #[]) ∧ w' = w.setCell ⟨b, 2, none⟩ (.bool true) := by
  obtain ⟨c0, c1, c2, fz, lt, _, _⟩ := h
  have f2 := fz 2
  clear fz
  go_enter Tryz.func20, Tryz.ntmps20
  go_wp2
  go_end0
  exact ⟨rfl, rfl⟩
def mustT (so : Bool) (x : Tk) : Tk := { x with f := x.f || !so }
theorem must_c (b : Nat) (s : ByteArray) (x : Tk) (so : Bool) (w : World) (h : TkAt w b s x) : Calls Tryz.prog 20 #[.pointer (some ⟨b, 0, none⟩), .bool so] w fun e w' => e = .returned (.tuple #[]) ∧ TkAt w' b s (mustT so x) ∧ Turn b w w' := by
  cases so
  · refine (must_no b s x w h).mono fun e w' ⟨h1, h2⟩ => ⟨h1, ?_, ?_⟩
    · rw [h2]; simpa [mustT] using h.fail
    · rw [h2]; exact Turn.set _ _ _
  · refine (must_yes b w).mono fun e w' ⟨h1, h2⟩ => ⟨h1, ?_, ?_⟩
    · rw [h2]; simpa [mustT] using h
    · rw [h2]; exact Turn.refl _ _

/-! ### numbers -/
/-- What be's Get tells. -/
def getB (s : ByteArray) (a : Int) (k : Nat) : Int × Int := if a < 0 then (0, 100) else if (s.size : Int) < a + k then (0, 101) else (num s a.toNat k, 0)
theorem get_b (s : ByteArray) (a : Int) (k : Nat) (w : World) (hk : k = 1 ∨ k = 2 ∨ k = 4) (hs : s.size ≤ maxLen) : Calls Tryz.prog 83 #[.string s, .int .i64 a, .int .i64 k] w fun e w' => e = .returned (.tuple #[.int .i64 (getB s a k).1, .int .i64 (getB s a k).2]) ∧ w' = w := by
  unfold getB
  by_cases h0 : a < 0
  · rw [if_pos h0]; exact get_no s a k w (.inr h0)
  · rw [if_neg h0]
    by_cases h1 : (s.size : Int) < a + k
    · rw [if_pos h1]; exact get_end s a k w (by omega) hs (by omega) h1
    · rw [if_neg h1]
      have := get_ok s a.toNat k w hk hs (by omega)
      rw [show ((a.toNat : Nat) : Int) = a by omega] at this
      exact this

theorem number1_c (s : ByteArray) (a : Int) (k : Nat) (p : Addr) (w : World) (hk : k = 1 ∨ k = 2 ∨ k = 4) (hs : s.size ≤ maxLen) (hc : w.cell? p = some (.int .i64 k)) (ha : a ≤ 1125899906842624) (ha' : 0 ≤ a) :
    Calls Tryz.prog 82 #[.string s, .int .i64 a, .pointer (some p)] w fun e w' => e = .returned (.tuple #[.int .i64 (getB s a k).1, .int .i64 (a + k), .int .i64 (getB s a k).2]) ∧ Below w.heap.size w w' := by
  have HG : Hid (∀ w, _) := fun w => get_b s a k w hk hs
  generalize (getB s a k).1 = x at *
  generalize (getB s a k).2 = y at *
  have h8 : (k : Int) ≤ 8 := by omega
  clear hk
  go_enter Tryz.func82, Tryz.ntmps82
  go_wp2_with fail
  refine (HG.out _).mono ?_; rintro e w1 ⟨rfl, rfl⟩
  go_wp2_with fail
  go_quiet (fail)
  go_wp2
  go_ret3
  exact ⟨rfl, below_drewN (Below.refl _ _) _⟩

/-- A number of k bytes. -/
def numT (s : ByteArray) (k : Nat) (x : Tk) : Int × Tk := if x.f then (0, x) else if (getB s x.at_ k).2 = 0 then ((getB s x.at_ k).1, ⟨x.at_ + k, false⟩) else (0, ⟨x.at_, true⟩)

theorem byInt_failed (b : Nat) (s : ByteArray) (x : Tk) (g : Value) (w : World) (h : TkAt w b s x) (hf : x.f = true) :
    Calls Tryz.prog 81 #[.pointer (some ⟨b, 0, none⟩), g] w fun e w' => e = .returned (.int .i64 0) ∧ w' = w := by
  obtain ⟨c0, c1, c2, fz, lt, _, _⟩ := h
  rw [hf] at c2
  go_enter Tryz.func81, Tryz.ntmps81
  go_wp2
  go_ret
  exact ⟨rfl, rfl⟩

set_option maxHeartbeats 1000000 in
theorem byInt_ok (b : Nat) (s : ByteArray) (x : Tk) (k : Nat) (p : Addr) (w : World) (hk : k = 1 ∨ k = 2 ∨ k = 4) (hs : s.size ≤ 1125899906842624) (h : TkAt w b s x) (hf : x.f = false) (hp : w.cell? p = some (.int .i64 k)) (h0 : (getB s x.at_ k).2 = 0) :
    Calls Tryz.prog 81 #[.pointer (some ⟨b, 0, none⟩), .func (.func 82) #[] #[.pointer (some p)]] w fun e w' => e = .returned (.int .i64 (getB s x.at_ k).1) ∧ TkAt w' b s ⟨x.at_ + k, false⟩ ∧ Turn b w w' := by
  have hr := h.rg hf
  have hsz : (s.size : Int) ≤ 1125899906842624 := by omega
  have HG : Hid (∀ w : World, w.cell? p = some (Value.int .i64 k) → _) := fun w hp => number1_c s x.at_ k p w hk (by simp only [maxLen]; omega) hp (by omega) hr.1
  rw [h0] at HG
  have hle : x.at_ + k ≤ s.size := by
    unfold getB at h0
    rw [if_neg (by omega)] at h0
    by_cases hh : (s.size : Int) < x.at_ + k
    · rw [if_pos hh] at h0; simp at h0
    · omega
  have hh : Hid (TkAt w b s x) := h
  have hx : Hid (0 ≤ x.at_ ∧ x.at_ + k ≤ s.size ∧ (s.size : Int) ≤ 1125899906842624) := ⟨hr.1, hle, hsz⟩
  generalize (getB s x.at_ k).1 = y at *
  obtain ⟨c0, c1, c2, fz, lt, _, _⟩ := h
  rw [hf] at c2
  clear hr hle h0 fz hs hk
  go_enter Tryz.func81, Tryz.ntmps81
  go_wp2_with fail
  go_region_with (refine (HG.out _ (by simpa using hp)).mono ?_; rintro e w1 ⟨rfl, hb1⟩; have hb1' : Below _ w w1 := bel_trans (below_drewN (Below.refl _ _) 1) hb1)
  all_goals
    have hT := hh.out.below hb1' lt
    have B1 : Hid (Turn b w w1) := Turn.of_below hb1' lt
    have hh1 : Hid (TkAt w1 b s x) := hT
    obtain ⟨d0, d1, d2, fz, lt1, _, _⟩ := hT
    rw [hf] at d2
    have f1 := fz 1
    clear c0 c1 c2 hb1 hb1' fz hp hh HG lt
    go_wp2_with fail
    refine (must_yes b _).mono ?_; rintro e w2 ⟨rfl, rfl⟩
    go_wp2
    go_ret
    obtain ⟨x0, x1, x2⟩ := hx.out
    refine ⟨rfl, ?_, B1.out.trans (Turn.set _ _ _)⟩
    have := hh1.out.set1 (x.at_ + k) (fun _ => ⟨by omega, x1⟩) ⟨by omega, by omega⟩
    rw [show ({ x with at_ := x.at_ + k } : Tk) = ⟨x.at_ + k, false⟩ by rw [← hf]] at this
    exact this

set_option maxHeartbeats 1000000 in
theorem byInt_no (b : Nat) (s : ByteArray) (x : Tk) (k : Nat) (p : Addr) (w : World) (hk : k = 1 ∨ k = 2 ∨ k = 4) (hs : s.size ≤ 1125899906842624) (h : TkAt w b s x) (hf : x.f = false) (hp : w.cell? p = some (.int .i64 k)) (h0 : (getB s x.at_ k).2 ≠ 0) :
    Calls Tryz.prog 81 #[.pointer (some ⟨b, 0, none⟩), .func (.func 82) #[] #[.pointer (some p)]] w fun e w' => e = .returned (.int .i64 0) ∧ TkAt w' b s ⟨x.at_, true⟩ ∧ Turn b w w' := by
  have hr := h.rg hf
  have hsz : (s.size : Int) ≤ 1125899906842624 := by omega
  have HG : Hid (∀ w : World, w.cell? p = some (Value.int .i64 k) → _) := fun w hp => number1_c s x.at_ k p w hk (by simp only [maxLen]; omega) hp (by omega) hr.1
  have hh : Hid (TkAt w b s x) := h
  generalize (getB s x.at_ k).1 = y at *
  generalize (getB s x.at_ k).2 = z at *
  have hz : (z == 0) = false := by simpa using h0
  obtain ⟨c0, c1, c2, fz, lt, _, _⟩ := h
  rw [hf] at c2
  clear hr fz hs hk
  go_enter Tryz.func81, Tryz.ntmps81
  go_wp2_with fail
  go_region_with (refine (HG.out _ (by simpa using hp)).mono ?_; rintro e w1 ⟨rfl, hb1⟩; have hb1' : Below _ w w1 := bel_trans (below_drewN (Below.refl _ _) 1) hb1)
  all_goals
    have hT := hh.out.below hb1' lt
    have B1 : Hid (Turn b w w1) := Turn.of_below hb1' lt
    have hh1 : Hid (TkAt w1 b s x) := hT
    clear c0 c1 c2 hb1 hb1' hp hh HG lt
    go_wp2_with fail
    refine (must_no b s x _ hT).mono ?_; rintro e w2 ⟨rfl, rfl⟩
    have hT2 := hT.fail
    have hh2 : Hid (_) := hT2
    obtain ⟨d0, d1, d2, fz, lt1, _, _⟩ := hT2
    simp only at d2
    clear fz hT
    go_wp2
    go_ret
    exact ⟨rfl, hh2.out, B1.out.trans (Turn.set _ _ _)⟩

theorem number_c (b : Nat) (s : ByteArray) (x : Tk) (k : Nat) (w : World) (hk : k = 1 ∨ k = 2 ∨ k = 4) (hs : s.size ≤ 1125899906842624) (h : TkAt w b s x) :
    Calls Tryz.prog 49 #[.pointer (some ⟨b, 0, none⟩), .int .i64 k] w fun e w' => e = .returned (.int .i64 (numT s k x).1) ∧ TkAt w' b s (numT s k x).2 ∧ Turn b w w' := by
  have hmf : ∀ (fn : Fn) (first cap : Array Value) (w : World), (Instr.makeFunc fn first cap).run Tryz.prog w = .ok (.func fn first cap) w := fun _ _ _ _ => rfl
  have HC : Hid (Calls Tryz.prog 81 #[.pointer (some ⟨b, 0, none⟩), .func (.func 82) #[] #[.pointer (some ⟨w.heap.size, 0, none⟩)]] (w.alloc (.cells #[.int .i64 k] 3)) fun e w' => e = .returned (.int .i64 (numT s k x).1) ∧ TkAt w' b s (numT s k x).2 ∧ Turn b w w') := by
    have hb : Below w.heap.size w (w.alloc (.cells #[.int .i64 k] 3)) := (Below.refl _ _).alloc (Nat.le_refl _) _
    have hT := h.below hb h.lt
    have T0 : Turn b w (w.alloc (.cells #[.int .i64 k] 3)) := Turn.of_below hb h.lt
    have hp : (w.alloc (.cells #[.int .i64 k] 3)).cell? ⟨w.heap.size, 0, none⟩ = some (.int .i64 k) := new_cell _ _ _ _ _ rfl
    cases hf : x.f with
    | true =>
      have e1 : numT s k x = (0, x) := by simp [numT, hf]
      rw [e1]
      exact (byInt_failed b s x _ _ hT hf).mono fun e w' ⟨h1, h2⟩ => ⟨h1, by rw [h2]; exact hT, by rw [h2]; exact T0⟩
    | false =>
      by_cases h0 : (getB s x.at_ k).2 = 0
      · have e1 : numT s k x = ((getB s x.at_ k).1, ⟨x.at_ + k, false⟩) := by simp [numT, hf, h0]
        rw [e1]
        exact (byInt_ok b s x k _ _ hk hs hT hf hp h0).mono fun e w' ⟨h1, h2, h3⟩ => ⟨h1, h2, T0.trans h3⟩
      · have e1 : numT s k x = (0, ⟨x.at_, true⟩) := by simp [numT, hf, h0]
        rw [e1]
        exact (byInt_no b s x k _ _ hk hs hT hf hp h0).mono fun e w' ⟨h1, h2, h3⟩ => ⟨h1, h2, T0.trans h3⟩
  generalize (numT s k x).1 = y at *
  generalize (numT s k x).2 = z at *
  clear hk hs h
  go_enter Tryz.func49, Tryz.ntmps49
  go_wp2_with fail
  refine HC.out.mono ?_; rintro e w1 ⟨rfl, hT, hb⟩
  go_wp2
  go_ret
  exact ⟨rfl, hT, hb⟩

end Go.Proofs.YtdmooggmoihggaaGreatDoor

/-
  Contracts of package taker for names and texts, at every text and place.
-/
namespace Go.Proofs.YtdmooggmoihggaaGreatDoor
set_option maxRecDepth 100000
open Go.ChangeShapes Go.WideShapes Go.ChangeAt Go.RowKit Go.Pin Go.PlainAid

/-- A name. -/
def nameT (s : ByteArray) (x : Tk) : ByteArray × Tk := if x.f then (⟨#[]⟩, x) else if (getL (bs s) x.at_.toNat).2.2 = 0 then (mk (getL (bs s) x.at_.toNat).1, ⟨(getL (bs s) x.at_.toNat).2.1, false⟩) else (⟨#[]⟩, ⟨x.at_, true⟩)

theorem byStr_failed (b : Nat) (s : ByteArray) (x : Tk) (g : Value) (w : World) (h : TkAt w b s x) (hf : x.f = true) :
    Calls Tryz.prog 99 #[.pointer (some ⟨b, 0, none⟩), g] w fun e w' => e = .returned (.string ⟨#[]⟩) ∧ w' = w := by
  obtain ⟨c0, c1, c2, fz, lt, _, _⟩ := h
  rw [hf] at c2
  go_enter Tryz.func99, Tryz.ntmps99
  go_wp2
  go_ret
  exact ⟨rfl, rfl⟩

set_option maxHeartbeats 1000000 in
theorem byStr_ok (b : Nat) (s : ByteArray) (x : Tk) (w : World) (hs : s.size ≤ 1125899906842624) (h : TkAt w b s x) (hf : x.f = false) (h0 : (getL (bs s) x.at_.toNat).2.2 = 0) :
    Calls Tryz.prog 99 #[.pointer (some ⟨b, 0, none⟩), .func (.func 100) #[] #[]] w fun e w' => e = .returned (.string (mk (getL (bs s) x.at_.toNat).1)) ∧ TkAt w' b s ⟨(getL (bs s) x.at_.toNat).2.1, false⟩ ∧ Turn b w w' := by
  have hr := h.rg hf
  have hsz : (s.size : Int) ≤ 1125899906842624 := by omega
  have HG : Hid (∀ w, _) := fun w => get_from s x.at_.toNat w hs
  have hat : ((x.at_.toNat : Nat) : Int) = x.at_ := by omega
  rw [hat] at HG
  simp only [told, h0] at HG
  have hle : 0 ≤ (getL (bs s) x.at_.toNat).2.1 ∧ (getL (bs s) x.at_.toNat).2.1 ≤ s.size := by
    have := get_ends (s := bs s) (at_ := x.at_.toNat) (n := (getL (bs s) x.at_.toNat).1) (e := (getL (bs s) x.at_.toNat).2.1) (by rw [← h0])
    rw [length_bs] at this
    omega
  have hh : Hid (TkAt w b s x) := h
  generalize (getL (bs s) x.at_.toNat).1 = y at *
  generalize (getL (bs s) x.at_.toNat).2.1 = z at *
  have hx : Hid (0 ≤ z ∧ z ≤ s.size ∧ (s.size : Int) ≤ 1125899906842624) := ⟨hle.1, hle.2, hsz⟩
  obtain ⟨c0, c1, c2, fz, lt, _, _⟩ := h
  rw [hf] at c2
  clear hr hle h0 fz hs
  go_enter Tryz.func99, Tryz.ntmps99
  go_wp2_with fail
  go_region_with (refine (HG.out _).mono ?_; rintro e w1 ⟨rfl, hb1⟩; have hb1' : Below _ w w1 := bel_trans (below_drewN (Below.refl _ _) 1) hb1)
  all_goals
    have hT := hh.out.below hb1' lt
    have B1 : Hid (Turn b w w1) := Turn.of_below hb1' lt
    have hh1 : Hid (TkAt w1 b s x) := hT
    obtain ⟨d0, d1, d2, fz, lt1, _, _⟩ := hT
    rw [hf] at d2
    have f1 := fz 1
    clear c0 c1 c2 hb1 hb1' fz hh HG lt
    go_wp2_with fail
    refine (must_yes b _).mono ?_; rintro e w2 ⟨rfl, rfl⟩
    go_wp2
    go_ret
    obtain ⟨x0, x1, x2⟩ := hx.out
    refine ⟨rfl, ?_, B1.out.trans (Turn.set _ _ _)⟩
    have := hh1.out.set1 z (fun _ => ⟨x0, x1⟩) ⟨by omega, by omega⟩
    rw [show ({ x with at_ := z } : Tk) = ⟨z, false⟩ by rw [← hf]] at this
    exact this

set_option maxHeartbeats 1000000 in
theorem byStr_no (b : Nat) (s : ByteArray) (x : Tk) (w : World) (hs : s.size ≤ 1125899906842624) (h : TkAt w b s x) (hf : x.f = false) (h0 : (getL (bs s) x.at_.toNat).2.2 ≠ 0) :
    Calls Tryz.prog 99 #[.pointer (some ⟨b, 0, none⟩), .func (.func 100) #[] #[]] w fun e w' => e = .returned (.string ⟨#[]⟩) ∧ TkAt w' b s ⟨x.at_, true⟩ ∧ Turn b w w' := by
  have hr := h.rg hf
  have hsz : (s.size : Int) ≤ 1125899906842624 := by omega
  have HG : Hid (∀ w, _) := fun w => get_from s x.at_.toNat w hs
  have hat : ((x.at_.toNat : Nat) : Int) = x.at_ := by omega
  rw [hat] at HG
  simp only [told] at HG
  have hh : Hid (TkAt w b s x) := h
  generalize (getL (bs s) x.at_.toNat).1 = y at *
  generalize (getL (bs s) x.at_.toNat).2.1 = y2 at *
  generalize (getL (bs s) x.at_.toNat).2.2 = z at *
  have hz : (z == 0) = false := by simpa using h0
  obtain ⟨c0, c1, c2, fz, lt, _, _⟩ := h
  rw [hf] at c2
  clear hr fz hs
  go_enter Tryz.func99, Tryz.ntmps99
  go_wp2_with fail
  go_region_with (refine (HG.out _).mono ?_; rintro e w1 ⟨rfl, hb1⟩; have hb1' : Below _ w w1 := bel_trans (below_drewN (Below.refl _ _) 1) hb1)
  all_goals
    have hT := hh.out.below hb1' lt
    have B1 : Hid (Turn b w w1) := Turn.of_below hb1' lt
    have hh1 : Hid (TkAt w1 b s x) := hT
    clear c0 c1 c2 hb1 hb1' hh HG lt
    go_wp2_with fail
    refine (must_no b s x _ hT).mono ?_; rintro e w2 ⟨rfl, rfl⟩
    have hT2 := hT.fail
    have hh2 : Hid (_) := hT2
    obtain ⟨d0, d1, d2, fz, lt1, _, _⟩ := hT2
    simp only at d2
    clear fz hT
    go_wp2
    go_ret
    exact ⟨rfl, hh2.out, B1.out.trans (Turn.set _ _ _)⟩

theorem name_c (b : Nat) (s : ByteArray) (x : Tk) (w : World) (hs : s.size ≤ 1125899906842624) (h : TkAt w b s x) :
    Calls Tryz.prog 85 #[.pointer (some ⟨b, 0, none⟩)] w fun e w' => e = .returned (.string (nameT s x).1) ∧ TkAt w' b s (nameT s x).2 ∧ Turn b w w' := by
  have HC : Hid (Calls Tryz.prog 99 #[.pointer (some ⟨b, 0, none⟩), .func (.func 100) #[] #[]] w fun e w' => e = .returned (.string (nameT s x).1) ∧ TkAt w' b s (nameT s x).2 ∧ Turn b w w') := by
    cases hf : x.f with
    | true =>
      have e1 : nameT s x = (⟨#[]⟩, x) := by simp [nameT, hf]
      rw [e1]
      exact (byStr_failed b s x _ _ h hf).mono fun e w' ⟨h1, h2⟩ => ⟨h1, by rw [h2]; exact h, by rw [h2]; exact Turn.refl _ _⟩
    | false =>
      by_cases h0 : (getL (bs s) x.at_.toNat).2.2 = 0
      · have e1 : nameT s x = (mk (getL (bs s) x.at_.toNat).1, ⟨(getL (bs s) x.at_.toNat).2.1, false⟩) := by simp [nameT, hf, h0]
        rw [e1]
        exact byStr_ok b s x _ hs h hf h0
      · have e1 : nameT s x = (⟨#[]⟩, ⟨x.at_, true⟩) := by simp [nameT, hf, h0]
        rw [e1]
        exact byStr_no b s x _ hs h hf h0
  generalize (nameT s x).1 = y at *
  generalize (nameT s x).2 = z at *
  clear hs h
  go_enter Tryz.func85, Tryz.ntmps85
  go_wp2_with fail
  refine HC.out.mono ?_; rintro e w1 ⟨rfl, hT, hb⟩
  go_wp2
  go_ret
  exact ⟨rfl, hT, hb⟩

/-! ### texts -/
theorem wrap_in (v : Int) (h0 : -9223372036854775808 ≤ v) (h1 : v ≤ 9223372036854775807) : IntKind.i64.wrap v = v := IntWalk.i64_in v ⟨h0, h1⟩
theorem clone_str (s : ByteArray) (w : World) (hs : s.size ≤ 281474976710656) : Calls Tryz.prog 114 #[.string s] w fun e w' => e = .returned (.string s) ∧ Below w.heap.size w w' := by
  have H : Hid (∀ w, _) := fun w => Tryz.stringslite_Clone s w (by omega)
  go_enter Tryz.func114, Tryz.ntmps114
  go_wp2_with fail
  refine (H.out _).mono ?_; rintro e w1 ⟨rfl, hb⟩
  go_wp2
  go_ret
  exact ⟨rfl, hb⟩
/-- n bytes. -/
def textT (s : ByteArray) (n : Nat) (x : Tk) : ByteArray × Tk := if x.f then (⟨#[]⟩, x) else if (n : Int) ≤ s.size - x.at_ then (s.extract x.at_.toNat (x.at_.toNat + n), ⟨x.at_ + n, false⟩) else (⟨#[]⟩, ⟨x.at_, true⟩)

set_option maxHeartbeats 1000000 in
theorem text_failed (b : Nat) (s : ByteArray) (x : Tk) (n : Nat) (w : World) (h : TkAt w b s x) (hf : x.f = true) :
    Calls Tryz.prog 102 #[.pointer (some ⟨b, 0, none⟩), .int .i64 n] w fun e w' => e = .returned (.string ⟨#[]⟩) ∧ TkAt w' b s x ∧ Turn b w w' := by
  have h0 : decide ((0 : Int) ≤ n) = true := by simp
  have HM : Hid (∀ so w, TkAt w b s x → _) := fun so w h => must_c b s x so w h
  have hmx : Hid (∀ so, mustT so x = x) := fun so => by cases x; simp only at hf; subst hf; simp [mustT]
  have hh : Hid (TkAt w b s x) := h
  obtain ⟨c0, c1, c2, fz, lt, _, _⟩ := h
  rw [hf] at c2
  clear fz
  go_enter Tryz.func102, Tryz.ntmps102
  go_wp2_with fail
  go_region_held3 (fun w' => w'.cell? ⟨b, 0, none⟩ = some (.string s) ∧ w'.cell? ⟨b, 1, none⟩ = some (.int .i64 x.at_)) (first | exact ⟨c0, c1⟩ | exact ⟨hT1.c0, hT1.c1⟩)
    (first | (go_at_call 20; refine (HM.out _ _ ?_).mono ?_; (exact hh.out.below (below_drewN (Below.refl _ _) 1) lt); rintro e w1 ⟨rfl, hT1, hb1⟩; rw [hmx.out] at hT1; have B1 : Turn b w w1 := (Turn.of_below (below_drewN (Below.refl _ _) 1) lt).trans hb1))
  have d2 := hT1.c2
  rw [hf] at d2
  go_wp2
  go_ret
  exact ⟨rfl, hT1, B1⟩

set_option maxHeartbeats 1000000 in
theorem text_no (b : Nat) (s : ByteArray) (x : Tk) (n : Nat) (w : World) (hs : s.size ≤ 1125899906842624) (h : TkAt w b s x) (hf : x.f = false) (hd : ¬ (n : Int) ≤ s.size - x.at_) :
    Calls Tryz.prog 102 #[.pointer (some ⟨b, 0, none⟩), .int .i64 n] w fun e w' => e = .returned (.string ⟨#[]⟩) ∧ TkAt w' b s ⟨x.at_, true⟩ ∧ Turn b w w' := by
  have h0 : decide ((0 : Int) ≤ n) = true := by simp
  obtain ⟨r0, r1⟩ := h.rg hf
  have hd' : Hid (decide ((n : Int) ≤ IntKind.i64.wrap (s.size - x.at_)) = false) := by show _ = _; rw [wrap_in _ (by omega) (by omega)]; simpa using hd
  clear hd
  have HM : Hid (∀ w, TkAt w b s x → _) := fun w h => must_c b s x false w h
  have hmx : Hid (mustT false x = ⟨x.at_, true⟩) := by show _ = _; simp [mustT]
  have hh : Hid (TkAt w b s x) := h
  obtain ⟨c0, c1, c2, fz, lt, _, _⟩ := h
  rw [hf] at c2
  clear fz
  go_enter Tryz.func102, Tryz.ntmps102
  go_wp2_with fail
  go_region_held3 (fun w' => w'.cell? ⟨b, 0, none⟩ = some (.string s) ∧ w'.cell? ⟨b, 1, none⟩ = some (.int .i64 x.at_)) (first | exact ⟨c0, c1⟩ | exact ⟨hT1.c0, hT1.c1⟩)
    (first | (go_at_call 20; rw [hd'.out]; refine (HM.out _ ?_).mono ?_; (exact hh.out.below (below_drewN (Below.refl _ _) 1) lt); rintro e w1 ⟨rfl, hT1, hb1⟩; rw [hmx.out] at hT1; have B1 : Turn b w w1 := (Turn.of_below (below_drewN (Below.refl _ _) 1) lt).trans hb1))
  have d2 := hT1.c2
  go_wp2
  go_ret
  exact ⟨rfl, hT1, B1⟩

set_option maxHeartbeats 1000000 in
theorem text_ok (b : Nat) (s : ByteArray) (x : Tk) (n : Nat) (w : World) (hs : s.size ≤ 1125899906842624) (hn : n ≤ 281474976710656) (h : TkAt w b s x) (hf : x.f = false) (hd : (n : Int) ≤ s.size - x.at_) :
    Calls Tryz.prog 102 #[.pointer (some ⟨b, 0, none⟩), .int .i64 n] w fun e w' => e = .returned (.string (s.extract x.at_.toNat (x.at_.toNat + n))) ∧ TkAt w' b s ⟨x.at_ + n, false⟩ ∧ Turn b w w' := by
  have h0 : decide ((0 : Int) ≤ n) = true := by simp
  obtain ⟨r0, r1⟩ := h.rg hf
  have hd' : Hid (decide ((n : Int) ≤ IntKind.i64.wrap (s.size - x.at_)) = true) := by show _ = _; rw [wrap_in _ (by omega) (by omega)]; simpa using hd
  have HM : Hid (∀ w, _) := fun w => must_yes b w
  obtain ⟨a, ha⟩ : ∃ a : Nat, x.at_ = a := ⟨x.at_.toNat, by omega⟩
  obtain ⟨xa, xf⟩ := x
  simp only at ha hf r0 r1 hd hd'
  subst ha hf
  have hh : Hid (TkAt w b s ⟨a, false⟩) := h
  have HS : Hid (TkAt (w.setCell ⟨b, 1, none⟩ (.int .i64 ((a : Int) + n))) b s ⟨(a : Int) + n, false⟩) := h.set1 ((a : Int) + n) (fun _ => ⟨by omega, by omega⟩) ⟨by omega, by omega⟩
  have HC : Hid (∀ w, _) := fun w => clone_str (s.extract a (a + n)) w (by simp; omega)
  obtain ⟨c0, c1, c2, fz, lt, _, _⟩ := h
  have f1 := fz 1
  simp only at c1 c2
  clear fz
  simp only [Int.toNat_natCast]
  go_enter Tryz.func102, Tryz.ntmps102
  go_wp2_with fail
  go_region_held3 (fun w' => w'.cell? ⟨b, 0, none⟩ = some (.string s) ∧ w'.cell? ⟨b, 1, none⟩ = some (.int .i64 a)) (first | exact ⟨c0, c1⟩)
    (first | (go_at_call 20; rw [hd'.out]; refine (HM.out _).mono ?_; rintro e w1 ⟨rfl, rfl⟩))
  go_wp2_with fail
  have HS' : Hid (TkAt ((w.setCell ⟨b, 1, none⟩ (.int .i64 ((a : Int) + n))).drew) b s ⟨(a : Int) + n, false⟩) := HS.out.below (below_drewN (Below.refl (w.setCell ⟨b, 1, none⟩ (.int .i64 ((a : Int) + n))).heap.size _) 1) HS.out.lt
  have BS : Hid (Turn b w ((w.setCell ⟨b, 1, none⟩ (.int .i64 ((a : Int) + n))).drew)) := (Turn.set _ _ _).trans (Turn.of_below (below_drewN (Below.refl _ _) 1) HS.out.lt)
  generalize (w.setCell ⟨b, 1, none⟩ (.int .i64 ((a : Int) + n))).drew = w4 at *
  obtain ⟨g0, g1, g2, fz, lt4, _, _⟩ := HS'.out
  simp only at g1
  clear fz c0 c1 c2 f1 HS
  have hnat : Hid (((a : Int) + n).toNat = a + n) := by show _ = _; omega
  have hm1 : (a : Int) ≤ a + n := by omega
  have hm2 : (a : Int) + n ≤ s.size := by omega
  go_region_held3 (fun w' => w'.cell? ⟨b, 0, none⟩ = some (.string s) ∧ w'.cell? ⟨b, 1, none⟩ = some (.int .i64 ((a : Int) + n))) (first | exact ⟨g0, g1⟩ | exact ⟨hT5.c0, hT5.c1⟩)
    (first | (go_at_call 114; rw [hnat.out]; refine (HC.out _).mono ?_; rintro e w5 ⟨rfl, hb5⟩; have hT5 := HS'.out.below (bel_trans (below_drewN (Below.refl w4.heap.size _) 1) hb5) lt4; have B5 : Turn b w w5 := BS.out.trans (Turn.of_below (bel_trans (below_drewN (Below.refl w4.heap.size _) 1) hb5) lt4)))
  go_wp2
  go_ret
  exact ⟨rfl, hT5, B5⟩

theorem text_c (b : Nat) (s : ByteArray) (x : Tk) (n : Nat) (w : World) (hs : s.size ≤ 1125899906842624) (hn : n ≤ 281474976710656) (h : TkAt w b s x) :
    Calls Tryz.prog 102 #[.pointer (some ⟨b, 0, none⟩), .int .i64 n] w fun e w' => e = .returned (.string (textT s n x).1) ∧ TkAt w' b s (textT s n x).2 ∧ Turn b w w' := by
  cases hf : x.f with
  | true =>
    have e1 : textT s n x = (⟨#[]⟩, x) := by simp [textT, hf]
    rw [e1]
    exact text_failed b s x n w h hf
  | false =>
    by_cases h0 : (n : Int) ≤ s.size - x.at_
    · have e1 : textT s n x = (s.extract x.at_.toNat (x.at_.toNat + n), ⟨x.at_ + n, false⟩) := by simp [textT, hf, h0]
      rw [e1]
      exact text_ok b s x n w hs hn h hf h0
    · have e1 : textT s n x = (⟨#[]⟩, ⟨x.at_, true⟩) := by simp [textT, hf, h0]
      rw [e1]
      exact text_no b s x n w hs h hf h0

end Go.Proofs.YtdmooggmoihggaaGreatDoor

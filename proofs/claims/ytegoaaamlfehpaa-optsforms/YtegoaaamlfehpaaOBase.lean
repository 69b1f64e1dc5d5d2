/-
  Takers and givers of numbers and texts. (Laid by wip/tools/gen_obase.py.)
-/
import Derived.Test.YtegoaaamlfehpaaNum
import Derived.Test.YtegoaaamlfehpaaNamePlain
import Derived.Test.YtegoaaamlfehpaaWirePure
import Derived.Test.YtegoaaamlfehpaaBeFacts
import Derived.Test.YtegoaaamlfehpaaShelf2
import Derived.Deep.LoopGhost
import Derived.Deep.RegionWith
import Derived.Deep.RegionLaw
import Derived.Deep.RegionHeld3
import Derived.Deep.QuietTactic
import Derived.BigQuiet
import Derived.WalkSmall
import Derived.Lib.BufferWrite
import Derived.Lib.AppendStr
namespace Go.Proofs.Ytegoaaamlfehpaa
open Go.ChangeShapes Go.WideShapes Go.ChangeAt Go.RowKit Go.Pin Go.PlainAid
theorem ret_bool {a b : Bool} (h : a = b) : Ending.returned (Value.bool a) = .returned (.bool b) := by rw [h]
theorem mk_append (a b : List UInt8) : mk a ++ mk b = mk (a ++ b) := by
  apply bs_inj
  simp [bs, mk]
theorem eq_yes {a b : ByteArray} (h : a = b) : (a.toList == b.toList) = true := by rw [h]; simp
theorem eq_no {a b : ByteArray} (h : a ≠ b) : (a.toList == b.toList) = false := by
  rw [beq_eq_false_iff_ne]; intro e; apply h; rw [ByteArray.toList_eq, ByteArray.toList_eq] at e; exact bs_inj e
theorem way_cell {w : World} {b j k : Nat} {u v v0 : Value} (h : w.cell? ⟨b, k, none⟩ = some v) (h0 : w.cell? ⟨b, j, none⟩ = some v0) : (w.setCell ⟨b, j, none⟩ u).cell? ⟨b, k, none⟩ = some (if k = j then u else v) := by
  by_cases e : k = j
  · subst e; rw [if_pos rfl]; exact World.cell?_setCell_same _ _ _ h0
  · rw [if_neg e, World.cell?_setCell_other _ _ _ _ (by intro e'; injection e' with _ e'; exact e e'.symm)]; exact h
theorem new_at (w : World) (cs : Array Value) (t : TypeId) (j : Nat) (v : Value) (n : Nat) (hn : w.heap.size = n) (h : cs[j]? = some v) : (w.alloc (.cells cs t)).cell? ⟨n, j, none⟩ = some v := by
  subst hn; exact new_cell w cs t j v h
/-- How far a text is taken: where it goes on; has it failed. -/
structure Tk where
  at_ : Int
  f : Bool
/-- Block b is a taker of s that stands at x. -/
structure TkAt (w : World) (b : Nat) (s : ByteArray) (x : Tk) : Prop where
  c0 : w.cell? ⟨b, 0, none⟩ = some (.string s)
  c1 : w.cell? ⟨b, 1, none⟩ = some (.int .i64 x.at_)
  c2 : w.cell? ⟨b, 2, none⟩ = some (.bool x.f)
  fz : ∀ j, w.frozen? ⟨b, j, none⟩ = false
  lt : b < w.heap.size
  rg : x.f = false → 0 ≤ x.at_ ∧ x.at_ ≤ s.size
  wf : -9223372036854775808 ≤ x.at_ ∧ x.at_ ≤ 9223372036854775807
/-- From w to w' nothing turned but the first three cells of block b and what is new. -/
structure Turn (b : Nat) (w w' : World) : Prop where
  bel : Below b w w'
  oth : ∀ c, c ≠ b → c < w.heap.size → w'.heap[c]? = w.heap[c]?
  cel : ∀ j, 3 ≤ j → w'.cell? ⟨b, j, none⟩ = w.cell? ⟨b, j, none⟩
theorem Turn.refl (b : Nat) (w : World) : Turn b w w := ⟨Below.refl _ _, fun _ _ _ => rfl, fun _ _ => rfl⟩
theorem Turn.trans {b : Nat} {w w1 w2 : World} (h1 : Turn b w w1) (h2 : Turn b w1 w2) : Turn b w w2 :=
  ⟨h1.bel.trans h2.bel, fun c hc hl => (h2.oth c hc (Nat.lt_of_lt_of_le hl h1.bel.size)).trans (h1.oth c hc hl), fun j hj => (h2.cel j hj).trans (h1.cel j hj)⟩
theorem Turn.of_below {b : Nat} {w w' : World} (h : Below w.heap.size w w') (hb : b < w.heap.size) : Turn b w w' := ⟨h.mono (Nat.le_of_lt hb), fun _ _ hl => h.block _ hl, fun _ _ => h.cell hb⟩
theorem Turn.set {b : Nat} (w : World) (j : Nat) (u : Value) (hj : j < 3 := by decide) : Turn b w (w.setCell ⟨b, j, none⟩ u) :=
  ⟨(Below.refl b w).setCell (show b ≤ (⟨b, j, none⟩ : Addr).block from Nat.le_refl b) u, fun _ hc _ => Below.heap_setCell _ _ _ _ (fun e => hc e), fun k hk => World.cell?_setCell_other _ _ _ _ (by intro e; injection e with _ e; omega)⟩
theorem TkAt.below {w w' : World} {b : Nat} {s : ByteArray} {x : Tk} (h : TkAt w b s x) {n : Nat} (hb : Below n w w') (hn : b < n) : TkAt w' b s x := by
  have hc : ∀ j, w'.cell? ⟨b, j, none⟩ = w.cell? ⟨b, j, none⟩ := fun j => hb.cell hn
  exact ⟨(hc 0).trans h.c0, (hc 1).trans h.c1, (hc 2).trans h.c2, fun j => (hb.frozen hn).trans (h.fz j), Nat.lt_of_lt_of_le h.lt hb.size, h.rg, h.wf⟩
theorem TkAt.set1 {w : World} {b : Nat} {s : ByteArray} {x : Tk} (h : TkAt w b s x) (n : Int) (hr : x.f = false → 0 ≤ n ∧ n ≤ s.size) (hw : -9223372036854775808 ≤ n ∧ n ≤ 9223372036854775807) : TkAt (w.setCell ⟨b, 1, none⟩ (.int .i64 n)) b s { x with at_ := n } :=
  ⟨way_cell h.c0 h.c1, way_cell h.c1 h.c1, way_cell h.c2 h.c1, fun j => by rw [World.frozen?_setCell]; exact h.fz j, by simp; exact h.lt, hr, hw⟩
theorem TkAt.fail {w : World} {b : Nat} {s : ByteArray} {x : Tk} (h : TkAt w b s x) : TkAt (w.setCell ⟨b, 2, none⟩ (.bool true)) b s { x with f := true } :=
  ⟨way_cell h.c0 h.c2, way_cell h.c1 h.c2, way_cell h.c2 h.c2, fun j => by rw [World.frozen?_setCell]; exact h.fz j, by simp; exact h.lt, (fun h => by cases h), h.wf⟩
theorem from_c (s : ByteArray) (a : Int) (w : World) : Calls Try.prog 26 #[.string s, .int .i64 a] w fun e w' => e = .returned (.agg #[.string s, .int .i64 a, .bool (decide (a < 0) || decide ((s.size : Int) < a))]) ∧ Below w.heap.size w w' := by
  by_cases h0 : a < 0
  · have h1 : decide (a < 0) = true := by simpa using h0
    rw [h1, Bool.true_or]
    go_enter Try.func26, Try.ntmps26
    go_wp2
    refine bodyPost_ret (v := .agg #[.string s, .int .i64 a, .bool true]) (by simp [results, Try.results26, go_sem]) rfl ⟨rfl, (Below.refl _ _).alloc (Nat.le_refl _) _⟩
  · have h1 : decide (a < 0) = false := by simpa using h0
    rw [h1, Bool.false_or]
    go_enter Try.func26, Try.ntmps26
    go_wp2
    refine bodyPost_ret (v := .agg #[.string s, .int .i64 a, .bool (decide ((s.size : Int) < a))]) (by simp [results, Try.results26, go_sem]) rfl ⟨rfl, (Below.refl _ _).alloc (Nat.le_refl _) _⟩
theorem ok_c (b : Nat) (s : ByteArray) (x : Tk) (w : World) (h : TkAt w b s x) : Calls Try.prog 31 #[.pointer (some ⟨b, 0, none⟩)] w fun e w' => e = .returned (.bool (!x.f)) ∧ w' = w := by
  obtain ⟨c0, c1, c2, fz, lt, _, _⟩ := h
  go_enter Try.func31, Try.ntmps31
  go_wp2
  go_ret
  exact ⟨rfl, rfl⟩
theorem must_yes (b : Nat) (w : World) : Calls Try.prog 47 #[.pointer (some ⟨b, 0, none⟩), .bool true] w fun e w' => e = .returned (.tuple #[]) ∧ w' = w := by
  go_enter Try.func47, Try.ntmps47
  go_wp2
  go_end0
  exact ⟨rfl, rfl⟩
theorem must_no (b : Nat) (s : ByteArray) (x : Tk) (w : World) (h : TkAt w b s x) : Calls Try.prog 47 #[.pointer (some ⟨b, 0, none⟩), .bool false] w fun e w' => e = .returned (.tuple #[]) ∧ w' = w.setCell ⟨b, 2, none⟩ (.bool true) := by
  obtain ⟨c0, c1, c2, fz, lt, _, _⟩ := h
  have f2 := fz 2
  clear fz
  go_enter Try.func47, Try.ntmps47
  go_wp2
  go_end0
  exact ⟨rfl, rfl⟩
def mustT (so : Bool) (x : Tk) : Tk := { x with f := x.f || !so }
theorem must_c (b : Nat) (s : ByteArray) (x : Tk) (so : Bool) (w : World) (h : TkAt w b s x) : Calls Try.prog 47 #[.pointer (some ⟨b, 0, none⟩), .bool so] w fun e w' => e = .returned (.tuple #[]) ∧ TkAt w' b s (mustT so x) ∧ Turn b w w' := by
  cases so
  · refine (must_no b s x w h).mono fun e w' ⟨h1, h2⟩ => ⟨h1, ?_, ?_⟩
    · rw [h2]; simpa [mustT] using h.fail
    · rw [h2]; exact Turn.set _ _ _
  · refine (must_yes b w).mono fun e w' ⟨h1, h2⟩ => ⟨h1, ?_, ?_⟩
    · rw [h2]; simpa [mustT] using h
    · rw [h2]; exact Turn.refl _ _
/-- What be's Get tells. -/
def getB (s : ByteArray) (a : Int) (k : Nat) : Int × Int := if a < 0 then (0, 100) else if (s.size : Int) < a + k then (0, 101) else (num s a.toNat k, 0)
theorem get_b (s : ByteArray) (a : Int) (k : Nat) (w : World) (hk : k = 1 ∨ k = 2 ∨ k = 4) (hs : s.size ≤ maxLen) : Calls Try.prog 51 #[.string s, .int .i64 a, .int .i64 k] w fun e w' => e = .returned (.tuple #[.int .i64 (getB s a k).1, .int .i64 (getB s a k).2]) ∧ w' = w := by
  unfold getB
  by_cases h0 : a < 0
  · rw [if_pos h0]; exact get_no s a k w (.inr h0)
  · rw [if_neg h0]
    by_cases h1 : (s.size : Int) < a + k
    · rw [if_pos h1]; exact get_end s a k w (by omega) hs (by omega) h1
    · rw [if_neg h1]
      have := get_ok s a.toNat k w hk hs (by omega)
      rw [show ((a.toNat : Nat) : Int) = a by omega] at this
      exact this
theorem number1_c (s : ByteArray) (a : Int) (k : Nat) (p : Addr) (w : World) (hk : k = 1 ∨ k = 2 ∨ k = 4) (hs : s.size ≤ maxLen) (hc : w.cell? p = some (.int .i64 k)) (ha : a ≤ 1125899906842624) (ha' : 0 ≤ a) :
    Calls Try.prog 50 #[.string s, .int .i64 a, .pointer (some p)] w fun e w' => e = .returned (.tuple #[.int .i64 (getB s a k).1, .int .i64 (a + k), .int .i64 (getB s a k).2]) ∧ Below w.heap.size w w' := by
  have HG : Hid (∀ w, _) := fun w => get_b s a k w hk hs
  generalize (getB s a k).1 = x at *
  generalize (getB s a k).2 = y at *
  have h8 : (k : Int) ≤ 8 := by omega
  clear hk
  go_enter Try.func50, Try.ntmps50
  go_wp2_with fail
  refine (HG.out _).mono ?_; rintro e w1 ⟨rfl, rfl⟩
  go_wp2_with fail
  go_quiet (fail)
  go_wp2
  go_ret3
  exact ⟨rfl, below_drewN (Below.refl _ _) _⟩
/-- A number of k bytes. -/
def numT (s : ByteArray) (k : Nat) (x : Tk) : Int × Tk := if x.f then (0, x) else if (getB s x.at_ k).2 = 0 then ((getB s x.at_ k).1, ⟨x.at_ + k, false⟩) else (0, ⟨x.at_, true⟩)
theorem byInt_failed (b : Nat) (s : ByteArray) (x : Tk) (g : Value) (w : World) (h : TkAt w b s x) (hf : x.f = true) :
    Calls Try.prog 49 #[.pointer (some ⟨b, 0, none⟩), g] w fun e w' => e = .returned (.int .i64 0) ∧ w' = w := by
  obtain ⟨c0, c1, c2, fz, lt, _, _⟩ := h
  rw [hf] at c2
  go_enter Try.func49, Try.ntmps49
  go_wp2
  go_ret
  exact ⟨rfl, rfl⟩
set_option maxHeartbeats 1000000 in
theorem byInt_ok (b : Nat) (s : ByteArray) (x : Tk) (k : Nat) (p : Addr) (w : World) (hk : k = 1 ∨ k = 2 ∨ k = 4) (hs : s.size ≤ 1125899906842624) (h : TkAt w b s x) (hf : x.f = false) (hp : w.cell? p = some (.int .i64 k)) (h0 : (getB s x.at_ k).2 = 0) :
    Calls Try.prog 49 #[.pointer (some ⟨b, 0, none⟩), .func (.func 50) #[] #[.pointer (some p)]] w fun e w' => e = .returned (.int .i64 (getB s x.at_ k).1) ∧ TkAt w' b s ⟨x.at_ + k, false⟩ ∧ Turn b w w' := by
  have hr := h.rg hf
  have hsz : (s.size : Int) ≤ 1125899906842624 := by omega
  have HG : Hid (∀ w : World, w.cell? p = some (Value.int .i64 k) → _) := fun w hp => number1_c s x.at_ k p w hk (by simp only [maxLen]; omega) hp (by omega) hr.1
  rw [h0] at HG
  have hle : x.at_ + k ≤ s.size := by
    unfold getB at h0
    rw [if_neg (by omega)] at h0
    by_cases hh : (s.size : Int) < x.at_ + k
    · rw [if_pos hh] at h0; simp at h0
    · omega
  have hh : Hid (TkAt w b s x) := h
  have hx : Hid (0 ≤ x.at_ ∧ x.at_ + k ≤ s.size ∧ (s.size : Int) ≤ 1125899906842624) := ⟨hr.1, hle, hsz⟩
  generalize (getB s x.at_ k).1 = y at *
  obtain ⟨c0, c1, c2, fz, lt, _, _⟩ := h
  rw [hf] at c2
  clear hr hle h0 fz hs hk
  go_enter Try.func49, Try.ntmps49
  go_wp2_with fail
  go_region_with (refine (HG.out _ (by simpa using hp)).mono ?_; rintro e w1 ⟨rfl, hb1⟩; have hb1' : Below _ w w1 := bel_trans (below_drewN (Below.refl _ _) 1) hb1)
  all_goals
    have hT := hh.out.below hb1' lt
    have B1 : Hid (Turn b w w1) := Turn.of_below hb1' lt
    have hh1 : Hid (TkAt w1 b s x) := hT
    obtain ⟨d0, d1, d2, fz, lt1, _, _⟩ := hT
    rw [hf] at d2
    have f1 := fz 1
    clear c0 c1 c2 hb1 hb1' fz hp hh HG lt
    go_wp2_with fail
    refine (must_yes b _).mono ?_; rintro e w2 ⟨rfl, rfl⟩
    go_wp2
    go_ret
    obtain ⟨x0, x1, x2⟩ := hx.out
    refine ⟨rfl, ?_, B1.out.trans (Turn.set _ _ _)⟩
    have := hh1.out.set1 (x.at_ + k) (fun _ => ⟨by omega, x1⟩) ⟨by omega, by omega⟩
    rw [show ({ x with at_ := x.at_ + k } : Tk) = ⟨x.at_ + k, false⟩ by rw [← hf]] at this
    exact this
set_option maxHeartbeats 1000000 in
theorem byInt_no (b : Nat) (s : ByteArray) (x : Tk) (k : Nat) (p : Addr) (w : World) (hk : k = 1 ∨ k = 2 ∨ k = 4) (hs : s.size ≤ 1125899906842624) (h : TkAt w b s x) (hf : x.f = false) (hp : w.cell? p = some (.int .i64 k)) (h0 : (getB s x.at_ k).2 ≠ 0) :
    Calls Try.prog 49 #[.pointer (some ⟨b, 0, none⟩), .func (.func 50) #[] #[.pointer (some p)]] w fun e w' => e = .returned (.int .i64 0) ∧ TkAt w' b s ⟨x.at_, true⟩ ∧ Turn b w w' := by
  have hr := h.rg hf
  have hsz : (s.size : Int) ≤ 1125899906842624 := by omega
  have HG : Hid (∀ w : World, w.cell? p = some (Value.int .i64 k) → _) := fun w hp => number1_c s x.at_ k p w hk (by simp only [maxLen]; omega) hp (by omega) hr.1
  have hh : Hid (TkAt w b s x) := h
  generalize (getB s x.at_ k).1 = y at *
  generalize (getB s x.at_ k).2 = z at *
  have hz : (z == 0) = false := by simpa using h0
  obtain ⟨c0, c1, c2, fz, lt, _, _⟩ := h
  rw [hf] at c2
  clear hr fz hs hk
  go_enter Try.func49, Try.ntmps49
  go_wp2_with fail
  go_region_with (refine (HG.out _ (by simpa using hp)).mono ?_; rintro e w1 ⟨rfl, hb1⟩; have hb1' : Below _ w w1 := bel_trans (below_drewN (Below.refl _ _) 1) hb1)
  all_goals
    have hT := hh.out.below hb1' lt
    have B1 : Hid (Turn b w w1) := Turn.of_below hb1' lt
    have hh1 : Hid (TkAt w1 b s x) := hT
    clear c0 c1 c2 hb1 hb1' hp hh HG lt
    go_wp2_with fail
    refine (must_no b s x _ hT).mono ?_; rintro e w2 ⟨rfl, rfl⟩
    have hT2 := hT.fail
    have hh2 : Hid (_) := hT2
    obtain ⟨d0, d1, d2, fz, lt1, _, _⟩ := hT2
    simp only at d2
    clear fz hT
    go_wp2
    go_ret
    exact ⟨rfl, hh2.out, B1.out.trans (Turn.set _ _ _)⟩
theorem number_c (b : Nat) (s : ByteArray) (x : Tk) (k : Nat) (w : World) (hk : k = 1 ∨ k = 2 ∨ k = 4) (hs : s.size ≤ 1125899906842624) (h : TkAt w b s x) :
    Calls Try.prog 30 #[.pointer (some ⟨b, 0, none⟩), .int .i64 k] w fun e w' => e = .returned (.int .i64 (numT s k x).1) ∧ TkAt w' b s (numT s k x).2 ∧ Turn b w w' := by
  have hmf : ∀ (fn : Fn) (first cap : Array Value) (w : World), (Instr.makeFunc fn first cap).run Try.prog w = .ok (.func fn first cap) w := fun _ _ _ _ => rfl
  have HC : Hid (Calls Try.prog 49 #[.pointer (some ⟨b, 0, none⟩), .func (.func 50) #[] #[.pointer (some ⟨w.heap.size, 0, none⟩)]] (w.alloc (.cells #[.int .i64 k] 3)) fun e w' => e = .returned (.int .i64 (numT s k x).1) ∧ TkAt w' b s (numT s k x).2 ∧ Turn b w w') := by
    have hb : Below w.heap.size w (w.alloc (.cells #[.int .i64 k] 3)) := (Below.refl _ _).alloc (Nat.le_refl _) _
    have hT := h.below hb h.lt
    have T0 : Turn b w (w.alloc (.cells #[.int .i64 k] 3)) := Turn.of_below hb h.lt
    have hp : (w.alloc (.cells #[.int .i64 k] 3)).cell? ⟨w.heap.size, 0, none⟩ = some (.int .i64 k) := new_cell _ _ _ _ _ rfl
    cases hf : x.f with
    | true =>
      have e1 : numT s k x = (0, x) := by simp [numT, hf]
      rw [e1]
      exact (byInt_failed b s x _ _ hT hf).mono fun e w' ⟨h1, h2⟩ => ⟨h1, by rw [h2]; exact hT, by rw [h2]; exact T0⟩
    | false =>
      by_cases h0 : (getB s x.at_ k).2 = 0
      · have e1 : numT s k x = ((getB s x.at_ k).1, ⟨x.at_ + k, false⟩) := by simp [numT, hf, h0]
        rw [e1]
        exact (byInt_ok b s x k _ _ hk hs hT hf hp h0).mono fun e w' ⟨h1, h2, h3⟩ => ⟨h1, h2, T0.trans h3⟩
      · have e1 : numT s k x = (0, ⟨x.at_, true⟩) := by simp [numT, hf, h0]
        rw [e1]
        exact (byInt_no b s x k _ _ hk hs hT hf hp h0).mono fun e w' ⟨h1, h2, h3⟩ => ⟨h1, h2, T0.trans h3⟩
  generalize (numT s k x).1 = y at *
  generalize (numT s k x).2 = z at *
  clear hk hs h
  go_enter Try.func30, Try.ntmps30
  go_wp2_with fail
  refine HC.out.mono ?_; rintro e w1 ⟨rfl, hT, hb⟩
  go_wp2
  go_ret
  exact ⟨rfl, hT, hb⟩
theorem setCell_size (w : World) (p : Addr) (u : Value) : (w.setCell p u).heap.size = w.heap.size := by simp
theorem drew_tk {w : World} {b : Nat} {s : ByteArray} {x : Tk} (h : TkAt w b s x) : TkAt w.drew b s x := h.below (below_drewN (Below.refl w.heap.size _) 1) h.lt
theorem dn_turn {b : Nat} {w w' : World} (h : Turn b (w.drewN 1) w') : Turn b w w' := ⟨⟨h.bel.os, h.bel.tape, h.bel.output, h.bel.size, h.bel.block⟩, h.oth, h.cel⟩
theorem wrap_in (v : Int) (h0 : -9223372036854775808 ≤ v) (h1 : v ≤ 9223372036854775807) : IntKind.i64.wrap v = v := IntWalk.i64_in v ⟨h0, h1⟩
theorem clone_str (s : ByteArray) (w : World) (hs : s.size ≤ 281474976710656) : Calls Try.prog 48 #[.string s] w fun e w' => e = .returned (.string s) ∧ Below w.heap.size w w' := by
  have H : Hid (∀ w, _) := fun w => Try.stringslite_Clone s w (by omega)
  go_enter Try.func48, Try.ntmps48
  go_wp2_with fail
  refine (H.out _).mono ?_; rintro e w1 ⟨rfl, hb⟩
  go_wp2
  go_ret
  exact ⟨rfl, hb⟩
/-- n bytes. -/
def textT (s : ByteArray) (n : Nat) (x : Tk) : ByteArray × Tk := if x.f then (⟨#[]⟩, x) else if (n : Int) ≤ s.size - x.at_ then (s.extract x.at_.toNat (x.at_.toNat + n), ⟨x.at_ + n, false⟩) else (⟨#[]⟩, ⟨x.at_, true⟩)
set_option maxHeartbeats 1000000 in
theorem text_failed (b : Nat) (s : ByteArray) (x : Tk) (n : Nat) (w : World) (h : TkAt w b s x) (hf : x.f = true) :
    Calls Try.prog 29 #[.pointer (some ⟨b, 0, none⟩), .int .i64 n] w fun e w' => e = .returned (.string ⟨#[]⟩) ∧ TkAt w' b s x ∧ Turn b w w' := by
  have h0 : decide ((0 : Int) ≤ n) = true := by simp
  have HM : Hid (∀ so w, TkAt w b s x → _) := fun so w h => must_c b s x so w h
  have hmx : Hid (∀ so, mustT so x = x) := fun so => by cases x; simp only at hf; subst hf; simp [mustT]
  have hh : Hid (TkAt w b s x) := h
  obtain ⟨c0, c1, c2, fz, lt, _, _⟩ := h
  rw [hf] at c2
  clear fz
  go_enter Try.func29, Try.ntmps29
  go_wp2_with fail
  go_region_held3 (fun w' => w'.cell? ⟨b, 0, none⟩ = some (.string s) ∧ w'.cell? ⟨b, 1, none⟩ = some (.int .i64 x.at_)) (first | exact ⟨c0, c1⟩ | exact ⟨hT1.c0, hT1.c1⟩)
    (first | (go_at_call 47; refine (HM.out _ _ ?_).mono ?_; (exact hh.out.below (below_drewN (Below.refl _ _) 1) lt); rintro e w1 ⟨rfl, hT1, hb1⟩; rw [hmx.out] at hT1; have B1 : Turn b w w1 := (Turn.of_below (below_drewN (Below.refl _ _) 1) lt).trans hb1))
  have d2 := hT1.c2
  rw [hf] at d2
  go_wp2
  go_ret
  exact ⟨rfl, hT1, B1⟩
set_option maxHeartbeats 1000000 in
theorem text_no (b : Nat) (s : ByteArray) (x : Tk) (n : Nat) (w : World) (hs : s.size ≤ 1125899906842624) (h : TkAt w b s x) (hf : x.f = false) (hd : ¬ (n : Int) ≤ s.size - x.at_) :
    Calls Try.prog 29 #[.pointer (some ⟨b, 0, none⟩), .int .i64 n] w fun e w' => e = .returned (.string ⟨#[]⟩) ∧ TkAt w' b s ⟨x.at_, true⟩ ∧ Turn b w w' := by
  have h0 : decide ((0 : Int) ≤ n) = true := by simp
  obtain ⟨r0, r1⟩ := h.rg hf
  have hd' : Hid (decide ((n : Int) ≤ IntKind.i64.wrap (s.size - x.at_)) = false) := by show _ = _; rw [wrap_in _ (by omega) (by omega)]; simpa using hd
  clear hd
  have HM : Hid (∀ w, TkAt w b s x → _) := fun w h => must_c b s x false w h
  have hmx : Hid (mustT false x = ⟨x.at_, true⟩) := by show _ = _; simp [mustT]
  have hh : Hid (TkAt w b s x) := h
  obtain ⟨c0, c1, c2, fz, lt, _, _⟩ := h
  rw [hf] at c2
  clear fz
  go_enter Try.func29, Try.ntmps29
  go_wp2_with fail
  go_region_held3 (fun w' => w'.cell? ⟨b, 0, none⟩ = some (.string s) ∧ w'.cell? ⟨b, 1, none⟩ = some (.int .i64 x.at_)) (first | exact ⟨c0, c1⟩ | exact ⟨hT1.c0, hT1.c1⟩)
    (first | (go_at_call 47; rw [hd'.out]; refine (HM.out _ ?_).mono ?_; (exact hh.out.below (below_drewN (Below.refl _ _) 1) lt); rintro e w1 ⟨rfl, hT1, hb1⟩; rw [hmx.out] at hT1; have B1 : Turn b w w1 := (Turn.of_below (below_drewN (Below.refl _ _) 1) lt).trans hb1))
  have d2 := hT1.c2
  go_wp2
  go_ret
  exact ⟨rfl, hT1, B1⟩
set_option maxHeartbeats 1000000 in
theorem text_ok (b : Nat) (s : ByteArray) (x : Tk) (n : Nat) (w : World) (hs : s.size ≤ 1125899906842624) (hn : n ≤ 281474976710656) (h : TkAt w b s x) (hf : x.f = false) (hd : (n : Int) ≤ s.size - x.at_) :
    Calls Try.prog 29 #[.pointer (some ⟨b, 0, none⟩), .int .i64 n] w fun e w' => e = .returned (.string (s.extract x.at_.toNat (x.at_.toNat + n))) ∧ TkAt w' b s ⟨x.at_ + n, false⟩ ∧ Turn b w w' := by
  have h0 : decide ((0 : Int) ≤ n) = true := by simp
  obtain ⟨r0, r1⟩ := h.rg hf
  have hd' : Hid (decide ((n : Int) ≤ IntKind.i64.wrap (s.size - x.at_)) = true) := by show _ = _; rw [wrap_in _ (by omega) (by omega)]; simpa using hd
  have HM : Hid (∀ w, _) := fun w => must_yes b w
  obtain ⟨a, ha⟩ : ∃ a : Nat, x.at_ = a := ⟨x.at_.toNat, by omega⟩
  obtain ⟨xa, xf⟩ := x
  simp only at ha hf r0 r1 hd hd'
  subst ha hf
  have hh : Hid (TkAt w b s ⟨a, false⟩) := h
  have HS : Hid (TkAt (w.setCell ⟨b, 1, none⟩ (.int .i64 ((a : Int) + n))) b s ⟨(a : Int) + n, false⟩) := h.set1 ((a : Int) + n) (fun _ => ⟨by omega, by omega⟩) ⟨by omega, by omega⟩
  have HC : Hid (∀ w, _) := fun w => clone_str (s.extract a (a + n)) w (by simp; omega)
  obtain ⟨c0, c1, c2, fz, lt, _, _⟩ := h
  have f1 := fz 1
  simp only at c1 c2
  clear fz
  simp only [Int.toNat_natCast]
  go_enter Try.func29, Try.ntmps29
  go_wp2_with fail
  go_region_held3 (fun w' => w'.cell? ⟨b, 0, none⟩ = some (.string s) ∧ w'.cell? ⟨b, 1, none⟩ = some (.int .i64 a)) (first | exact ⟨c0, c1⟩)
    (first | (go_at_call 47; rw [hd'.out]; refine (HM.out _).mono ?_; rintro e w1 ⟨rfl, rfl⟩))
  go_wp2_with fail
  have HS' : Hid (TkAt ((w.setCell ⟨b, 1, none⟩ (.int .i64 ((a : Int) + n))).drew) b s ⟨(a : Int) + n, false⟩) := HS.out.below (below_drewN (Below.refl (w.setCell ⟨b, 1, none⟩ (.int .i64 ((a : Int) + n))).heap.size _) 1) HS.out.lt
  have BS : Hid (Turn b w ((w.setCell ⟨b, 1, none⟩ (.int .i64 ((a : Int) + n))).drew)) := (Turn.set _ _ _).trans (Turn.of_below (below_drewN (Below.refl _ _) 1) HS.out.lt)
  generalize (w.setCell ⟨b, 1, none⟩ (.int .i64 ((a : Int) + n))).drew = w4 at *
  obtain ⟨g0, g1, g2, fz, lt4, _, _⟩ := HS'.out
  simp only at g1
  clear fz c0 c1 c2 f1 HS
  have hnat : Hid (((a : Int) + n).toNat = a + n) := by show _ = _; omega
  have hm1 : (a : Int) ≤ a + n := by omega
  have hm2 : (a : Int) + n ≤ s.size := by omega
  go_region_held3 (fun w' => w'.cell? ⟨b, 0, none⟩ = some (.string s) ∧ w'.cell? ⟨b, 1, none⟩ = some (.int .i64 ((a : Int) + n))) (first | exact ⟨g0, g1⟩ | exact ⟨hT5.c0, hT5.c1⟩)
    (first | (go_at_call 48; rw [hnat.out]; refine (HC.out _).mono ?_; rintro e w5 ⟨rfl, hb5⟩; have hT5 := HS'.out.below (bel_trans (below_drewN (Below.refl w4.heap.size _) 1) hb5) lt4; have B5 : Turn b w w5 := BS.out.trans (Turn.of_below (bel_trans (below_drewN (Below.refl w4.heap.size _) 1) hb5) lt4)))
  go_wp2
  go_ret
  exact ⟨rfl, hT5, B5⟩
theorem text_c (b : Nat) (s : ByteArray) (x : Tk) (n : Nat) (w : World) (hs : s.size ≤ 1125899906842624) (hn : n ≤ 281474976710656) (h : TkAt w b s x) :
    Calls Try.prog 29 #[.pointer (some ⟨b, 0, none⟩), .int .i64 n] w fun e w' => e = .returned (.string (textT s n x).1) ∧ TkAt w' b s (textT s n x).2 ∧ Turn b w w' := by
  cases hf : x.f with
  | true =>
    have e1 : textT s n x = (⟨#[]⟩, x) := by simp [textT, hf]
    rw [e1]
    exact text_failed b s x n w h hf
  | false =>
    by_cases h0 : (n : Int) ≤ s.size - x.at_
    · have e1 : textT s n x = (s.extract x.at_.toNat (x.at_.toNat + n), ⟨x.at_ + n, false⟩) := by simp [textT, hf, h0]
      rw [e1]
      exact text_ok b s x n w hs hn h hf h0
    · have e1 : textT s n x = (⟨#[]⟩, ⟨x.at_, true⟩) := by simp [textT, hf, h0]
      rw [e1]
      exact text_no b s x n w hs h hf h0
/-- The j-th of them. -/
def knAt (ks : List Kn) (j : Nat) : Kn := ks.getD j ([], 0)
/-- The two cells of one of them. -/
def KnCell (w : World) (y : Addr) (k : Kn) : Prop := w.cell? y = some (.string (mk k.1)) ∧ w.cell? ⟨y.block, y.off + 1, none⟩ = some (.int .i64 k.2)
/-- The known names ks lie from x on. -/
def KnFrom (w : World) (x : Addr) (ks : List Kn) : Prop := ∀ j, j < ks.length → KnCell w (x.add (j * 2)) (knAt ks j)
/-- The known names ks lie behind the address a. -/
def KnLies (w : World) (a : Option Addr) (ks : List Kn) : Prop := ks = [] ∨ ∃ x, a = some x ∧ KnFrom w x ks
theorem KnCell.below {w w' : World} {y : Addr} {k : Kn} (h : KnCell w y k) (hb : Below w.heap.size w w') : KnCell w' y k := by
  obtain ⟨h0, h1⟩ := h
  exact ⟨(hb.cell (World.block_lt_of_cell? w _ h0)).trans h0, (hb.cell (World.block_lt_of_cell? w _ h1)).trans h1⟩
theorem KnFrom.below {w w' : World} {x : Addr} {ks : List Kn} (h : KnFrom w x ks) (hb : Below w.heap.size w w') : KnFrom w' x ks := fun j hj => (h j hj).below hb
theorem KnLies.below {w w' : World} {a : Option Addr} {ks : List Kn} (h : KnLies w a ks) (hb : Below w.heap.size w w') : KnLies w' a ks := by
  rcases h with h | ⟨x, rfl, h⟩
  · exact .inl h
  · exact .inr ⟨x, rfl, h.below hb⟩
def knCells (ks : List Kn) : List Value := ks.flatMap fun k => [.string (mk k.1), .int .i64 k.2]
theorem knCells_len (ks : List Kn) : (knCells ks).length = ks.length * 2 := by
  induction ks with
  | nil => rfl
  | cons k r ih =>
    have hc : knCells (k :: r) = .string (mk k.1) :: .int .i64 k.2 :: knCells r := rfl
    rw [hc, List.length_cons, List.length_cons, List.length_cons, ih]; omega
theorem knCells_append (a b : List Kn) : knCells (a ++ b) = knCells a ++ knCells b := by simp [knCells]
theorem knCells_at (ks : List Kn) : ∀ j, j < ks.length → (knCells ks)[j * 2]? = some (.string (mk (knAt ks j).1)) ∧ (knCells ks)[j * 2 + 1]? = some (.int .i64 (knAt ks j).2) := by
  induction ks with
  | nil => intro j hj; simp at hj
  | cons k r ih =>
    intro j hj
    have hc : knCells (k :: r) = .string (mk k.1) :: .int .i64 k.2 :: knCells r := rfl
    cases j with
    | zero => exact ⟨rfl, rfl⟩
    | succ j =>
      obtain ⟨h1, h2⟩ := ih j (by simp at hj; omega)
      rw [hc, show (j + 1) * 2 = j * 2 + 1 + 1 by omega, show j * 2 + 1 + 1 + 1 = (j * 2 + 1) + 1 + 1 by omega]
      exact ⟨h1, h2⟩
theorem knCells_one (ks : List Kn) : ∀ u ∈ knCells ks, u.oneCell' = true := by
  intro u hu
  simp only [knCells, List.mem_flatMap] at hu
  obtain ⟨k, _, hu⟩ := hu
  simp at hu
  rcases hu with rfl | rfl <;> rfl
/-- A list of known names that the call itself made. -/
def Knowns (w : World) (base : Nat) (v : Value) (ks : List Kn) : Prop := w.ownsRow base 155 2 v ks.length (knCells ks)
theorem cells_of_from {w : World} {x : Addr} {ks : List Kn} (h : KnFrom w x ks) : ∀ j u, (knCells ks)[j]? = some u → w.cell? (x.add j) = some u := by
  intro j u hj
  have hjl : j < (knCells ks).length := (List.getElem?_eq_some_iff.1 hj).1
  rw [knCells_len] at hjl
  obtain ⟨h1, h2⟩ := knCells_at ks (j / 2) (by omega)
  obtain ⟨g1, g2⟩ := h (j / 2) (by omega)
  rcases Nat.mod_two_eq_zero_or_one j with hm | hm
  · rw [show j = j / 2 * 2 by omega] at hj ⊢
    rw [h1] at hj
    rw [g1, hj]
  · rw [show j = j / 2 * 2 + 1 by omega] at hj ⊢
    rw [h2] at hj
    rw [← hj, ← g2]
    congr 1
    unfold Addr.add
    rw [if_neg (by omega)]
    by_cases hz : j / 2 * 2 = 0
    · rw [if_pos hz, hz]
    · rw [if_neg hz]; simp only [Addr.mk.injEq, and_true, true_and]; omega
theorem Knowns.lies {w : World} {base : Nat} {v : Value} {ks : List Kn} (h : Knowns w base v ks) : ∃ a cap, v = .slice a ks.length cap ∧ KnLies w a ks := by
  have hh := h
  obtain ⟨_, h | ⟨g, cap, cur, hv, hg, hb, hn, hm, hz, ht⟩⟩ := h
  · exact ⟨none, 0, by rw [h.1, h.2], .inl (List.eq_nil_of_length_eq_zero h.2)⟩
  · refine ⟨_, cap, hv, .inr ⟨_, rfl, fun j hj => ?_⟩⟩
    subst hv
    have key : ∀ i, i < ks.length * 2 → w.cell? ⟨g, i, none⟩ = (knCells ks)[i]? := by
      intro i hi
      simp only [World.cell?, hb]
      rw [← ht, List.getElem?_take, if_pos hi]
      simp
    obtain ⟨h1, h2⟩ := knCells_at ks j hj
    refine ⟨?_, ?_⟩
    · rw [addr_add, Nat.zero_add, key _ (by omega), h1]
    · rw [addr_add]
      simp only [Nat.zero_add]
      rw [key _ (by omega), h2]
theorem Knowns.below {w w' : World} {base : Nat} {v : Value} {ks : List Kn} (h : Knowns w base v ks) (hb : Below w.heap.size w w') : Knowns w' base v ks := by
  obtain ⟨h1, h2⟩ := h
  refine ⟨h1, ?_⟩
  rcases h2 with h2 | ⟨g, cap, cur, hv, hg, hh, r⟩
  · exact .inl h2
  · exact .inr ⟨g, cap, cur, hv, hg, (hb.block g (Array.getElem?_eq_some_iff.1 hh).1).trans hh, r⟩
theorem Knowns.base {w : World} {b b' : Nat} {v : Value} {ks : List Kn} (h : Knowns w b v ks) (hb : b' ≤ b) : Knowns w b' v ks := by
  obtain ⟨h1, h2⟩ := h
  refine ⟨h1, ?_⟩
  rcases h2 with h2 | ⟨g, cap, cur, hv, hg, r⟩
  · exact .inl h2
  · exact .inr ⟨g, cap, cur, hv, Nat.le_trans hb hg, r⟩
theorem Try.infoKn : (Try.prog.info? 155).map (fun i => (i.zero, i.size, i.bytes)) = some (some (.agg #[.string ByteArray.empty, .int .i64 0]), 2, 24) := by kernel_rfl
/-- v is a slice of the bytes P that the call made, behind 'base'. -/
def Bytes (w : World) (base : Nat) (v : Value) (P : List UInt8) : Prop := w.ownsRow base 5 1 v P.length (Lib.strCells (mk P))
theorem Bytes.nil (w : World) (base : Nat) : Bytes w base (.slice none 0 0) [] := World.ownsRow_nil _ _ _ _
theorem Bytes.keep {w w' : World} {base : Nat} {v : Value} {P : List UInt8} (h : Bytes w base v P) (hb : ∀ g, v.ownBlock = some g → w'.heap[g]? = w.heap[g]?) : Bytes w' base v P := by
  obtain ⟨h1, h2⟩ := h
  refine ⟨h1, ?_⟩
  rcases h2 with h2 | ⟨g, cap, cur, hv, hg, hh, r⟩
  · exact .inl h2
  · exact .inr ⟨g, cap, cur, hv, hg, (hb g (by rw [hv]; rfl)).trans hh, r⟩
theorem Bytes.form {w : World} {base : Nat} {v : Value} {P : List UInt8} (h : Bytes w base v P) : ∃ a cap, v = .slice a P.length cap := by
  obtain ⟨_, h | ⟨g, cap, cur, hv, _⟩⟩ := h
  · exact ⟨none, 0, by rw [h.1, h.2]⟩
  · exact ⟨_, cap, hv⟩
/-- Is block c a row of bytes? -/
def isBytes (w : World) (c : Nat) : Prop := ∃ cur f, w.heap[c]? = some (.cells cur 5 f)
theorem Bytes.is {w : World} {base : Nat} {v : Value} {P : List UInt8} (h : Bytes w base v P) {g : Nat} (hg : v.ownBlock = some g) : isBytes w g ∧ base ≤ g := by
  obtain ⟨_, h | ⟨g', cap, cur, hv, hb, hh, _⟩⟩ := h
  · rw [h.1] at hg; cases hg
  · rw [hv] at hg
    simp only [Value.ownBlock, Option.some.injEq] at hg
    subst hg
    exact ⟨⟨cur, _, hh⟩, hb⟩
/-- From w to w' nothing turned but the cells of block b, rows of bytes behind it, and what is new. -/
structure Ink (b : Nat) (w w' : World) : Prop where
  bel : Below b w w'
  oth : ∀ c, c < w.heap.size → c ≠ b → ¬ isBytes w c → w'.heap[c]? = w.heap[c]?
theorem Ink.refl (b : Nat) (w : World) : Ink b w w := ⟨Below.refl _ _, fun _ _ _ _ => rfl⟩
theorem Ink.trans {b : Nat} {w w1 w2 : World} (h1 : Ink b w w1) (h2 : Ink b w1 w2) : Ink b w w2 :=
  ⟨h1.bel.trans h2.bel, fun c hl hb hn => by
    have e := h1.oth c hl hb hn
    exact (h2.oth c (Nat.lt_of_lt_of_le hl h1.bel.size) hb (fun ⟨cur, f, hf⟩ => hn ⟨cur, f, e ▸ hf⟩)).trans e⟩
theorem Ink.of_below {b : Nat} {w w' : World} (h : Below w.heap.size w w') (hb : b < w.heap.size) : Ink b w w' := ⟨h.mono (Nat.le_of_lt hb), fun c hl _ _ => h.block c hl⟩
theorem Ink.set {b : Nat} (w : World) (j : Nat) (u : Value) : Ink b w (w.setCell ⟨b, j, none⟩ u) :=
  ⟨(Below.refl b w).setCell (show b ≤ (⟨b, j, none⟩ : Addr).block from Nat.le_refl b) u, fun _ _ hc _ => Below.heap_setCell _ _ _ _ hc⟩
theorem Ink.grown {b : Nat} {w w' : World} {v : Value} {P : List UInt8} (h : Bytes w (b + 1) v P) (hg : w.grownBy w' v.ownBlock) (hb : b < w.heap.size) : Ink b w w' :=
  ⟨⟨hg.os, hg.tape, hg.output, hg.size, fun k hk => hg.block k (by omega) (fun e => by have := (h.is e.symm).2; omega)⟩,
   fun c hl _ hn => hg.block c hl (fun e => hn (h.is e.symm).1)⟩
theorem KnLies.keep {w w' : World} {a : Option Addr} {ks : List Kn} (h : KnLies w a ks) (hb : ∀ x, a = some x → ks ≠ [] → w'.heap[x.block]? = w.heap[x.block]?) : KnLies w' a ks := by
  rcases h with h | ⟨x, rfl, h⟩
  · exact .inl h
  · refine .inr ⟨x, rfl, fun j hj => ?_⟩
    have hx := hb x rfl (by intro e; rw [e] at hj; simp at hj)
    obtain ⟨h1, h2⟩ := h j hj
    have hbk : (x.add (j * 2)).block = x.block := by unfold Addr.add; split <;> rfl
    refine ⟨(World.cell?_of_block ?_).trans h1, (World.cell?_of_block ?_).trans h2⟩
    · rw [hbk]; exact hx
    · simp only; rw [hbk]; exact hx
theorem KnLies.lt {w : World} {x : Addr} {ks : List Kn} (h : KnLies w (some x) ks) (hk : ks ≠ []) : x.block < w.heap.size := by
  rcases h with h | ⟨y, e, h⟩
  · exact absurd h hk
  · cases e
    have := (h 0 (List.length_pos_iff.2 hk)).1
    have hbk : (x.add (0 * 2)).block = x.block := by unfold Addr.add; split <;> rfl
    have hlt := World.block_lt_of_cell? w _ this
    rw [hbk] at hlt
    exact hlt
theorem Knowns.not {w : World} {base : Nat} {v : Value} {ks : List Kn} (h : Knowns w base v ks) {g : Nat} (hg : v.ownBlock = some g) : ¬ isBytes w g ∧ base ≤ g ∧ g < w.heap.size := by
  obtain ⟨_, h | ⟨g', cap, cur, hv, hb, hh, _⟩⟩ := h
  · rw [h.1] at hg; cases hg
  · rw [hv] at hg
    simp only [Value.ownBlock, Option.some.injEq] at hg
    subst hg
    refine ⟨fun ⟨c2, f, e⟩ => ?_, hb, (Array.getElem?_eq_some_iff.1 hh).1⟩
    rw [hh] at e
    simp only [Option.some.injEq, Obj.cells.injEq] at e
    exact absurd e.2.1 (by decide)
theorem Knowns.keep {w w' : World} {base : Nat} {v : Value} {ks : List Kn} (h : Knowns w base v ks) (hb : ∀ g, v.ownBlock = some g → w'.heap[g]? = w.heap[g]?) : Knowns w' base v ks := by
  obtain ⟨h1, h2⟩ := h
  refine ⟨h1, ?_⟩
  rcases h2 with h2 | ⟨g, cap, cur, hv, hg, hh, r⟩
  · exact .inl h2
  · exact .inr ⟨g, cap, cur, hv, hg, (hb g (by rw [hv]; rfl)).trans hh, r⟩
theorem Knowns.ink {w w' : World} {b : Nat} {v : Value} {ks : List Kn} (h : Knowns w (b + 1) v ks) (hi : Ink b w w') : Knowns w' (b + 1) v ks :=
  h.keep fun g hg => by obtain ⟨h1, h2, h3⟩ := h.not hg; exact hi.oth g h3 (by omega) h1
/-- What is put, what is known, is it refused. -/
structure Wt where
  P : List UInt8
  ks : List Kn
  rf : Bool
/-- Block b is a writer at this state. -/
structure Wr (w : World) (b : Nat) (at_ : Int) (G : Bool) (x : Wt) : Prop where
  c0 : w.cell? ⟨b, 0, none⟩ = some (.int .i64 at_)
  c3 : w.cell? ⟨b, 3, none⟩ = some (.bool x.rf)
  ex : ∃ a cap ka kcap, w.cell? ⟨b, 1, none⟩ = some (.slice a x.P.length cap) ∧ Bytes w (b + 1) (.slice a x.P.length cap) x.P ∧ w.cell? ⟨b, 2, none⟩ = some (.slice ka x.ks.length kcap) ∧ KnLies w ka x.ks ∧
    (∀ y, ka = some y → x.ks ≠ [] → y.block < b ∨ (y.block ≠ b ∧ ¬ isBytes w y.block)) ∧ (G = true → x.rf = false → Knowns w (b + 1) (.slice ka x.ks.length kcap) x.ks)
  fz : ∀ j, w.frozen? ⟨b, j, none⟩ = false
  lt : b < w.heap.size
theorem Wr.below {w w' : World} {b : Nat} {at_ : Int} {G : Bool} {x : Wt} (h : Wr w b at_ G x) (hb : Below w.heap.size w w') : Wr w' b at_ G x := by
  obtain ⟨c0, c3, ⟨a, cap, ka, kcap, h1, h2, h3, h4, h5, h6⟩, fz, lt⟩ := h
  have hc : ∀ j, w'.cell? ⟨b, j, none⟩ = w.cell? ⟨b, j, none⟩ := fun j => hb.cell lt
  refine ⟨(hc 0).trans c0, (hc 3).trans c3, ⟨a, cap, ka, kcap, (hc 1).trans h1, h2.keep (fun g hg => ?_), (hc 2).trans h3, h4.below hb, fun y hy hn => ?_, fun hG hr => (h6 hG hr).below hb⟩, fun j => (hb.frozen lt).trans (fz j), Nat.lt_of_lt_of_le lt hb.size⟩
  · obtain ⟨⟨cur, f, hf⟩, _⟩ := h2.is hg
    exact hb.block g (Array.getElem?_eq_some_iff.1 hf).1
  · rcases h5 y hy hn with h | ⟨h, hh⟩
    · exact .inl h
    · subst hy
      refine .inr ⟨h, fun ⟨cur, f, hf⟩ => hh ⟨cur, f, ?_⟩⟩
      rw [hb.block _ (h4.lt hn)] at hf; exact hf
/-- Behind an append: the row turns, the cell that holds it is yet to be stored. -/
theorem Wr.more {w w' : World} {b : Nat} {at_ : Int} {G : Bool} {P : List UInt8} {ks : List Kn} {rf : Bool} {a : Option Addr} {cap : Nat} {ka : Option Addr} {kcap : Nat} {v' : Value} {Q : List UInt8}
    (lt : b < w.heap.size) (c0 : w.cell? ⟨b, 0, none⟩ = some (.int .i64 at_)) (c1 : w.cell? ⟨b, 1, none⟩ = some (.slice a P.length cap)) (c2 : w.cell? ⟨b, 2, none⟩ = some (.slice ka ks.length kcap)) (c3 : w.cell? ⟨b, 3, none⟩ = some (.bool rf))
    (h2 : Bytes w (b + 1) (.slice a P.length cap) P) (h4 : KnLies w ka ks) (h5 : ∀ y, ka = some y → ks ≠ [] → y.block < b ∨ (y.block ≠ b ∧ ¬ isBytes w y.block)) (h6 : G = true → rf = false → Knowns w (b + 1) (.slice ka ks.length kcap) ks) (fz : ∀ j, w.frozen? ⟨b, j, none⟩ = false)
    (hg : w.grownBy w' (Value.slice a P.length cap).ownBlock) (hv : Bytes w' (b + 1) v' Q) : Wr (w'.setCell ⟨b, 1, none⟩ v') b at_ G ⟨Q, ks, rf⟩ := by
  have hi := Ink.grown h2 hg lt
  have hbk : w'.heap[b]? = w.heap[b]? := hg.block b lt (fun e => by have := (h2.is e.symm).2; omega)
  have hc : ∀ j, w'.cell? ⟨b, j, none⟩ = w.cell? ⟨b, j, none⟩ := fun j => World.cell?_of_block hbk
  have hf : ∀ j, w'.frozen? ⟨b, j, none⟩ = w.frozen? ⟨b, j, none⟩ := fun j => World.frozen?_of_block hbk
  have d0 := (hc 0).trans c0
  have d1 := (hc 1).trans c1
  have d2 := (hc 2).trans c2
  have d3 := (hc 3).trans c3
  obtain ⟨a', cap', rfl⟩ := hv.form
  have hsame : ∀ k, k ≠ b → (w'.setCell ⟨b, 1, none⟩ (Value.slice a' Q.length cap')).heap[k]? = w'.heap[k]? := fun k hk => Below.heap_setCell _ _ _ _ hk
  refine ⟨way_cell d0 d1, way_cell d3 d1, ⟨a', cap', ka, kcap, way_cell d1 d1, hv.keep (fun g hg => hsame g (by have := (hv.is hg).2; omega)), way_cell d2 d1, ?_, fun y hy hn => ?_, fun hG hr => (h6 hG hr).ink (hi.trans (Ink.set (b := b) w' 1 _))⟩, fun j => by rw [World.frozen?_setCell, hf]; exact fz j, by rw [setCell_size]; exact Nat.lt_of_lt_of_le lt hg.size⟩
  · refine h4.keep fun x hx hn => ?_
    subst hx
    rcases h5 x rfl hn with h | ⟨h, hh⟩
    · rw [hsame _ (by omega)]; exact hi.bel.block _ h
    · rw [hsame _ h]; exact hi.oth _ (h4.lt hn) h hh
  · rcases h5 y hy hn with h | ⟨h, hh⟩
    · exact .inl h
    · subst hy
      refine .inr ⟨h, fun ⟨cur, f, e⟩ => hh ⟨cur, f, ?_⟩⟩
      rw [hsame _ h, hi.oth _ (h4.lt hn) h hh] at e; exact e
theorem strCells_more (P : List UInt8) (s : ByteArray) : Lib.strCells (mk P) ++ Lib.strCells s = Lib.strCells (mk (P ++ bs s)) := by simp [Lib.strCells, mk, bs]
theorem bytes_more {w : World} {base : Nat} {v : Value} {P : List UInt8} {s : ByteArray} (h : w.ownsRow base 5 1 v (P.length + s.size) (Lib.strCells (mk P) ++ Lib.strCells s)) : Bytes w base v (P ++ bs s) := by
  rw [strCells_more] at h
  unfold Bytes
  rw [List.length_append, length_bs]
  exact h
/-- Bytes as they are. -/
def textW (t : ByteArray) (x : Wt) : Wt := if x.rf then x else { x with P := x.P ++ bs t }
/-- A number in k bytes. -/
def numW (v : Int) (k : Nat) (x : Wt) : Wt := textW (be v k) x
/-- A name. -/
def nameW (at_ : Int) (n : List UInt8) (x : Wt) : Wt :=
  if x.rf then x else if mayPutL (at_ + x.P.length) x.ks n then ⟨x.P ++ putS x.ks (labsL n), x.ks ++ putN x.ks (at_ + x.P.length) (labsL n), false⟩ else { x with rf := true }
theorem textW_rf (t : ByteArray) (x : Wt) : (textW t x).rf = x.rf := by unfold textW; split <;> simp_all
theorem numW_rf (v : Int) (k : Nat) (x : Wt) : (numW v k x).rf = x.rf := textW_rf _ _
/-- The mark is stored. -/
theorem Wr.mark {w : World} {b : Nat} {at_ : Int} {G : Bool} {x : Wt} (h : Wr w b at_ G x) (rf G' : Bool) (hr : G' = true → rf = false → G = true ∧ x.rf = false) : Wr (w.setCell ⟨b, 3, none⟩ (.bool rf)) b at_ G' { x with rf := rf } := by
  obtain ⟨c0, c3, ⟨a, cap, ka, kcap, c1, h2, c2, h4, h5, h6⟩, fz, lt⟩ := h
  have hsame : ∀ k, k ≠ b → (w.setCell ⟨b, 3, none⟩ (.bool rf)).heap[k]? = w.heap[k]? := fun k hk => Below.heap_setCell _ _ _ _ hk
  refine ⟨way_cell c0 c3, way_cell c3 c3, ⟨a, cap, ka, kcap, way_cell c1 c3, h2.keep (fun g hg => hsame g (by have := (h2.is hg).2; omega)), way_cell c2 c3, ?_, fun y hy hn => ?_, fun hG hf => ?_⟩, fun j => by rw [World.frozen?_setCell]; exact fz j, by rw [setCell_size]; exact lt⟩
  · refine h4.keep fun y hy hn => hsame _ ?_
    rcases h5 y hy hn with h | ⟨h, _⟩
    · omega
    · exact h
  · rcases h5 y hy hn with h | ⟨h, hh⟩
    · exact .inl h
    · refine .inr ⟨h, fun ⟨cur, f, e⟩ => hh ⟨cur, f, ?_⟩⟩
      rw [hsame _ h] at e; exact e
  · obtain ⟨q1, q2⟩ := hr hG hf
    exact (h6 q1 q2).keep fun g hg => hsame g (by have := ((h6 q1 q2).not hg).2.1; omega)
/-- What is known is stored. -/
theorem Wr.knows {w : World} {b : Nat} {at_ : Int} {G : Bool} {x : Wt} {ks : List Kn} {ka : Option Addr} {kcap : Nat} (h : Wr w b at_ G x) (hk : KnLies w ka ks) (h5 : ∀ y, ka = some y → ks ≠ [] → y.block < b ∨ (y.block ≠ b ∧ ¬ isBytes w y.block)) (h6 : Knowns w (b + 1) (.slice ka ks.length kcap) ks) :
    Wr (w.setCell ⟨b, 2, none⟩ (.slice ka ks.length kcap)) b at_ true { x with ks := ks } := by
  obtain ⟨c0, c3, ⟨a, cap, ka0, kcap0, c1, h2, c2, h4, _, _⟩, fz, lt⟩ := h
  have hsame : ∀ k, k ≠ b → (w.setCell ⟨b, 2, none⟩ (.slice ka ks.length kcap)).heap[k]? = w.heap[k]? := fun k hk => Below.heap_setCell _ _ _ _ hk
  refine ⟨way_cell c0 c2, way_cell c3 c2, ⟨a, cap, ka, kcap, way_cell c1 c2, h2.keep (fun g hg => hsame g (by have := (h2.is hg).2; omega)), way_cell c2 c2, ?_, fun y hy hn => ?_, fun _ _ => h6.keep fun g hg => hsame g (by have := (h6.not hg).2.1; omega)⟩, fun j => by rw [World.frozen?_setCell]; exact fz j, by rw [setCell_size]; exact lt⟩
  · refine hk.keep fun y hy hn => hsame _ ?_
    rcases h5 y hy hn with h | ⟨h, _⟩
    · omega
    · exact h
  · rcases h5 y hy hn with h | ⟨h, hh⟩
    · exact .inl h
    · refine .inr ⟨h, fun ⟨cur, f, e⟩ => hh ⟨cur, f, ?_⟩⟩
      rw [hsame _ h] at e; exact e
theorem Wr.refused {w : World} {b : Nat} {at_ : Int} {G : Bool} {x : Wt} (h : Wr w b at_ G x) (hr : x.rf = true) : Wr w b at_ true x := by
  obtain ⟨c0, c3, ⟨a, cap, ka, kcap, c1, h2, c2, h4, h5, h6⟩, fz, lt⟩ := h
  exact ⟨c0, c3, ⟨a, cap, ka, kcap, c1, h2, c2, h4, h5, fun _ hf => by rw [hr] at hf; cases hf⟩, fz, lt⟩
theorem Knowns.apart {w : World} {base b : Nat} {v : Value} {ks : List Kn} (h : Knowns w base v ks) (hb : b < base) : ∀ a cap y, v = .slice a ks.length cap → a = some y → ks ≠ [] → y.block < b ∨ (y.block ≠ b ∧ ¬ isBytes w y.block) := by
  intro a cap y hv hy hn
  obtain ⟨_, h | ⟨g, cap', cur, hv', hg, hh, _⟩⟩ := h
  · exact absurd (List.eq_nil_of_length_eq_zero h.2) hn
  · rw [hv] at hv'
    simp only [Value.slice.injEq] at hv'
    rw [hy] at hv'
    obtain ⟨h1, _, _⟩ := hv'
    cases h1
    refine .inr ⟨by simp only; omega, fun ⟨c2, f, e⟩ => ?_⟩
    simp only at e
    rw [hh] at e
    simp only [Option.some.injEq, Obj.cells.injEq] at e
    exact absurd e.2.1 (by decide)
theorem Bytes.below {w w' : World} {base : Nat} {v : Value} {P : List UInt8} (h : Bytes w base v P) (hb : Below w.heap.size w w') : Bytes w' base v P :=
  h.keep fun g hg => by obtain ⟨⟨cur, f, hf⟩, _⟩ := h.is hg; exact hb.block g (Array.getElem?_eq_some_iff.1 hf).1
theorem apart_below {w w' : World} {b : Nat} {ka : Option Addr} {ks : List Kn} (hb : Below w.heap.size w w') (h4 : KnLies w ka ks) (h5 : ∀ y, ka = some y → ks ≠ [] → y.block < b ∨ (y.block ≠ b ∧ ¬ isBytes w y.block)) :
    ∀ y, ka = some y → ks ≠ [] → y.block < b ∨ (y.block ≠ b ∧ ¬ isBytes w' y.block) := fun y hy hn => by
  rcases h5 y hy hn with h | ⟨h, hh⟩
  · exact .inl h
  · subst hy
    refine .inr ⟨h, fun ⟨cur, f, hf⟩ => hh ⟨cur, f, ?_⟩⟩
    rw [hb.block _ (h4.lt hn)] at hf; exact hf
theorem text_skip (b : Nat) (at_ : Int) (G : Bool) (x : Wt) (v : Value) (w : World) (h : Wr w b at_ G x) (hf : x.rf = true) :
    Calls Try.prog 33 #[.pointer (some ⟨b, 0, none⟩), v] w fun e w' => e = .returned (.tuple #[]) ∧ w' = w := by
  have c3 := h.c3
  rw [hf] at c3
  clear h
  go_enter Try.func33, Try.ntmps33
  go_wp2
  go_end0
  exact ⟨rfl, rfl⟩
set_option maxHeartbeats 1000000 in
theorem text_put (b : Nat) (at_ : Int) (G : Bool) (x : Wt) (B : ByteArray) (w : World) (h : Wr w b at_ G x) (hf : x.rf = false) (hP : x.P.length ≤ 100000) (hB : B.size ≤ 100000) :
    Calls Try.prog 33 #[.pointer (some ⟨b, 0, none⟩), .string B] w fun e w' => e = .returned (.tuple #[]) ∧ Wr w' b at_ G ⟨x.P ++ bs B, x.ks, false⟩ ∧ Ink b w w' := by
  obtain ⟨i0, hi, hz0, hz1, hz2⟩ := info_parts Try.infoU8
  obtain ⟨Q, hQ⟩ : ∃ Q, Hid (x.P ++ bs B = Q) := ⟨_, rfl⟩
  rw [show x.P ++ bs B = Q from hQ.out]
  obtain ⟨c0, c3, ⟨a, cap, ka, kcap, c1, h2, c2, h4, h5, h6⟩, fz, lt⟩ := h
  rw [hf] at c3 h6
  have f1 := fz 1
  have H5 : Hid (_) := h5
  have H6 : Hid (G = true → Knowns w (b + 1) (.slice ka x.ks.length kcap) x.ks) := fun hG => h6 hG rfl
  have H4 : Hid (_) := h4
  have Hfz : Hid (_) := fz
  clear h5 h4 fz h6
  go_enter Try.func33, Try.ntmps33
  go_wp2_with (first
    | (at_builtin; refine Lib.wpList_append_own_string _ rfl _ _ 26 9 rfl (b + 1) 5 i0 Try.underlying26 Try.underlying9 hi hz0 hz1 hz2 _ _ _ rfl h2 _ rfl ?c1 ?c2 ?c3 ?_)
    | fail)
  case c1 => unfold maxLen; omega
  case c2 => omega
  case c3 => omega
  intro v' w2 hown hgrow _
  have hV : Bytes w2 (b + 1) v' Q := by rw [← hQ.out]; exact bytes_more hown
  have R := Wr.more lt c0 c1 c2 c3 h2 H4.out H5.out (fun hG _ => H6.out hG) Hfz.out hgrow hV
  have B2 : Hid (Ink b w (w2.setCell ⟨b, 1, none⟩ v')) := (Ink.grown h2 hgrow lt).trans (Ink.set _ _ _)
  have hbk : w2.heap[b]? = w.heap[b]? := hgrow.block b lt (fun e => by have := (h2.is e.symm).2; omega)
  have e1 : w2.cell? ⟨b, 1, none⟩ = some (.slice a x.P.length cap) := (World.cell?_of_block hbk).trans c1
  have e2 : w2.frozen? ⟨b, 1, none⟩ = false := (World.frozen?_of_block hbk).trans f1
  obtain ⟨a', cap', rfl⟩ := hV.form
  have HR : Hid (_) := R
  clear hown hgrow c0 c1 c2 c3 f1 H5 H6 H4 Hfz hbk R hV h2
  go_wp2
  go_end0
  exact ⟨rfl, HR.out, B2.out⟩
theorem text_g (b : Nat) (at_ : Int) (G : Bool) (x : Wt) (B : ByteArray) (w : World) (h : Wr w b at_ G x) (hP : x.P.length ≤ 100000) (hB : B.size ≤ 100000) :
    Calls Try.prog 33 #[.pointer (some ⟨b, 0, none⟩), .string B] w fun e w' => e = .returned (.tuple #[]) ∧ Wr w' b at_ G (textW B x) ∧ Ink b w w' := by
  unfold textW
  cases hf : x.rf with
  | true => exact (text_skip b at_ G x _ w h hf).mono fun e w' ⟨h1, h2⟩ => ⟨h1, by rw [h2]; simpa using h, by rw [h2]; exact Ink.refl _ _⟩
  | false =>
    refine (text_put b at_ G x B w h hf hP hB).mono fun e w' ⟨h1, h2, h3⟩ => ⟨h1, ?_, h3⟩
    simpa [hf] using h2
theorem number_g (b : Nat) (at_ : Int) (G : Bool) (x : Wt) (v : Int) (k : Nat) (w : World) (h : Wr w b at_ G x) (hv : inB v k) (hP : x.P.length ≤ 100000) :
    Calls Try.prog 24 #[.pointer (some ⟨b, 0, none⟩), .int .i64 v, .int .i64 k] w fun e w' => e = .returned (.tuple #[]) ∧ Wr w' b at_ G (numW v k x) ∧ Ink b w w' := by
  have HB : Hid (∀ w, _) := fun w => put_ok v k w hv
  simp only [Int.toNat_natCast] at HB
  have hk4 : (be v k).size ≤ 100000 := by rw [size_be]; unfold inB at hv; omega
  have HT : Hid (∀ w, Wr w b at_ G x → _) := fun w h => text_g b at_ G x (be v k) w h hP hk4
  unfold numW
  generalize textW (be v k) x = X at *
  generalize be v k = B at *
  clear hv hk4
  have hrf : Hid (∀ w, Wr w b at_ G x → Wr (w.setCell ⟨b, 3, none⟩ (.bool x.rf)) b at_ G x) := fun w h => h.mark x.rf G (fun h1 h2 => ⟨h1, h2⟩)
  have H0 : Hid (∀ w', Below w.heap.size w w' → Wr w' b at_ G x) := fun w' hb => h.below hb
  have lt := h.lt
  clear h
  cases hr : x.rf
  all_goals
    rw [hr] at hrf
    go_enter Try.func24, Try.ntmps24
    go_wp2_with fail
    refine (HB.out _).mono ?_; rintro e w1 ⟨rfl, hb1⟩
    have W1 := H0.out _ hb1
    have B1 : Hid (Ink b w w1) := Ink.of_below hb1 lt
    have W2 : Hid (_) := hrf.out _ W1
    have c3 := W1.c3
    have f3 := W1.fz 3
    rw [hr] at c3
    clear hb1 W1 HB
    go_wp2_with fail
    refine (HT.out _ W2.out).mono ?_; rintro e w2 ⟨rfl, hW, hI⟩
    have B2 : Hid (Ink b w w2) := B1.out.trans ((Ink.set _ _ _).trans hI)
    clear hI B1
    go_wp2
    go_end0
    exact ⟨rfl, hW, B2.out⟩
theorem Knowns.lies' {w : World} {base : Nat} {ka : Option Addr} {kcap : Nat} {ks : List Kn} (h : Knowns w base (.slice ka ks.length kcap) ks) : KnLies w ka ks := by
  obtain ⟨a, c, e, hl⟩ := h.lies
  simp only [Value.slice.injEq, true_and] at e
  rw [e.1]; exact hl
theorem from_g (at_ : Int) (a : Option Addr) (n cap : Nat) (w : World) : Calls Try.prog 22 #[.int .i64 at_, .slice a n cap] w fun e w' => e = .returned (.agg #[.int .i64 at_, .slice none 0 0, .slice a n cap, .bool false]) ∧ Below w.heap.size w w' := by
  go_enter Try.func22, Try.ntmps22
  go_wp2
  refine bodyPost_ret (v := .agg #[.int .i64 at_, .slice none 0 0, .slice a n cap, .bool false]) (by simp [results, Try.results22, go_sem]) rfl ⟨rfl, (Below.refl _ _).alloc (Nat.le_refl _) _⟩
theorem strCells_map (P : List UInt8) : Lib.strCells (mk P) = (P.map fun c => (c.toNat : Int)).map (Value.int .u8) := by simp [Lib.strCells, mk]
theorem given_g (b : Nat) (at_ : Int) (G : Bool) (x : Wt) (w : World) (h : Wr w b at_ G x) : Calls Try.prog 25 #[.pointer (some ⟨b, 0, none⟩)] w fun e w' => e = .returned (.string (mk x.P)) ∧ w' = w := by
  obtain ⟨c0, c3, ⟨a, cap, ka, kcap, c1, h2, c2, h4, h5, h6⟩, fz, lt⟩ := h
  have hcv := conv_owned (P := Try.prog) (w := w) (ns := x.P.map fun c => (c.toNat : Int)) 26 9 Try.underlying26 Try.underlying5 Try.underlying9 (base := b + 1) (v := .slice a x.P.length cap) (n := x.P.length) (by rw [← strCells_map]; exact h2)
  have hstr : str (x.P.map fun c => (c.toNat : Int)) = mk x.P := by simp [str, mk, Function.comp_def]
  rw [hstr] at hcv
  clear h2 h4 h5 h6 fz hstr c2
  go_enter Try.func25, Try.ntmps25
  go_wp2
  go_ret
  exact ⟨rfl, rfl⟩
end Go.Proofs.Ytegoaaamlfehpaa

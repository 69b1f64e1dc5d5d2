/-
  Several texts in one.
-/
import Derived.Test.YtdmooggmoihggaaGreatDoorBName
import Derived.Test.YtdmooggmoihggaaGreatDoorBBe
import Derived.Test.YtdmooggmoihggaaGreatDoorShelf
import Derived.Deep.LoopGhost
import Derived.Deep.RegionWith
import Derived.Deep.QuietTactic
import Derived.BigQuiet
import Derived.WalkSmall
import Derived.Maps.OwnSet
import Derived.DeepKeys4
/-
  Contracts of package wire's Get and of the steps that it goes, at every text and place.
-/
namespace Go.Proofs.YtdmooggmoihggaaGreatDoor
set_option maxRecDepth 100000
open Go.ChangeShapes Go.WideShapes Go.ChangeAt Go.RowKit Go.Pin Go.PlainAid

/-- Block b is a walk that stands at x, its labels in v. -/
structure Way (w : World) (b : Nat) (s : ByteArray) (x : St) (v : Value) : Prop where
  c0 : w.cell? ⟨b, 0, none⟩ = some (.string s)
  c1 : w.cell? ⟨b, 1, none⟩ = some (.int .i64 x.at_)
  c2 : w.cell? ⟨b, 2, none⟩ = some (.int .i64 x.row)
  c3 : w.cell? ⟨b, 3, none⟩ = some (.int .i64 x.en)
  c4 : w.cell? ⟨b, 4, none⟩ = some v
  fz : ∀ j, w.frozen? ⟨b, j, none⟩ = false
  lt : b < w.heap.size

theorem Way.below {w w' : World} {b : Nat} {s : ByteArray} {x : St} {v : Value} (h : Way w b s x v) {n : Nat} (hb : Below n w w') (hn : b < n) : Way w' b s x v := by
  have hc : ∀ j, w'.cell? ⟨b, j, none⟩ = w.cell? ⟨b, j, none⟩ := fun j => hb.cell hn
  exact ⟨(hc 0).trans h.c0, (hc 1).trans h.c1, (hc 2).trans h.c2, (hc 3).trans h.c3, (hc 4).trans h.c4, fun j => (hb.frozen hn).trans (h.fz j), Nat.lt_of_lt_of_le h.lt hb.size⟩

/-- From w to w' nothing turned but the cells of block b and what lies behind it; lists that were made behind b stand. -/
def Only (b : Nat) (w w' : World) : Prop := Below b w w' ∧ ∀ v ls, Texts w (b + 1) v ls → Texts w' (b + 1) v ls
theorem Only.refl (b : Nat) (w : World) : Only b w w := ⟨Below.refl _ _, fun _ _ h => h⟩
theorem Only.trans {b : Nat} {w w1 w2 : World} (h1 : Only b w w1) (h2 : Only b w1 w2) : Only b w w2 := ⟨h1.1.trans h2.1, fun v ls h => h2.2 v ls (h1.2 v ls h)⟩
theorem Only.of_below {b : Nat} {w w' : World} (h : Below w.heap.size w w') (hb : b < w.heap.size) : Only b w w' := ⟨h.mono (Nat.le_of_lt hb), fun _ _ ht => ht.below h⟩
theorem Only.set {b : Nat} (w : World) (j : Nat) (u : Value) : Only b w (w.setCell ⟨b, j, none⟩ u) := by
  refine ⟨(Below.refl b w).setCell (show b ≤ (⟨b, j, none⟩ : Addr).block from Nat.le_refl b) u, fun v ls h => ?_⟩
  obtain ⟨h1, h2⟩ := h
  refine ⟨h1, ?_⟩
  rcases h2 with h2 | ⟨g, cap, cur, hv, hg, hh, r⟩
  · exact .inl h2
  · exact .inr ⟨g, cap, cur, hv, hg, by rw [RowKit.Below.heap_setCell _ _ _ _ (by simp; omega)]; exact hh, r⟩

theorem way_cell {w : World} {b j k : Nat} {u v v0 : Value} (h : w.cell? ⟨b, k, none⟩ = some v) (h0 : w.cell? ⟨b, j, none⟩ = some v0) : (w.setCell ⟨b, j, none⟩ u).cell? ⟨b, k, none⟩ = some (if k = j then u else v) := by
  by_cases e : k = j
  · subst e; rw [if_pos rfl]; exact World.cell?_setCell_same _ _ _ h0
  · rw [if_neg e, World.cell?_setCell_other _ _ _ _ (by intro e'; injection e' with _ e'; exact e e'.symm)]; exact h
theorem Way.size {w : World} {b : Nat} {s : ByteArray} {x : St} {v : Value} (_h : Way w b s x v) (j : Nat) (u : Value) : (w.setCell ⟨b, j, none⟩ u).heap.size = w.heap.size := by simp
theorem Way.set1 {w : World} {b : Nat} {s : ByteArray} {x : St} {v : Value} (h : Way w b s x v) (n : Nat) : Way (w.setCell ⟨b, 1, none⟩ (.int .i64 n)) b s { x with at_ := n } v :=
  ⟨way_cell h.c0 h.c1, way_cell h.c1 h.c1, way_cell h.c2 h.c1, way_cell h.c3 h.c1, way_cell h.c4 h.c1, fun j => by rw [World.frozen?_setCell]; exact h.fz j, by rw [h.size]; exact h.lt⟩
theorem Way.set2 {w : World} {b : Nat} {s : ByteArray} {x : St} {v : Value} (h : Way w b s x v) (n : Nat) : Way (w.setCell ⟨b, 2, none⟩ (.int .i64 n)) b s { x with row := n } v :=
  ⟨way_cell h.c0 h.c2, way_cell h.c1 h.c2, way_cell h.c2 h.c2, way_cell h.c3 h.c2, way_cell h.c4 h.c2, fun j => by rw [World.frozen?_setCell]; exact h.fz j, by rw [h.size]; exact h.lt⟩
theorem Way.set3 {w : World} {b : Nat} {s : ByteArray} {x : St} {v : Value} (h : Way w b s x v) (n : Nat) : Way (w.setCell ⟨b, 3, none⟩ (.int .i64 n)) b s { x with en := n } v :=
  ⟨way_cell h.c0 h.c3, way_cell h.c1 h.c3, way_cell h.c2 h.c3, way_cell h.c3 h.c3, way_cell h.c4 h.c3, fun j => by rw [World.frozen?_setCell]; exact h.fz j, by rw [h.size]; exact h.lt⟩
theorem Way.set4 {w : World} {b : Nat} {s : ByteArray} {x : St} {v : Value} (h : Way w b s x v) (u : Value) (ls : List (List UInt8)) : Way (w.setCell ⟨b, 4, none⟩ u) b s { x with labs := ls } u :=
  ⟨way_cell h.c0 h.c4, way_cell h.c1 h.c4, way_cell h.c2 h.c4, way_cell h.c3 h.c4, way_cell h.c4 h.c4, fun j => by rw [World.frozen?_setCell]; exact h.fz j, by rw [h.size]; exact h.lt⟩

theorem goOnAt_yes (b : Nat) (a : Int) (w : World) (hc : w.cell? ⟨b, 3, none⟩ = some (.int .i64 0)) (hf : w.frozen? ⟨b, 3, none⟩ = false) :
    Calls Tryz.prog 119 #[.pointer (some ⟨b, 0, none⟩), .int .i64 a] w fun e w' => e = .returned (.tuple #[]) ∧ w' = w.setCell ⟨b, 3, none⟩ (.int .i64 a) := by
  go_enter Tryz.func119, Tryz.ntmps119
  go_wp2
  go_end0
  exact ⟨rfl, rfl⟩

theorem goOnAt_no (b : Nat) (a n : Int) (w : World) (hc : w.cell? ⟨b, 3, none⟩ = some (.int .i64 n)) (hn : (n == 0) = false) :
    Calls Tryz.prog 119 #[.pointer (some ⟨b, 0, none⟩), .int .i64 a] w fun e w' => e = .returned (.tuple #[]) ∧ w' = w := by
  go_enter Tryz.func119, Tryz.ntmps119
  go_wp2
  go_end0
  exact ⟨rfl, rfl⟩

theorem goOnAt_c (b : Nat) (s : ByteArray) (x : St) (v : Value) (a : Nat) (w : World) (h : Way w b s x v) :
    Calls Tryz.prog 119 #[.pointer (some ⟨b, 0, none⟩), .int .i64 a] w fun e w' => e = .returned (.tuple #[]) ∧ Way w' b s { x with en := goOn x.en a } v ∧ Only b w w' := by
  by_cases hn : x.en = 0
  · refine (goOnAt_yes b a w (by rw [h.c3, hn]; rfl) (h.fz 3)).mono ?_
    rintro e w' ⟨rfl, rfl⟩
    refine ⟨rfl, ?_, Only.set _ _ _⟩
    have := h.set3 a
    rwa [show goOn x.en a = a by simp [goOn, hn]]
  · refine (goOnAt_no b a x.en w h.c3 (by simp; omega)).mono ?_
    rintro e w' ⟨rfl, rfl⟩
    refine ⟨rfl, ?_, Only.refl _ _⟩
    rwa [show goOn x.en a = x.en by simp [goOn, hn]]

theorem jump_end (b : Nat) (s : ByteArray) (x : St) (v : Value) (w : World) (hs : s.size ≤ maxLen) (h : Way w b s x v) (hat : x.at_ < s.size) (hl : s.size < x.at_ + 2) :
    Calls Tryz.prog 121 #[.pointer (some ⟨b, 0, none⟩)] w fun e w' => e = .returned (.int .i64 301) ∧ Below w.heap.size w w' := by
  have hs' := hs
  unfold maxLen at hs'
  obtain ⟨c0, c1, c2, c3, c4, fz, lt⟩ := h
  go_enter Tryz.func121, Tryz.ntmps121
  go_wp2_with fail
  go_quiet ((go_at_call 83; exact Calls.quiet_of_same (get_end s x.at_ 2 _ (by omega) hs (by omega) (by omega))))
  go_wp2
  go_ret
  exact ⟨rfl, below_drewN (Below.refl _ _) _⟩

theorem get2_is (s : ByteArray) (a p : Nat) (w : World) (hs : s.size ≤ maxLen) (h : a + 2 ≤ s.size) (hp : num s a 2 = (p : Int) + 49152) :
    Calls Tryz.prog 83 #[.string s, .int .i64 a, .int .i64 2] w fun e w' => e = .returned (.tuple #[.int .i64 ((p : Int) + 49152), .int .i64 0]) ∧ w' = w := by
  rw [← hp]; exact get_ok s a 2 w (by omega) hs h

theorem jump_far (b p : Nat) (s : ByteArray) (x : St) (v : Value) (w : World) (hs : s.size ≤ maxLen) (h : Way w b s x v) (hat : x.at_ + 2 ≤ s.size) (hp : num s x.at_ 2 = (p : Int) + 49152) (hp2 : p < 16384) (hr : x.row ≤ p) :
    Calls Tryz.prog 121 #[.pointer (some ⟨b, 0, none⟩)] w fun e w' => e = .returned (.int .i64 300) ∧ Below w.heap.size w w' := by
  have HC := fun w' => get2_is s x.at_ p w' hs hat hp
  obtain ⟨c0, c1, c2, c3, c4, fz, lt⟩ := h
  have hr' : (x.row : Int) ≤ (p : Int) := by omega
  clear hp hr
  go_enter Tryz.func121, Tryz.ntmps121
  go_wp2_with fail
  go_quiet ((go_at_call 83; exact Calls.quiet_of_same (HC _)))
  go_wp2
  go_ret
  exact ⟨rfl, below_drewN (Below.refl _ _) _⟩

theorem jump_ok (b p : Nat) (s : ByteArray) (x : St) (v : Value) (w : World) (hs : s.size ≤ maxLen) (h : Way w b s x v) (hat : x.at_ + 2 ≤ s.size) (hp : num s x.at_ 2 = (p : Int) + 49152) (hp2 : p < 16384) (hr : p < x.row) :
    Calls Tryz.prog 121 #[.pointer (some ⟨b, 0, none⟩)] w fun e w' => e = .returned (.int .i64 0) ∧ Way w' b s { x with at_ := p, row := p, en := goOn x.en (x.at_ + 2) } v ∧ Only b w w' := by
  have HC := fun w' => get2_is s x.at_ p w' hs hat hp
  have hw := h
  obtain ⟨c0, c1, c2, c3, c4, fz, lt⟩ := h
  have hr' : (p : Int) < (x.row : Int) := by omega
  unfold maxLen at hs
  have hsum : ((x.at_ : Int) + 2) = ((x.at_ + 2 : Nat) : Int) := by omega
  have HG : Hid (∀ w, Way w b s x v → Calls Tryz.prog 119 #[.pointer (some ⟨b, 0, none⟩), .int .i64 ((x.at_ : Int) + 2)] w fun e w' => e = .returned (.tuple #[]) ∧ Way w' b s { x with en := goOn x.en (x.at_ + 2) } v ∧ Only b w w') := by
    intro w hw; rw [hsum]; exact goOnAt_c b s x v (x.at_ + 2) w hw
  have hwd : Hid (∀ n, Way (w.drewN n) b s x v ∧ Only b w (w.drewN n)) := fun n => ⟨hw.below (below_drewN (Below.refl w.heap.size w) n) lt, Only.of_below (below_drewN (Below.refl w.heap.size w) n) lt⟩
  clear hp hr hsum hw
  go_enter Tryz.func121, Tryz.ntmps121
  go_wp2_with fail
  go_quiet ((go_at_call 83; exact Calls.quiet_of_same (HC _)))
  go_wp2_with fail
  refine (HG.out _ (hwd.out _).1).mono ?_; rintro e w1 ⟨rfl, hw1, ho1⟩
  have f1 := hw1.fz 1
  have d1 := hw1.c1
  have f2 := hw1.fz 2
  have d2 := hw1.c2
  have H1 : Hid (Way w1 b s { x with en := goOn x.en (x.at_ + 2) } v ∧ Only b w w1) := ⟨hw1, (hwd.out _).2.trans ho1⟩
  clear hw1 ho1 hwd c0 c1 c2 c3 c4 fz
  go_wp2
  go_ret
  refine ⟨rfl, ?_, H1.out.2.trans ((Only.set _ _ _).trans (Only.set _ _ _))⟩
  exact (H1.out.1.set1 p).set2 p

theorem labs_one {t : List UInt8} (h : okL t = true) : labsL t = [t] := (may_join (ls := [t]) (by simp) (by simpa using h)).2
theorem labs_one_no {t : List UInt8} (h : okL t = false) : (labsL t).length ≠ 1 := by
  intro hl
  match hls : labsL t, hl with
  | [p], _ =>
    have hp : okL p = true := labsL_ok (l := t) (by rw [hls]; simp)
    have hm : mayL t = true := by
      cases hm : mayL t with
      | true => rfl
      | false => rw [labsL_no hm] at hls; cases hls
    have := join_labs hm
    rw [hls] at this
    simp only [join] at this
    rw [← this, hp] at h
    cases h

theorem label_end (b c : Nat) (s : ByteArray) (x : St) (v : Value) (w : World) (hs : s.size ≤ 1125899906842624) (h : Way w b s x v) (hc : c ≤ 8) (hat : x.at_ < s.size) (hl : s.size < x.at_ + 1 + c) :
    Calls Tryz.prog 120 #[.pointer (some ⟨b, 0, none⟩), .int .i64 c] w fun e w' => e = .returned (.int .i64 301) ∧ Below w.heap.size w w' := by
  obtain ⟨c0, c1, c2, c3, c4, fz, lt⟩ := h
  go_enter Tryz.func120, Tryz.ntmps120
  go_wp2_with fail
  go_quiet (fail)
  go_wp2
  go_ret
  exact ⟨rfl, below_drewN (Below.refl _ _) _⟩

theorem extract_is (s : ByteArray) (f c : Nat) : s.extract f (f + c) = mk (((bs s).drop f).take c) := by
  rw [Lib.extract_eq s f (f + c), show f + c - f = c by omega]; rfl
theorem piece_len (s : ByteArray) (f c : Nat) : (((bs s).drop f).take c).length ≤ c := by simp; omega

theorem label_form (b c : Nat) (s : ByteArray) (x : St) (v : Value) (w : World) (hs : s.size ≤ 1125899906842624) (h : Way w b s x v) (ho : Texts w (b + 1) v x.labs) (hc : c ≤ 8) (hl : x.at_ + 1 + c ≤ s.size)
    (hno : okL (foldL (((bs s).drop (x.at_ + 1)).take c)) = false ∨ x.labs.length = 8) :
    Calls Tryz.prog 120 #[.pointer (some ⟨b, 0, none⟩), .int .i64 c] w fun e w' => e = .returned (.int .i64 300) ∧ Below w.heap.size w w' := by
  obtain ⟨a, cap, rfl⟩ := ho.form
  obtain ⟨c0, c1, c2, c3, c4, fz, lt⟩ := h
  have hx := extract_is s (x.at_ + 1) c
  have hn := piece_len s (x.at_ + 1) c
  generalize hraw : ((bs s).drop (x.at_ + 1)).take c = raw at hx hno hn
  have Hx : Hid (s.extract (x.at_ + 1) (x.at_ + 1 + c) = mk raw) := hx
  have HF : Hid (∀ w, Calls Tryz.prog 128 #[.string (s.extract (x.at_ + 1) (x.at_ + 1 + c))] w fun e w' => e = .returned (.string (mk (foldL raw))) ∧ Below w.heap.size w w') := by
    intro w; rw [hx]; exact fold_c (mk raw) w (by rw [size_mk]; unfold maxLen; omega)
  have hfl : (foldL raw).length = raw.length := by simp [foldL]
  have HL : Hid (∀ w, Calls Tryz.prog 129 #[.string (mk (foldL raw))] w fun e w' => (∃ v, e = .returned v ∧ Texts w' w.heap.size v (labsL (foldL raw))) ∧ Below w.heap.size w w') := by
    intro w; exact labels_c (mk (foldL raw)) w (by rw [size_mk, hfl]; unfold maxLen; omega)
  have hlen := labsL_len (foldL raw)
  have Hno : Hid (okL (foldL raw) = false → (labsL (foldL raw)).length ≠ 1) := labs_one_no
  generalize foldL raw = t at *
  clear hx hraw hfl
  generalize hn0 : x.labs.length = n0 at *
  have hd : Hid (∀ n, (w.drewN n).cell? ⟨b, 4, none⟩ = some (.slice a n0 cap)) := fun n => c4
  go_enter Tryz.func120, Tryz.ntmps120
  go_wp2_with fail
  go_quiet (fail)
  go_wp2_with fail
  refine (HF.out _).mono ?_; rintro e w1 ⟨rfl, hb1⟩
  go_wp2_with fail
  refine (HL.out _).mono ?_; rintro e w2 ⟨⟨v2, rfl, ht2⟩, hb2⟩
  obtain ⟨a2, cap2, rfl⟩ := ht2.form
  replace hb1 := bel_trans (below_drewN (Below.refl w.heap.size w) _) (bel_trans hb1 hb2)
  have d4 := (hb1.cell (p := ⟨b, 4, none⟩) lt).trans c4
  by_cases hk : okL t = false
  · have g : (((labsL t).length : Int) != 1) = true := by have := Hno.out hk; simp; omega
    generalize (labsL t).length = m at *
    clear hno hk
    go_wp2
    go_ret
    exact ⟨rfl, hb1⟩
  · have g8 : ((n0 : Int) == 8) = true := by have := hno.resolve_left hk; simp; omega
    generalize (labsL t).length = m at *
    clear hno hk
    by_cases g : ((m : Int) != 1) = true
    · go_wp2
      go_ret
      exact ⟨rfl, hb1⟩
    · have g' : ((m : Int) != 1) = false := by simpa using g
      clear g
      go_wp2
      go_ret
      exact ⟨rfl, hb1⟩

set_option maxRecDepth 100000 in
theorem label_ok (b c : Nat) (s : ByteArray) (x : St) (v : Value) (w : World) (hs : s.size ≤ 1125899906842624) (h : Way w b s x v) (ho : Texts w (b + 1) v x.labs) (hc : c ≤ 8) (hl : x.at_ + 1 + c ≤ s.size)
    (hok : okL (foldL (((bs s).drop (x.at_ + 1)).take c)) = true) (h7 : x.labs.length ≠ 8) (h8 : x.labs.length ≤ 8) :
    Calls Tryz.prog 120 #[.pointer (some ⟨b, 0, none⟩), .int .i64 c] w fun e w' => e = .returned (.int .i64 0) ∧
      (∃ v', Way w' b s { x with at_ := x.at_ + 1 + c, labs := x.labs ++ [foldL (((bs s).drop (x.at_ + 1)).take c)] } v' ∧ Texts w' (b + 1) v' (x.labs ++ [foldL (((bs s).drop (x.at_ + 1)).take c)])) ∧ Below b w w' := by
  obtain ⟨a, cap, rfl⟩ := ho.form
  have hway := h
  obtain ⟨c0, c1, c2, c3, c4, fz, lt⟩ := h
  have hx := extract_is s (x.at_ + 1) c
  have hn := piece_len s (x.at_ + 1) c
  generalize hraw : ((bs s).drop (x.at_ + 1)).take c = raw at hx hok hn ⊢
  have Hx : Hid (s.extract (x.at_ + 1) (x.at_ + 1 + c) = mk raw) := hx
  have HF : Hid (∀ w, Calls Tryz.prog 128 #[.string (s.extract (x.at_ + 1) (x.at_ + 1 + c))] w fun e w' => e = .returned (.string (mk (foldL raw))) ∧ Below w.heap.size w w') := by
    intro w; rw [hx]; exact fold_c (mk raw) w (by rw [size_mk]; unfold maxLen; omega)
  have hfl : (foldL raw).length = raw.length := by simp [foldL]
  have HL : Hid (∀ w, Calls Tryz.prog 129 #[.string (mk (foldL raw))] w fun e w' => (∃ v, e = .returned v ∧ Texts w' w.heap.size v [foldL raw]) ∧ Below w.heap.size w w') := by
    intro w; rw [← labs_one hok]; exact labels_c (mk (foldL raw)) w (by rw [size_mk, hfl]; unfold maxLen; omega)
  generalize foldL raw = t at *
  have Hok : Hid (okL t = true) := hok
  obtain ⟨i0, hi, hz0, hz1, hz2⟩ := info_parts Tryz.infoStr
  have hto : ((x.at_ : Int) + 1 + c) = ((x.at_ + 1 + c : Nat) : Int) := by omega
  have Hto : Hid (((x.at_ : Int) + 1 + c) = ((x.at_ + 1 + c : Nat) : Int)) := hto
  clear hx hraw hfl hok hto
  obtain ⟨ls, hls⟩ : ∃ ls, ls = x.labs := ⟨_, rfl⟩
  rw [← hls] at ho c4 hway h7 h8 ⊢
  have Hls : Hid (ls = x.labs) := hls
  clear hls
  have g8 : ((ls.length : Int) == 8) = false := by simp; omega
  have Hway : Hid (Way w b s x (.slice a ls.length cap)) := hway
  have Hown : Hid (Texts w (b + 1) (.slice a ls.length cap) ls) := ho
  clear hway ho
  go_enter Tryz.func120, Tryz.ntmps120
  go_wp2_with fail
  go_quiet (fail)
  go_wp2_with fail
  refine (HF.out _).mono ?_; rintro e w1 ⟨rfl, hb1⟩
  go_wp2_with fail
  refine (HL.out _).mono ?_; rintro e w2 ⟨⟨v2, rfl, ht2⟩, hb2⟩
  obtain ⟨a2, cap2, rfl⟩ := ht2.form
  replace hb1 := bel_trans (below_drewN (Below.refl w.heap.size w) _) (bel_trans hb1 hb2)
  have hw2 := Hway.out.below hb1 lt
  have hown2 := Hown.out.below hb1
  clear hb2 ht2 c0 c1 c2 c3 c4 fz
  have d4 := hw2.c4
  have lt2 := hw2.lt
  go_wp2_with (first
    | (at_builtin; refine wpList_append_own _ rfl _ _ 108 rfl (b + 1) 9 i0 (.string ByteArray.empty) 1 16 Tryz.underlying108 hi hz0 hz1 hz2 rfl (by decide) _ _ _ rfl (World.ownsRow.alloc hown2 _) ⟨w2.heap.size, 0, none⟩ 1 1 [.string (mk t)] rfl rfl ?c1 ?c2 ?c3 ?c4 ?c5 ?_)
    | go_in)
  case c1 =>
    intro j u hj
    match j, hj with
    | 0, hj => simp at hj; subst hj; simp [Addr.add]
  case c2 => intro u hu; simp at hu; subst hu; rfl
  case c3 => unfold maxLen; omega
  case c4 => omega
  case c5 => simp; omega
  · intro v' w3 hown' hgrow _
    have R : Texts w3 (b + 1) v' (ls ++ [t]) := texts_snoc hown'
    obtain ⟨a', cap', rfl⟩ := R.form
    have B : Below (b + 1) w2 w3 := ((Below.refl (b + 1) w2).alloc (by omega) _).grown hgrow (by simp; omega) (fun k hk => (World.ownsRow.lt hown2 k hk).1)
    have hw3 := hw2.below B (by omega)
    have H3 : Hid (Way w3 b s x (.slice a ls.length cap) ∧ Below b w w3 ∧ Texts w3 (b + 1) (.slice a' (ls ++ [t]).length cap') (ls ++ [t])) := ⟨hw3, (hb1.mono (by omega)).trans (B.mono (by omega)), R⟩
    have e4 := hw3.c4
    have f4 := hw3.fz 4
    have e1 := hw3.c1
    have f1 := hw3.fz 1
    clear hown' hgrow hown2 R B hw3 hw2 hb1 d4
    go_wp2
    go_ret
    obtain ⟨k1, k2, k3⟩ := H3.out
    have hl1 : (ls ++ [t]).length = ls.length + 1 := by simp
    rw [hl1] at k3
    have o1 := (Only.set (b := b) w3 4 (.slice a' (ls.length + 1) cap')).trans (Only.set _ 1 (.int .i64 ((x.at_ + 1 + c : Nat) : Int)))
    refine ⟨rfl, ⟨.slice a' (ls.length + 1) cap', ?_, ?_⟩, ?_⟩
    · rw [Hto.out]; exact ((k1.set4 (.slice a' (ls.length + 1) cap') (ls ++ [t])).set1 (x.at_ + 1 + c))
    · rw [Hto.out]; exact o1.2 _ _ k3
    · rw [Hto.out]; exact k2.trans o1.1

/-- What a step leaves. -/
def After (b : Nat) (s : ByteArray) (w : World) (r : Sum Int (Bool × St)) (e : Ending) (w' : World) : Prop :=
  match r with
  | .inl er => e = .returned (.tuple #[.bool false, .int .i64 er]) ∧ Below b w w'
  | .inr (d, y) => e = .returned (.tuple #[.bool d, .int .i64 0]) ∧ Below b w w' ∧ ∃ v', Way w' b s y v' ∧ Texts w' (b + 1) v' y.labs

theorem num2 (s : ByteArray) (a : Nat) : num s a 2 = bt s a * 256 + bt s (a + 1) := by simp [num]

theorem step_c0 (b : Nat) (s : ByteArray) (x : St) (v : Value) (w : World) (h : Way w b s x v) (hl : s.size ≤ x.at_) (_hs : s.size ≤ 1125899906842624) :
    Calls Tryz.prog 111 #[.pointer (some ⟨b, 0, none⟩)] w (After b s w (stepWire (bs s) x)) := by
  rw [wstep_past (by rw [length_bs]; exact hl)]
  obtain ⟨c0, c1, c2, c3, c4, fz, lt⟩ := h
  have hl' : (s.size : Int) ≤ (x.at_ : Int) := by omega
  go_enter Tryz.func111, Tryz.ntmps111
  go_wp2_with fail
  go_quiet (fail)
  go_wp2
  go_ret2
  exact ⟨rfl, (below_drewN (Below.refl _ _) _)⟩

theorem step_c1 (b : Nat) (s : ByteArray) (x : St) (v : Value) (w : World) (h : Way w b s x v) (ho : Texts w (b + 1) v x.labs) (hl : x.at_ < s.size) (hs : s.size ≤ 1125899906842624) (h8 : x.labs.length ≤ 8) :
    Calls Tryz.prog 111 #[.pointer (some ⟨b, 0, none⟩)] w (After b s w (stepWire (bs s) x)) := by
  obtain ⟨c, hc, hbt⟩ := bt_bs s x.at_ hl
  have hlb := length_bs s
  have hget := get_bt s x.at_ hl
  have lt := h.lt
  have HW : Hid (∀ n, Way (w.drewN n) b s x v ∧ Texts (w.drewN n) (b + 1) v x.labs ∧ Below w.heap.size w (w.drewN n)) := by
    intro n
    have B : Below w.heap.size w (w.drewN n) := below_drewN (Below.refl _ _) _
    exact ⟨h.below B lt, ho.below B, B⟩
  have hc255 : c.toNat < 256 := c.toNat_lt
  have hsz : s.size ≤ maxLen := by unfold maxLen; omega
  have hi1 : (x.at_ : Int) < (s.size : Int) := by omega
  have Hb : Hid (b ≤ w.heap.size) := Nat.le_of_lt lt
  obtain ⟨c0, c1, c2, c3, c4, fz, _⟩ := h
  by_cases hz : c.toNat = 0
  · rw [wstep_zero hc hz]
    rw [hbt, hz] at hget
    have hsum : ((x.at_ : Int) + 1) = ((x.at_ + 1 : Nat) : Int) := by omega
    have HG : Hid (∀ w, Way w b s x v → Calls Tryz.prog 119 #[.pointer (some ⟨b, 0, none⟩), .int .i64 ((x.at_ : Int) + 1)] w fun e w' => e = .returned (.tuple #[]) ∧ Way w' b s { x with en := goOn x.en (x.at_ + 1) } v ∧ Only b w w') := by
      intro w hw; rw [hsum]; exact goOnAt_c b s x v (x.at_ + 1) w hw
    clear hsum hc hbt ho h8
    go_enter Tryz.func111, Tryz.ntmps111
    go_wp2_with fail
    go_quiet (fail)
    go_wp2_with fail
    go_quiet (fail)
    go_wp2_with fail
    refine (HG.out _ (HW.out _).1).mono ?_; rintro e w1 ⟨rfl, hw1, ho1⟩
    have H1 : Hid (Way w1 b s { x with en := goOn x.en (x.at_ + 1) } v ∧ Texts w1 (b + 1) v x.labs ∧ Below b w w1) := ⟨hw1, ho1.2 _ _ (HW.out _).2.1, ((HW.out _).2.2.mono Hb.out).trans ho1.1⟩
    clear hget c0 c1 c2 c3 c4 fz hw1 ho1
    go_wp2
    go_ret2
    exact ⟨rfl, H1.out.2.2, _, H1.out.1, H1.out.2.1⟩
  · have g0 : ((c.toNat : Int) == 0) = false := by simp; omega
    rw [hbt] at hget
    by_cases h9 : c.toNat ≤ 8
    · have hle : (c.toNat : Int) ≤ 8 := by omega
      by_cases hshort : s.size < x.at_ + 1 + c.toNat
      · rw [wstep_short hc hz h9 (by omega)]
        have HC : Hid (∀ w, Way w b s x v → Calls Tryz.prog 120 #[.pointer (some ⟨b, 0, none⟩), .int .i64 c.toNat] w fun e w' => e = .returned (.int .i64 301) ∧ Below w.heap.size w w') := fun w hw => label_end b c.toNat s x v w hs hw h9 hl hshort
        generalize c.toNat = cn at *
        clear hc hbt ho h8 hshort
        go_enter Tryz.func111, Tryz.ntmps111
        go_wp2_with fail
        go_quiet (fail)
        go_wp2_with fail
        go_quiet (fail)
        go_wp2_with fail
        refine (HC.out _ (HW.out _).1).mono ?_; rintro e w1 ⟨rfl, hb1⟩
        have H1 : Hid (Below b w w1) := (bel_trans (HW.out _).2.2 hb1).mono Hb.out
        clear hget c0 c1 c2 c3 c4 fz hb1
        go_wp2
        go_ret2
        exact ⟨rfl, H1.out⟩
      · have hfit : x.at_ + 1 + c.toNat ≤ s.size := by omega
        by_cases hg : okL (foldL (((bs s).drop (x.at_ + 1)).take c.toNat)) = true ∧ x.labs.length ≠ 8
        · rw [wstep_label hc hz h9 (by omega) hg.1 hg.2]
          have HC : Hid (∀ w, Way w b s x v → Texts w (b + 1) v x.labs → Calls Tryz.prog 120 #[.pointer (some ⟨b, 0, none⟩), .int .i64 c.toNat] w fun e w' => e = .returned (.int .i64 0) ∧
              (∃ v', Way w' b s { x with at_ := x.at_ + 1 + c.toNat, labs := x.labs ++ [foldL (((bs s).drop (x.at_ + 1)).take c.toNat)] } v' ∧ Texts w' (b + 1) v' (x.labs ++ [foldL (((bs s).drop (x.at_ + 1)).take c.toNat)])) ∧ Below b w w') := fun w hw ho => label_ok b c.toNat s x v w hs hw ho h9 hfit hg.1 hg.2 h8
          generalize foldL (((bs s).drop (x.at_ + 1)).take c.toNat) = t at *
          generalize c.toNat = cn at *
          clear hc hbt ho h8 hshort hg
          go_enter Tryz.func111, Tryz.ntmps111
          go_wp2_with fail
          go_quiet (fail)
          go_wp2_with fail
          go_quiet (fail)
          go_wp2_with fail
          refine (HC.out _ (HW.out _).1 (HW.out _).2.1).mono ?_; rintro e w1 ⟨rfl, hv1, hb1⟩
          have H1 : Hid (Below b w w1) := ((HW.out _).2.2.mono Hb.out).trans hb1
          have H2 : Hid _ := hv1
          clear hget c0 c1 c2 c3 c4 fz hb1 hv1
          go_wp2
          go_ret2
          exact ⟨rfl, H1.out, H2.out⟩
        · have hno : okL (foldL (((bs s).drop (x.at_ + 1)).take c.toNat)) = false ∨ x.labs.length = 8 := by
            cases hq : okL (foldL (((bs s).drop (x.at_ + 1)).take c.toNat)) with
            | false => exact .inl rfl
            | true => right; exact Classical.not_not.1 fun hh => hg ⟨hq, hh⟩
          rw [wstep_form hc hz h9 (by omega) hno]
          have HC : Hid (∀ w, Way w b s x v → Texts w (b + 1) v x.labs → Calls Tryz.prog 120 #[.pointer (some ⟨b, 0, none⟩), .int .i64 c.toNat] w fun e w' => e = .returned (.int .i64 300) ∧ Below w.heap.size w w') := fun w hw ho => label_form b c.toNat s x v w hs hw ho h9 hfit hno
          generalize c.toNat = cn at *
          clear hc hbt ho h8 hshort hg hno
          go_enter Tryz.func111, Tryz.ntmps111
          go_wp2_with fail
          go_quiet (fail)
          go_wp2_with fail
          go_quiet (fail)
          go_wp2_with fail
          refine (HC.out _ (HW.out _).1 (HW.out _).2.1).mono ?_; rintro e w1 ⟨rfl, hb1⟩
          have H1 : Hid (Below b w w1) := (bel_trans (HW.out _).2.2 hb1).mono Hb.out
          clear hget c0 c1 c2 c3 c4 fz hb1
          go_wp2
          go_ret2
          exact ⟨rfl, H1.out⟩
    · have g9 : decide ((c.toNat : Int) ≤ 8) = false := by simp; omega
      by_cases hp : 192 ≤ c.toNat
      · have g192 : (192 : Int) ≤ (c.toNat : Int) := by omega
        by_cases hhalf : s.size < x.at_ + 2
        · rw [wstep_half hc hp (by omega)]
          have HC : Hid (∀ w, Way w b s x v → Calls Tryz.prog 121 #[.pointer (some ⟨b, 0, none⟩)] w fun e w' => e = .returned (.int .i64 301) ∧ Below w.heap.size w w') := fun w hw => jump_end b s x v w hsz hw hl hhalf
          generalize c.toNat = cn at *
          clear hc hbt ho h8 hhalf
          go_enter Tryz.func111, Tryz.ntmps111
          go_wp2_with fail
          go_quiet (fail)
          go_wp2_with fail
          go_quiet (fail)
          go_wp2_with fail
          refine (HC.out _ (HW.out _).1).mono ?_; rintro e w1 ⟨rfl, hb1⟩
          have H1 : Hid (Below b w w1) := (bel_trans (HW.out _).2.2 hb1).mono Hb.out
          clear hget c0 c1 c2 c3 c4 fz hb1
          go_wp2
          go_ret2
          exact ⟨rfl, H1.out⟩
        · obtain ⟨d, hd, hbd⟩ := bt_bs s (x.at_ + 1) (by omega)
          have hd255 : d.toNat < 256 := d.toNat_lt
          have hnum : num s x.at_ 2 = (((c.toNat - 192) * 256 + d.toNat : Nat) : Int) + 49152 := by rw [num2, hbt, hbd]; omega
          have hp2 : (c.toNat - 192) * 256 + d.toNat < 16384 := by omega
          by_cases hrow : (c.toNat - 192) * 256 + d.toNat < x.row
          · rw [wstep_point hc hd hp hrow]
            generalize (c.toNat - 192) * 256 + d.toNat = q at *
            have HC : Hid (∀ w, Way w b s x v → Calls Tryz.prog 121 #[.pointer (some ⟨b, 0, none⟩)] w fun e w' => e = .returned (.int .i64 0) ∧ Way w' b s { x with at_ := q, row := q, en := goOn x.en (x.at_ + 2) } v ∧ Only b w w') := fun w hw => jump_ok b q s x v w hsz hw (by omega) hnum hp2 hrow
            generalize c.toNat = cn at *
            clear hc hbt ho h8 hhalf hd hbd hnum hrow
            go_enter Tryz.func111, Tryz.ntmps111
            go_wp2_with fail
            go_quiet (fail)
            go_wp2_with fail
            go_quiet (fail)
            go_wp2_with fail
            refine (HC.out _ (HW.out _).1).mono ?_; rintro e w1 ⟨rfl, hw1, ho1⟩
            have H1 : Hid (Way w1 b s { x with at_ := q, row := q, en := goOn x.en (x.at_ + 2) } v ∧ Texts w1 (b + 1) v x.labs ∧ Below b w w1) := ⟨hw1, ho1.2 _ _ (HW.out _).2.1, ((HW.out _).2.2.mono Hb.out).trans ho1.1⟩
            clear hget c0 c1 c2 c3 c4 fz hw1 ho1
            go_wp2
            go_ret2
            exact ⟨rfl, H1.out.2.2, _, H1.out.1, H1.out.2.1⟩
          · rw [wstep_far hc hd hp (by omega)]
            generalize (c.toNat - 192) * 256 + d.toNat = q at *
            have HC : Hid (∀ w, Way w b s x v → Calls Tryz.prog 121 #[.pointer (some ⟨b, 0, none⟩)] w fun e w' => e = .returned (.int .i64 300) ∧ Below w.heap.size w w') := fun w hw => jump_far b q s x v w hsz hw (by omega) hnum hp2 (by omega)
            generalize c.toNat = cn at *
            clear hc hbt ho h8 hhalf hd hbd hnum hrow
            go_enter Tryz.func111, Tryz.ntmps111
            go_wp2_with fail
            go_quiet (fail)
            go_wp2_with fail
            go_quiet (fail)
            go_wp2_with fail
            refine (HC.out _ (HW.out _).1).mono ?_; rintro e w1 ⟨rfl, hb1⟩
            have H1 : Hid (Below b w w1) := (bel_trans (HW.out _).2.2 hb1).mono Hb.out
            clear hget c0 c1 c2 c3 c4 fz hb1
            go_wp2
            go_ret2
            exact ⟨rfl, H1.out⟩
      · have g192 : decide ((192 : Int) ≤ (c.toNat : Int)) = false := by simp; omega
        rw [wstep_none hc (by omega) (by omega)]
        generalize c.toNat = cn at *
        clear hc hbt ho h8
        go_enter Tryz.func111, Tryz.ntmps111
        go_wp2_with fail
        go_quiet (fail)
        go_wp2_with fail
        go_quiet (fail)
        go_wp2
        go_ret2
        exact ⟨rfl, ((HW.out _).2.2.mono Hb.out)⟩

theorem step_c (b : Nat) (s : ByteArray) (x : St) (v : Value) (w : World) (h : Way w b s x v) (ho : Texts w (b + 1) v x.labs) (hs : s.size ≤ 1125899906842624) (h8 : x.labs.length ≤ 8) :
    Calls Tryz.prog 111 #[.pointer (some ⟨b, 0, none⟩)] w (After b s w (stepWire (bs s) x)) := by
  by_cases hl : x.at_ < s.size
  · exact step_c1 b s x v w h ho hl hs h8
  · exact step_c0 b s x v w h (by omega) hs

theorem join_is (ls : List (List UInt8)) : Lib.join ls [46] = join ls := by
  induction ls with
  | nil => rfl
  | cons x r ih =>
    cases r with
    | nil => exact Lib.join_one x [46]
    | cons y r =>
      rw [Lib.join_cons, join_cons x (y :: r) (by simp), ← ih, Lib.join_cons]
      simp [Lib.joinTail]

/-- strings.Join of labels. -/
theorem join_c (v : Value) (ls : List (List UInt8)) (base : Nat) (w : World) (ho : Texts w base v ls) (h8 : ls.length ≤ 8) (hok : ∀ x ∈ ls, okL x = true) :
    Calls Tryz.prog 112 #[v, .string ⟨#[46]⟩] w fun e w' => e = .returned (.string (mk (join ls))) ∧ Below w.heap.size w w' := by
  rcases ho.cases with ⟨rfl, rfl⟩ | ⟨g, cap, rfl, hn, hm, hg, hgs, hc, hf⟩
  · exact (Tryz.strings_Join_none none 0 ⟨#[46]⟩ w).mono fun e w' ⟨h1, h2⟩ => ⟨h1, by rw [h2]; exact Below.refl _ _⟩
  · have hd : (⟨#[46]⟩ : ByteArray).data.toList = [46] := rfl
    have hmap : (ls.map mk).map (·.data.toList) = ls := by
      rw [List.map_map]
      have : ((fun x : ByteArray => x.data.toList) ∘ mk) = id := by funext l; rfl
      rw [this]; simp
    have := Tryz.strings_Join g 0 cap (ls.map mk) ⟨#[46]⟩ w ?_ hgs (by simp; omega) (by simpa using hn) ?_
    · rw [hmap, hd, join_is, List.length_map] at this
      exact this
    · intro j x hj
      rw [List.getElem?_map, Option.map_eq_some_iff] at hj
      obtain ⟨l, hl, rfl⟩ := hj
      have hjl : j < ls.length := (List.getElem?_eq_some_iff.1 hl).1
      have := hc j hjl
      rw [Nat.zero_add, this, List.getD_eq_getElem?_getD, hl]
      rfl
    · rw [hmap, hd, join_is]
      have := join_len ls hok
      omega

end Go.Proofs.YtdmooggmoihggaaGreatDoor

/-
  Contract of package wire's Get, at every text and place.
-/
namespace Go.Proofs.YtdmooggmoihggaaGreatDoor
set_option maxRecDepth 100000
open Go.ChangeShapes Go.WideShapes Go.ChangeAt Go.RowKit Go.Pin Go.PlainAid

/-- What a call of Get answers. -/
def told (r : List UInt8 × Int × Int) : Ending := .returned (.tuple #[.string (mk r.1), .int .i64 r.2.1, .int .i64 r.2.2])

theorem get_below (s : ByteArray) (a : Int) (w : World) (h : a < 0) : Calls Tryz.prog 100 #[.string s, .int .i64 a] w fun e w' => e = told ([], 0, 300) ∧ w' = w := by
  go_enter Tryz.func100, Tryz.ntmps100
  go_wp2
  go_ret3
  exact ⟨rfl, rfl⟩

theorem wstep_ok {s : List UInt8} {x y : St} {d : Bool} (h : stepWire s x = .inr (d, y)) (h8 : x.labs.length ≤ 8) (hok : ∀ l ∈ x.labs, okL l = true) : y.labs.length ≤ 8 ∧ ∀ l ∈ y.labs, okL l = true := by
  unfold stepWire at h
  split at h
  · cases h
  · simp only at h
    split at h
    · simp only [Sum.inr.injEq, Prod.mk.injEq] at h
      obtain ⟨_, rfl⟩ := h
      exact ⟨h8, hok⟩
    · split at h
      · split at h
        · cases h
        · split at h
          · rename_i hh
            simp only [Sum.inr.injEq, Prod.mk.injEq] at h
            obtain ⟨_, rfl⟩ := h
            refine ⟨by simp; omega, fun l hl => ?_⟩
            rcases List.mem_append.1 hl with hl | hl
            · exact hok l hl
            · simp at hl; subst hl; exact hh.1
          · cases h
      · split at h
        · split at h
          · cases h
          · split at h
            · cases h
            · simp only [Sum.inr.injEq, Prod.mk.injEq] at h
              obtain ⟨_, rfl⟩ := h
              exact ⟨h8, hok⟩
        · cases h

theorem wstep_err {s : List UInt8} {x : St} {e : Int} (h : stepWire s x = .inl e) : e = 300 ∨ e = 301 := by
  unfold stepWire at h
  split at h
  · cases h; simp
  · simp only at h
    split at h
    · cases h
    · split at h
      · split at h
        · cases h; simp
        · split at h
          · cases h
          · cases h; simp
      · split at h
        · split at h
          · cases h; simp
          · split at h
            · cases h; simp
            · cases h
        · cases h; simp

theorem get_from (s : ByteArray) (a : Nat) (w : World) (hs : s.size ≤ 1125899906842624) : Calls Tryz.prog 100 #[.string s, .int .i64 a] w fun e w' => e = told (getL (bs s) a) ∧ Below w.heap.size w w' := by
  have HR : Hid (getL (bs s) a = endWire (allWire (bs s) ⟨a, a, 0, []⟩)) := rfl
  generalize getL (bs s) a = R at *
  have hpos : 0 ≤ (a : Int) := by omega
  go_enter Tryz.func100, Tryz.ntmps100
  go_wp2_with fail
  go_loopg [8] (muWire (bs s) ⟨a, a, 0, []⟩ + 1) (fun k (d : Value) wr => ∃ (x : St) (v : Value), Way wr w.heap.size s x v ∧ Texts wr (w.heap.size + 1) v x.labs ∧ Below w.heap.size w wr ∧ x.labs.length ≤ 8 ∧ (∀ l ∈ x.labs, okL l = true) ∧ R = endWire (allWire (bs s) x) ∧ k = muWire (bs s) x + 1)
  case atStart =>
    refine ⟨⟨a, a, 0, []⟩, .slice none 0 0, ⟨?_, ?_, ?_, ?_, ?_, ?_, by simp⟩, World.ownsRow_nil _ _ _ _, (Below.refl _ _).alloc (Nat.le_refl _) _, by simp, by simp, HR.out, rfl⟩
    · exact new_cell _ _ _ _ _ rfl
    · exact new_cell _ _ _ _ _ rfl
    · exact new_cell _ _ _ _ _ rfl
    · exact new_cell _ _ _ _ _ rfl
    · exact new_cell _ _ _ _ _ rfl
    · exact fun j => new_frozen _ _ _ _
  case round =>
    obtain ⟨x, v, hw, ho, hb, h8, hok, hR, hk⟩ := hrel
    have lt := hw.lt
    have HC := step_c w.heap.size s x v wr hw ho hs h8
    have HK : Hid (gk = muWire (bs s) x + 1 ∧ R = endWire (allWire (bs s) x)) := ⟨hk, hR⟩
    have HO : Hid (x.labs.length ≤ 8 ∧ ∀ l ∈ x.labs, okL l = true) := ⟨h8, hok⟩
    have HB : Hid (Below w.heap.size w wr) := hb
    clear hR hk hw ho h8 hok HR hb
    cases hst : stepWire (bs s) x with
    | inl er =>
      rw [hst] at HC
      have H1 : Hid (R = ([], 0, er)) := by rw [HK.out.2, allWire_err hst]; rfl
      have her : (er != 0) = true := by rcases wstep_err hst with h | h <;> simp [h]
      clear hst
      go_wp2_with fail
      refine HC.mono ?_; rintro e w1 ⟨rfl, hb1⟩
      go_wp2
      go_ret3
      rw [H1.out]
      exact ⟨rfl, HB.out.trans hb1⟩
    | inr dy =>
      obtain ⟨d, y⟩ := dy
      rw [hst] at HC
      have Hy : Hid (y.labs.length ≤ 8 ∧ ∀ l ∈ y.labs, okL l = true) := wstep_ok hst HO.out.1 HO.out.2
      cases d with
      | false =>
        have H1 : Hid (R = endWire (allWire (bs s) y)) := by rw [HK.out.2, allWire_on hst]; rfl
        have H2 : Hid (muWire (bs s) y < muWire (bs s) x) := wstep_mu hst
        clear hst
        go_wp2_with fail
        refine HC.mono ?_; rintro e w1 ⟨rfl, hb1, v1, hw1, ht1⟩
        have H3 : Hid (Way w1 w.heap.size s y v1 ∧ Texts w1 (w.heap.size + 1) v1 y.labs ∧ Below w.heap.size w w1) := ⟨hw1, ht1, HB.out.trans hb1⟩
        clear hb1 hw1 ht1
        go_wp2
        go_roundg (muWire (bs s) y + 1)
        case measure => have := HK.out.1; have := H2.out; omega
        case rel => exact ⟨y, v1, H3.out.1, H3.out.2.1, H3.out.2.2, Hy.out.1, Hy.out.2, H1.out, rfl⟩
      | true =>
        have H1 : Hid (R = (join y.labs, (y.en : Int), 0)) := by rw [HK.out.2, allWire_end hst]; rfl
        clear hst
        go_wp2_with fail
        refine HC.mono ?_; rintro e w1 ⟨rfl, hb1, v1, hw1, ht1⟩
        have HJ : Hid (∀ w2, Below w1.heap.size w1 w2 → Calls Tryz.prog 112 #[v1, .string ⟨#[46]⟩] w2 fun e w' => e = .returned (.string (mk (join y.labs))) ∧ Below w2.heap.size w2 w') := fun w2 h2 => join_c v1 y.labs _ w2 (ht1.below h2) Hy.out.1 Hy.out.2
        have H3 : Hid (Below w.heap.size w w1) := HB.out.trans hb1
        have d4 := hw1.c4
        have d3 := hw1.c3
        have lt1 := hw1.lt
        clear hb1 hw1 ht1
        go_wp2_with fail
        go_region_with (refine (HJ.out _ (by first | exact Below.refl _ _ | exact (Below.refl _ _).drew)).mono ?_; rintro e w2 ⟨rfl, hb2⟩; have d3' := (hb2.cell (p := ⟨w.heap.size, 3, none⟩) (by simpa using lt1)).trans d3)
        all_goals
          go_wp2
          go_ret3
          rw [H1.out]
          exact ⟨rfl, H3.out.trans (Below.mono (bel_trans ((Below.refl _ w1).drew) hb2) H3.out.size)⟩

/-- Get, at every text and place. -/
def getI (s : List UInt8) (a : Int) : List UInt8 × Int × Int := if a < 0 then ([], 0, 300) else getL s a.toNat
theorem get_c (s : ByteArray) (a : Int) (w : World) (hs : s.size ≤ 1125899906842624) : Calls Tryz.prog 100 #[.string s, .int .i64 a] w fun e w' => e = told (getI (bs s) a) ∧ Below w.heap.size w w' := by
  by_cases h : a < 0
  · rw [getI, if_pos h]
    exact (get_below s a w h).mono fun e w' ⟨h1, h2⟩ => ⟨h1, by rw [h2]; exact Below.refl _ _⟩
  · rw [getI, if_neg h]
    have := get_from s a.toNat w hs
    rwa [show ((a.toNat : Nat) : Int) = a by omega] at this
/-- .. its answer named. -/
theorem get_is (s : ByteArray) (a : Int) (n : ByteArray) (t e0 : Int) (w : World) (hs : s.size ≤ 1125899906842624) (h : getI (bs s) a = (bs n, t, e0)) : Calls Tryz.prog 100 #[.string s, .int .i64 a] w fun e w' => e = .returned (.tuple #[.string n, .int .i64 t, .int .i64 e0]) ∧ Below w.heap.size w w' := by
  have := get_c s a w hs
  rw [h, told, mk_bs] at this
  exact this

end Go.Proofs.YtdmooggmoihggaaGreatDoor

/-
  Lists of known names: how they lie in memory; contracts of the laws' SameKnowns and of the references knownMay and where.
-/
namespace Go.Proofs.YtdmooggmoihggaaGreatDoor
set_option maxRecDepth 100000
open Go.ChangeShapes Go.WideShapes Go.ChangeAt Go.RowKit Go.Pin Go.PlainAid

/-- The j-th of them. -/
def knAt (ks : List Kn) (j : Nat) : Kn := ks.getD j ([], 0)
/-- The two cells of one of them. -/
def KnCell (w : World) (y : Addr) (k : Kn) : Prop := w.cell? y = some (.string (mk k.1)) ∧ w.cell? ⟨y.block, y.off + 1, none⟩ = some (.int .i64 k.2)
/-- The known names ks lie from x on. -/
def KnFrom (w : World) (x : Addr) (ks : List Kn) : Prop := ∀ j, j < ks.length → KnCell w (x.add (j * 2)) (knAt ks j)
/-- The known names ks lie behind the address a. -/
def KnLies (w : World) (a : Option Addr) (ks : List Kn) : Prop := ks = [] ∨ ∃ x, a = some x ∧ KnFrom w x ks

theorem findK_at (ks : List Kn) (x : List UInt8) : (∃ j, j < ks.length ∧ (knAt ks j).1 = x ∧ findK ks x = some (knAt ks j).2 ∧ ∀ i, i < j → (knAt ks i).1 ≠ x) ∨ (findK ks x = none ∧ ∀ i, i < ks.length → (knAt ks i).1 ≠ x) := by
  induction ks with
  | nil => exact .inr ⟨rfl, fun i hi => by simp at hi⟩
  | cons k r ih =>
    by_cases h : k.1 = x
    · exact .inl ⟨0, by simp, h, by simp [findK, h, knAt], fun i hi => by omega⟩
    · rcases ih with ⟨j, hj, h1, h2, h3⟩ | ⟨h1, h2⟩
      · refine .inl ⟨j + 1, by simp; omega, h1, by simp [findK, h, h2, knAt], fun i hi => ?_⟩
        cases i with
        | zero => exact h
        | succ i => exact h3 i (by omega)
      · refine .inr ⟨by simp [findK, h, h1], fun i hi => ?_⟩
        cases i with
        | zero => exact h
        | succ i => exact h2 i (by simp at hi; omega)

theorem retn_int {k : IntKind} {a b : Int} (h : a = b) : Ending.returned (Value.int k a) = .returned (.int k b) := by rw [h]

theorem where_from (x : Addr) (cap : Nat) (ks : List Kn) (n : List UInt8) (w : World) (hl : ks.length ≤ 1000000000) (h : KnFrom w x ks) :
    Calls Tryz.prog 80 #[.slice (some x) ks.length cap, .string (mk n)] w fun e w' => e = .returned (.int .i64 ((findK ks n).getD (-1))) ∧ w' = w := by
  have HF : Hid (_) := findK_at ks n
  generalize findK ks n = V at *
  have H : Hid (KnFrom w x ks) := h
  clear h
  go_enter Tryz.func80, Tryz.ntmps80
  go_wp2
  go_loop [5] (fun i => ∃ j : Nat, j ≤ ks.length ∧ i = .int .i64 j ∧ Hid (∀ i, i < j → (knAt ks i).1 ≠ n)) (fun i => ks.length - (intOf i).toNat)
  case atStart => exact ⟨0, Nat.zero_le _, rfl, fun i hi => by omega⟩
  case round =>
    obtain ⟨j, hj, rfl, hall⟩ := hrel
    by_cases hlt : j < ks.length
    · obtain ⟨h0, h1⟩ := H.out j hlt
      by_cases he : (knAt ks j).1 = n
      · have heq := eq_yes (congrArg mk he)
        have HV : Hid (V.getD (-1) = (knAt ks j).2) := by
          rcases HF.out with ⟨i, hi, h1, h2, h3⟩ | ⟨h1, h2⟩
          · have : i = j := by
              rcases Nat.lt_trichotomy i j with hh | hh | hh
              · exact absurd h1 (hall.out i hh)
              · exact hh
              · exact absurd he (h3 j hh)
            subst this; rw [h2]; rfl
          · exact absurd he (h2 j hlt)
        clear he HF hall
        go_wp2
        go_ret
        exact ⟨retn_int HV.out.symm, rfl⟩
      · have heq := eq_no (fun e => he (mk_inj e))
        have Hne : Hid ((knAt ks j).1 ≠ n) := he
        clear he
        go_wp2
        go_round
        case rel => exact ⟨j + 1, by omega, by go_num, fun i hi => by by_cases e : i = j; (subst e; exact Hne.out); exact hall.out i (by omega)⟩
        case measure => simp [intOf]; omega
    · obtain rfl : j = ks.length := by omega
      have HV : Hid (V = none) := by
        rcases HF.out with ⟨i, hi, h1, h2, h3⟩ | ⟨h1, h2⟩
        · exact absurd h1 (hall.out i hi)
        · exact h1
      go_wp2
      go_ret
      exact ⟨by rw [HV.out]; rfl, rfl⟩

theorem where_none (a : Option Addr) (cap : Nat) (n : List UInt8) (w : World) :
    Calls Tryz.prog 80 #[.slice a 0 cap, .string (mk n)] w fun e w' => e = .returned (.int .i64 (-1)) ∧ w' = w := by
  go_enter Tryz.func80, Tryz.ntmps80
  go_wp2
  go_rounds 1
  go_ret
  exact ⟨rfl, rfl⟩

theorem where_c (a : Option Addr) (cap : Nat) (ks : List Kn) (n : List UInt8) (w : World) (hl : ks.length ≤ 1000000000) (h : KnLies w a ks) :
    Calls Tryz.prog 80 #[.slice a ks.length cap, .string (mk n)] w fun e w' => e = .returned (.int .i64 ((findK ks n).getD (-1))) ∧ w' = w := by
  rcases h with rfl | ⟨x, rfl, h⟩
  · exact where_none a cap n w
  · exact where_from x cap ks n w hl h

theorem knownMay_none (a : Option Addr) (cap : Nat) (w : World) :
    Calls Tryz.prog 79 #[.slice a 0 cap] w fun e w' => e = .returned (.bool true) ∧ w' = w := by
  go_enter Tryz.func79, Tryz.ntmps79
  go_wp2
  go_rounds 1
  go_ret
  exact ⟨rfl, rfl⟩

theorem known_cases (k : Kn) : (knownL k = false ∧ k.1 = []) ∨ (knownL k = false ∧ k.1 ≠ [] ∧ mayL k.1 = false) ∨ (knownL k = false ∧ k.1 ≠ [] ∧ mayL k.1 = true ∧ k.2 < 0) ∨ (knownL k = false ∧ k.1 ≠ [] ∧ mayL k.1 = true ∧ 16384 ≤ k.2) ∨ (knownL k = true ∧ k.1 ≠ [] ∧ mayL k.1 = true ∧ 0 ≤ k.2 ∧ k.2 < 16384) := by
  by_cases h0 : k.1 = []
  · exact .inl ⟨by simp [knownL, h0], h0⟩
  · cases h1 : mayL k.1 with
    | false => exact .inr (.inl ⟨by simp [knownL, h1], h0, rfl⟩)
    | true =>
      by_cases h2 : k.2 < 0
      · exact .inr (.inr (.inl ⟨by simp [knownL]; omega, h0, rfl, h2⟩))
      · by_cases h3 : 16384 ≤ k.2
        · exact .inr (.inr (.inr (.inl ⟨by simp [knownL]; omega, h0, rfl, h3⟩)))
        · exact .inr (.inr (.inr (.inr ⟨by simp [knownL, h0, h1]; omega, h0, rfl, by omega, by omega⟩)))

theorem empty_mk_yes {l : List UInt8} (h : l = []) : (mk l).toList.isEmpty = true := empty_yes (by rw [h]; rfl)
theorem empty_mk_no {l : List UInt8} (h : l ≠ []) : (mk l).toList.isEmpty = false := empty_no (by rw [size_mk]; intro e; exact h (List.eq_nil_of_length_eq_zero e))
theorem all_no {ks : List Kn} {j : Nat} (hj : j < ks.length) (h : knownL (knAt ks j) = false) : ks.all knownL = false := by
  rw [List.all_eq_false]
  refine ⟨knAt ks j, ?_, by simp [h]⟩
  unfold knAt
  rw [List.getD_eq_getElem?_getD, List.getElem?_eq_getElem hj]
  exact List.getElem_mem hj
theorem all_yes {ks : List Kn} (h : ∀ j, j < ks.length → knownL (knAt ks j) = true) : ks.all knownL = true := by
  rw [List.all_eq_true]
  intro k hk
  obtain ⟨j, hj, rfl⟩ := List.getElem_of_mem hk
  have := h j hj
  unfold knAt at this
  rwa [List.getD_eq_getElem?_getD, List.getElem?_eq_getElem hj] at this
theorem KnCell.below {w w' : World} {y : Addr} {k : Kn} (h : KnCell w y k) (hb : Below w.heap.size w w') : KnCell w' y k := by
  obtain ⟨h0, h1⟩ := h
  exact ⟨(hb.cell (World.block_lt_of_cell? w _ h0)).trans h0, (hb.cell (World.block_lt_of_cell? w _ h1)).trans h1⟩
theorem KnFrom.below {w w' : World} {x : Addr} {ks : List Kn} (h : KnFrom w x ks) (hb : Below w.heap.size w w') : KnFrom w' x ks := fun j hj => (h j hj).below hb
theorem KnLies.below {w w' : World} {a : Option Addr} {ks : List Kn} (h : KnLies w a ks) (hb : Below w.heap.size w w') : KnLies w' a ks := by
  rcases h with h | ⟨x, rfl, h⟩
  · exact .inl h
  · exact .inr ⟨x, rfl, h.below hb⟩

theorem knownMay_from (x : Addr) (cap : Nat) (ks : List Kn) (w : World) (hl : ks.length ≤ 1000000000) (hs : ∀ k ∈ ks, k.1.length ≤ 1048576) (h : KnFrom w x ks) :
    Calls Tryz.prog 79 #[.slice (some x) ks.length cap] w fun e w' => e = .returned (.bool (ks.all knownL)) ∧ Below w.heap.size w w' := by
  have Hno : Hid (∀ j, j < ks.length → knownL (knAt ks j) = false → ks.all knownL = false) := fun j => all_no
  have Hyes : Hid ((∀ j, j < ks.length → knownL (knAt ks j) = true) → ks.all knownL = true) := all_yes
  generalize ks.all knownL = V at *
  have H : Hid (KnFrom w x ks) := h
  have Hs : Hid (∀ j, j < ks.length → (knAt ks j).1.length ≤ 1048576) := by
    intro j hj
    apply hs
    unfold knAt
    rw [List.getD_eq_getElem?_getD, List.getElem?_eq_getElem hj]
    exact List.getElem_mem hj
  clear h hs
  go_enter Tryz.func79, Tryz.ntmps79
  go_wp2
  go_loopw [3] (fun i wr => ∃ j : Nat, j ≤ ks.length ∧ i = .int .i64 j ∧ Hid (∀ i, i < j → knownL (knAt ks i) = true) ∧ Below w.heap.size w wr) (fun i _ => ks.length - (intOf i).toNat)
  case atStart => exact ⟨0, Nat.zero_le _, rfl, fun i hi => by omega, Below.refl _ _⟩
  case round =>
    obtain ⟨j, hj, rfl, hall, B⟩ := hrel
    by_cases hlt : j < ks.length
    · obtain ⟨h0, h1⟩ := (H.out j hlt).below B
      have hn := Hno.out j hlt
      have hsz := Hs.out j hlt
      have hall' : Hid (knownL (knAt ks j) = true → ∀ i, i < j + 1 → knownL (knAt ks i) = true) := fun hk i hi => by by_cases e : i = j; (subst e; exact hk); exact hall.out i (by omega)
      have hcs := known_cases (knAt ks j)
      have HM : Hid (∀ w b, mayL (knAt ks j).1 = b → Calls Tryz.prog 33 #[.string (mk (knAt ks j).1)] w fun e w' => e = .returned (.bool b) ∧ Below w.heap.size w w') := by
        intro w b hb; rw [← hb]; exact nameMay_c (mk (knAt ks j).1) w (by rw [size_mk]; exact hsz)
      generalize knAt ks j = k at *
      obtain ⟨n, a⟩ := k
      clear hall Hno
      simp only at hcs h0 h1 HM hsz
      rcases hcs with ⟨hk, hc⟩ | ⟨hk, hc, hm⟩ | ⟨hk, hc, hm, ha⟩ | ⟨hk, hc, hm, ha⟩ | ⟨hk, hc, hm, ha, hb⟩
      · have he := empty_mk_yes hc
        have HV : Hid (V = false) := hn hk
        clear hn hc hk hall' HM
        go_wp2
        go_ret
        exact ⟨ret_bool HV.out.symm, B⟩
      · have he := empty_mk_no hc
        have HV : Hid (V = false) := hn hk
        have HC : Hid (_) := fun w => HM.out w _ hm
        clear hn hc hk hall' HM hm
        go_wp2_with fail
        refine (HC.out _).mono ?_; rintro e w1 ⟨rfl, hb1⟩
        replace B := B.trans (hb1.mono B.size)
        clear h0 h1 hb1
        go_wp2
        go_ret
        exact ⟨ret_bool HV.out.symm, B⟩
      · have he := empty_mk_no hc
        have HV : Hid (V = false) := hn hk
        have HC : Hid (_) := fun w => HM.out w _ hm
        clear hn hc hk hall' HM hm
        go_wp2_with fail
        refine (HC.out _).mono ?_; rintro e w1 ⟨rfl, hb1⟩
        replace B := B.trans (hb1.mono B.size)
        obtain ⟨h0', h1'⟩ := KnCell.below (k := (n, a)) ⟨h0, h1⟩ hb1
        clear h0 h1 hb1
        go_wp2
        go_ret
        exact ⟨ret_bool HV.out.symm, B⟩
      · have he := empty_mk_no hc
        have HV : Hid (V = false) := hn hk
        have HC : Hid (_) := fun w => HM.out w _ hm
        have ha0 : decide (a < 0) = false := by simp; omega
        clear hn hc hk hall' HM hm
        go_wp2_with fail
        refine (HC.out _).mono ?_; rintro e w1 ⟨rfl, hb1⟩
        replace B := B.trans (hb1.mono B.size)
        obtain ⟨h0', h1'⟩ := KnCell.below (k := (n, a)) ⟨h0, h1⟩ hb1
        clear h0 h1 hb1
        go_wp2
        go_ret
        exact ⟨ret_bool HV.out.symm, B⟩
      · have he := empty_mk_no hc
        have Hall : Hid (∀ i, i < j + 1 → knownL (knAt ks i) = true) := hall'.out hk
        have HC : Hid (_) := fun w => HM.out w _ hm
        have ha0 : decide (a < 0) = false := by simp; omega
        have hb0 : decide (16384 ≤ a) = false := by simp; omega
        clear hn hc hk hall' HM hm
        go_wp2_with fail
        refine (HC.out _).mono ?_; rintro e w1 ⟨rfl, hb1⟩
        replace B := B.trans (hb1.mono B.size)
        obtain ⟨h0', h1'⟩ := KnCell.below (k := (n, a)) ⟨h0, h1⟩ hb1
        clear h0 h1 hb1
        go_wp2
        go_roundw
        case rel => exact ⟨j + 1, by omega, by go_num, Hall, B⟩
        case measure => simp [intOf]; omega
    · obtain rfl : j = ks.length := by omega
      have HV : Hid (V = true) := Hyes.out hall.out
      go_wp2
      go_ret
      exact ⟨ret_bool HV.out.symm, B⟩

theorem knownMay_c (a : Option Addr) (cap : Nat) (ks : List Kn) (w : World) (hl : ks.length ≤ 1000000000) (hs : ∀ k ∈ ks, k.1.length ≤ 1048576) (h : KnLies w a ks) :
    Calls Tryz.prog 79 #[.slice a ks.length cap] w fun e w' => e = .returned (.bool (ks.all knownL)) ∧ Below w.heap.size w w' := by
  rcases h with rfl | ⟨x, rfl, h⟩
  · exact (knownMay_none a cap w).mono fun e w' ⟨h1, h2⟩ => ⟨h1, by rw [h2]; exact Below.refl _ _⟩
  · exact knownMay_from x cap ks w hl hs h


/-! ### lists of known names that a call made -/
def knCells (ks : List Kn) : List Value := ks.flatMap fun k => [.string (mk k.1), .int .i64 k.2]
theorem knCells_len (ks : List Kn) : (knCells ks).length = ks.length * 2 := by
  induction ks with
  | nil => rfl
  | cons k r ih =>
    have hc : knCells (k :: r) = .string (mk k.1) :: .int .i64 k.2 :: knCells r := rfl
    rw [hc, List.length_cons, List.length_cons, List.length_cons, ih]; omega
theorem knCells_append (a b : List Kn) : knCells (a ++ b) = knCells a ++ knCells b := by simp [knCells]
theorem knCells_at (ks : List Kn) : ∀ j, j < ks.length → (knCells ks)[j * 2]? = some (.string (mk (knAt ks j).1)) ∧ (knCells ks)[j * 2 + 1]? = some (.int .i64 (knAt ks j).2) := by
  induction ks with
  | nil => intro j hj; simp at hj
  | cons k r ih =>
    intro j hj
    have hc : knCells (k :: r) = .string (mk k.1) :: .int .i64 k.2 :: knCells r := rfl
    cases j with
    | zero => exact ⟨rfl, rfl⟩
    | succ j =>
      obtain ⟨h1, h2⟩ := ih j (by simp at hj; omega)
      rw [hc, show (j + 1) * 2 = j * 2 + 1 + 1 by omega, show j * 2 + 1 + 1 + 1 = (j * 2 + 1) + 1 + 1 by omega]
      exact ⟨h1, h2⟩
theorem knCells_one (ks : List Kn) : ∀ u ∈ knCells ks, u.oneCell' = true := by
  intro u hu
  simp only [knCells, List.mem_flatMap] at hu
  obtain ⟨k, _, hu⟩ := hu
  simp at hu
  rcases hu with rfl | rfl <;> rfl
/-- A list of known names that the call itself made. -/
def Knowns (w : World) (base : Nat) (v : Value) (ks : List Kn) : Prop := w.ownsRow base 123 2 v ks.length (knCells ks)

theorem cells_of_from {w : World} {x : Addr} {ks : List Kn} (h : KnFrom w x ks) : ∀ j u, (knCells ks)[j]? = some u → w.cell? (x.add j) = some u := by
  intro j u hj
  have hjl : j < (knCells ks).length := (List.getElem?_eq_some_iff.1 hj).1
  rw [knCells_len] at hjl
  obtain ⟨h1, h2⟩ := knCells_at ks (j / 2) (by omega)
  obtain ⟨g1, g2⟩ := h (j / 2) (by omega)
  rcases Nat.mod_two_eq_zero_or_one j with hm | hm
  · rw [show j = j / 2 * 2 by omega] at hj ⊢
    rw [h1] at hj
    rw [g1, hj]
  · rw [show j = j / 2 * 2 + 1 by omega] at hj ⊢
    rw [h2] at hj
    rw [← hj, ← g2]
    congr 1
    unfold Addr.add
    rw [if_neg (by omega)]
    by_cases hz : j / 2 * 2 = 0
    · rw [if_pos hz, hz]
    · rw [if_neg hz]; simp only [Addr.mk.injEq, and_true, true_and]; omega

theorem Knowns.lies {w : World} {base : Nat} {v : Value} {ks : List Kn} (h : Knowns w base v ks) : ∃ a cap, v = .slice a ks.length cap ∧ KnLies w a ks := by
  have hh := h
  obtain ⟨_, h | ⟨g, cap, cur, hv, hg, hb, hn, hm, hz, ht⟩⟩ := h
  · exact ⟨none, 0, by rw [h.1, h.2], .inl (List.eq_nil_of_length_eq_zero h.2)⟩
  · refine ⟨_, cap, hv, .inr ⟨_, rfl, fun j hj => ?_⟩⟩
    subst hv
    have key : ∀ i, i < ks.length * 2 → w.cell? ⟨g, i, none⟩ = (knCells ks)[i]? := by
      intro i hi
      simp only [World.cell?, hb]
      rw [← ht, List.getElem?_take, if_pos hi]
      simp
    obtain ⟨h1, h2⟩ := knCells_at ks j hj
    refine ⟨?_, ?_⟩
    · rw [addr_add, Nat.zero_add, key _ (by omega), h1]
    · rw [addr_add]
      simp only [Nat.zero_add]
      rw [key _ (by omega), h2]
theorem Knowns.below {w w' : World} {base : Nat} {v : Value} {ks : List Kn} (h : Knowns w base v ks) (hb : Below w.heap.size w w') : Knowns w' base v ks := by
  obtain ⟨h1, h2⟩ := h
  refine ⟨h1, ?_⟩
  rcases h2 with h2 | ⟨g, cap, cur, hv, hg, hh, r⟩
  · exact .inl h2
  · exact .inr ⟨g, cap, cur, hv, hg, (hb.block g (Array.getElem?_eq_some_iff.1 hh).1).trans hh, r⟩
theorem Knowns.base {w : World} {b b' : Nat} {v : Value} {ks : List Kn} (h : Knowns w b v ks) (hb : b' ≤ b) : Knowns w b' v ks := by
  obtain ⟨h1, h2⟩ := h
  refine ⟨h1, ?_⟩
  rcases h2 with h2 | ⟨g, cap, cur, hv, hg, r⟩
  · exact .inl h2
  · exact .inr ⟨g, cap, cur, hv, Nat.le_trans hb hg, r⟩
theorem Tryz.infoKn : (Tryz.prog.info? 123).map (fun i => (i.zero, i.size, i.bytes)) = some (some (.agg #[.string ByteArray.empty, .int .i64 0]), 2, 24) := by kernel_rfl

end Go.Proofs.YtdmooggmoihggaaGreatDoor

/-
  Contracts of what package wire's Put asks first: which known names may be, whether a name may be put; a name cut at its first point.
-/
namespace Go.Proofs.YtdmooggmoihggaaGreatDoor
set_option maxRecDepth 100000
open Go.ChangeShapes Go.WideShapes Go.ChangeAt Go.RowKit Go.Pin Go.PlainAid Go.Maps

theorem number_1 (x : Int) (w : World) (h0 : 0 ≤ x) (h1 : x < 256) : Calls Tryz.prog 110 #[.int .i64 x, .int .i64 1] w fun e w' => e = .returned (.string (be x 1)) ∧ Below w.heap.size w w' := by
  go_enter Tryz.func110, Tryz.ntmps110
  go_wp2_with fail
  refine (put_1 x _ h0 h1).mono ?_; rintro e w1 ⟨rfl, hb⟩
  go_wp2
  go_ret
  exact ⟨rfl, hb⟩
theorem number_2 (x : Int) (w : World) (h0 : 0 ≤ x) (h1 : x < 65536) : Calls Tryz.prog 110 #[.int .i64 x, .int .i64 2] w fun e w' => e = .returned (.string (be x 2)) ∧ Below w.heap.size w w' := by
  go_enter Tryz.func110, Tryz.ntmps110
  go_wp2_with fail
  refine (put_2 x _ h0 h1).mono ?_; rintro e w1 ⟨rfl, hb⟩
  go_wp2
  go_ret
  exact ⟨rfl, hb⟩

/-- The label that is first, and what is behind it. -/
def headL (l : List UInt8) : List UInt8 := l.takeWhile (· ≠ 46)
def tailL (l : List UInt8) : List UInt8 := (l.dropWhile (· ≠ 46)).drop 1
theorem head_hit (a b : List UInt8) (h : (46 : UInt8) ∉ a) : headL (a ++ 46 :: b) = a ∧ tailL (a ++ 46 :: b) = b := by
  induction a with
  | nil => simp [headL, tailL]
  | cons c a ih =>
    simp only [List.mem_cons, not_or] at h
    have hc : c ≠ 46 := fun e => h.1 e.symm
    obtain ⟨h1, h2⟩ := ih h.2
    unfold headL tailL at *
    simp only [List.cons_append, ne_eq, hc, not_false_eq_true, decide_true, List.takeWhile_cons_of_pos, List.dropWhile_cons_of_pos]
    exact ⟨by rw [h1], h2⟩
theorem head_miss (a : List UInt8) (h : (46 : UInt8) ∉ a) : headL a = a ∧ tailL a = [] := by
  induction a with
  | nil => simp [headL, tailL]
  | cons c a ih =>
    simp only [List.mem_cons, not_or] at h
    have hc : c ≠ 46 := fun e => h.1 e.symm
    obtain ⟨h1, h2⟩ := ih h.2
    unfold headL tailL at *
    simp only [ne_eq, hc, not_false_eq_true, decide_true, List.takeWhile_cons_of_pos, List.dropWhile_cons_of_pos]
    exact ⟨by rw [h1], h2⟩

theorem cutAt (l : List UInt8) (w : World) (hs : l.length ≤ maxLen) : Calls Tryz.prog 103 #[.string (mk l), .string ⟨#[46]⟩] w fun e w' => (∃ m, e = .returned (.tuple #[.string (mk (headL l)), .string (mk (tailL l)), .bool m])) ∧ Below w.heap.size w w' := by
  rcases cut_step l with ⟨x, b, rfl, hx⟩ | hx
  · obtain ⟨h1, h2⟩ := head_hit x b hx
    rw [h1, h2]
    exact (cut_hit _ x b w rfl hx (by rw [size_mk]; exact hs)).mono fun e w' ⟨h1, h2⟩ => ⟨⟨_, h1⟩, h2⟩
  · obtain ⟨h1, h2⟩ := head_miss l hx
    rw [h1, h2]
    exact (cut_miss (mk l) w hx).mono fun e w' ⟨h1, h2⟩ => ⟨⟨_, h1⟩, by rw [h2]; exact Below.refl _ _⟩

theorem tailOf_c (l : List UInt8) (w : World) (hs : l.length ≤ maxLen) : Calls Tryz.prog 109 #[.string (mk l)] w fun e w' => e = .returned (.agg #[.string (mk (headL l)), .string (mk (tailL l))]) ∧ Below w.heap.size w w' := by
  have HC : Hid (∀ w, _) := fun w => cutAt l w hs
  go_enter Tryz.func109, Tryz.ntmps109
  go_wp2_with fail
  refine (HC.out _).mono ?_; rintro e w1 ⟨⟨m, rfl⟩, hb⟩
  have hlt : w.heap.size < (w.alloc (Obj.cells #[Value.string { data := #[] }, Value.string { data := #[] }] 154)).heap.size := by simp
  have c0 := (hb.cell (p := ⟨w.heap.size, 0, none⟩) hlt).trans (new_cell w _ _ 0 _ rfl)
  have c1 := (hb.cell (p := ⟨w.heap.size, 1, none⟩) hlt).trans (new_cell w _ _ 1 _ rfl)
  have f0 := (hb.frozen (p := ⟨w.heap.size, 0, none⟩) hlt).trans (new_frozen w _ _ 0)
  have f1 := (hb.frozen (p := ⟨w.heap.size, 1, none⟩) hlt).trans (new_frozen w _ _ 1)
  have H : Hid (Below w.heap.size w w1) := bel_trans ((Below.refl _ _).alloc (Nat.le_refl _) _) hb
  clear hb
  go_wp2
  generalize hX : (w1.setCell ⟨w.heap.size, 0, none⟩ (.string (mk (headL l)))).setCell ⟨w.heap.size, 1, none⟩ (.string (mk (tailL l))) = w2
  have q0 : w2.cell? ⟨w.heap.size, 0, none⟩ = some (.string (mk (headL l))) := by
    rw [← hX, World.cell?_setCell_other _ _ _ _ (by intro e; injection e with _ e; omega)]
    exact World.cell?_setCell_same _ _ _ c0
  have q1 : w2.cell? ⟨w.heap.size, 1, none⟩ = some (.string (mk (tailL l))) := by
    have c1' : (w1.setCell ⟨w.heap.size, 0, none⟩ (.string (mk (headL l)))).cell? ⟨w.heap.size, 1, none⟩ = some (.string ⟨#[]⟩) := by
      rw [World.cell?_setCell_other _ _ _ _ (by intro e; injection e with _ e; omega)]
      exact c1
    rw [← hX]
    exact World.cell?_setCell_same _ _ _ c1'
  have B : Below w.heap.size w w2 := by rw [← hX]; exact (H.out.setCell (Nat.le_refl _) _).setCell (Nat.le_refl _) _
  clear hX c0 c1 f0 f1
  refine bodyPost_ret (v := .agg #[.string (mk (headL l)), .string (mk (tailL l))]) (by simp [results, Tryz.results109, go_sem, q0, q1]) rfl ⟨rfl, B⟩

theorem mayNot_c (n : List UInt8) (a : Int) (w : World) (hs : n.length ≤ maxLen) : Calls Tryz.prog 118 #[.agg #[.string (mk n), .int .i64 a]] w fun e w' => e = .returned (.bool (!knownL (n, a))) ∧ Below w.heap.size w w' := by
  have HM : Hid (∀ w b, mayL n = b → Calls Tryz.prog 64 #[.string (mk n)] w fun e w' => e = .returned (.bool b) ∧ Below w.heap.size w w') := by
    intro w b hb; rw [← hb]; exact may_c (mk n) w (by rw [size_mk]; exact hs)
  rcases known_cases (n, a) with ⟨hk, hc⟩ | ⟨hk, hc, hm⟩ | ⟨hk, hc, hm, ha⟩ | ⟨hk, hc, hm, ha⟩ | ⟨hk, hc, hm, ha, hb⟩ <;> rw [hk] <;> simp only at hc
  · have he := empty_mk_yes hc
    clear hc hk HM
    go_enter Tryz.func118, Tryz.ntmps118
    go_wp2
    go_ret
    exact ⟨rfl, (Below.refl _ _).alloc (Nat.le_refl _) _⟩
  · have he := empty_mk_no hc
    have HC : Hid (_) := fun w => HM.out w _ hm
    clear hc hk HM hm
    go_enter Tryz.func118, Tryz.ntmps118
    go_wp2_with fail
    refine (HC.out _).mono ?_; rintro e w1 ⟨rfl, hb1⟩
    go_wp2
    go_ret
    exact ⟨rfl, bel_trans ((Below.refl _ _).alloc (Nat.le_refl _) _) hb1⟩
  · have he := empty_mk_no hc
    have HC : Hid (_) := fun w => HM.out w _ hm
    clear hc hk HM hm
    go_enter Tryz.func118, Tryz.ntmps118
    go_wp2_with fail
    refine (HC.out _).mono ?_; rintro e w1 ⟨rfl, hb1⟩
    have c1 := (hb1.cell (p := ⟨w.heap.size, 1, none⟩) (by simp)).trans (new_cell w _ _ 1 _ rfl)
    have B := bel_trans ((Below.refl _ _).alloc (Nat.le_refl _) _) hb1
    clear hb1
    go_wp2
    go_ret
    exact ⟨rfl, B⟩
  · have he := empty_mk_no hc
    have HC : Hid (_) := fun w => HM.out w _ hm
    have ha0 : decide (a < 0) = false := by simp; omega
    clear hc hk HM hm
    go_enter Tryz.func118, Tryz.ntmps118
    go_wp2_with fail
    refine (HC.out _).mono ?_; rintro e w1 ⟨rfl, hb1⟩
    have c1 := (hb1.cell (p := ⟨w.heap.size, 1, none⟩) (by simp)).trans (new_cell w _ _ 1 _ rfl)
    have B := bel_trans ((Below.refl _ _).alloc (Nat.le_refl _) _) hb1
    clear hb1
    go_wp2
    go_ret
    exact ⟨rfl, B⟩
  · have he := empty_mk_no hc
    have HC : Hid (_) := fun w => HM.out w _ hm
    have ha0 : decide (a < 0) = false := by simp; omega
    have hb0 : decide (16384 ≤ a) = false := by simp; omega
    clear hc hk HM hm
    go_enter Tryz.func118, Tryz.ntmps118
    go_wp2_with fail
    refine (HC.out _).mono ?_; rintro e w1 ⟨rfl, hb1⟩
    have c1 := (hb1.cell (p := ⟨w.heap.size, 1, none⟩) (by simp)).trans (new_cell w _ _ 1 _ rfl)
    have B := bel_trans ((Below.refl _ _).alloc (Nat.le_refl _) _) hb1
    clear hb1
    go_wp2
    go_ret
    exact ⟨rfl, B⟩

theorem mayPut_no1 (at_ : Int) (v : Value) (name : ByteArray) (w : World) (h : at_ < 0) :
    Calls Tryz.prog 106 #[.int .i64 at_, v, .string name] w fun e w' => e = .returned (.bool false) ∧ Below w.heap.size w w' := by
  have h0 : decide (0 ≤ at_) = false := by simp; omega
  go_enter Tryz.func106, Tryz.ntmps106
  go_wp2
  go_ret
  exact ⟨rfl, Below.refl _ _⟩
theorem mayPut_no2 (at_ : Int) (v : Value) (name : ByteArray) (w : World) (h0 : 0 ≤ at_) (h : 65535 < at_) :
    Calls Tryz.prog 106 #[.int .i64 at_, v, .string name] w fun e w' => e = .returned (.bool false) ∧ Below w.heap.size w w' := by
  have h1 : decide (at_ ≤ 65535) = false := by simp; omega
  go_enter Tryz.func106, Tryz.ntmps106
  go_wp2
  go_ret
  exact ⟨rfl, Below.refl _ _⟩
theorem mayPut_no3 (at_ : Int) (v : Value) (name : ByteArray) (w : World) (h0 : 0 ≤ at_) (h : at_ ≤ 65535) (hs : name.size ≤ maxLen) (hm : mayL (bs name) = false) :
    Calls Tryz.prog 106 #[.int .i64 at_, v, .string name] w fun e w' => e = .returned (.bool false) ∧ Below w.heap.size w w' := by
  have HC : Hid (∀ w, _) := fun w => may_is name false w hs hm
  clear hm
  go_enter Tryz.func106, Tryz.ntmps106
  go_wp2_with fail
  refine (HC.out _).mono ?_; rintro e w1 ⟨rfl, hb1⟩
  go_wp2
  go_ret
  exact ⟨rfl, hb1⟩
theorem knAt_mem {ks : List Kn} {j : Nat} (hj : j < ks.length) : knAt ks j ∈ ks := by
  unfold knAt
  rw [List.getD_eq_getElem?_getD, List.getElem?_eq_getElem hj]
  exact List.getElem_mem hj

theorem indexFunc_none (a : Option Addr) (cap : Nat) (f : Value) (w : World) :
    Calls Tryz.prog 127 #[.slice a 0 cap, f] w fun e w' => e = .returned (.int .i64 (-1)) ∧ w' = w := by
  go_enter Tryz.func127, Tryz.ntmps127
  go_wp2
  go_rounds 1
  go_ret
  exact ⟨rfl, rfl⟩

theorem indexFunc_from (x : Addr) (cap : Nat) (ks : List Kn) (w : World) (hl : ks.length ≤ 1000000000) (hs : ∀ k ∈ ks, k.1.length ≤ maxLen) (h : KnFrom w x ks) :
    Calls Tryz.prog 127 #[.slice (some x) ks.length cap, .func (.func 118) #[] #[]] w fun e w' => (∃ i : Int, e = .returned (.int .i64 i) ∧ decide (0 ≤ i) = !ks.all knownL) ∧ Below w.heap.size w w' := by
  have Hno : Hid (∀ j, j < ks.length → knownL (knAt ks j) = false → ks.all knownL = false) := fun j => all_no
  have Hyes : Hid ((∀ j, j < ks.length → knownL (knAt ks j) = true) → ks.all knownL = true) := all_yes
  generalize ks.all knownL = V at *
  have H : Hid (KnFrom w x ks) := h
  have Hs : Hid (∀ j, j < ks.length → (knAt ks j).1.length ≤ maxLen) := fun j hj => hs _ (knAt_mem hj)
  clear h hs
  go_enter Tryz.func127, Tryz.ntmps127
  go_wp2
  go_loopw [8] (fun i wr => ∃ j : Nat, j ≤ ks.length ∧ i = .int .i64 j ∧ Hid (∀ i, i < j → knownL (knAt ks i) = true) ∧ Below w.heap.size w wr) (fun i _ => ks.length - (intOf i).toNat)
  case atStart => exact ⟨0, Nat.zero_le _, rfl, fun i hi => by omega, Below.refl _ _⟩
  case round =>
    obtain ⟨j, hj, rfl, hall, B⟩ := hrel
    by_cases hlt : j < ks.length
    · obtain ⟨h0, h1⟩ := (H.out j hlt).below B
      have hn : Hid (_) := Hno.out j hlt
      have hsz := Hs.out j hlt
      have hall' : Hid (knownL (knAt ks j) = true → ∀ i, i < j + 1 → knownL (knAt ks i) = true) := fun hk i hi => by by_cases e : i = j; (subst e; exact hk); exact hall.out i (by omega)
      generalize knAt ks j = k at *
      obtain ⟨n, a⟩ := k
      simp only at h0 h1 hsz
      have HM : Hid (∀ w, _) := fun w => mayNot_c n a w hsz
      clear hall Hno hsz
      cases hk : knownL (n, a) with
      | false =>
        rw [hk] at HM
        have HV : Hid (V = false) := hn.out hk
        clear hk hall' hn
        go_wp2_with fail
        refine (HM.out _).mono ?_; rintro e w1 ⟨rfl, hb1⟩
        replace B := B.trans (hb1.mono B.size)
        clear h0 h1 hb1
        go_wp2
        go_ret
        exact ⟨⟨j, rfl, by rw [HV.out]; simp⟩, B⟩
      | true =>
        rw [hk] at HM
        have Hall : Hid (∀ i, i < j + 1 → knownL (knAt ks i) = true) := hall'.out hk
        clear hk hall' hn
        go_wp2_with fail
        refine (HM.out _).mono ?_; rintro e w1 ⟨rfl, hb1⟩
        replace B := B.trans (hb1.mono B.size)
        clear h0 h1 hb1
        go_wp2
        go_roundw
        case rel => exact ⟨j + 1, by omega, by go_num, Hall, B⟩
        case measure => simp [intOf]; omega
    · obtain rfl : j = ks.length := by omega
      have HV : Hid (V = true) := Hyes.out hall.out
      go_wp2
      go_ret
      exact ⟨⟨-1, rfl, by rw [HV.out]; rfl⟩, B⟩

theorem contains_c (a : Option Addr) (cap : Nat) (ks : List Kn) (w : World) (hl : ks.length ≤ 1000000000) (hs : ∀ k ∈ ks, k.1.length ≤ maxLen) (h : KnLies w a ks) :
    Calls Tryz.prog 117 #[.slice a ks.length cap, .func (.func 118) #[] #[]] w fun e w' => e = .returned (.bool (!ks.all knownL)) ∧ Below w.heap.size w w' := by
  have HC : Hid (Calls Tryz.prog 127 #[.slice a ks.length cap, .func (.func 118) #[] #[]] w fun e w' => (∃ i : Int, e = .returned (.int .i64 i) ∧ decide (0 ≤ i) = !ks.all knownL) ∧ Below w.heap.size w w') := by
    rcases h with rfl | ⟨x, rfl, h⟩
    · exact (indexFunc_none a cap _ w).mono fun e w' ⟨h1, h2⟩ => ⟨⟨-1, h1, rfl⟩, by rw [h2]; exact Below.refl _ _⟩
    · exact indexFunc_from x cap ks w hl hs h
  generalize (!ks.all knownL) = V at *
  clear h hs
  go_enter Tryz.func117, Tryz.ntmps117
  go_wp2_with fail
  refine HC.out.mono ?_; rintro e w1 ⟨⟨i, rfl, hi⟩, hb1⟩
  have Hi : Hid (decide (0 ≤ i) = V) := hi
  clear hi
  go_wp2
  go_ret
  exact ⟨ret_bool Hi.out, hb1⟩

theorem mayPut_more (at_ : Int) (a : Option Addr) (cap : Nat) (ks : List Kn) (name : ByteArray) (w : World) (h0 : 0 ≤ at_) (h : at_ ≤ 65535) (hs : name.size ≤ maxLen) (hm : mayL (bs name) = true) (hl : ks.length ≤ 1000000000) (hks : ∀ k ∈ ks, k.1.length ≤ maxLen) (hk : KnLies w a ks) :
    Calls Tryz.prog 106 #[.int .i64 at_, .slice a ks.length cap, .string name] w fun e w' => e = .returned (.bool (ks.all knownL)) ∧ Below w.heap.size w w' := by
  have HC : Hid (∀ w, _) := fun w => may_is name true w hs hm
  have HD : Hid (∀ w', Below w.heap.size w w' → _) := fun w' hb => contains_c a cap ks w' hl hks (hk.below hb)
  generalize ks.all knownL = V at *
  clear hm hk hks
  go_enter Tryz.func106, Tryz.ntmps106
  go_wp2_with fail
  refine (HC.out _).mono ?_; rintro e w1 ⟨rfl, hb1⟩
  go_wp2_with fail
  refine (HD.out _ hb1).mono ?_; rintro e w2 ⟨rfl, hb2⟩
  go_wp2
  go_ret
  exact ⟨ret_bool (by simp), bel_trans hb1 hb2⟩

theorem mayPut_c (at_ : Int) (a : Option Addr) (cap : Nat) (ks : List Kn) (name : ByteArray) (w : World) (hs : name.size ≤ maxLen) (hl : ks.length ≤ 1000000000) (hks : ∀ k ∈ ks, k.1.length ≤ maxLen) (hk : KnLies w a ks) :
    Calls Tryz.prog 106 #[.int .i64 at_, .slice a ks.length cap, .string name] w fun e w' => e = .returned (.bool (mayPutL at_ ks (bs name))) ∧ Below w.heap.size w w' := by
  by_cases h0 : at_ < 0
  · rw [show mayPutL at_ ks (bs name) = false by simp [mayPutL]; omega]
    exact mayPut_no1 _ _ _ w h0
  · by_cases h1 : 65535 < at_
    · rw [show mayPutL at_ ks (bs name) = false by simp [mayPutL]; omega]
      exact mayPut_no2 _ _ _ w (by omega) h1
    · have e0 : (0 ≤ at_) = True := by simp; omega
      have e1 : (at_ ≤ 65535) = True := by simp; omega
      cases hm : mayL (bs name) with
      | false =>
        rw [show mayPutL at_ ks (bs name) = false by simp [mayPutL, hm]]
        exact mayPut_no3 _ _ _ w (by omega) (by omega) hs hm
      | true =>
        rw [show mayPutL at_ ks (bs name) = ks.all knownL by simp [mayPutL, hm, e0, e1]]
        exact mayPut_more at_ a cap ks name w (by omega) (by omega) hs hm hl hks hk

end Go.Proofs.YtdmooggmoihggaaGreatDoor

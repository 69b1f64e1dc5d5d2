/-
  Contracts of package wire's Get and of the steps that it goes, at every text and place.
-/
import Derived.Test.YteaediobcjednaaNameMore
import Derived.Test.YteaediobcjednaaBeFacts
import Derived.Test.YteaediobcjednaaWirePure
import Derived.Test.YteaediobcjednaaShelf
import Derived.Deep.LoopGhost
import Derived.Deep.RegionWith
import Derived.Deep.QuietTactic
import Derived.BigQuiet
import Derived.WalkSmall
namespace Go.Proofs.Yteaediobcjednaa
open Go.ChangeShapes Go.WideShapes Go.ChangeAt Go.RowKit Go.Pin Go.PlainAid

/-- Block b is a walk that stands at x, its labels in v. -/
structure Way (w : World) (b : Nat) (s : ByteArray) (x : St) (v : Value) : Prop where
  c0 : w.cell? ⟨b, 0, none⟩ = some (.string s)
  c1 : w.cell? ⟨b, 1, none⟩ = some (.int .i64 x.at_)
  c2 : w.cell? ⟨b, 2, none⟩ = some (.int .i64 x.row)
  c3 : w.cell? ⟨b, 3, none⟩ = some (.int .i64 x.en)
  c4 : w.cell? ⟨b, 4, none⟩ = some v
  fz : ∀ j, w.frozen? ⟨b, j, none⟩ = false
  lt : b < w.heap.size

theorem Way.below {w w' : World} {b : Nat} {s : ByteArray} {x : St} {v : Value} (h : Way w b s x v) {n : Nat} (hb : Below n w w') (hn : b < n) : Way w' b s x v := by
  have hc : ∀ j, w'.cell? ⟨b, j, none⟩ = w.cell? ⟨b, j, none⟩ := fun j => hb.cell hn
  exact ⟨(hc 0).trans h.c0, (hc 1).trans h.c1, (hc 2).trans h.c2, (hc 3).trans h.c3, (hc 4).trans h.c4, fun j => (hb.frozen hn).trans (h.fz j), Nat.lt_of_lt_of_le h.lt hb.size⟩

/-- From w to w' nothing turned but the cells of block b and what lies behind it; lists that were made behind b stand. -/
def Only (b : Nat) (w w' : World) : Prop := Below b w w' ∧ ∀ v ls, Texts w (b + 1) v ls → Texts w' (b + 1) v ls
theorem Only.refl (b : Nat) (w : World) : Only b w w := ⟨Below.refl _ _, fun _ _ h => h⟩
theorem Only.trans {b : Nat} {w w1 w2 : World} (h1 : Only b w w1) (h2 : Only b w1 w2) : Only b w w2 := ⟨h1.1.trans h2.1, fun v ls h => h2.2 v ls (h1.2 v ls h)⟩
theorem Only.of_below {b : Nat} {w w' : World} (h : Below w.heap.size w w') (hb : b < w.heap.size) : Only b w w' := ⟨h.mono (Nat.le_of_lt hb), fun _ _ ht => ht.below h⟩
theorem Only.set {b : Nat} (w : World) (j : Nat) (u : Value) : Only b w (w.setCell ⟨b, j, none⟩ u) := by
  refine ⟨(Below.refl b w).setCell (show b ≤ (⟨b, j, none⟩ : Addr).block from Nat.le_refl b) u, fun v ls h => ?_⟩
  obtain ⟨h1, h2⟩ := h
  refine ⟨h1, ?_⟩
  rcases h2 with h2 | ⟨g, cap, cur, hv, hg, hh, r⟩
  · exact .inl h2
  · exact .inr ⟨g, cap, cur, hv, hg, by rw [RowKit.Below.heap_setCell _ _ _ _ (by simp; omega)]; exact hh, r⟩

theorem way_cell {w : World} {b j k : Nat} {u v v0 : Value} (h : w.cell? ⟨b, k, none⟩ = some v) (h0 : w.cell? ⟨b, j, none⟩ = some v0) : (w.setCell ⟨b, j, none⟩ u).cell? ⟨b, k, none⟩ = some (if k = j then u else v) := by
  by_cases e : k = j
  · subst e; rw [if_pos rfl]; exact World.cell?_setCell_same _ _ _ h0
  · rw [if_neg e, World.cell?_setCell_other _ _ _ _ (by intro e'; injection e' with _ e'; exact e e'.symm)]; exact h
theorem Way.size {w : World} {b : Nat} {s : ByteArray} {x : St} {v : Value} (_h : Way w b s x v) (j : Nat) (u : Value) : (w.setCell ⟨b, j, none⟩ u).heap.size = w.heap.size := by simp
theorem Way.set1 {w : World} {b : Nat} {s : ByteArray} {x : St} {v : Value} (h : Way w b s x v) (n : Nat) : Way (w.setCell ⟨b, 1, none⟩ (.int .i64 n)) b s { x with at_ := n } v :=
  ⟨way_cell h.c0 h.c1, way_cell h.c1 h.c1, way_cell h.c2 h.c1, way_cell h.c3 h.c1, way_cell h.c4 h.c1, fun j => by rw [World.frozen?_setCell]; exact h.fz j, by rw [h.size]; exact h.lt⟩
theorem Way.set2 {w : World} {b : Nat} {s : ByteArray} {x : St} {v : Value} (h : Way w b s x v) (n : Nat) : Way (w.setCell ⟨b, 2, none⟩ (.int .i64 n)) b s { x with row := n } v :=
  ⟨way_cell h.c0 h.c2, way_cell h.c1 h.c2, way_cell h.c2 h.c2, way_cell h.c3 h.c2, way_cell h.c4 h.c2, fun j => by rw [World.frozen?_setCell]; exact h.fz j, by rw [h.size]; exact h.lt⟩
theorem Way.set3 {w : World} {b : Nat} {s : ByteArray} {x : St} {v : Value} (h : Way w b s x v) (n : Nat) : Way (w.setCell ⟨b, 3, none⟩ (.int .i64 n)) b s { x with en := n } v :=
  ⟨way_cell h.c0 h.c3, way_cell h.c1 h.c3, way_cell h.c2 h.c3, way_cell h.c3 h.c3, way_cell h.c4 h.c3, fun j => by rw [World.frozen?_setCell]; exact h.fz j, by rw [h.size]; exact h.lt⟩
theorem Way.set4 {w : World} {b : Nat} {s : ByteArray} {x : St} {v : Value} (h : Way w b s x v) (u : Value) (ls : List (List UInt8)) : Way (w.setCell ⟨b, 4, none⟩ u) b s { x with labs := ls } u :=
  ⟨way_cell h.c0 h.c4, way_cell h.c1 h.c4, way_cell h.c2 h.c4, way_cell h.c3 h.c4, way_cell h.c4 h.c4, fun j => by rw [World.frozen?_setCell]; exact h.fz j, by rw [h.size]; exact h.lt⟩

theorem goOnAt_yes (b : Nat) (a : Int) (w : World) (hc : w.cell? ⟨b, 3, none⟩ = some (.int .i64 0)) (hf : w.frozen? ⟨b, 3, none⟩ = false) :
    Calls Try.prog 66 #[.pointer (some ⟨b, 0, none⟩), .int .i64 a] w fun e w' => e = .returned (.tuple #[]) ∧ w' = w.setCell ⟨b, 3, none⟩ (.int .i64 a) := by
  go_enter Try.func66, Try.ntmps66
  go_wp2
  go_end0
  exact ⟨rfl, rfl⟩

theorem goOnAt_no (b : Nat) (a n : Int) (w : World) (hc : w.cell? ⟨b, 3, none⟩ = some (.int .i64 n)) (hn : (n == 0) = false) :
    Calls Try.prog 66 #[.pointer (some ⟨b, 0, none⟩), .int .i64 a] w fun e w' => e = .returned (.tuple #[]) ∧ w' = w := by
  go_enter Try.func66, Try.ntmps66
  go_wp2
  go_end0
  exact ⟨rfl, rfl⟩

theorem goOnAt_c (b : Nat) (s : ByteArray) (x : St) (v : Value) (a : Nat) (w : World) (h : Way w b s x v) :
    Calls Try.prog 66 #[.pointer (some ⟨b, 0, none⟩), .int .i64 a] w fun e w' => e = .returned (.tuple #[]) ∧ Way w' b s { x with en := goOn x.en a } v ∧ Only b w w' := by
  by_cases hn : x.en = 0
  · refine (goOnAt_yes b a w (by rw [h.c3, hn]; rfl) (h.fz 3)).mono ?_
    rintro e w' ⟨rfl, rfl⟩
    refine ⟨rfl, ?_, Only.set _ _ _⟩
    have := h.set3 a
    rwa [show goOn x.en a = a by simp [goOn, hn]]
  · refine (goOnAt_no b a x.en w h.c3 (by simp; omega)).mono ?_
    rintro e w' ⟨rfl, rfl⟩
    refine ⟨rfl, ?_, Only.refl _ _⟩
    rwa [show goOn x.en a = x.en by simp [goOn, hn]]

theorem jump_end (b : Nat) (s : ByteArray) (x : St) (v : Value) (w : World) (hs : s.size ≤ maxLen) (h : Way w b s x v) (hat : x.at_ < s.size) (hl : s.size < x.at_ + 2) :
    Calls Try.prog 68 #[.pointer (some ⟨b, 0, none⟩)] w fun e w' => e = .returned (.int .i64 301) ∧ Below w.heap.size w w' := by
  have hs' := hs
  unfold maxLen at hs'
  obtain ⟨c0, c1, c2, c3, c4, fz, lt⟩ := h
  go_enter Try.func68, Try.ntmps68
  go_wp2_with fail
  go_quiet ((go_at_call 49; exact Calls.quiet_of_same (get_end s x.at_ 2 _ (by omega) hs (by omega) (by omega))))
  go_wp2
  go_ret
  exact ⟨rfl, below_drewN (Below.refl _ _) _⟩

theorem get2_is (s : ByteArray) (a p : Nat) (w : World) (hs : s.size ≤ maxLen) (h : a + 2 ≤ s.size) (hp : num s a 2 = (p : Int) + 49152) :
    Calls Try.prog 49 #[.string s, .int .i64 a, .int .i64 2] w fun e w' => e = .returned (.tuple #[.int .i64 ((p : Int) + 49152), .int .i64 0]) ∧ w' = w := by
  rw [← hp]; exact get_ok s a 2 w (by omega) hs h

theorem jump_far (b p : Nat) (s : ByteArray) (x : St) (v : Value) (w : World) (hs : s.size ≤ maxLen) (h : Way w b s x v) (hat : x.at_ + 2 ≤ s.size) (hp : num s x.at_ 2 = (p : Int) + 49152) (hp2 : p < 16384) (hr : x.row ≤ p) :
    Calls Try.prog 68 #[.pointer (some ⟨b, 0, none⟩)] w fun e w' => e = .returned (.int .i64 300) ∧ Below w.heap.size w w' := by
  have HC := fun w' => get2_is s x.at_ p w' hs hat hp
  obtain ⟨c0, c1, c2, c3, c4, fz, lt⟩ := h
  have hr' : (x.row : Int) ≤ (p : Int) := by omega
  clear hp hr
  go_enter Try.func68, Try.ntmps68
  go_wp2_with fail
  go_quiet ((go_at_call 49; exact Calls.quiet_of_same (HC _)))
  go_wp2
  go_ret
  exact ⟨rfl, below_drewN (Below.refl _ _) _⟩

theorem jump_ok (b p : Nat) (s : ByteArray) (x : St) (v : Value) (w : World) (hs : s.size ≤ maxLen) (h : Way w b s x v) (hat : x.at_ + 2 ≤ s.size) (hp : num s x.at_ 2 = (p : Int) + 49152) (hp2 : p < 16384) (hr : p < x.row) :
    Calls Try.prog 68 #[.pointer (some ⟨b, 0, none⟩)] w fun e w' => e = .returned (.int .i64 0) ∧ Way w' b s { x with at_ := p, row := p, en := goOn x.en (x.at_ + 2) } v ∧ Only b w w' := by
  have HC := fun w' => get2_is s x.at_ p w' hs hat hp
  have hw := h
  obtain ⟨c0, c1, c2, c3, c4, fz, lt⟩ := h
  have hr' : (p : Int) < (x.row : Int) := by omega
  unfold maxLen at hs
  have hsum : ((x.at_ : Int) + 2) = ((x.at_ + 2 : Nat) : Int) := by omega
  have HG : Hid (∀ w, Way w b s x v → Calls Try.prog 66 #[.pointer (some ⟨b, 0, none⟩), .int .i64 ((x.at_ : Int) + 2)] w fun e w' => e = .returned (.tuple #[]) ∧ Way w' b s { x with en := goOn x.en (x.at_ + 2) } v ∧ Only b w w') := by
    intro w hw; rw [hsum]; exact goOnAt_c b s x v (x.at_ + 2) w hw
  have hwd : Hid (∀ n, Way (w.drewN n) b s x v ∧ Only b w (w.drewN n)) := fun n => ⟨hw.below (below_drewN (Below.refl w.heap.size w) n) lt, Only.of_below (below_drewN (Below.refl w.heap.size w) n) lt⟩
  clear hp hr hsum hw
  go_enter Try.func68, Try.ntmps68
  go_wp2_with fail
  go_quiet ((go_at_call 49; exact Calls.quiet_of_same (HC _)))
  go_wp2_with fail
  refine (HG.out _ (hwd.out _).1).mono ?_; rintro e w1 ⟨rfl, hw1, ho1⟩
  have f1 := hw1.fz 1
  have d1 := hw1.c1
  have f2 := hw1.fz 2
  have d2 := hw1.c2
  have H1 : Hid (Way w1 b s { x with en := goOn x.en (x.at_ + 2) } v ∧ Only b w w1) := ⟨hw1, (hwd.out _).2.trans ho1⟩
  clear hw1 ho1 hwd c0 c1 c2 c3 c4 fz
  go_wp2
  go_ret
  refine ⟨rfl, ?_, H1.out.2.trans ((Only.set _ _ _).trans (Only.set _ _ _))⟩
  exact (H1.out.1.set1 p).set2 p

theorem labs_one {t : List UInt8} (h : okL t = true) : labsL t = [t] := (may_join (ls := [t]) (by simp) (by simpa using h)).2
theorem labs_one_no {t : List UInt8} (h : okL t = false) : (labsL t).length ≠ 1 := by
  intro hl
  match hls : labsL t, hl with
  | [p], _ =>
    have hp : okL p = true := labsL_ok (l := t) (by rw [hls]; simp)
    have hm : mayL t = true := by
      cases hm : mayL t with
      | true => rfl
      | false => rw [labsL_no hm] at hls; cases hls
    have := join_labs hm
    rw [hls] at this
    simp only [join] at this
    rw [← this, hp] at h
    cases h

theorem label_end (b c : Nat) (s : ByteArray) (x : St) (v : Value) (w : World) (hs : s.size ≤ 1125899906842624) (h : Way w b s x v) (hc : c ≤ 8) (hat : x.at_ < s.size) (hl : s.size < x.at_ + 1 + c) :
    Calls Try.prog 67 #[.pointer (some ⟨b, 0, none⟩), .int .i64 c] w fun e w' => e = .returned (.int .i64 301) ∧ Below w.heap.size w w' := by
  obtain ⟨c0, c1, c2, c3, c4, fz, lt⟩ := h
  go_enter Try.func67, Try.ntmps67
  go_wp2_with fail
  go_quiet (fail)
  go_wp2
  go_ret
  exact ⟨rfl, below_drewN (Below.refl _ _) _⟩

theorem extract_is (s : ByteArray) (f c : Nat) : s.extract f (f + c) = mk (((bs s).drop f).take c) := by
  rw [Lib.extract_eq s f (f + c), show f + c - f = c by omega]; rfl
theorem piece_len (s : ByteArray) (f c : Nat) : (((bs s).drop f).take c).length ≤ c := by simp; omega

theorem label_form (b c : Nat) (s : ByteArray) (x : St) (v : Value) (w : World) (hs : s.size ≤ 1125899906842624) (h : Way w b s x v) (ho : Texts w (b + 1) v x.labs) (hc : c ≤ 8) (hl : x.at_ + 1 + c ≤ s.size)
    (hno : okL (foldL (((bs s).drop (x.at_ + 1)).take c)) = false ∨ x.labs.length = 8) :
    Calls Try.prog 67 #[.pointer (some ⟨b, 0, none⟩), .int .i64 c] w fun e w' => e = .returned (.int .i64 300) ∧ Below w.heap.size w w' := by
  obtain ⟨a, cap, rfl⟩ := ho.form
  obtain ⟨c0, c1, c2, c3, c4, fz, lt⟩ := h
  have hx := extract_is s (x.at_ + 1) c
  have hn := piece_len s (x.at_ + 1) c
  generalize hraw : ((bs s).drop (x.at_ + 1)).take c = raw at hx hno hn
  have Hx : Hid (s.extract (x.at_ + 1) (x.at_ + 1 + c) = mk raw) := hx
  have HF : Hid (∀ w, Calls Try.prog 77 #[.string (s.extract (x.at_ + 1) (x.at_ + 1 + c))] w fun e w' => e = .returned (.string (mk (foldL raw))) ∧ Below w.heap.size w w') := by
    intro w; rw [hx]; exact fold_c (mk raw) w (by rw [size_mk]; unfold maxLen; omega)
  have hfl : (foldL raw).length = raw.length := by simp [foldL]
  have HL : Hid (∀ w, Calls Try.prog 78 #[.string (mk (foldL raw))] w fun e w' => (∃ v, e = .returned v ∧ Texts w' w.heap.size v (labsL (foldL raw))) ∧ Below w.heap.size w w') := by
    intro w; exact labels_c (mk (foldL raw)) w (by rw [size_mk, hfl]; unfold maxLen; omega)
  have hlen := labsL_len (foldL raw)
  have Hno : Hid (okL (foldL raw) = false → (labsL (foldL raw)).length ≠ 1) := labs_one_no
  generalize foldL raw = t at *
  clear hx hraw hfl
  generalize hn0 : x.labs.length = n0 at *
  have hd : Hid (∀ n, (w.drewN n).cell? ⟨b, 4, none⟩ = some (.slice a n0 cap)) := fun n => c4
  go_enter Try.func67, Try.ntmps67
  go_wp2_with fail
  go_quiet (fail)
  go_wp2_with fail
  refine (HF.out _).mono ?_; rintro e w1 ⟨rfl, hb1⟩
  go_wp2_with fail
  refine (HL.out _).mono ?_; rintro e w2 ⟨⟨v2, rfl, ht2⟩, hb2⟩
  obtain ⟨a2, cap2, rfl⟩ := ht2.form
  replace hb1 := bel_trans (below_drewN (Below.refl w.heap.size w) _) (bel_trans hb1 hb2)
  have d4 := (hb1.cell (p := ⟨b, 4, none⟩) lt).trans c4
  by_cases hk : okL t = false
  · have g : (((labsL t).length : Int) != 1) = true := by have := Hno.out hk; simp; omega
    generalize (labsL t).length = m at *
    clear hno hk
    go_wp2
    go_ret
    exact ⟨rfl, hb1⟩
  · have g8 : ((n0 : Int) == 8) = true := by have := hno.resolve_left hk; simp; omega
    generalize (labsL t).length = m at *
    clear hno hk
    by_cases g : ((m : Int) != 1) = true
    · go_wp2
      go_ret
      exact ⟨rfl, hb1⟩
    · have g' : ((m : Int) != 1) = false := by simpa using g
      clear g
      go_wp2
      go_ret
      exact ⟨rfl, hb1⟩

set_option maxRecDepth 100000 in
theorem label_ok (b c : Nat) (s : ByteArray) (x : St) (v : Value) (w : World) (hs : s.size ≤ 1125899906842624) (h : Way w b s x v) (ho : Texts w (b + 1) v x.labs) (hc : c ≤ 8) (hl : x.at_ + 1 + c ≤ s.size)
    (hok : okL (foldL (((bs s).drop (x.at_ + 1)).take c)) = true) (h7 : x.labs.length ≠ 8) (h8 : x.labs.length ≤ 8) :
    Calls Try.prog 67 #[.pointer (some ⟨b, 0, none⟩), .int .i64 c] w fun e w' => e = .returned (.int .i64 0) ∧
      (∃ v', Way w' b s { x with at_ := x.at_ + 1 + c, labs := x.labs ++ [foldL (((bs s).drop (x.at_ + 1)).take c)] } v' ∧ Texts w' (b + 1) v' (x.labs ++ [foldL (((bs s).drop (x.at_ + 1)).take c)])) ∧ Below b w w' := by
  obtain ⟨a, cap, rfl⟩ := ho.form
  have hway := h
  obtain ⟨c0, c1, c2, c3, c4, fz, lt⟩ := h
  have hx := extract_is s (x.at_ + 1) c
  have hn := piece_len s (x.at_ + 1) c
  generalize hraw : ((bs s).drop (x.at_ + 1)).take c = raw at hx hok hn ⊢
  have Hx : Hid (s.extract (x.at_ + 1) (x.at_ + 1 + c) = mk raw) := hx
  have HF : Hid (∀ w, Calls Try.prog 77 #[.string (s.extract (x.at_ + 1) (x.at_ + 1 + c))] w fun e w' => e = .returned (.string (mk (foldL raw))) ∧ Below w.heap.size w w') := by
    intro w; rw [hx]; exact fold_c (mk raw) w (by rw [size_mk]; unfold maxLen; omega)
  have hfl : (foldL raw).length = raw.length := by simp [foldL]
  have HL : Hid (∀ w, Calls Try.prog 78 #[.string (mk (foldL raw))] w fun e w' => (∃ v, e = .returned v ∧ Texts w' w.heap.size v [foldL raw]) ∧ Below w.heap.size w w') := by
    intro w; rw [← labs_one hok]; exact labels_c (mk (foldL raw)) w (by rw [size_mk, hfl]; unfold maxLen; omega)
  generalize foldL raw = t at *
  have Hok : Hid (okL t = true) := hok
  obtain ⟨i0, hi, hz0, hz1, hz2⟩ := info_parts Try.infoStr
  have hto : ((x.at_ : Int) + 1 + c) = ((x.at_ + 1 + c : Nat) : Int) := by omega
  have Hto : Hid (((x.at_ : Int) + 1 + c) = ((x.at_ + 1 + c : Nat) : Int)) := hto
  clear hx hraw hfl hok hto
  obtain ⟨ls, hls⟩ : ∃ ls, ls = x.labs := ⟨_, rfl⟩
  rw [← hls] at ho c4 hway h7 h8 ⊢
  have Hls : Hid (ls = x.labs) := hls
  clear hls
  have g8 : ((ls.length : Int) == 8) = false := by simp; omega
  have Hway : Hid (Way w b s x (.slice a ls.length cap)) := hway
  have Hown : Hid (Texts w (b + 1) (.slice a ls.length cap) ls) := ho
  clear hway ho
  go_enter Try.func67, Try.ntmps67
  go_wp2_with fail
  go_quiet (fail)
  go_wp2_with fail
  refine (HF.out _).mono ?_; rintro e w1 ⟨rfl, hb1⟩
  go_wp2_with fail
  refine (HL.out _).mono ?_; rintro e w2 ⟨⟨v2, rfl, ht2⟩, hb2⟩
  obtain ⟨a2, cap2, rfl⟩ := ht2.form
  replace hb1 := bel_trans (below_drewN (Below.refl w.heap.size w) _) (bel_trans hb1 hb2)
  have hw2 := Hway.out.below hb1 lt
  have hown2 := Hown.out.below hb1
  clear hb2 ht2 c0 c1 c2 c3 c4 fz
  have d4 := hw2.c4
  have lt2 := hw2.lt
  go_wp2_with (first
    | (at_builtin; refine wpList_append_own _ rfl _ _ 37 rfl (b + 1) 9 i0 (.string ByteArray.empty) 1 16 Try.underlying37 hi hz0 hz1 hz2 rfl (by decide) _ _ _ rfl (World.ownsRow.alloc hown2 _) ⟨w2.heap.size, 0, none⟩ 1 1 [.string (mk t)] rfl rfl ?c1 ?c2 ?c3 ?c4 ?c5 ?_)
    | go_in)
  case c1 =>
    intro j u hj
    match j, hj with
    | 0, hj => simp at hj; subst hj; simp [Addr.add]
  case c2 => intro u hu; simp at hu; subst hu; rfl
  case c3 => unfold maxLen; omega
  case c4 => omega
  case c5 => simp; omega
  · intro v' w3 hown' hgrow _
    have R : Texts w3 (b + 1) v' (ls ++ [t]) := texts_snoc hown'
    obtain ⟨a', cap', rfl⟩ := R.form
    have B : Below (b + 1) w2 w3 := ((Below.refl (b + 1) w2).alloc (by omega) _).grown hgrow (by simp; omega) (fun k hk => (World.ownsRow.lt hown2 k hk).1)
    have hw3 := hw2.below B (by omega)
    have H3 : Hid (Way w3 b s x (.slice a ls.length cap) ∧ Below b w w3 ∧ Texts w3 (b + 1) (.slice a' (ls ++ [t]).length cap') (ls ++ [t])) := ⟨hw3, (hb1.mono (by omega)).trans (B.mono (by omega)), R⟩
    have e4 := hw3.c4
    have f4 := hw3.fz 4
    have e1 := hw3.c1
    have f1 := hw3.fz 1
    clear hown' hgrow hown2 R B hw3 hw2 hb1 d4
    go_wp2
    go_ret
    obtain ⟨k1, k2, k3⟩ := H3.out
    have hl1 : (ls ++ [t]).length = ls.length + 1 := by simp
    rw [hl1] at k3
    have o1 := (Only.set (b := b) w3 4 (.slice a' (ls.length + 1) cap')).trans (Only.set _ 1 (.int .i64 ((x.at_ + 1 + c : Nat) : Int)))
    refine ⟨rfl, ⟨.slice a' (ls.length + 1) cap', ?_, ?_⟩, ?_⟩
    · rw [Hto.out]; exact ((k1.set4 (.slice a' (ls.length + 1) cap') (ls ++ [t])).set1 (x.at_ + 1 + c))
    · rw [Hto.out]; exact o1.2 _ _ k3
    · rw [Hto.out]; exact k2.trans o1.1

/-- What a step leaves. -/
def After (b : Nat) (s : ByteArray) (w : World) (r : Sum Int (Bool × St)) (e : Ending) (w' : World) : Prop :=
  match r with
  | .inl er => e = .returned (.tuple #[.bool false, .int .i64 er]) ∧ Below b w w'
  | .inr (d, y) => e = .returned (.tuple #[.bool d, .int .i64 0]) ∧ Below b w w' ∧ ∃ v', Way w' b s y v' ∧ Texts w' (b + 1) v' y.labs

theorem num2 (s : ByteArray) (a : Nat) : num s a 2 = bt s a * 256 + bt s (a + 1) := by simp [num]

theorem step_c0 (b : Nat) (s : ByteArray) (x : St) (v : Value) (w : World) (h : Way w b s x v) (hl : s.size ≤ x.at_) (_hs : s.size ≤ 1125899906842624) :
    Calls Try.prog 62 #[.pointer (some ⟨b, 0, none⟩)] w (After b s w (stepWire (bs s) x)) := by
  rw [wstep_past (by rw [length_bs]; exact hl)]
  obtain ⟨c0, c1, c2, c3, c4, fz, lt⟩ := h
  have hl' : (s.size : Int) ≤ (x.at_ : Int) := by omega
  go_enter Try.func62, Try.ntmps62
  go_wp2_with fail
  go_quiet (fail)
  go_wp2
  go_ret2
  exact ⟨rfl, (below_drewN (Below.refl _ _) _)⟩

theorem step_c1 (b : Nat) (s : ByteArray) (x : St) (v : Value) (w : World) (h : Way w b s x v) (ho : Texts w (b + 1) v x.labs) (hl : x.at_ < s.size) (hs : s.size ≤ 1125899906842624) (h8 : x.labs.length ≤ 8) :
    Calls Try.prog 62 #[.pointer (some ⟨b, 0, none⟩)] w (After b s w (stepWire (bs s) x)) := by
  obtain ⟨c, hc, hbt⟩ := bt_bs s x.at_ hl
  have hlb := length_bs s
  have hget := get_bt s x.at_ hl
  have lt := h.lt
  have HW : Hid (∀ n, Way (w.drewN n) b s x v ∧ Texts (w.drewN n) (b + 1) v x.labs ∧ Below w.heap.size w (w.drewN n)) := by
    intro n
    have B : Below w.heap.size w (w.drewN n) := below_drewN (Below.refl _ _) _
    exact ⟨h.below B lt, ho.below B, B⟩
  have hc255 : c.toNat < 256 := c.toNat_lt
  have hsz : s.size ≤ maxLen := by unfold maxLen; omega
  have hi1 : (x.at_ : Int) < (s.size : Int) := by omega
  have Hb : Hid (b ≤ w.heap.size) := Nat.le_of_lt lt
  obtain ⟨c0, c1, c2, c3, c4, fz, _⟩ := h
  by_cases hz : c.toNat = 0
  · rw [wstep_zero hc hz]
    rw [hbt, hz] at hget
    have hsum : ((x.at_ : Int) + 1) = ((x.at_ + 1 : Nat) : Int) := by omega
    have HG : Hid (∀ w, Way w b s x v → Calls Try.prog 66 #[.pointer (some ⟨b, 0, none⟩), .int .i64 ((x.at_ : Int) + 1)] w fun e w' => e = .returned (.tuple #[]) ∧ Way w' b s { x with en := goOn x.en (x.at_ + 1) } v ∧ Only b w w') := by
      intro w hw; rw [hsum]; exact goOnAt_c b s x v (x.at_ + 1) w hw
    clear hsum hc hbt ho h8
    go_enter Try.func62, Try.ntmps62
    go_wp2_with fail
    go_quiet (fail)
    go_wp2_with fail
    go_quiet (fail)
    go_wp2_with fail
    refine (HG.out _ (HW.out _).1).mono ?_; rintro e w1 ⟨rfl, hw1, ho1⟩
    have H1 : Hid (Way w1 b s { x with en := goOn x.en (x.at_ + 1) } v ∧ Texts w1 (b + 1) v x.labs ∧ Below b w w1) := ⟨hw1, ho1.2 _ _ (HW.out _).2.1, ((HW.out _).2.2.mono Hb.out).trans ho1.1⟩
    clear hget c0 c1 c2 c3 c4 fz hw1 ho1
    go_wp2
    go_ret2
    exact ⟨rfl, H1.out.2.2, _, H1.out.1, H1.out.2.1⟩
  · have g0 : ((c.toNat : Int) == 0) = false := by simp; omega
    rw [hbt] at hget
    by_cases h9 : c.toNat ≤ 8
    · have hle : (c.toNat : Int) ≤ 8 := by omega
      by_cases hshort : s.size < x.at_ + 1 + c.toNat
      · rw [wstep_short hc hz h9 (by omega)]
        have HC : Hid (∀ w, Way w b s x v → Calls Try.prog 67 #[.pointer (some ⟨b, 0, none⟩), .int .i64 c.toNat] w fun e w' => e = .returned (.int .i64 301) ∧ Below w.heap.size w w') := fun w hw => label_end b c.toNat s x v w hs hw h9 hl hshort
        generalize c.toNat = cn at *
        clear hc hbt ho h8 hshort
        go_enter Try.func62, Try.ntmps62
        go_wp2_with fail
        go_quiet (fail)
        go_wp2_with fail
        go_quiet (fail)
        go_wp2_with fail
        refine (HC.out _ (HW.out _).1).mono ?_; rintro e w1 ⟨rfl, hb1⟩
        have H1 : Hid (Below b w w1) := (bel_trans (HW.out _).2.2 hb1).mono Hb.out
        clear hget c0 c1 c2 c3 c4 fz hb1
        go_wp2
        go_ret2
        exact ⟨rfl, H1.out⟩
      · have hfit : x.at_ + 1 + c.toNat ≤ s.size := by omega
        by_cases hg : okL (foldL (((bs s).drop (x.at_ + 1)).take c.toNat)) = true ∧ x.labs.length ≠ 8
        · rw [wstep_label hc hz h9 (by omega) hg.1 hg.2]
          have HC : Hid (∀ w, Way w b s x v → Texts w (b + 1) v x.labs → Calls Try.prog 67 #[.pointer (some ⟨b, 0, none⟩), .int .i64 c.toNat] w fun e w' => e = .returned (.int .i64 0) ∧
              (∃ v', Way w' b s { x with at_ := x.at_ + 1 + c.toNat, labs := x.labs ++ [foldL (((bs s).drop (x.at_ + 1)).take c.toNat)] } v' ∧ Texts w' (b + 1) v' (x.labs ++ [foldL (((bs s).drop (x.at_ + 1)).take c.toNat)])) ∧ Below b w w') := fun w hw ho => label_ok b c.toNat s x v w hs hw ho h9 hfit hg.1 hg.2 h8
          generalize foldL (((bs s).drop (x.at_ + 1)).take c.toNat) = t at *
          generalize c.toNat = cn at *
          clear hc hbt ho h8 hshort hg
          go_enter Try.func62, Try.ntmps62
          go_wp2_with fail
          go_quiet (fail)
          go_wp2_with fail
          go_quiet (fail)
          go_wp2_with fail
          refine (HC.out _ (HW.out _).1 (HW.out _).2.1).mono ?_; rintro e w1 ⟨rfl, hv1, hb1⟩
          have H1 : Hid (Below b w w1) := ((HW.out _).2.2.mono Hb.out).trans hb1
          have H2 : Hid _ := hv1
          clear hget c0 c1 c2 c3 c4 fz hb1 hv1
          go_wp2
          go_ret2
          exact ⟨rfl, H1.out, H2.out⟩
        · have hno : okL (foldL (((bs s).drop (x.at_ + 1)).take c.toNat)) = false ∨ x.labs.length = 8 := by
            cases hq : okL (foldL (((bs s).drop (x.at_ + 1)).take c.toNat)) with
            | false => exact .inl rfl
            | true => right; exact Classical.not_not.1 fun hh => hg ⟨hq, hh⟩
          rw [wstep_form hc hz h9 (by omega) hno]
          have HC : Hid (∀ w, Way w b s x v → Texts w (b + 1) v x.labs → Calls Try.prog 67 #[.pointer (some ⟨b, 0, none⟩), .int .i64 c.toNat] w fun e w' => e = .returned (.int .i64 300) ∧ Below w.heap.size w w') := fun w hw ho => label_form b c.toNat s x v w hs hw ho h9 hfit hno
          generalize c.toNat = cn at *
          clear hc hbt ho h8 hshort hg hno
          go_enter Try.func62, Try.ntmps62
          go_wp2_with fail
          go_quiet (fail)
          go_wp2_with fail
          go_quiet (fail)
          go_wp2_with fail
          refine (HC.out _ (HW.out _).1 (HW.out _).2.1).mono ?_; rintro e w1 ⟨rfl, hb1⟩
          have H1 : Hid (Below b w w1) := (bel_trans (HW.out _).2.2 hb1).mono Hb.out
          clear hget c0 c1 c2 c3 c4 fz hb1
          go_wp2
          go_ret2
          exact ⟨rfl, H1.out⟩
    · have g9 : decide ((c.toNat : Int) ≤ 8) = false := by simp; omega
      by_cases hp : 192 ≤ c.toNat
      · have g192 : (192 : Int) ≤ (c.toNat : Int) := by omega
        by_cases hhalf : s.size < x.at_ + 2
        · rw [wstep_half hc hp (by omega)]
          have HC : Hid (∀ w, Way w b s x v → Calls Try.prog 68 #[.pointer (some ⟨b, 0, none⟩)] w fun e w' => e = .returned (.int .i64 301) ∧ Below w.heap.size w w') := fun w hw => jump_end b s x v w hsz hw hl hhalf
          generalize c.toNat = cn at *
          clear hc hbt ho h8 hhalf
          go_enter Try.func62, Try.ntmps62
          go_wp2_with fail
          go_quiet (fail)
          go_wp2_with fail
          go_quiet (fail)
          go_wp2_with fail
          refine (HC.out _ (HW.out _).1).mono ?_; rintro e w1 ⟨rfl, hb1⟩
          have H1 : Hid (Below b w w1) := (bel_trans (HW.out _).2.2 hb1).mono Hb.out
          clear hget c0 c1 c2 c3 c4 fz hb1
          go_wp2
          go_ret2
          exact ⟨rfl, H1.out⟩
        · obtain ⟨d, hd, hbd⟩ := bt_bs s (x.at_ + 1) (by omega)
          have hd255 : d.toNat < 256 := d.toNat_lt
          have hnum : num s x.at_ 2 = (((c.toNat - 192) * 256 + d.toNat : Nat) : Int) + 49152 := by rw [num2, hbt, hbd]; omega
          have hp2 : (c.toNat - 192) * 256 + d.toNat < 16384 := by omega
          by_cases hrow : (c.toNat - 192) * 256 + d.toNat < x.row
          · rw [wstep_point hc hd hp hrow]
            generalize (c.toNat - 192) * 256 + d.toNat = q at *
            have HC : Hid (∀ w, Way w b s x v → Calls Try.prog 68 #[.pointer (some ⟨b, 0, none⟩)] w fun e w' => e = .returned (.int .i64 0) ∧ Way w' b s { x with at_ := q, row := q, en := goOn x.en (x.at_ + 2) } v ∧ Only b w w') := fun w hw => jump_ok b q s x v w hsz hw (by omega) hnum hp2 hrow
            generalize c.toNat = cn at *
            clear hc hbt ho h8 hhalf hd hbd hnum hrow
            go_enter Try.func62, Try.ntmps62
            go_wp2_with fail
            go_quiet (fail)
            go_wp2_with fail
            go_quiet (fail)
            go_wp2_with fail
            refine (HC.out _ (HW.out _).1).mono ?_; rintro e w1 ⟨rfl, hw1, ho1⟩
            have H1 : Hid (Way w1 b s { x with at_ := q, row := q, en := goOn x.en (x.at_ + 2) } v ∧ Texts w1 (b + 1) v x.labs ∧ Below b w w1) := ⟨hw1, ho1.2 _ _ (HW.out _).2.1, ((HW.out _).2.2.mono Hb.out).trans ho1.1⟩
            clear hget c0 c1 c2 c3 c4 fz hw1 ho1
            go_wp2
            go_ret2
            exact ⟨rfl, H1.out.2.2, _, H1.out.1, H1.out.2.1⟩
          · rw [wstep_far hc hd hp (by omega)]
            generalize (c.toNat - 192) * 256 + d.toNat = q at *
            have HC : Hid (∀ w, Way w b s x v → Calls Try.prog 68 #[.pointer (some ⟨b, 0, none⟩)] w fun e w' => e = .returned (.int .i64 300) ∧ Below w.heap.size w w') := fun w hw => jump_far b q s x v w hsz hw (by omega) hnum hp2 (by omega)
            generalize c.toNat = cn at *
            clear hc hbt ho h8 hhalf hd hbd hnum hrow
            go_enter Try.func62, Try.ntmps62
            go_wp2_with fail
            go_quiet (fail)
            go_wp2_with fail
            go_quiet (fail)
            go_wp2_with fail
            refine (HC.out _ (HW.out _).1).mono ?_; rintro e w1 ⟨rfl, hb1⟩
            have H1 : Hid (Below b w w1) := (bel_trans (HW.out _).2.2 hb1).mono Hb.out
            clear hget c0 c1 c2 c3 c4 fz hb1
            go_wp2
            go_ret2
            exact ⟨rfl, H1.out⟩
      · have g192 : decide ((192 : Int) ≤ (c.toNat : Int)) = false := by simp; omega
        rw [wstep_none hc (by omega) (by omega)]
        generalize c.toNat = cn at *
        clear hc hbt ho h8
        go_enter Try.func62, Try.ntmps62
        go_wp2_with fail
        go_quiet (fail)
        go_wp2_with fail
        go_quiet (fail)
        go_wp2
        go_ret2
        exact ⟨rfl, ((HW.out _).2.2.mono Hb.out)⟩

theorem step_c (b : Nat) (s : ByteArray) (x : St) (v : Value) (w : World) (h : Way w b s x v) (ho : Texts w (b + 1) v x.labs) (hs : s.size ≤ 1125899906842624) (h8 : x.labs.length ≤ 8) :
    Calls Try.prog 62 #[.pointer (some ⟨b, 0, none⟩)] w (After b s w (stepWire (bs s) x)) := by
  by_cases hl : x.at_ < s.size
  · exact step_c1 b s x v w h ho hl hs h8
  · exact step_c0 b s x v w h (by omega) hs

theorem join_is (ls : List (List UInt8)) : Lib.join ls [46] = join ls := by
  induction ls with
  | nil => rfl
  | cons x r ih =>
    cases r with
    | nil => exact Lib.join_one x [46]
    | cons y r =>
      rw [Lib.join_cons, join_cons x (y :: r) (by simp), ← ih, Lib.join_cons]
      simp [Lib.joinTail]

/-- strings.Join of labels. -/
theorem join_c (v : Value) (ls : List (List UInt8)) (base : Nat) (w : World) (ho : Texts w base v ls) (h8 : ls.length ≤ 8) (hok : ∀ x ∈ ls, okL x = true) :
    Calls Try.prog 63 #[v, .string ⟨#[46]⟩] w fun e w' => e = .returned (.string (mk (join ls))) ∧ Below w.heap.size w w' := by
  rcases ho.cases with ⟨rfl, rfl⟩ | ⟨g, cap, rfl, hn, hm, hg, hgs, hc, hf⟩
  · exact (Try.strings_Join_none none 0 ⟨#[46]⟩ w).mono fun e w' ⟨h1, h2⟩ => ⟨h1, by rw [h2]; exact Below.refl _ _⟩
  · have hd : (⟨#[46]⟩ : ByteArray).data.toList = [46] := rfl
    have hmap : (ls.map mk).map (·.data.toList) = ls := by
      rw [List.map_map]
      have : ((fun x : ByteArray => x.data.toList) ∘ mk) = id := by funext l; rfl
      rw [this]; simp
    have := Try.strings_Join g 0 cap (ls.map mk) ⟨#[46]⟩ w ?_ hgs (by simp; omega) (by simpa using hn) ?_
    · rw [hmap, hd, join_is, List.length_map] at this
      exact this
    · intro j x hj
      rw [List.getElem?_map, Option.map_eq_some_iff] at hj
      obtain ⟨l, hl, rfl⟩ := hj
      have hjl : j < ls.length := (List.getElem?_eq_some_iff.1 hl).1
      have := hc j hjl
      rw [Nat.zero_add, this, List.getD_eq_getElem?_getD, hl]
      rfl
    · rw [hmap, hd, join_is]
      have := join_len ls hok
      omega

end Go.Proofs.Yteaediobcjednaa

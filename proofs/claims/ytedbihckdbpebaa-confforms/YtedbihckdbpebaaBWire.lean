/-
  Several texts in one.
-/
import Derived.Test.YtedbihckdbpebaaBName
import Derived.Test.YtedbihckdbpebaaBBe
import Derived.Lib.Join
import Derived.Deep.LoopGhost
import Derived.Deep.RegionWith
import Derived.Deep.QuietTactic
import Derived.BigQuiet
import Derived.WalkSmall
import Derived.Maps.OwnSet
import Derived.DeepKeys4
/-
  Contracts of package wire's Get and of the steps that it goes, at every text and place.
-/
namespace Go.Proofs.Ytedbihckdbpebaa
open Go.ChangeShapes Go.WideShapes Go.ChangeAt Go.RowKit Go.Pin Go.PlainAid

/-- Block b is a walk that stands at x, its labels in v. -/
structure Way (w : World) (b : Nat) (s : ByteArray) (x : St) (v : Value) : Prop where
  c0 : w.cell? ⟨b, 0, none⟩ = some (.string s)
  c1 : w.cell? ⟨b, 1, none⟩ = some (.int .i64 x.at_)
  c2 : w.cell? ⟨b, 2, none⟩ = some (.int .i64 x.row)
  c3 : w.cell? ⟨b, 3, none⟩ = some (.int .i64 x.en)
  c4 : w.cell? ⟨b, 4, none⟩ = some v
  fz : ∀ j, w.frozen? ⟨b, j, none⟩ = false
  lt : b < w.heap.size

theorem Way.below {w w' : World} {b : Nat} {s : ByteArray} {x : St} {v : Value} (h : Way w b s x v) {n : Nat} (hb : Below n w w') (hn : b < n) : Way w' b s x v := by
  have hc : ∀ j, w'.cell? ⟨b, j, none⟩ = w.cell? ⟨b, j, none⟩ := fun j => hb.cell hn
  exact ⟨(hc 0).trans h.c0, (hc 1).trans h.c1, (hc 2).trans h.c2, (hc 3).trans h.c3, (hc 4).trans h.c4, fun j => (hb.frozen hn).trans (h.fz j), Nat.lt_of_lt_of_le h.lt hb.size⟩

/-- From w to w' nothing turned but the cells of block b and what lies behind it; lists that were made behind b stand. -/
def Only (b : Nat) (w w' : World) : Prop := Below b w w' ∧ ∀ v ls, Texts w (b + 1) v ls → Texts w' (b + 1) v ls
theorem Only.refl (b : Nat) (w : World) : Only b w w := ⟨Below.refl _ _, fun _ _ h => h⟩
theorem Only.trans {b : Nat} {w w1 w2 : World} (h1 : Only b w w1) (h2 : Only b w1 w2) : Only b w w2 := ⟨h1.1.trans h2.1, fun v ls h => h2.2 v ls (h1.2 v ls h)⟩
theorem Only.of_below {b : Nat} {w w' : World} (h : Below w.heap.size w w') (hb : b < w.heap.size) : Only b w w' := ⟨h.mono (Nat.le_of_lt hb), fun _ _ ht => ht.below h⟩
theorem Only.set {b : Nat} (w : World) (j : Nat) (u : Value) : Only b w (w.setCell ⟨b, j, none⟩ u) := by
  refine ⟨(Below.refl b w).setCell (show b ≤ (⟨b, j, none⟩ : Addr).block from Nat.le_refl b) u, fun v ls h => ?_⟩
  obtain ⟨h1, h2⟩ := h
  refine ⟨h1, ?_⟩
  rcases h2 with h2 | ⟨g, cap, cur, hv, hg, hh, r⟩
  · exact .inl h2
  · exact .inr ⟨g, cap, cur, hv, hg, by rw [RowKit.Below.heap_setCell _ _ _ _ (by simp; omega)]; exact hh, r⟩

theorem way_cell {w : World} {b j k : Nat} {u v v0 : Value} (h : w.cell? ⟨b, k, none⟩ = some v) (h0 : w.cell? ⟨b, j, none⟩ = some v0) : (w.setCell ⟨b, j, none⟩ u).cell? ⟨b, k, none⟩ = some (if k = j then u else v) := by
  by_cases e : k = j
  · subst e; rw [if_pos rfl]; exact World.cell?_setCell_same _ _ _ h0
  · rw [if_neg e, World.cell?_setCell_other _ _ _ _ (by intro e'; injection e' with _ e'; exact e e'.symm)]; exact h
theorem Way.size {w : World} {b : Nat} {s : ByteArray} {x : St} {v : Value} (_h : Way w b s x v) (j : Nat) (u : Value) : (w.setCell ⟨b, j, none⟩ u).heap.size = w.heap.size := by simp
theorem Way.set1 {w : World} {b : Nat} {s : ByteArray} {x : St} {v : Value} (h : Way w b s x v) (n : Nat) : Way (w.setCell ⟨b, 1, none⟩ (.int .i64 n)) b s { x with at_ := n } v :=
  ⟨way_cell h.c0 h.c1, way_cell h.c1 h.c1, way_cell h.c2 h.c1, way_cell h.c3 h.c1, way_cell h.c4 h.c1, fun j => by rw [World.frozen?_setCell]; exact h.fz j, by rw [h.size]; exact h.lt⟩
theorem Way.set2 {w : World} {b : Nat} {s : ByteArray} {x : St} {v : Value} (h : Way w b s x v) (n : Nat) : Way (w.setCell ⟨b, 2, none⟩ (.int .i64 n)) b s { x with row := n } v :=
  ⟨way_cell h.c0 h.c2, way_cell h.c1 h.c2, way_cell h.c2 h.c2, way_cell h.c3 h.c2, way_cell h.c4 h.c2, fun j => by rw [World.frozen?_setCell]; exact h.fz j, by rw [h.size]; exact h.lt⟩
theorem Way.set3 {w : World} {b : Nat} {s : ByteArray} {x : St} {v : Value} (h : Way w b s x v) (n : Nat) : Way (w.setCell ⟨b, 3, none⟩ (.int .i64 n)) b s { x with en := n } v :=
  ⟨way_cell h.c0 h.c3, way_cell h.c1 h.c3, way_cell h.c2 h.c3, way_cell h.c3 h.c3, way_cell h.c4 h.c3, fun j => by rw [World.frozen?_setCell]; exact h.fz j, by rw [h.size]; exact h.lt⟩
theorem Way.set4 {w : World} {b : Nat} {s : ByteArray} {x : St} {v : Value} (h : Way w b s x v) (u : Value) (ls : List (List UInt8)) : Way (w.setCell ⟨b, 4, none⟩ u) b s { x with labs := ls } u :=
  ⟨way_cell h.c0 h.c4, way_cell h.c1 h.c4, way_cell h.c2 h.c4, way_cell h.c3 h.c4, way_cell h.c4 h.c4, fun j => by rw [World.frozen?_setCell]; exact h.fz j, by rw [h.size]; exact h.lt⟩

theorem labs_one {t : List UInt8} (h : okL t = true) : labsL t = [t] := (may_join (ls := [t]) (by simp) (by simpa using h)).2
theorem labs_one_no {t : List UInt8} (h : okL t = false) : (labsL t).length ≠ 1 := by
  intro hl
  match hls : labsL t, hl with
  | [p], _ =>
    have hp : okL p = true := labsL_ok (l := t) (by rw [hls]; simp)
    have hm : mayL t = true := by
      cases hm : mayL t with
      | true => rfl
      | false => rw [labsL_no hm] at hls; cases hls
    have := join_labs hm
    rw [hls] at this
    simp only [join] at this
    rw [← this, hp] at h
    cases h

theorem extract_is (s : ByteArray) (f c : Nat) : s.extract f (f + c) = mk (((bs s).drop f).take c) := by
  rw [Lib.extract_eq s f (f + c), show f + c - f = c by omega]; rfl
theorem piece_len (s : ByteArray) (f c : Nat) : (((bs s).drop f).take c).length ≤ c := by simp; omega

/-- What a step leaves. -/
def After (b : Nat) (s : ByteArray) (w : World) (r : Sum Int (Bool × St)) (e : Ending) (w' : World) : Prop :=
  match r with
  | .inl er => e = .returned (.tuple #[.bool false, .int .i64 er]) ∧ Below b w w'
  | .inr (d, y) => e = .returned (.tuple #[.bool d, .int .i64 0]) ∧ Below b w w' ∧ ∃ v', Way w' b s y v' ∧ Texts w' (b + 1) v' y.labs

theorem num2 (s : ByteArray) (a : Nat) : num s a 2 = bt s a * 256 + bt s (a + 1) := by simp [num]

theorem join_is (ls : List (List UInt8)) : Lib.join ls [46] = join ls := by
  induction ls with
  | nil => rfl
  | cons x r ih =>
    cases r with
    | nil => exact Lib.join_one x [46]
    | cons y r =>
      rw [Lib.join_cons, join_cons x (y :: r) (by simp), ← ih, Lib.join_cons]
      simp [Lib.joinTail]

end Go.Proofs.Ytedbihckdbpebaa

/-
  Contract of package wire's Get, at every text and place.
-/
namespace Go.Proofs.Ytedbihckdbpebaa
open Go.ChangeShapes Go.WideShapes Go.ChangeAt Go.RowKit Go.Pin Go.PlainAid

/-- What a call of Get answers. -/
def told (r : List UInt8 × Int × Int) : Ending := .returned (.tuple #[.string (mk r.1), .int .i64 r.2.1, .int .i64 r.2.2])

theorem wstep_ok {s : List UInt8} {x y : St} {d : Bool} (h : stepWire s x = .inr (d, y)) (h8 : x.labs.length ≤ 8) (hok : ∀ l ∈ x.labs, okL l = true) : y.labs.length ≤ 8 ∧ ∀ l ∈ y.labs, okL l = true := by
  unfold stepWire at h
  split at h
  · cases h
  · simp only at h
    split at h
    · simp only [Sum.inr.injEq, Prod.mk.injEq] at h
      obtain ⟨_, rfl⟩ := h
      exact ⟨h8, hok⟩
    · split at h
      · split at h
        · cases h
        · split at h
          · rename_i hh
            simp only [Sum.inr.injEq, Prod.mk.injEq] at h
            obtain ⟨_, rfl⟩ := h
            refine ⟨by simp; omega, fun l hl => ?_⟩
            rcases List.mem_append.1 hl with hl | hl
            · exact hok l hl
            · simp at hl; subst hl; exact hh.1
          · cases h
      · split at h
        · split at h
          · cases h
          · split at h
            · cases h
            · simp only [Sum.inr.injEq, Prod.mk.injEq] at h
              obtain ⟨_, rfl⟩ := h
              exact ⟨h8, hok⟩
        · cases h

theorem wstep_err {s : List UInt8} {x : St} {e : Int} (h : stepWire s x = .inl e) : e = 300 ∨ e = 301 := by
  unfold stepWire at h
  split at h
  · cases h; simp
  · simp only at h
    split at h
    · cases h
    · split at h
      · split at h
        · cases h; simp
        · split at h
          · cases h
          · cases h; simp
      · split at h
        · split at h
          · cases h; simp
          · split at h
            · cases h; simp
            · cases h
        · cases h; simp

/-- Get, at every text and place. -/
def getI (s : List UInt8) (a : Int) : List UInt8 × Int × Int := if a < 0 then ([], 0, 300) else getL s a.toNat
end Go.Proofs.Ytedbihckdbpebaa

/-
  Lists of known names: how they lie in memory; contracts of the laws' SameKnowns and of the references knownMay and where.
-/
namespace Go.Proofs.Ytedbihckdbpebaa
open Go.ChangeShapes Go.WideShapes Go.ChangeAt Go.RowKit Go.Pin Go.PlainAid

/-- The j-th of them. -/
def knAt (ks : List Kn) (j : Nat) : Kn := ks.getD j ([], 0)
/-- The two cells of one of them. -/
def KnCell (w : World) (y : Addr) (k : Kn) : Prop := w.cell? y = some (.string (mk k.1)) ∧ w.cell? ⟨y.block, y.off + 1, none⟩ = some (.int .i64 k.2)
/-- The known names ks lie from x on. -/
def KnFrom (w : World) (x : Addr) (ks : List Kn) : Prop := ∀ j, j < ks.length → KnCell w (x.add (j * 2)) (knAt ks j)
/-- The known names ks lie behind the address a. -/
def KnLies (w : World) (a : Option Addr) (ks : List Kn) : Prop := ks = [] ∨ ∃ x, a = some x ∧ KnFrom w x ks

theorem findK_at (ks : List Kn) (x : List UInt8) : (∃ j, j < ks.length ∧ (knAt ks j).1 = x ∧ findK ks x = some (knAt ks j).2 ∧ ∀ i, i < j → (knAt ks i).1 ≠ x) ∨ (findK ks x = none ∧ ∀ i, i < ks.length → (knAt ks i).1 ≠ x) := by
  induction ks with
  | nil => exact .inr ⟨rfl, fun i hi => by simp at hi⟩
  | cons k r ih =>
    by_cases h : k.1 = x
    · exact .inl ⟨0, by simp, h, by simp [findK, h, knAt], fun i hi => by omega⟩
    · rcases ih with ⟨j, hj, h1, h2, h3⟩ | ⟨h1, h2⟩
      · refine .inl ⟨j + 1, by simp; omega, h1, by simp [findK, h, h2, knAt], fun i hi => ?_⟩
        cases i with
        | zero => exact h
        | succ i => exact h3 i (by omega)
      · refine .inr ⟨by simp [findK, h, h1], fun i hi => ?_⟩
        cases i with
        | zero => exact h
        | succ i => exact h2 i (by simp at hi; omega)

theorem retn_int {k : IntKind} {a b : Int} (h : a = b) : Ending.returned (Value.int k a) = .returned (.int k b) := by rw [h]

theorem known_cases (k : Kn) : (knownL k = false ∧ k.1 = []) ∨ (knownL k = false ∧ k.1 ≠ [] ∧ mayL k.1 = false) ∨ (knownL k = false ∧ k.1 ≠ [] ∧ mayL k.1 = true ∧ k.2 < 0) ∨ (knownL k = false ∧ k.1 ≠ [] ∧ mayL k.1 = true ∧ 16384 ≤ k.2) ∨ (knownL k = true ∧ k.1 ≠ [] ∧ mayL k.1 = true ∧ 0 ≤ k.2 ∧ k.2 < 16384) := by
  by_cases h0 : k.1 = []
  · exact .inl ⟨by simp [knownL, h0], h0⟩
  · cases h1 : mayL k.1 with
    | false => exact .inr (.inl ⟨by simp [knownL, h1], h0, rfl⟩)
    | true =>
      by_cases h2 : k.2 < 0
      · exact .inr (.inr (.inl ⟨by simp [knownL]; omega, h0, rfl, h2⟩))
      · by_cases h3 : 16384 ≤ k.2
        · exact .inr (.inr (.inr (.inl ⟨by simp [knownL]; omega, h0, rfl, h3⟩)))
        · exact .inr (.inr (.inr (.inr ⟨by simp [knownL, h0, h1]; omega, h0, rfl, by omega, by omega⟩)))

theorem empty_mk_yes {l : List UInt8} (h : l = []) : (mk l).toList.isEmpty = true := empty_yes (by rw [h]; rfl)
theorem empty_mk_no {l : List UInt8} (h : l ≠ []) : (mk l).toList.isEmpty = false := empty_no (by rw [size_mk]; intro e; exact h (List.eq_nil_of_length_eq_zero e))
theorem all_no {ks : List Kn} {j : Nat} (hj : j < ks.length) (h : knownL (knAt ks j) = false) : ks.all knownL = false := by
  rw [List.all_eq_false]
  refine ⟨knAt ks j, ?_, by simp [h]⟩
  unfold knAt
  rw [List.getD_eq_getElem?_getD, List.getElem?_eq_getElem hj]
  exact List.getElem_mem hj
theorem all_yes {ks : List Kn} (h : ∀ j, j < ks.length → knownL (knAt ks j) = true) : ks.all knownL = true := by
  rw [List.all_eq_true]
  intro k hk
  obtain ⟨j, hj, rfl⟩ := List.getElem_of_mem hk
  have := h j hj
  unfold knAt at this
  rwa [List.getD_eq_getElem?_getD, List.getElem?_eq_getElem hj] at this
theorem KnCell.below {w w' : World} {y : Addr} {k : Kn} (h : KnCell w y k) (hb : Below w.heap.size w w') : KnCell w' y k := by
  obtain ⟨h0, h1⟩ := h
  exact ⟨(hb.cell (World.block_lt_of_cell? w _ h0)).trans h0, (hb.cell (World.block_lt_of_cell? w _ h1)).trans h1⟩
theorem KnFrom.below {w w' : World} {x : Addr} {ks : List Kn} (h : KnFrom w x ks) (hb : Below w.heap.size w w') : KnFrom w' x ks := fun j hj => (h j hj).below hb
theorem KnLies.below {w w' : World} {a : Option Addr} {ks : List Kn} (h : KnLies w a ks) (hb : Below w.heap.size w w') : KnLies w' a ks := by
  rcases h with h | ⟨x, rfl, h⟩
  · exact .inl h
  · exact .inr ⟨x, rfl, h.below hb⟩

/-! ### lists of known names that a call made -/
def knCells (ks : List Kn) : List Value := ks.flatMap fun k => [.string (mk k.1), .int .i64 k.2]
theorem knCells_len (ks : List Kn) : (knCells ks).length = ks.length * 2 := by
  induction ks with
  | nil => rfl
  | cons k r ih =>
    have hc : knCells (k :: r) = .string (mk k.1) :: .int .i64 k.2 :: knCells r := rfl
    rw [hc, List.length_cons, List.length_cons, List.length_cons, ih]; omega
theorem knCells_append (a b : List Kn) : knCells (a ++ b) = knCells a ++ knCells b := by simp [knCells]
theorem knCells_at (ks : List Kn) : ∀ j, j < ks.length → (knCells ks)[j * 2]? = some (.string (mk (knAt ks j).1)) ∧ (knCells ks)[j * 2 + 1]? = some (.int .i64 (knAt ks j).2) := by
  induction ks with
  | nil => intro j hj; simp at hj
  | cons k r ih =>
    intro j hj
    have hc : knCells (k :: r) = .string (mk k.1) :: .int .i64 k.2 :: knCells r := rfl
    cases j with
    | zero => exact ⟨rfl, rfl⟩
    | succ j =>
      obtain ⟨h1, h2⟩ := ih j (by simp at hj; omega)
      rw [hc, show (j + 1) * 2 = j * 2 + 1 + 1 by omega, show j * 2 + 1 + 1 + 1 = (j * 2 + 1) + 1 + 1 by omega]
      exact ⟨h1, h2⟩
theorem knCells_one (ks : List Kn) : ∀ u ∈ knCells ks, u.oneCell' = true := by
  intro u hu
  simp only [knCells, List.mem_flatMap] at hu
  obtain ⟨k, _, hu⟩ := hu
  simp at hu
  rcases hu with rfl | rfl <;> rfl
theorem cells_of_from {w : World} {x : Addr} {ks : List Kn} (h : KnFrom w x ks) : ∀ j u, (knCells ks)[j]? = some u → w.cell? (x.add j) = some u := by
  intro j u hj
  have hjl : j < (knCells ks).length := (List.getElem?_eq_some_iff.1 hj).1
  rw [knCells_len] at hjl
  obtain ⟨h1, h2⟩ := knCells_at ks (j / 2) (by omega)
  obtain ⟨g1, g2⟩ := h (j / 2) (by omega)
  rcases Nat.mod_two_eq_zero_or_one j with hm | hm
  · rw [show j = j / 2 * 2 by omega] at hj ⊢
    rw [h1] at hj
    rw [g1, hj]
  · rw [show j = j / 2 * 2 + 1 by omega] at hj ⊢
    rw [h2] at hj
    rw [← hj, ← g2]
    congr 1
    unfold Addr.add
    rw [if_neg (by omega)]
    by_cases hz : j / 2 * 2 = 0
    · rw [if_pos hz, hz]
    · rw [if_neg hz]; simp only [Addr.mk.injEq, and_true, true_and]; omega

end Go.Proofs.Ytedbihckdbpebaa

/-
  Contracts of what package wire's Put asks first: which known names may be, whether a name may be put; a name cut at its first point.
-/
namespace Go.Proofs.Ytedbihckdbpebaa
open Go.ChangeShapes Go.WideShapes Go.ChangeAt Go.RowKit Go.Pin Go.PlainAid Go.Maps

/-- The label that is first, and what is behind it. -/
def headL (l : List UInt8) : List UInt8 := l.takeWhile (· ≠ 46)
def tailL (l : List UInt8) : List UInt8 := (l.dropWhile (· ≠ 46)).drop 1
theorem head_hit (a b : List UInt8) (h : (46 : UInt8) ∉ a) : headL (a ++ 46 :: b) = a ∧ tailL (a ++ 46 :: b) = b := by
  induction a with
  | nil => simp [headL, tailL]
  | cons c a ih =>
    simp only [List.mem_cons, not_or] at h
    have hc : c ≠ 46 := fun e => h.1 e.symm
    obtain ⟨h1, h2⟩ := ih h.2
    unfold headL tailL at *
    simp only [List.cons_append, ne_eq, hc, not_false_eq_true, decide_true, List.takeWhile_cons_of_pos, List.dropWhile_cons_of_pos]
    exact ⟨by rw [h1], h2⟩
theorem head_miss (a : List UInt8) (h : (46 : UInt8) ∉ a) : headL a = a ∧ tailL a = [] := by
  induction a with
  | nil => simp [headL, tailL]
  | cons c a ih =>
    simp only [List.mem_cons, not_or] at h
    have hc : c ≠ 46 := fun e => h.1 e.symm
    obtain ⟨h1, h2⟩ := ih h.2
    unfold headL tailL at *
    simp only [ne_eq, hc, not_false_eq_true, decide_true, List.takeWhile_cons_of_pos, List.dropWhile_cons_of_pos]
    exact ⟨by rw [h1], h2⟩

theorem cutAt (l : List UInt8) (w : World) (hs : l.length ≤ maxLen) : Calls Try.prog 76 #[.string (mk l), .string ⟨#[46]⟩] w fun e w' => (∃ m, e = .returned (.tuple #[.string (mk (headL l)), .string (mk (tailL l)), .bool m])) ∧ Below w.heap.size w w' := by
  rcases cut_step l with ⟨x, b, rfl, hx⟩ | hx
  · obtain ⟨h1, h2⟩ := head_hit x b hx
    rw [h1, h2]
    exact (cut_hit _ x b w rfl hx (by rw [size_mk]; exact hs)).mono fun e w' ⟨h1, h2⟩ => ⟨⟨_, h1⟩, h2⟩
  · obtain ⟨h1, h2⟩ := head_miss l hx
    rw [h1, h2]
    exact (cut_miss (mk l) w hx).mono fun e w' ⟨h1, h2⟩ => ⟨⟨_, h1⟩, by rw [h2]; exact Below.refl _ _⟩

theorem knAt_mem {ks : List Kn} {j : Nat} (hj : j < ks.length) : knAt ks j ∈ ks := by
  unfold knAt
  rw [List.getD_eq_getElem?_getD, List.getElem?_eq_getElem hj]
  exact List.getElem_mem hj

end Go.Proofs.Ytedbihckdbpebaa

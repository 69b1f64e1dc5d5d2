/-
  Several texts in one.
-/
import Derived.Test.YtedbihckdbpebaaBWire
import Derived.Maps.OwnSet
import Derived.DeepKeys4
import Derived.Deep.RegionWith
import Derived.Test.YtedbihckdbpebaaBBe
import Derived.Test.YtedbihckdbpebaaBName
/-
  The map of package wire's placesOf: where each known name stands; contract of placesOf.
-/
namespace Go.Proofs.Ytedbihckdbpebaa
open Go.ChangeShapes Go.WideShapes Go.ChangeAt Go.RowKit Go.Pin Go.PlainAid

theorem Try.laid : laidOutB Try.prog = true := by kernel_rfl
theorem Try.zeroInt (w : World) : (zeroValue 3).run Try.prog w = .ok (.int .i64 0) w := by kernel_rfl
theorem Try.strCells : Try.prog.cellsOf 9 = 1 := by kernel_rfl
/-- The first of ks with this label and this rest. -/
def findT : List Kn → List UInt8 → List UInt8 → Option Int
  | [], _, _ => none
  | k :: r, l, m => if headL k.1 = l ∧ tailL k.1 = m then some k.2 else findT r l m
theorem findT_snoc (ks : List Kn) (k : Kn) (l m : List UInt8) : findT (ks ++ [k]) l m = match findT ks l m with | some a => some a | none => if headL k.1 = l ∧ tailL k.1 = m then some k.2 else none := by
  induction ks with
  | nil => simp [findT]
  | cons x r ih =>
    simp only [List.cons_append, findT]
    by_cases h : headL x.1 = l ∧ tailL x.1 = m
    · simp [h]
    · simp only [h, if_false]; exact ih

theorem head_tail {y : List UInt8} (hm : mayL y = true) (hy : y ≠ []) : y = if tailL y = [] then headL y else headL y ++ 46 :: tailL y := by
  have hl := labsL_yes hm hy
  cases hs : split y with
  | nil => exact absurd hs (split_ne y)
  | cons p r =>
    have hp : okL p = true := labsL_ok (l := y) (by rw [hl, hs]; simp)
    have hj := join_split y
    rw [hs] at hj
    have hd : (46 : UInt8) ∉ p := okL_nodot hp
    by_cases hr : r = []
    · subst hr
      simp only [join] at hj
      obtain ⟨h1, h2⟩ := head_miss y (by rw [← hj]; exact hd)
      rw [h2, if_pos rfl, h1]
    · rw [join_cons p r hr] at hj
      obtain ⟨h1, h2⟩ := head_hit p (join r) hd
      rw [hj] at h1 h2
      have hne : join r ≠ [] := join_ne hr (fun x hx => labsL_ok (l := y) (by rw [hl, hs]; exact List.mem_cons_of_mem _ hx))
      rw [h1, h2, if_neg hne, hj]
theorem findT_is (ks : List Kn) (x : List UInt8) (hm : mayL x = true) (hx : x ≠ []) (hk : ks.all knownL = true) : findT ks (headL x) (tailL x) = findK ks x := by
  induction ks with
  | nil => rfl
  | cons k r ih =>
    simp only [List.all_cons, Bool.and_eq_true] at hk
    have hkk : mayL k.1 = true ∧ k.1 ≠ [] := by
      rcases known_cases k with ⟨h, _⟩ | ⟨h, _⟩ | ⟨h, _⟩ | ⟨h, _⟩ | ⟨_, h1, h2, _⟩
      · rw [hk.1] at h; cases h
      · rw [hk.1] at h; cases h
      · rw [hk.1] at h; cases h
      · rw [hk.1] at h; cases h
      · exact ⟨h2, h1⟩
    simp only [findT, findK]
    by_cases he : k.1 = x
    · rw [if_pos he, if_pos ⟨by rw [he], by rw [he]⟩]
    · rw [if_neg he, if_neg, ih hk.2]
      rintro ⟨h1, h2⟩
      apply he
      rw [head_tail hkk.1 hkk.2, head_tail hm hx, h1, h2]

theorem head_len (l : List UInt8) : (headL l).length ≤ l.length := by unfold headL; exact (List.takeWhile_sublist _).length_le
theorem tail_len (l : List UInt8) : (tailL l).length ≤ l.length := by unfold tailL; exact ((List.drop_sublist _ _).trans (List.dropWhile_sublist _)).length_le
theorem take_kn (ks : List Kn) (j : Nat) (h : j < ks.length) : ks.take (j + 1) = ks.take j ++ [knAt ks j] := by
  unfold knAt
  rw [List.take_add_one, List.getD_eq_getElem?_getD, List.getElem?_eq_getElem h]; rfl

end Go.Proofs.Ytedbihckdbpebaa

/-
  Contract of package wire's Put, at every place, list of known names and name.
-/
namespace Go.Proofs.Ytedbihckdbpebaa
set_option maxRecDepth 100000
open Go.ChangeShapes Go.WideShapes Go.ChangeAt Go.RowKit Go.Pin Go.PlainAid

theorem be1_is (n : Nat) (h : n ≤ 255) : be (n : Int) 1 = mk [UInt8.ofNat n] := by
  rw [be_1 n (by omega) (by omega)]; rfl
theorem be2_is (x : Int) (h0 : 0 ≤ x) (h1 : x < 65536) : be x 2 = mk (be2 x) := by
  rw [be_2 x h0 h1]; rfl

/-- How far Put has come. -/
structure Putting (ks : List Kn) (at_ : Int) (ls r : List (List UInt8)) (P : List UInt8) (N : List Kn) : Prop where
  s : putS ks ls = P ++ putS ks r
  n : putN ks at_ ls = N ++ putN ks (at_ + P.length) r
  len : P.length + 9 * r.length ≤ 72
  nlen : N.length + r.length ≤ 8
  ok : ∀ x ∈ r, okL x = true

theorem Putting.next {ks : List Kn} {at_ : Int} {ls r : List (List UInt8)} {p : List UInt8} {P : List UInt8} {N : List Kn} (h : Putting ks at_ ls (p :: r) P N) (hf : findK ks (join (p :: r)) = none) :
    Putting ks at_ ls r (P ++ (UInt8.ofNat p.length :: p)) (N ++ if at_ + P.length < 16384 then [(join (p :: r), at_ + P.length)] else []) := by
  obtain ⟨h1, h2, h3, h4, h5⟩ := h
  have hp := okL_bounds (h5 p (by simp))
  refine ⟨?_, ?_, ?_, ?_, fun x hx => h5 x (List.mem_cons_of_mem _ hx)⟩
  · rw [h1, putS, hf]; simp
  · rw [h2, putN, hf]
    simp only [List.length_append, List.length_cons, List.append_assoc]
    rw [show at_ + (P.length + (p.length + 1) : Nat) = at_ + P.length + 1 + p.length by omega]
  · simp only [List.length_append, List.length_cons] at h3 ⊢; omega
  · simp only [List.length_append, List.length_cons] at h4 ⊢
    split <;> simp <;> omega
theorem Putting.found {ks : List Kn} {at_ : Int} {ls r : List (List UInt8)} {p : List UInt8} {P : List UInt8} {N : List Kn} {a : Int} (h : Putting ks at_ ls (p :: r) P N) (hf : findK ks (join (p :: r)) = some a) :
    putS ks ls = P ++ be2 (49152 + a) ∧ putN ks at_ ls = N := by
  obtain ⟨h1, h2, _⟩ := h
  rw [h1, h2, putS, putN, hf]; simp
theorem Putting.done {ks : List Kn} {at_ : Int} {ls : List (List UInt8)} {P : List UInt8} {N : List Kn} (h : Putting ks at_ ls [] P N) : putS ks ls = P ++ [0] ∧ putN ks at_ ls = N := by
  obtain ⟨h1, h2, _⟩ := h
  rw [h1, h2]; simp [putS, putN]
theorem find_known {ks : List Kn} {x : List UInt8} {a : Int} (hk : ks.all knownL = true) (h : findK ks x = some a) : 0 ≤ a ∧ a < 16384 := by
  rcases findK_at ks x with ⟨j, hj, _, h2, _⟩ | ⟨h2, _⟩
  · rw [h2] at h; cases h
    have := List.all_eq_true.1 hk _ (knAt_mem hj)
    rcases known_cases (knAt ks j) with ⟨h, _⟩ | ⟨h, _⟩ | ⟨h, _⟩ | ⟨h, _⟩ | ⟨_, _, _, h1, h2⟩
    all_goals first | (rw [this] at h; cases h; done) | exact ⟨h1, h2⟩
  · rw [h2] at h; cases h
theorem join_head {p : List UInt8} {r : List (List UInt8)} (ho : ∀ x ∈ p :: r, okL x = true) : headL (join (p :: r)) = p ∧ tailL (join (p :: r)) = join r := by
  have hd : (46 : UInt8) ∉ p := okL_nodot (ho p (by simp))
  by_cases hr : r = []
  · subst hr; exact head_miss p hd
  · rw [join_cons p r hr]; exact head_hit p (join r) hd

theorem new_at (w : World) (cs : Array Value) (t : TypeId) (j : Nat) (v : Value) (n : Nat) (hn : w.heap.size = n) (h : cs[j]? = some v) : (w.alloc (.cells cs t)).cell? ⟨n, j, none⟩ = some v := by
  subst hn; exact new_cell w cs t j v h
theorem cell_of_block {w w' : World} {b : Nat} (h : w'.heap[b]? = w.heap[b]?) (j : Nat) : w'.cell? ⟨b, j, none⟩ = w.cell? ⟨b, j, none⟩ := by simp only [World.cell?, h]
end Go.Proofs.Ytedbihckdbpebaa

/-
  Plain lemmas that speak of no program: what is put into a message is told again, pointers and all.
-/
namespace Go.Pin
open Go.Proofs.Ytedbihckdbpebaa (okL_bounds join_len)

/-- Two bytes that point to q. -/
def Ptr (s : List UInt8) (at_ q : Nat) : Prop := q < 16384 ∧ ∃ rest, s.drop at_ = be2 (49152 + q) ++ rest
/-- The labels ls stand from a place on (great letters or small ones), in a row that began at 'row'; behind its first pointer or its end: e. -/
def Stands (s : List UInt8) : List (List UInt8) → Nat → Nat → Nat → Prop
  | [], at_, _, e => s[at_]? = some 0 ∧ e = at_ + 1
  | p :: r, at_, row, e => (∃ raw rest, foldL raw = p ∧ s.drop at_ = UInt8.ofNat raw.length :: (raw ++ rest)) ∧
      (Stands s r (at_ + 1 + p.length) row e ∨ ∃ q e', q < row ∧ Ptr s (at_ + 1 + p.length) q ∧ Stands s r q q e' ∧ e = at_ + 1 + p.length + 2)
/-- .. or a pointer to where they stand. -/
def Told (s : List UInt8) (ls : List (List UInt8)) (at_ row e : Nat) : Prop := Stands s ls at_ row e ∨ ∃ q e', q < row ∧ Ptr s at_ q ∧ Stands s ls q q e' ∧ e = at_ + 2

theorem drop_at {s a b : List UInt8} {n : Nat} (h : s.drop n = a ++ b) (ha : a ≠ []) : n + a.length ≤ s.length ∧ (∀ i, i < a.length → s[n + i]? = a[i]?) ∧ s.drop (n + a.length) = b := by
  have hl : s.length - n = a.length + b.length := by have := congrArg List.length h; simpa using this
  have ha' : 0 < a.length := List.length_pos_iff.2 ha
  refine ⟨by omega, fun i hi => ?_, ?_⟩
  · rw [← List.getElem?_drop, h, List.getElem?_append_left hi]
  · rw [← List.drop_drop, h]; simp

theorem goOn_twice (en a b : Nat) (h : a ≠ 0) : goOn (goOn en a) b = goOn en a := by
  unfold goOn
  by_cases h0 : en = 0
  · simp [h0, h]
  · simp [h0]

theorem ptr_bytes {s : List UInt8} {at_ q : Nat} (h : Ptr s at_ q) : ∃ c d : UInt8, s[at_]? = some c ∧ s[at_ + 1]? = some d ∧ 192 ≤ c.toNat ∧ (c.toNat - 192) * 256 + d.toNat = q := by
  obtain ⟨hq, rest, h⟩ := h
  obtain ⟨_, h2, _⟩ := drop_at h (by simp [be2])
  refine ⟨_, _, h2 0 (by simp [be2]), h2 1 (by simp [be2]), ?_, ?_⟩
  · simp; omega
  · simp; omega

theorem all_stands (s : List UInt8) : ∀ (ls : List (List UInt8)) (at_ row en : Nat) (labs : List (List UInt8)) (e : Nat), (∀ x ∈ ls, okL x = true) → labs.length + ls.length ≤ 8 → Stands s ls at_ row e →
    ∃ a' r', allWire s ⟨at_, row, en, labs⟩ = .inr ⟨a', r', goOn en e, labs ++ ls⟩
  | [], at_, row, en, labs, e, _, _, h => by
    obtain ⟨h1, rfl⟩ := h
    exact ⟨_, _, by rw [allWire_end (wstep_zero (x := ⟨at_, row, en, labs⟩) h1 rfl), List.append_nil]⟩
  | p :: r, at_, row, en, labs, e, hok, h8, h => by
    obtain ⟨⟨raw, rest, hraw, hd⟩, ht⟩ := h
    have hp := hok p (by simp)
    have hpb := okL_bounds hp
    have hrl : raw.length = p.length := by rw [← hraw]; simp [foldL]
    have hd' : s.drop at_ = (UInt8.ofNat raw.length :: raw) ++ rest := by rw [hd]; rfl
    obtain ⟨d1, d2, d3⟩ := drop_at hd' (by simp)
    have hc : s[at_]? = some (UInt8.ofNat raw.length) := d2 0 (by simp)
    have hcn : (UInt8.ofNat raw.length).toNat = raw.length := by simp; omega
    have hpiece : (s.drop (at_ + 1)).take raw.length = raw := by
      rw [← List.drop_drop, hd]; simp
    have hlen : at_ + 1 + raw.length ≤ s.length := by simp at d1; omega
    simp only [List.length_cons] at h8
    have hst := wstep_label (x := ⟨at_, row, en, labs⟩) hc (by rw [hcn]; omega) (by rw [hcn]; omega) (by rw [hcn]; exact hlen) (by rw [hcn, hpiece, hraw]; exact hp) (by simp only; omega)
    rw [hcn, hpiece, hraw] at hst
    rw [allWire_on hst]
    simp only
    have hr8 : (labs ++ [p]).length + r.length ≤ 8 := by simp; omega
    have hrok : ∀ x ∈ r, okL x = true := fun x hx => hok x (List.mem_cons_of_mem _ hx)
    rw [hrl]
    rcases ht with ht | ⟨q, e', hq, hptr, ht, rfl⟩
    · obtain ⟨a', r', h⟩ := all_stands s r (at_ + 1 + p.length) row en (labs ++ [p]) e hrok hr8 ht
      exact ⟨a', r', by rw [h]; simp⟩
    · obtain ⟨c, d, h1, h2, h3, h4⟩ := ptr_bytes hptr
      have hst2 := wstep_point (x := ⟨at_ + 1 + p.length, row, en, labs ++ [p]⟩) h1 h2 h3 (by simp only; omega)
      rw [allWire_on hst2, h4]
      obtain ⟨a', r', h⟩ := all_stands s r q q (goOn en (at_ + 1 + p.length + 2)) (labs ++ [p]) e' hrok hr8 ht
      exact ⟨a', r', by rw [h, goOn_twice _ _ _ (by omega)]; simp⟩

theorem get_told {s : List UInt8} {ls : List (List UInt8)} {at_ e : Nat} (h : Told s ls at_ at_ e) (hok : ∀ x ∈ ls, okL x = true) (h8 : ls.length ≤ 8) : getL s at_ = (join ls, (e : Int), 0) := by
  unfold getL
  rcases h with h | ⟨q, e', hq, hptr, h, rfl⟩
  · obtain ⟨a', r', h⟩ := all_stands s ls at_ at_ 0 [] e hok (by simpa using h8) h
    rw [h]; simp [endWire, goOn]
  · obtain ⟨c, d, h1, h2, h3, h4⟩ := ptr_bytes hptr
    have hst2 := wstep_point (x := ⟨at_, at_, 0, []⟩) h1 h2 h3 (by simp only; omega)
    rw [allWire_on hst2, h4]
    obtain ⟨a', r', h⟩ := all_stands s ls q q (goOn 0 (at_ + 2)) [] e' hok (by simpa using h8) h
    simp only
    rw [h, goOn_twice _ _ _ (by omega)]; simp [endWire, goOn]

/-! ### more behind it -/
theorem drop_more {s t a : List UInt8} {n : Nat} (h : s.drop n = a) (ha : a ≠ []) : (s ++ t).drop n = a ++ t := by
  have : n ≤ s.length := by
    have := congrArg List.length h
    have ha' : 0 < a.length := List.length_pos_iff.2 ha
    simp at this; omega
  rw [List.drop_append_of_le_length this, h]
theorem Ptr.more {s : List UInt8} {at_ q : Nat} (h : Ptr s at_ q) (t : List UInt8) : Ptr (s ++ t) at_ q := by
  obtain ⟨hq, rest, h⟩ := h
  exact ⟨hq, rest ++ t, by rw [drop_more h (by simp [be2])]; simp⟩
theorem Stands.more {s : List UInt8} (t : List UInt8) : ∀ {ls : List (List UInt8)} {at_ row e : Nat}, Stands s ls at_ row e → Stands (s ++ t) ls at_ row e
  | [], at_, row, e, h => by
    obtain ⟨h1, h2⟩ := h
    exact ⟨by rw [List.getElem?_append_left (List.getElem?_eq_some_iff.1 h1).1]; exact h1, h2⟩
  | p :: r, at_, row, e, h => by
    obtain ⟨⟨raw, rest, h1, h2⟩, h3⟩ := h
    refine ⟨⟨raw, rest ++ t, h1, by rw [drop_more h2 (by simp)]; simp⟩, ?_⟩
    rcases h3 with h3 | ⟨q, e', hq, hp, h3, h4⟩
    · exact .inl (Stands.more t h3)
    · exact .inr ⟨q, e', hq, hp.more t, Stands.more t h3, h4⟩
theorem Told.more {s : List UInt8} {ls : List (List UInt8)} {at_ row e : Nat} (h : Told s ls at_ row e) (t : List UInt8) : Told (s ++ t) ls at_ row e := by
  rcases h with h | ⟨q, e', hq, hp, h3, h4⟩
  · exact .inl (h.more t)
  · exact .inr ⟨q, e', hq, hp.more t, h3.more t, h4⟩

/-- All that is known stands there. -/
def Good (s : List UInt8) (ks : List Kn) : Prop := ∀ k ∈ ks, knownL k = true ∧ k.2.toNat < s.length ∧ ∃ e, Stands s (labsL k.1) k.2.toNat k.2.toNat e
theorem Good.more {s : List UInt8} {ks : List Kn} (h : Good s ks) (t : List UInt8) : Good (s ++ t) ks := fun k hk => by
  obtain ⟨h1, h2, e, h3⟩ := h k hk
  exact ⟨h1, by simp; omega, e, h3.more t⟩
theorem findK_mem {ks : List Kn} {x : List UInt8} {a : Int} (h : findK ks x = some a) : (x, a) ∈ ks := by
  induction ks with
  | nil => cases h
  | cons k r ih =>
    unfold findK at h
    split at h
    · rename_i hk
      cases h
      subst hk
      simp
    · exact List.mem_cons_of_mem _ (ih h)
theorem known_bounds {k : Kn} (h : knownL k = true) : k.1 ≠ [] ∧ mayL k.1 = true ∧ 0 ≤ k.2 ∧ k.2 < 16384 := by
  simp only [knownL, Bool.and_eq_true, Bool.not_eq_true', decide_eq_false_iff_not, decide_eq_true_eq] at h
  exact ⟨h.1.1.1, h.1.1.2, h.1.2, h.2⟩

theorem foldL_ok {p : List UInt8} (h : okL p = true) : foldL p = p := by
  have := fold_may (l := p) (may_join (ls := [p]) (by simp) (by simpa using h)).1
  exact this
theorem put_told {s0 : List UInt8} {ks : List Kn} (hg : Good s0 ks) : ∀ (ls : List (List UInt8)) (u : List UInt8) (row : Nat), (∀ x ∈ ls, okL x = true) → ls.length ≤ 8 → s0.length ≤ row →
    Told (s0 ++ u ++ putS ks ls) ls (s0 ++ u).length row (s0 ++ u ++ putS ks ls).length ∧ (findK ks (join ls) = none → ls ≠ [] → Stands (s0 ++ u ++ putS ks ls) ls (s0 ++ u).length row (s0 ++ u ++ putS ks ls).length)
  | [], u, row, _, _, _ => by
    refine ⟨.inl ⟨?_, ?_⟩, fun _ h => absurd rfl h⟩
    · rw [putS, List.getElem?_append_right (Nat.le_refl _)]; simp
    · rw [putS]; simp; omega
  | p :: r, u, row, hok, h8, hrow => by
    have hp := hok p (by simp)
    have hpb := okL_bounds hp
    have hrok : ∀ x ∈ r, okL x = true := fun x hx => hok x (List.mem_cons_of_mem _ hx)
    simp only [List.length_cons] at h8
    rw [putS]
    cases hf : findK ks (join (p :: r)) with
    | some a =>
      simp only
      obtain ⟨h1, h2, e', h3⟩ := hg _ (findK_mem hf)
      have hb := known_bounds h1
      simp only at h1 h2 h3 hb
      refine ⟨.inr ⟨a.toNat, e', by omega, ⟨by omega, [], ?_⟩, ?_, ?_⟩, fun h => by cases h⟩
      · rw [List.drop_left, show ((a.toNat : Nat) : Int) = a by omega]; simp
      · rw [(may_join (ls := p :: r) (by simpa using h8) hok).2] at h3
        rw [List.append_assoc]; exact h3.more _
      · simp [be2]; omega
    | none =>
      simp only
      have ih := (put_told hg r (u ++ (UInt8.ofNat p.length :: p)) row hrok (by omega) hrow).1
      have e1 : s0 ++ (u ++ (UInt8.ofNat p.length :: p)) ++ putS ks r = s0 ++ u ++ UInt8.ofNat p.length :: (p ++ putS ks r) := by simp
      have e2 : (s0 ++ (u ++ (UInt8.ofNat p.length :: p))).length = (s0 ++ u).length + 1 + p.length := by simp; omega
      rw [e1, e2] at ih
      have hS : Stands (s0 ++ u ++ UInt8.ofNat p.length :: (p ++ putS ks r)) (p :: r) (s0 ++ u).length row (s0 ++ u ++ UInt8.ofNat p.length :: (p ++ putS ks r)).length :=
        ⟨⟨p, putS ks r, foldL_ok hp, by rw [List.drop_left]⟩, ih⟩
      exact ⟨.inl hS, fun _ _ => hS⟩

theorem put_good {s0 : List UInt8} {ks : List Kn} (hg : Good s0 ks) : ∀ (ls : List (List UInt8)) (u : List UInt8), (∀ x ∈ ls, okL x = true) → ls.length ≤ 8 →
    Good (s0 ++ u ++ putS ks ls) (putN ks ((s0 ++ u).length : Nat) ls)
  | [], u, _, _ => by intro k hk; simp [putN] at hk
  | p :: r, u, hok, h8 => by
    have hp := hok p (by simp)
    have hrok : ∀ x ∈ r, okL x = true := fun x hx => hok x (List.mem_cons_of_mem _ hx)
    have hm := may_join h8 hok
    have h8' : (p :: r).length ≤ 8 := h8
    simp only [List.length_cons] at h8
    have hst := (put_told hg (p :: r) u (s0 ++ u).length hok h8' (by simp)).2
    intro k hk
    rw [putN] at hk
    rw [putS] at hst ⊢
    cases hf : findK ks (join (p :: r)) with
    | some a => rw [hf] at hk; simp at hk
    | none =>
      rw [hf] at hk hst
      simp only at hk hst ⊢
      have ih := put_good hg r (u ++ (UInt8.ofNat p.length :: p)) hrok (by omega)
      have e1 : s0 ++ (u ++ (UInt8.ofNat p.length :: p)) ++ putS ks r = s0 ++ u ++ UInt8.ofNat p.length :: (p ++ putS ks r) := by simp
      have e2 : (((s0 ++ (u ++ (UInt8.ofNat p.length :: p))).length : Nat) : Int) = ((s0 ++ u).length : Nat) + 1 + (p.length : Nat) := by simp; omega
      rw [e1, e2] at ih
      rcases List.mem_append.1 hk with hk | hk
      · split at hk
        · rename_i hfar
          simp only [List.mem_singleton] at hk
          subst hk
          refine ⟨?_, ?_, ?_⟩
          · simp only [knownL, hm.1, join_ne (by simp) hok, Bool.and_eq_true, decide_eq_true_eq, Bool.not_eq_true', decide_eq_false_iff_not, and_true, not_false_eq_true]
            exact ⟨⟨trivial, by omega⟩, hfar⟩
          · simp; omega
          · simp only [Int.toNat_natCast, hm.2]
            exact ⟨_, hst trivial (by simp)⟩
        · simp at hk
      · exact ih k hk

theorem putS_len (ks : List Kn) : ∀ ls : List (List UInt8), (∀ x ∈ ls, okL x = true) → 1 ≤ (putS ks ls).length ∧ (putS ks ls).length ≤ 1 + 9 * ls.length
  | [], _ => by simp [putS]
  | p :: r, hok => by
    have hpb := okL_bounds (hok p (by simp))
    have := putS_len ks r (fun x hx => hok x (List.mem_cons_of_mem _ hx))
    rw [putS]
    split
    · simp [be2]; omega
    · simp; omega
theorem putS_shorter (ks : List Kn) : ∀ ls : List (List UInt8), (∀ x ∈ ls, okL x = true) → (putS ks ls).length ≤ (putS [] ls).length
  | [], _ => by simp [putS]
  | p :: r, hok => by
    have hpb := okL_bounds (hok p (by simp))
    have h1 := putS_shorter ks r (fun x hx => hok x (List.mem_cons_of_mem _ hx))
    have h2 := (putS_len [] r (fun x hx => hok x (List.mem_cons_of_mem _ hx))).1
    have e : putS [] (p :: r) = UInt8.ofNat p.length :: (p ++ putS [] r) := rfl
    rw [e, putS]
    split
    · simp [be2]; omega
    · simp; omega
theorem findK_append (ks ns : List Kn) (x : List UInt8) : findK (ks ++ ns) x = match findK ks x with | some a => some a | none => findK ns x := by
  induction ks with
  | nil => rfl
  | cons k r ih =>
    simp only [List.cons_append, findK]
    split
    · rfl
    · exact ih
/-- What was put is known. -/
theorem put_known (ks : List Kn) (at_ : Int) (ls : List (List UInt8)) (hat : at_ < 16384) (h : ls ≠ []) : (findK (ks ++ putN ks at_ ls) (join ls)).isSome = true := by
  rw [findK_append]
  cases hf : findK ks (join ls) with
  | some a => rfl
  | none =>
    cases ls with
    | nil => exact absurd rfl h
    | cons p r =>
      simp only
      rw [putN, hf]
      simp [hat, findK]

end Go.Pin

/-
  Plain lemmas that speak of no program: where a name that is told ends; what stands behind its end does not matter to it.
-/
namespace Go.Pin
open Go.Proofs.Ytedbihckdbpebaa (okL_bounds join_len wstep_ok wstep_err)

theorem wstep_cases {s : List UInt8} {x y : St} {d : Bool} (h : stepWire s x = .inr (d, y)) : ∃ c : UInt8, s[x.at_]? = some c ∧
    ((c.toNat = 0 ∧ d = true ∧ y = { x with en := goOn x.en (x.at_ + 1) }) ∨
     (c.toNat ≠ 0 ∧ c.toNat ≤ 8 ∧ x.at_ + 1 + c.toNat ≤ s.length ∧ okL (foldL ((s.drop (x.at_ + 1)).take c.toNat)) = true ∧ x.labs.length ≠ 8 ∧ d = false ∧ y = { x with at_ := x.at_ + 1 + c.toNat, labs := x.labs ++ [foldL ((s.drop (x.at_ + 1)).take c.toNat)] }) ∨
     (192 ≤ c.toNat ∧ ∃ e : UInt8, s[x.at_ + 1]? = some e ∧ (c.toNat - 192) * 256 + e.toNat < x.row ∧ d = false ∧ y = { x with at_ := (c.toNat - 192) * 256 + e.toNat, row := (c.toNat - 192) * 256 + e.toNat, en := goOn x.en (x.at_ + 2) })) := by
  unfold stepWire at h
  split at h
  · cases h
  · rename_i c hc
    refine ⟨c, hc, ?_⟩
    simp only at h
    split at h
    · rename_i h0
      simp only [Sum.inr.injEq, Prod.mk.injEq] at h
      exact .inl ⟨h0, h.1.symm, h.2.symm⟩
    · rename_i h0
      split at h
      · rename_i h8
        split at h
        · cases h
        · rename_i hl
          split at h
          · rename_i hok
            simp only [Sum.inr.injEq, Prod.mk.injEq] at h
            exact .inr (.inl ⟨h0, h8, by omega, hok.1, hok.2, h.1.symm, h.2.symm⟩)
          · cases h
      · split at h
        · rename_i h8 h192
          split at h
          · cases h
          · rename_i e he
            split at h
            · cases h
            · rename_i hp
              simp only [Sum.inr.injEq, Prod.mk.injEq] at h
              exact .inr (.inr ⟨h192, e, he, by omega, h.1.symm, h.2.symm⟩)
        · cases h

theorem at_more {s t : List UInt8} {n : Nat} {c : UInt8} (h : s[n]? = some c) : (s ++ t)[n]? = some c := by
  rw [List.getElem?_append_left (List.getElem?_eq_some_iff.1 h).1]; exact h
theorem at_less {s t : List UInt8} {n : Nat} {c : UInt8} (h : (s ++ t)[n]? = some c) (hn : n < s.length) : s[n]? = some c := by
  rw [List.getElem?_append_left hn] at h; exact h
theorem piece_more {s t : List UInt8} {a k : Nat} (h : a + k ≤ s.length) : ((s ++ t).drop a).take k = (s.drop a).take k := by
  rw [List.drop_append_of_le_length (by omega), List.take_append_of_le_length (by simp; omega)]

theorem wstep_more {s : List UInt8} {x y : St} {d : Bool} (h : stepWire s x = .inr (d, y)) (t : List UInt8) : stepWire (s ++ t) x = .inr (d, y) := by
  obtain ⟨c, hc, hh⟩ := wstep_cases h
  rcases hh with ⟨h0, rfl, rfl⟩ | ⟨h0, h8, hl, hok, h9, rfl, rfl⟩ | ⟨h1, e, he, hp, rfl, rfl⟩
  · exact wstep_zero (at_more hc) h0
  · rw [← piece_more (t := t) hl] at hok ⊢
    exact wstep_label (at_more hc) h0 h8 (by simp; omega) hok h9
  · exact wstep_point (at_more hc) (at_more he) h1 hp

theorem run_more {s : List UInt8} (t : List UInt8) : ∀ (f : Nat) (x y : St), runWire f s x = .inr y → runWire f (s ++ t) x = .inr y
  | 0, x, y, h => by cases h
  | f + 1, x, y, h => by
    unfold runWire at h ⊢
    cases hs : stepWire s x with
    | inl e => rw [hs] at h; cases h
    | inr dy =>
      obtain ⟨d, z⟩ := dy
      rw [hs] at h
      rw [wstep_more hs t]
      cases d
      · exact run_more t f z y h
      · exact h

theorem mu_more (s t : List UInt8) (x : St) : muWire s x ≤ muWire (s ++ t) x := by
  simp only [muWire, List.length_append]
  have : x.row * (s.length + 1) ≤ x.row * (s.length + t.length + 1) := Nat.mul_le_mul_left _ (by omega)
  omega
theorem all_run {s : List UInt8} {x : St} {f : Nat} (h : muWire s x < f) : allWire s x = runWire f s x := run_fuel s _ _ x (by omega) h

/-- What is told of a text is told of a longer one. -/
theorem get_more {s : List UInt8} {at_ : Nat} {n : List UInt8} {e : Int} (h : getL s at_ = (n, e, 0)) (t : List UInt8) : getL (s ++ t) at_ = (n, e, 0) := by
  unfold getL at h ⊢
  rw [all_run (f := muWire (s ++ t) ⟨at_, at_, 0, []⟩ + 1) (Nat.lt_succ_of_le (mu_more s t _))] at h
  rw [all_run (f := muWire (s ++ t) ⟨at_, at_, 0, []⟩ + 1) (Nat.lt_succ_self _)]
  cases hr : runWire (muWire (s ++ t) ⟨at_, at_, 0, []⟩ + 1) s ⟨at_, at_, 0, []⟩ with
  | inl er =>
    rw [hr] at h
    simp only [endWire, Prod.mk.injEq] at h
    have : ∀ (f : Nat) (x : St), muWire s x < f → runWire f s x ≠ .inl 0 := by
      intro f
      induction f with
      | zero => intro x hx; omega
      | succ f ih =>
        intro x hx
        unfold runWire
        cases hs : stepWire s x with
        | inl e => intro hh; simp only [Sum.inl.injEq] at hh; rcases wstep_err hs with h | h <;> omega
        | inr dy =>
          obtain ⟨d, z⟩ := dy
          cases d
          · exact ih z (by have := wstep_mu hs; omega)
          · intro hh; cases hh
    exact absurd (by rw [hr, h.2.2]) (this _ ⟨at_, at_, 0, []⟩ (Nat.lt_succ_of_le (mu_more s t _)))
  | inr y =>
    rw [run_more t _ _ y hr]
    rw [hr] at h
    exact h

theorem byte_low {l : List UInt8} (h : okL (foldL l) = true) {c : UInt8} (hc : c ∈ l) : c.toNat < 192 := by
  simp only [okL, Bool.and_eq_true, List.all_eq_true] at h
  have h1 := h.2 (foldC c) (List.mem_map.2 ⟨c, hc, rfl⟩)
  have hb := c.toNat_lt
  simp only [okC, okByte, Bool.or_eq_true, decide_eq_true_eq] at h1
  unfold foldC at h1
  split at h1
  · omega
  · omega

/-- Behind the first pointer, at P, the way never comes past it. -/
theorem run_back {s t : List UInt8} {P p0 : Nat} {c d : UInt8} (hc : (s ++ t)[P]? = some c) (hd : (s ++ t)[P + 1]? = some d) (h192 : 192 ≤ c.toNat) (hp0 : (c.toNat - 192) * 256 + d.toNat = p0) (hP : P + 2 ≤ s.length) (hpP : p0 ≤ P) :
    ∀ (f : Nat) (x y : St), x.en ≠ 0 → x.at_ ≤ P → x.row ≤ p0 → runWire f (s ++ t) x = .inr y → y.en = x.en ∧ runWire f s x = .inr y
  | 0, x, y, _, _, _, h => by cases h
  | f + 1, x, y, hen, hat, hrow, h => by
    unfold runWire at h ⊢
    cases hs : stepWire (s ++ t) x with
    | inl e => rw [hs] at h; cases h
    | inr dy =>
      obtain ⟨dd, z⟩ := dy
      rw [hs] at h
      obtain ⟨c1, hc1, hh⟩ := wstep_cases hs
      have hne : x.at_ ≠ P := by
        intro e
        rw [e, hc] at hc1
        cases hc1
        rcases hh with ⟨h0, _⟩ | ⟨h0, h8, _⟩ | ⟨h1, e1, he, hp, _⟩
        · omega
        · omega
        · rw [e, hd] at he; cases he; omega
      have hgo : ∀ k, goOn x.en k = x.en := fun k => by simp [goOn, hen]
      rcases hh with ⟨h0, rfl, rfl⟩ | ⟨h0, h8, hl, hok, h9, rfl, rfl⟩ | ⟨h1, e, he, hp, rfl, rfl⟩
      · rw [wstep_zero (at_less hc1 (by omega)) h0]
        simp only [Sum.inr.injEq] at h
        subst h
        exact ⟨hgo _, rfl⟩
      · have hlt : x.at_ + 1 + c1.toNat ≤ P := by
          refine Nat.not_lt.1 fun hlt => ?_
          have hm : c ∈ ((s ++ t).drop (x.at_ + 1)).take c1.toNat := by
            refine List.mem_of_getElem? (i := P - (x.at_ + 1)) ?_
            rw [List.getElem?_take, if_pos (by omega), List.getElem?_drop, show x.at_ + 1 + (P - (x.at_ + 1)) = P by omega]
            exact hc
          have := byte_low hok hm
          omega
        have hpm := piece_more (s := s) (t := t) (a := x.at_ + 1) (k := c1.toNat) (by omega)
        rw [hpm] at hok h
        rw [wstep_label (at_less hc1 (by omega)) h0 h8 (by omega) hok h9]
        simp only at h ⊢
        exact run_back hc hd h192 hp0 hP hpP f _ y (by simpa using hen) (by simpa using hlt) (by simpa using hrow) h
      · rw [wstep_point (at_less hc1 (by omega)) (at_less he (by omega)) h1 hp]
        simp only [hgo] at h ⊢
        exact run_back hc hd h192 hp0 hP hpP f _ y (by simpa using hen) (by simp only; omega) (by simp only; omega) h

theorem run_on {s t : List UInt8} : ∀ (f : Nat) (x y : St), x.en = 0 → x.row ≤ x.at_ → runWire f (s ++ t) x = .inr y → x.at_ < y.en ∧ (y.en ≤ s.length → runWire f s x = .inr y) ∧ y.en ≤ (s ++ t).length
  | 0, x, y, _, _, h => by cases h
  | f + 1, x, y, hen, hrow, h => by
    unfold runWire at h ⊢
    cases hs : stepWire (s ++ t) x with
    | inl e => rw [hs] at h; cases h
    | inr dy =>
      obtain ⟨dd, z⟩ := dy
      rw [hs] at h
      obtain ⟨c1, hc1, hh⟩ := wstep_cases hs
      have hgo : ∀ k, goOn x.en k = k := fun k => by simp [goOn, hen]
      have hl1 := (List.getElem?_eq_some_iff.1 hc1).1
      rcases hh with ⟨h0, rfl, rfl⟩ | ⟨h0, h8, hl, hok, h9, rfl, rfl⟩ | ⟨h1, e, he, hp, rfl, rfl⟩
      · simp only [Sum.inr.injEq] at h
        subst h
        simp only [hgo]
        refine ⟨by omega, fun hle => ?_, by omega⟩
        rw [wstep_zero (at_less hc1 (by omega)) h0]
        simp only [hgo]
      · simp only at h
        obtain ⟨i1, i2, i3⟩ := run_on f _ y (by simpa using hen) (by simp only; omega) h
        simp only at i1
        refine ⟨by omega, fun hle => ?_, i3⟩
        have hpm := piece_more (s := s) (t := t) (a := x.at_ + 1) (k := c1.toNat) (by omega)
        rw [hpm] at hok h i2
        rw [wstep_label (at_less hc1 (by omega)) h0 h8 (by omega) hok h9]
        exact i2 hle
      · simp only [hgo] at h
        have hl2 := (List.getElem?_eq_some_iff.1 he).1
        by_cases hle : x.at_ + 2 ≤ s.length
        · obtain ⟨i1, i2⟩ := run_back (P := x.at_) hc1 he h1 rfl hle (by omega) f _ y (by simp) (by simp only; omega) (by simp only; omega) h
          simp only at i1
          refine ⟨by omega, fun _ => ?_, by omega⟩
          rw [wstep_point (at_less hc1 (by omega)) (at_less he (by omega)) h1 hp]
          simp only [hgo]
          exact i2
        · have i1 : y.en = x.at_ + 2 := by
            have hk : ∀ (f : Nat) (x y : St), x.en ≠ 0 → runWire f (s ++ t) x = .inr y → y.en = x.en := by
              intro f
              induction f with
              | zero => intro x y _ h; cases h
              | succ f ih =>
                intro x y hx h
                unfold runWire at h
                cases hs : stepWire (s ++ t) x with
                | inl e => rw [hs] at h; cases h
                | inr dy =>
                  obtain ⟨dd, z⟩ := dy
                  rw [hs] at h
                  have hz : z.en = x.en := by
                    obtain ⟨c2, _, hh⟩ := wstep_cases hs
                    rcases hh with ⟨_, _, rfl⟩ | ⟨_, _, _, _, _, _, rfl⟩ | ⟨_, e2, _, _, _, rfl⟩ <;> simp [goOn, hx]
                  cases dd
                  · rw [ih z y (by rw [hz]; exact hx) h, hz]
                  · simp only [Sum.inr.injEq] at h; subst h; exact hz
            exact hk f _ y (by simp) h
          exact ⟨by omega, fun h => by omega, by omega⟩

theorem get_run {s : List UInt8} {at_ : Nat} {n : List UInt8} {e : Int} (h : getL s at_ = (n, e, 0)) (f : Nat) (hf : muWire s ⟨at_, at_, 0, []⟩ < f) : ∃ y, runWire f s ⟨at_, at_, 0, []⟩ = .inr y ∧ n = join y.labs ∧ e = y.en := by
  unfold getL at h
  rw [all_run hf] at h
  cases hr : runWire f s ⟨at_, at_, 0, []⟩ with
  | inr y =>
    rw [hr] at h
    simp only [endWire, Prod.mk.injEq, and_true] at h
    exact ⟨y, rfl, h.1.symm, h.2.symm⟩
  | inl er =>
    rw [hr] at h
    simp only [endWire, Prod.mk.injEq] at h
    have : ∀ (f : Nat) (x : St), muWire s x < f → runWire f s x ≠ .inl 0 := by
      intro f
      induction f with
      | zero => intro x hx; omega
      | succ f ih =>
        intro x hx
        unfold runWire
        cases hs : stepWire s x with
        | inl e => intro hh; simp only [Sum.inl.injEq] at hh; rcases wstep_err hs with h | h <;> omega
        | inr dy =>
          obtain ⟨d, z⟩ := dy
          cases d
          · exact ih z (by have := wstep_mu hs; omega)
          · intro hh; cases hh
    exact absurd (by rw [hr, h.2.2]) (this _ ⟨at_, at_, 0, []⟩ hf)
/-- What stands behind its end does not matter to a name. -/
theorem get_less {s t : List UInt8} {at_ : Nat} {n : List UInt8} {e : Int} (h : getL (s ++ t) at_ = (n, e, 0)) (he : e ≤ s.length) : getL s at_ = (n, e, 0) := by
  obtain ⟨y, hr, rfl, rfl⟩ := get_run h _ (Nat.lt_succ_self _)
  obtain ⟨_, i2, _⟩ := run_on _ _ y rfl (Nat.le_refl _) hr
  unfold getL
  rw [all_run (Nat.lt_succ_of_le (mu_more s t _)), i2 (by omega)]
  rfl
theorem get_ends {s : List UInt8} {at_ : Nat} {n : List UInt8} {e : Int} (h : getL s at_ = (n, e, 0)) : (at_ : Int) < e ∧ e ≤ s.length := by
  obtain ⟨y, hr, rfl, rfl⟩ := get_run h _ (Nat.lt_succ_self _)
  have hr' : runWire (Nat.succ (muWire s ⟨at_, at_, 0, []⟩)) (s ++ []) ⟨at_, at_, 0, []⟩ = .inr y := by rw [List.append_nil]; exact hr
  obtain ⟨i1, _, i3⟩ := run_on _ _ y rfl (Nat.le_refl _) hr'
  simp only [List.append_nil] at i1 i3
  omega
theorem run_labs {s : List UInt8} : ∀ (f : Nat) (x y : St), x.labs.length ≤ 8 → (∀ l ∈ x.labs, okL l = true) → runWire f s x = .inr y → y.labs.length ≤ 8 ∧ ∀ l ∈ y.labs, okL l = true
  | 0, x, y, _, _, h => by cases h
  | f + 1, x, y, h8, hok, h => by
    unfold runWire at h
    cases hs : stepWire s x with
    | inl e => rw [hs] at h; cases h
    | inr dy =>
      obtain ⟨d, z⟩ := dy
      rw [hs] at h
      have hz := wstep_ok hs h8 hok
      cases d
      · exact run_labs f z y hz.1 hz.2 h
      · simp only [Sum.inr.injEq] at h; subst h; exact hz
theorem get_may {s : List UInt8} {at_ : Nat} {n : List UInt8} {e : Int} (h : getL s at_ = (n, e, 0)) : mayL n = true ∧ n.length ≤ 72 := by
  obtain ⟨y, hr, rfl, rfl⟩ := get_run h _ (Nat.lt_succ_self _)
  obtain ⟨h8, hok⟩ := run_labs _ _ y (by simp) (by simp) hr
  have := join_len y.labs hok
  exact ⟨(may_join h8 hok).1, by omega⟩

end Go.Pin

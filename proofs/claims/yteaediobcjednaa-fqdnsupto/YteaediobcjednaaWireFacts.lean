/-
  Plain lemmas that speak of no program: what is put into a message is told again, pointers and all.
-/
import Derived.Test.YteaediobcjednaaWirePure
import Derived.Test.YteaediobcjednaaNameMore
namespace Go.Pin
open Go.Proofs.Yteaediobcjednaa (okL_bounds join_len)

/-- Two bytes that point to q. -/
def Ptr (s : List UInt8) (at_ q : Nat) : Prop := q < 16384 ∧ ∃ rest, s.drop at_ = be2 (49152 + q) ++ rest
/-- The labels ls stand from a place on (great letters or small ones), in a row that began at 'row'; behind its first pointer or its end: e. -/
def Stands (s : List UInt8) : List (List UInt8) → Nat → Nat → Nat → Prop
  | [], at_, _, e => s[at_]? = some 0 ∧ e = at_ + 1
  | p :: r, at_, row, e => (∃ raw rest, foldL raw = p ∧ s.drop at_ = UInt8.ofNat raw.length :: (raw ++ rest)) ∧
      (Stands s r (at_ + 1 + p.length) row e ∨ ∃ q e', q < row ∧ Ptr s (at_ + 1 + p.length) q ∧ Stands s r q q e' ∧ e = at_ + 1 + p.length + 2)
/-- .. or a pointer to where they stand. -/
def Told (s : List UInt8) (ls : List (List UInt8)) (at_ row e : Nat) : Prop := Stands s ls at_ row e ∨ ∃ q e', q < row ∧ Ptr s at_ q ∧ Stands s ls q q e' ∧ e = at_ + 2

theorem drop_at {s a b : List UInt8} {n : Nat} (h : s.drop n = a ++ b) (ha : a ≠ []) : n + a.length ≤ s.length ∧ (∀ i, i < a.length → s[n + i]? = a[i]?) ∧ s.drop (n + a.length) = b := by
  have hl : s.length - n = a.length + b.length := by have := congrArg List.length h; simpa using this
  have ha' : 0 < a.length := List.length_pos_iff.2 ha
  refine ⟨by omega, fun i hi => ?_, ?_⟩
  · rw [← List.getElem?_drop, h, List.getElem?_append_left hi]
  · rw [← List.drop_drop, h]; simp

theorem goOn_twice (en a b : Nat) (h : a ≠ 0) : goOn (goOn en a) b = goOn en a := by
  unfold goOn
  by_cases h0 : en = 0
  · simp [h0, h]
  · simp [h0]

theorem ptr_bytes {s : List UInt8} {at_ q : Nat} (h : Ptr s at_ q) : ∃ c d : UInt8, s[at_]? = some c ∧ s[at_ + 1]? = some d ∧ 192 ≤ c.toNat ∧ (c.toNat - 192) * 256 + d.toNat = q := by
  obtain ⟨hq, rest, h⟩ := h
  obtain ⟨_, h2, _⟩ := drop_at h (by simp [be2])
  refine ⟨_, _, h2 0 (by simp [be2]), h2 1 (by simp [be2]), ?_, ?_⟩
  · simp; omega
  · simp; omega

theorem all_stands (s : List UInt8) : ∀ (ls : List (List UInt8)) (at_ row en : Nat) (labs : List (List UInt8)) (e : Nat), (∀ x ∈ ls, okL x = true) → labs.length + ls.length ≤ 8 → Stands s ls at_ row e →
    ∃ a' r', allWire s ⟨at_, row, en, labs⟩ = .inr ⟨a', r', goOn en e, labs ++ ls⟩
  | [], at_, row, en, labs, e, _, _, h => by
    obtain ⟨h1, rfl⟩ := h
    exact ⟨_, _, by rw [allWire_end (wstep_zero (x := ⟨at_, row, en, labs⟩) h1 rfl), List.append_nil]⟩
  | p :: r, at_, row, en, labs, e, hok, h8, h => by
    obtain ⟨⟨raw, rest, hraw, hd⟩, ht⟩ := h
    have hp := hok p (by simp)
    have hpb := okL_bounds hp
    have hrl : raw.length = p.length := by rw [← hraw]; simp [foldL]
    have hd' : s.drop at_ = (UInt8.ofNat raw.length :: raw) ++ rest := by rw [hd]; rfl
    obtain ⟨d1, d2, d3⟩ := drop_at hd' (by simp)
    have hc : s[at_]? = some (UInt8.ofNat raw.length) := d2 0 (by simp)
    have hcn : (UInt8.ofNat raw.length).toNat = raw.length := by simp; omega
    have hpiece : (s.drop (at_ + 1)).take raw.length = raw := by
      rw [← List.drop_drop, hd]; simp
    have hlen : at_ + 1 + raw.length ≤ s.length := by simp at d1; omega
    simp only [List.length_cons] at h8
    have hst := wstep_label (x := ⟨at_, row, en, labs⟩) hc (by rw [hcn]; omega) (by rw [hcn]; omega) (by rw [hcn]; exact hlen) (by rw [hcn, hpiece, hraw]; exact hp) (by simp only; omega)
    rw [hcn, hpiece, hraw] at hst
    rw [allWire_on hst]
    simp only
    have hr8 : (labs ++ [p]).length + r.length ≤ 8 := by simp; omega
    have hrok : ∀ x ∈ r, okL x = true := fun x hx => hok x (List.mem_cons_of_mem _ hx)
    rw [hrl]
    rcases ht with ht | ⟨q, e', hq, hptr, ht, rfl⟩
    · obtain ⟨a', r', h⟩ := all_stands s r (at_ + 1 + p.length) row en (labs ++ [p]) e hrok hr8 ht
      exact ⟨a', r', by rw [h]; simp⟩
    · obtain ⟨c, d, h1, h2, h3, h4⟩ := ptr_bytes hptr
      have hst2 := wstep_point (x := ⟨at_ + 1 + p.length, row, en, labs ++ [p]⟩) h1 h2 h3 (by simp only; omega)
      rw [allWire_on hst2, h4]
      obtain ⟨a', r', h⟩ := all_stands s r q q (goOn en (at_ + 1 + p.length + 2)) (labs ++ [p]) e' hrok hr8 ht
      exact ⟨a', r', by rw [h, goOn_twice _ _ _ (by omega)]; simp⟩

theorem get_told {s : List UInt8} {ls : List (List UInt8)} {at_ e : Nat} (h : Told s ls at_ at_ e) (hok : ∀ x ∈ ls, okL x = true) (h8 : ls.length ≤ 8) : getL s at_ = (join ls, (e : Int), 0) := by
  unfold getL
  rcases h with h | ⟨q, e', hq, hptr, h, rfl⟩
  · obtain ⟨a', r', h⟩ := all_stands s ls at_ at_ 0 [] e hok (by simpa using h8) h
    rw [h]; simp [endWire, goOn]
  · obtain ⟨c, d, h1, h2, h3, h4⟩ := ptr_bytes hptr
    have hst2 := wstep_point (x := ⟨at_, at_, 0, []⟩) h1 h2 h3 (by simp only; omega)
    rw [allWire_on hst2, h4]
    obtain ⟨a', r', h⟩ := all_stands s ls q q (goOn 0 (at_ + 2)) [] e' hok (by simpa using h8) h
    simp only
    rw [h, goOn_twice _ _ _ (by omega)]; simp [endWire, goOn]

/-! ### more behind it -/
theorem drop_more {s t a : List UInt8} {n : Nat} (h : s.drop n = a) (ha : a ≠ []) : (s ++ t).drop n = a ++ t := by
  have : n ≤ s.length := by
    have := congrArg List.length h
    have ha' : 0 < a.length := List.length_pos_iff.2 ha
    simp at this; omega
  rw [List.drop_append_of_le_length this, h]
theorem Ptr.more {s : List UInt8} {at_ q : Nat} (h : Ptr s at_ q) (t : List UInt8) : Ptr (s ++ t) at_ q := by
  obtain ⟨hq, rest, h⟩ := h
  exact ⟨hq, rest ++ t, by rw [drop_more h (by simp [be2])]; simp⟩
theorem Stands.more {s : List UInt8} (t : List UInt8) : ∀ {ls : List (List UInt8)} {at_ row e : Nat}, Stands s ls at_ row e → Stands (s ++ t) ls at_ row e
  | [], at_, row, e, h => by
    obtain ⟨h1, h2⟩ := h
    exact ⟨by rw [List.getElem?_append_left (List.getElem?_eq_some_iff.1 h1).1]; exact h1, h2⟩
  | p :: r, at_, row, e, h => by
    obtain ⟨⟨raw, rest, h1, h2⟩, h3⟩ := h
    refine ⟨⟨raw, rest ++ t, h1, by rw [drop_more h2 (by simp)]; simp⟩, ?_⟩
    rcases h3 with h3 | ⟨q, e', hq, hp, h3, h4⟩
    · exact .inl (Stands.more t h3)
    · exact .inr ⟨q, e', hq, hp.more t, Stands.more t h3, h4⟩
theorem Told.more {s : List UInt8} {ls : List (List UInt8)} {at_ row e : Nat} (h : Told s ls at_ row e) (t : List UInt8) : Told (s ++ t) ls at_ row e := by
  rcases h with h | ⟨q, e', hq, hp, h3, h4⟩
  · exact .inl (h.more t)
  · exact .inr ⟨q, e', hq, hp.more t, h3.more t, h4⟩

/-- All that is known stands there. -/
def Good (s : List UInt8) (ks : List Kn) : Prop := ∀ k ∈ ks, knownL k = true ∧ k.2.toNat < s.length ∧ ∃ e, Stands s (labsL k.1) k.2.toNat k.2.toNat e
theorem Good.more {s : List UInt8} {ks : List Kn} (h : Good s ks) (t : List UInt8) : Good (s ++ t) ks := fun k hk => by
  obtain ⟨h1, h2, e, h3⟩ := h k hk
  exact ⟨h1, by simp; omega, e, h3.more t⟩
theorem findK_mem {ks : List Kn} {x : List UInt8} {a : Int} (h : findK ks x = some a) : (x, a) ∈ ks := by
  induction ks with
  | nil => cases h
  | cons k r ih =>
    unfold findK at h
    split at h
    · rename_i hk
      cases h
      subst hk
      simp
    · exact List.mem_cons_of_mem _ (ih h)
theorem known_bounds {k : Kn} (h : knownL k = true) : k.1 ≠ [] ∧ mayL k.1 = true ∧ 0 ≤ k.2 ∧ k.2 < 16384 := by
  simp only [knownL, Bool.and_eq_true, Bool.not_eq_true', decide_eq_false_iff_not, decide_eq_true_eq] at h
  exact ⟨h.1.1.1, h.1.1.2, h.1.2, h.2⟩

theorem foldL_ok {p : List UInt8} (h : okL p = true) : foldL p = p := by
  have := fold_may (l := p) (may_join (ls := [p]) (by simp) (by simpa using h)).1
  exact this
theorem put_told {s0 : List UInt8} {ks : List Kn} (hg : Good s0 ks) : ∀ (ls : List (List UInt8)) (u : List UInt8) (row : Nat), (∀ x ∈ ls, okL x = true) → ls.length ≤ 8 → s0.length ≤ row →
    Told (s0 ++ u ++ putS ks ls) ls (s0 ++ u).length row (s0 ++ u ++ putS ks ls).length ∧ (findK ks (join ls) = none → ls ≠ [] → Stands (s0 ++ u ++ putS ks ls) ls (s0 ++ u).length row (s0 ++ u ++ putS ks ls).length)
  | [], u, row, _, _, _ => by
    refine ⟨.inl ⟨?_, ?_⟩, fun _ h => absurd rfl h⟩
    · rw [putS, List.getElem?_append_right (Nat.le_refl _)]; simp
    · rw [putS]; simp; omega
  | p :: r, u, row, hok, h8, hrow => by
    have hp := hok p (by simp)
    have hpb := okL_bounds hp
    have hrok : ∀ x ∈ r, okL x = true := fun x hx => hok x (List.mem_cons_of_mem _ hx)
    simp only [List.length_cons] at h8
    rw [putS]
    cases hf : findK ks (join (p :: r)) with
    | some a =>
      simp only
      obtain ⟨h1, h2, e', h3⟩ := hg _ (findK_mem hf)
      have hb := known_bounds h1
      simp only at h1 h2 h3 hb
      refine ⟨.inr ⟨a.toNat, e', by omega, ⟨by omega, [], ?_⟩, ?_, ?_⟩, fun h => by cases h⟩
      · rw [List.drop_left, show ((a.toNat : Nat) : Int) = a by omega]; simp
      · rw [(may_join (ls := p :: r) (by simpa using h8) hok).2] at h3
        rw [List.append_assoc]; exact h3.more _
      · simp [be2]; omega
    | none =>
      simp only
      have ih := (put_told hg r (u ++ (UInt8.ofNat p.length :: p)) row hrok (by omega) hrow).1
      have e1 : s0 ++ (u ++ (UInt8.ofNat p.length :: p)) ++ putS ks r = s0 ++ u ++ UInt8.ofNat p.length :: (p ++ putS ks r) := by simp
      have e2 : (s0 ++ (u ++ (UInt8.ofNat p.length :: p))).length = (s0 ++ u).length + 1 + p.length := by simp; omega
      rw [e1, e2] at ih
      have hS : Stands (s0 ++ u ++ UInt8.ofNat p.length :: (p ++ putS ks r)) (p :: r) (s0 ++ u).length row (s0 ++ u ++ UInt8.ofNat p.length :: (p ++ putS ks r)).length :=
        ⟨⟨p, putS ks r, foldL_ok hp, by rw [List.drop_left]⟩, ih⟩
      exact ⟨.inl hS, fun _ _ => hS⟩

theorem put_good {s0 : List UInt8} {ks : List Kn} (hg : Good s0 ks) : ∀ (ls : List (List UInt8)) (u : List UInt8), (∀ x ∈ ls, okL x = true) → ls.length ≤ 8 →
    Good (s0 ++ u ++ putS ks ls) (putN ks ((s0 ++ u).length : Nat) ls)
  | [], u, _, _ => by intro k hk; simp [putN] at hk
  | p :: r, u, hok, h8 => by
    have hp := hok p (by simp)
    have hrok : ∀ x ∈ r, okL x = true := fun x hx => hok x (List.mem_cons_of_mem _ hx)
    have hm := may_join h8 hok
    have h8' : (p :: r).length ≤ 8 := h8
    simp only [List.length_cons] at h8
    have hst := (put_told hg (p :: r) u (s0 ++ u).length hok h8' (by simp)).2
    intro k hk
    rw [putN] at hk
    rw [putS] at hst ⊢
    cases hf : findK ks (join (p :: r)) with
    | some a => rw [hf] at hk; simp at hk
    | none =>
      rw [hf] at hk hst
      simp only at hk hst ⊢
      have ih := put_good hg r (u ++ (UInt8.ofNat p.length :: p)) hrok (by omega)
      have e1 : s0 ++ (u ++ (UInt8.ofNat p.length :: p)) ++ putS ks r = s0 ++ u ++ UInt8.ofNat p.length :: (p ++ putS ks r) := by simp
      have e2 : (((s0 ++ (u ++ (UInt8.ofNat p.length :: p))).length : Nat) : Int) = ((s0 ++ u).length : Nat) + 1 + (p.length : Nat) := by simp; omega
      rw [e1, e2] at ih
      rcases List.mem_append.1 hk with hk | hk
      · split at hk
        · rename_i hfar
          simp only [List.mem_singleton] at hk
          subst hk
          refine ⟨?_, ?_, ?_⟩
          · simp only [knownL, hm.1, join_ne (by simp) hok, Bool.and_eq_true, decide_eq_true_eq, Bool.not_eq_true', decide_eq_false_iff_not, and_true, not_false_eq_true]
            exact ⟨⟨trivial, by omega⟩, hfar⟩
          · simp; omega
          · simp only [Int.toNat_natCast, hm.2]
            exact ⟨_, hst trivial (by simp)⟩
        · simp at hk
      · exact ih k hk

theorem putS_len (ks : List Kn) : ∀ ls : List (List UInt8), (∀ x ∈ ls, okL x = true) → 1 ≤ (putS ks ls).length ∧ (putS ks ls).length ≤ 1 + 9 * ls.length
  | [], _ => by simp [putS]
  | p :: r, hok => by
    have hpb := okL_bounds (hok p (by simp))
    have := putS_len ks r (fun x hx => hok x (List.mem_cons_of_mem _ hx))
    rw [putS]
    split
    · simp [be2]; omega
    · simp; omega
theorem putS_shorter (ks : List Kn) : ∀ ls : List (List UInt8), (∀ x ∈ ls, okL x = true) → (putS ks ls).length ≤ (putS [] ls).length
  | [], _ => by simp [putS]
  | p :: r, hok => by
    have hpb := okL_bounds (hok p (by simp))
    have h1 := putS_shorter ks r (fun x hx => hok x (List.mem_cons_of_mem _ hx))
    have h2 := (putS_len [] r (fun x hx => hok x (List.mem_cons_of_mem _ hx))).1
    have e : putS [] (p :: r) = UInt8.ofNat p.length :: (p ++ putS [] r) := rfl
    rw [e, putS]
    split
    · simp [be2]; omega
    · simp; omega
theorem findK_append (ks ns : List Kn) (x : List UInt8) : findK (ks ++ ns) x = match findK ks x with | some a => some a | none => findK ns x := by
  induction ks with
  | nil => rfl
  | cons k r ih =>
    simp only [List.cons_append, findK]
    split
    · rfl
    · exact ih
/-- What was put is known. -/
theorem put_known (ks : List Kn) (at_ : Int) (ls : List (List UInt8)) (hat : at_ < 16384) (h : ls ≠ []) : (findK (ks ++ putN ks at_ ls) (join ls)).isSome = true := by
  rw [findK_append]
  cases hf : findK ks (join ls) with
  | some a => rfl
  | none =>
    cases ls with
    | nil => exact absurd rfl h
    | cons p r =>
      simp only
      rw [putN, hf]
      simp [hat, findK]

end Go.Pin

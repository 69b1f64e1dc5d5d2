/-
  Plain lemmas that speak of no program: where a name that is told ends; what stands behind its end does not matter to it.
-/
import Derived.Test.YteaediobcjednaaWireGet
import Derived.Test.YteaediobcjednaaWireFacts
namespace Go.Pin
open Go.Proofs.Yteaediobcjednaa (okL_bounds join_len wstep_ok wstep_err)

theorem wstep_cases {s : List UInt8} {x y : St} {d : Bool} (h : stepWire s x = .inr (d, y)) : ∃ c : UInt8, s[x.at_]? = some c ∧
    ((c.toNat = 0 ∧ d = true ∧ y = { x with en := goOn x.en (x.at_ + 1) }) ∨
     (c.toNat ≠ 0 ∧ c.toNat ≤ 8 ∧ x.at_ + 1 + c.toNat ≤ s.length ∧ okL (foldL ((s.drop (x.at_ + 1)).take c.toNat)) = true ∧ x.labs.length ≠ 8 ∧ d = false ∧ y = { x with at_ := x.at_ + 1 + c.toNat, labs := x.labs ++ [foldL ((s.drop (x.at_ + 1)).take c.toNat)] }) ∨
     (192 ≤ c.toNat ∧ ∃ e : UInt8, s[x.at_ + 1]? = some e ∧ (c.toNat - 192) * 256 + e.toNat < x.row ∧ d = false ∧ y = { x with at_ := (c.toNat - 192) * 256 + e.toNat, row := (c.toNat - 192) * 256 + e.toNat, en := goOn x.en (x.at_ + 2) })) := by
  unfold stepWire at h
  split at h
  · cases h
  · rename_i c hc
    refine ⟨c, hc, ?_⟩
    simp only at h
    split at h
    · rename_i h0
      simp only [Sum.inr.injEq, Prod.mk.injEq] at h
      exact .inl ⟨h0, h.1.symm, h.2.symm⟩
    · rename_i h0
      split at h
      · rename_i h8
        split at h
        · cases h
        · rename_i hl
          split at h
          · rename_i hok
            simp only [Sum.inr.injEq, Prod.mk.injEq] at h
            exact .inr (.inl ⟨h0, h8, by omega, hok.1, hok.2, h.1.symm, h.2.symm⟩)
          · cases h
      · split at h
        · rename_i h8 h192
          split at h
          · cases h
          · rename_i e he
            split at h
            · cases h
            · rename_i hp
              simp only [Sum.inr.injEq, Prod.mk.injEq] at h
              exact .inr (.inr ⟨h192, e, he, by omega, h.1.symm, h.2.symm⟩)
        · cases h

theorem at_more {s t : List UInt8} {n : Nat} {c : UInt8} (h : s[n]? = some c) : (s ++ t)[n]? = some c := by
  rw [List.getElem?_append_left (List.getElem?_eq_some_iff.1 h).1]; exact h
theorem at_less {s t : List UInt8} {n : Nat} {c : UInt8} (h : (s ++ t)[n]? = some c) (hn : n < s.length) : s[n]? = some c := by
  rw [List.getElem?_append_left hn] at h; exact h
theorem piece_more {s t : List UInt8} {a k : Nat} (h : a + k ≤ s.length) : ((s ++ t).drop a).take k = (s.drop a).take k := by
  rw [List.drop_append_of_le_length (by omega), List.take_append_of_le_length (by simp; omega)]

theorem wstep_more {s : List UInt8} {x y : St} {d : Bool} (h : stepWire s x = .inr (d, y)) (t : List UInt8) : stepWire (s ++ t) x = .inr (d, y) := by
  obtain ⟨c, hc, hh⟩ := wstep_cases h
  rcases hh with ⟨h0, rfl, rfl⟩ | ⟨h0, h8, hl, hok, h9, rfl, rfl⟩ | ⟨h1, e, he, hp, rfl, rfl⟩
  · exact wstep_zero (at_more hc) h0
  · rw [← piece_more (t := t) hl] at hok ⊢
    exact wstep_label (at_more hc) h0 h8 (by simp; omega) hok h9
  · exact wstep_point (at_more hc) (at_more he) h1 hp

theorem run_more {s : List UInt8} (t : List UInt8) : ∀ (f : Nat) (x y : St), runWire f s x = .inr y → runWire f (s ++ t) x = .inr y
  | 0, x, y, h => by cases h
  | f + 1, x, y, h => by
    unfold runWire at h ⊢
    cases hs : stepWire s x with
    | inl e => rw [hs] at h; cases h
    | inr dy =>
      obtain ⟨d, z⟩ := dy
      rw [hs] at h
      rw [wstep_more hs t]
      cases d
      · exact run_more t f z y h
      · exact h

theorem mu_more (s t : List UInt8) (x : St) : muWire s x ≤ muWire (s ++ t) x := by
  simp only [muWire, List.length_append]
  have : x.row * (s.length + 1) ≤ x.row * (s.length + t.length + 1) := Nat.mul_le_mul_left _ (by omega)
  omega
theorem all_run {s : List UInt8} {x : St} {f : Nat} (h : muWire s x < f) : allWire s x = runWire f s x := run_fuel s _ _ x (by omega) h

/-- What is told of a text is told of a longer one. -/
theorem get_more {s : List UInt8} {at_ : Nat} {n : List UInt8} {e : Int} (h : getL s at_ = (n, e, 0)) (t : List UInt8) : getL (s ++ t) at_ = (n, e, 0) := by
  unfold getL at h ⊢
  rw [all_run (f := muWire (s ++ t) ⟨at_, at_, 0, []⟩ + 1) (Nat.lt_succ_of_le (mu_more s t _))] at h
  rw [all_run (f := muWire (s ++ t) ⟨at_, at_, 0, []⟩ + 1) (Nat.lt_succ_self _)]
  cases hr : runWire (muWire (s ++ t) ⟨at_, at_, 0, []⟩ + 1) s ⟨at_, at_, 0, []⟩ with
  | inl er =>
    rw [hr] at h
    simp only [endWire, Prod.mk.injEq] at h
    have : ∀ (f : Nat) (x : St), muWire s x < f → runWire f s x ≠ .inl 0 := by
      intro f
      induction f with
      | zero => intro x hx; omega
      | succ f ih =>
        intro x hx
        unfold runWire
        cases hs : stepWire s x with
        | inl e => intro hh; simp only [Sum.inl.injEq] at hh; rcases wstep_err hs with h | h <;> omega
        | inr dy =>
          obtain ⟨d, z⟩ := dy
          cases d
          · exact ih z (by have := wstep_mu hs; omega)
          · intro hh; cases hh
    exact absurd (by rw [hr, h.2.2]) (this _ ⟨at_, at_, 0, []⟩ (Nat.lt_succ_of_le (mu_more s t _)))
  | inr y =>
    rw [run_more t _ _ y hr]
    rw [hr] at h
    exact h

theorem byte_low {l : List UInt8} (h : okL (foldL l) = true) {c : UInt8} (hc : c ∈ l) : c.toNat < 192 := by
  simp only [okL, Bool.and_eq_true, List.all_eq_true] at h
  have h1 := h.2 (foldC c) (List.mem_map.2 ⟨c, hc, rfl⟩)
  have hb := c.toNat_lt
  simp only [okC, okByte, Bool.or_eq_true, decide_eq_true_eq] at h1
  unfold foldC at h1
  split at h1
  · omega
  · omega

/-- Behind the first pointer, at P, the way never comes past it. -/
theorem run_back {s t : List UInt8} {P p0 : Nat} {c d : UInt8} (hc : (s ++ t)[P]? = some c) (hd : (s ++ t)[P + 1]? = some d) (h192 : 192 ≤ c.toNat) (hp0 : (c.toNat - 192) * 256 + d.toNat = p0) (hP : P + 2 ≤ s.length) (hpP : p0 ≤ P) :
    ∀ (f : Nat) (x y : St), x.en ≠ 0 → x.at_ ≤ P → x.row ≤ p0 → runWire f (s ++ t) x = .inr y → y.en = x.en ∧ runWire f s x = .inr y
  | 0, x, y, _, _, _, h => by cases h
  | f + 1, x, y, hen, hat, hrow, h => by
    unfold runWire at h ⊢
    cases hs : stepWire (s ++ t) x with
    | inl e => rw [hs] at h; cases h
    | inr dy =>
      obtain ⟨dd, z⟩ := dy
      rw [hs] at h
      obtain ⟨c1, hc1, hh⟩ := wstep_cases hs
      have hne : x.at_ ≠ P := by
        intro e
        rw [e, hc] at hc1
        cases hc1
        rcases hh with ⟨h0, _⟩ | ⟨h0, h8, _⟩ | ⟨h1, e1, he, hp, _⟩
        · omega
        · omega
        · rw [e, hd] at he; cases he; omega
      have hgo : ∀ k, goOn x.en k = x.en := fun k => by simp [goOn, hen]
      rcases hh with ⟨h0, rfl, rfl⟩ | ⟨h0, h8, hl, hok, h9, rfl, rfl⟩ | ⟨h1, e, he, hp, rfl, rfl⟩
      · rw [wstep_zero (at_less hc1 (by omega)) h0]
        simp only [Sum.inr.injEq] at h
        subst h
        exact ⟨hgo _, rfl⟩
      · have hlt : x.at_ + 1 + c1.toNat ≤ P := by
          refine Nat.not_lt.1 fun hlt => ?_
          have hm : c ∈ ((s ++ t).drop (x.at_ + 1)).take c1.toNat := by
            refine List.mem_of_getElem? (i := P - (x.at_ + 1)) ?_
            rw [List.getElem?_take, if_pos (by omega), List.getElem?_drop, show x.at_ + 1 + (P - (x.at_ + 1)) = P by omega]
            exact hc
          have := byte_low hok hm
          omega
        have hpm := piece_more (s := s) (t := t) (a := x.at_ + 1) (k := c1.toNat) (by omega)
        rw [hpm] at hok h
        rw [wstep_label (at_less hc1 (by omega)) h0 h8 (by omega) hok h9]
        simp only at h ⊢
        exact run_back hc hd h192 hp0 hP hpP f _ y (by simpa using hen) (by simpa using hlt) (by simpa using hrow) h
      · rw [wstep_point (at_less hc1 (by omega)) (at_less he (by omega)) h1 hp]
        simp only [hgo] at h ⊢
        exact run_back hc hd h192 hp0 hP hpP f _ y (by simpa using hen) (by simp only; omega) (by simp only; omega) h

theorem run_on {s t : List UInt8} : ∀ (f : Nat) (x y : St), x.en = 0 → x.row ≤ x.at_ → runWire f (s ++ t) x = .inr y → x.at_ < y.en ∧ (y.en ≤ s.length → runWire f s x = .inr y) ∧ y.en ≤ (s ++ t).length
  | 0, x, y, _, _, h => by cases h
  | f + 1, x, y, hen, hrow, h => by
    unfold runWire at h ⊢
    cases hs : stepWire (s ++ t) x with
    | inl e => rw [hs] at h; cases h
    | inr dy =>
      obtain ⟨dd, z⟩ := dy
      rw [hs] at h
      obtain ⟨c1, hc1, hh⟩ := wstep_cases hs
      have hgo : ∀ k, goOn x.en k = k := fun k => by simp [goOn, hen]
      have hl1 := (List.getElem?_eq_some_iff.1 hc1).1
      rcases hh with ⟨h0, rfl, rfl⟩ | ⟨h0, h8, hl, hok, h9, rfl, rfl⟩ | ⟨h1, e, he, hp, rfl, rfl⟩
      · simp only [Sum.inr.injEq] at h
        subst h
        simp only [hgo]
        refine ⟨by omega, fun hle => ?_, by omega⟩
        rw [wstep_zero (at_less hc1 (by omega)) h0]
        simp only [hgo]
      · simp only at h
        obtain ⟨i1, i2, i3⟩ := run_on f _ y (by simpa using hen) (by simp only; omega) h
        simp only at i1
        refine ⟨by omega, fun hle => ?_, i3⟩
        have hpm := piece_more (s := s) (t := t) (a := x.at_ + 1) (k := c1.toNat) (by omega)
        rw [hpm] at hok h i2
        rw [wstep_label (at_less hc1 (by omega)) h0 h8 (by omega) hok h9]
        exact i2 hle
      · simp only [hgo] at h
        have hl2 := (List.getElem?_eq_some_iff.1 he).1
        by_cases hle : x.at_ + 2 ≤ s.length
        · obtain ⟨i1, i2⟩ := run_back (P := x.at_) hc1 he h1 rfl hle (by omega) f _ y (by simp) (by simp only; omega) (by simp only; omega) h
          simp only at i1
          refine ⟨by omega, fun _ => ?_, by omega⟩
          rw [wstep_point (at_less hc1 (by omega)) (at_less he (by omega)) h1 hp]
          simp only [hgo]
          exact i2
        · have i1 : y.en = x.at_ + 2 := by
            have hk : ∀ (f : Nat) (x y : St), x.en ≠ 0 → runWire f (s ++ t) x = .inr y → y.en = x.en := by
              intro f
              induction f with
              | zero => intro x y _ h; cases h
              | succ f ih =>
                intro x y hx h
                unfold runWire at h
                cases hs : stepWire (s ++ t) x with
                | inl e => rw [hs] at h; cases h
                | inr dy =>
                  obtain ⟨dd, z⟩ := dy
                  rw [hs] at h
                  have hz : z.en = x.en := by
                    obtain ⟨c2, _, hh⟩ := wstep_cases hs
                    rcases hh with ⟨_, _, rfl⟩ | ⟨_, _, _, _, _, _, rfl⟩ | ⟨_, e2, _, _, _, rfl⟩ <;> simp [goOn, hx]
                  cases dd
                  · rw [ih z y (by rw [hz]; exact hx) h, hz]
                  · simp only [Sum.inr.injEq] at h; subst h; exact hz
            exact hk f _ y (by simp) h
          exact ⟨by omega, fun h => by omega, by omega⟩

theorem get_run {s : List UInt8} {at_ : Nat} {n : List UInt8} {e : Int} (h : getL s at_ = (n, e, 0)) (f : Nat) (hf : muWire s ⟨at_, at_, 0, []⟩ < f) : ∃ y, runWire f s ⟨at_, at_, 0, []⟩ = .inr y ∧ n = join y.labs ∧ e = y.en := by
  unfold getL at h
  rw [all_run hf] at h
  cases hr : runWire f s ⟨at_, at_, 0, []⟩ with
  | inr y =>
    rw [hr] at h
    simp only [endWire, Prod.mk.injEq, and_true] at h
    exact ⟨y, rfl, h.1.symm, h.2.symm⟩
  | inl er =>
    rw [hr] at h
    simp only [endWire, Prod.mk.injEq] at h
    have : ∀ (f : Nat) (x : St), muWire s x < f → runWire f s x ≠ .inl 0 := by
      intro f
      induction f with
      | zero => intro x hx; omega
      | succ f ih =>
        intro x hx
        unfold runWire
        cases hs : stepWire s x with
        | inl e => intro hh; simp only [Sum.inl.injEq] at hh; rcases wstep_err hs with h | h <;> omega
        | inr dy =>
          obtain ⟨d, z⟩ := dy
          cases d
          · exact ih z (by have := wstep_mu hs; omega)
          · intro hh; cases hh
    exact absurd (by rw [hr, h.2.2]) (this _ ⟨at_, at_, 0, []⟩ hf)
/-- What stands behind its end does not matter to a name. -/
theorem get_less {s t : List UInt8} {at_ : Nat} {n : List UInt8} {e : Int} (h : getL (s ++ t) at_ = (n, e, 0)) (he : e ≤ s.length) : getL s at_ = (n, e, 0) := by
  obtain ⟨y, hr, rfl, rfl⟩ := get_run h _ (Nat.lt_succ_self _)
  obtain ⟨_, i2, _⟩ := run_on _ _ y rfl (Nat.le_refl _) hr
  unfold getL
  rw [all_run (Nat.lt_succ_of_le (mu_more s t _)), i2 (by omega)]
  rfl
theorem get_ends {s : List UInt8} {at_ : Nat} {n : List UInt8} {e : Int} (h : getL s at_ = (n, e, 0)) : (at_ : Int) < e ∧ e ≤ s.length := by
  obtain ⟨y, hr, rfl, rfl⟩ := get_run h _ (Nat.lt_succ_self _)
  have hr' : runWire (Nat.succ (muWire s ⟨at_, at_, 0, []⟩)) (s ++ []) ⟨at_, at_, 0, []⟩ = .inr y := by rw [List.append_nil]; exact hr
  obtain ⟨i1, _, i3⟩ := run_on _ _ y rfl (Nat.le_refl _) hr'
  simp only [List.append_nil] at i1 i3
  omega
theorem run_labs {s : List UInt8} : ∀ (f : Nat) (x y : St), x.labs.length ≤ 8 → (∀ l ∈ x.labs, okL l = true) → runWire f s x = .inr y → y.labs.length ≤ 8 ∧ ∀ l ∈ y.labs, okL l = true
  | 0, x, y, _, _, h => by cases h
  | f + 1, x, y, h8, hok, h => by
    unfold runWire at h
    cases hs : stepWire s x with
    | inl e => rw [hs] at h; cases h
    | inr dy =>
      obtain ⟨d, z⟩ := dy
      rw [hs] at h
      have hz := wstep_ok hs h8 hok
      cases d
      · exact run_labs f z y hz.1 hz.2 h
      · simp only [Sum.inr.injEq] at h; subst h; exact hz
theorem get_may {s : List UInt8} {at_ : Nat} {n : List UInt8} {e : Int} (h : getL s at_ = (n, e, 0)) : mayL n = true ∧ n.length ≤ 72 := by
  obtain ⟨y, hr, rfl, rfl⟩ := get_run h _ (Nat.lt_succ_self _)
  obtain ⟨h8, hok⟩ := run_labs _ _ y (by simp) (by simp) hr
  have := join_len y.labs hok
  exact ⟨(may_join h8 hok).1, by omega⟩

end Go.Pin

/-
  Plain lemmas that speak of no program: a client's name behind its flags, with its end or without.
-/
import Derived.Test.YteaediobcjednaaWireEnd
namespace Go.Pin
open Go.Proofs.Yteaediobcjednaa (okL_bounds join_len wstep_ok wstep_err)

/-- The name that a reader's answer tells, if it takes all of a text. -/
def wh (n : Nat) (r : List UInt8 × Int × Int) : Option (List UInt8) := if r.2.2 = 0 ∧ r.2.1 = (n : Int) then some r.1 else none
/-- The name that takes all of a text, if there is one. -/
def wholeL (t : List UInt8) : Option (List UInt8) := wh t.length (getL t 0)
/-- .. or takes all of it with an end behind it. -/
def restL (t : List UInt8) : Option (List UInt8) := match wholeL t with
  | some n => some n
  | none => wholeL (t ++ [0])
def mayF (f : Int) : Bool := decide (0 ≤ f) && decide (f ≤ 15) && decide (4 ≤ f % 8)
/-- What Put answers. -/
def putF (f : Int) (n : List UInt8) : Option (List UInt8) := if mayF f = true ∧ mayL n = true then some (UInt8.ofNat f.toNat :: 255 :: 255 :: putS [] (labsL n)) else none
/-- What Get answers. -/
def getF : List UInt8 → Option (Int × List UInt8)
  | c :: _ :: _ :: t => if mayF (c.toNat : Int) = true then (restL t).map (fun n => ((c.toNat : Int), n)) else none
  | _ => none

theorem mayF_bd {f : Int} (h : mayF f = true) : 0 ≤ f ∧ f ≤ 15 ∧ 4 ≤ f % 8 := by
  simp only [mayF, Bool.and_eq_true, decide_eq_true_eq] at h
  exact ⟨h.1.1, h.1.2, h.2⟩
theorem getF_short {s : List UInt8} (h : s.length < 3) : getF s = none := by
  rcases s with _ | ⟨a, _ | ⟨b, _ | ⟨c, s⟩⟩⟩ <;> first | rfl | (simp at h; omega)
theorem getF_cons (c a b : UInt8) (t : List UInt8) : getF (c :: a :: b :: t) = if mayF (c.toNat : Int) = true then (restL t).map (fun n => ((c.toNat : Int), n)) else none := rfl

/-! ### what is put comes back -/
theorem good_none : Good [] [] := fun k hk => by cases hk
theorem get_putS {ls : List (List UInt8)} (hok : ∀ x ∈ ls, okL x = true) (h8 : ls.length ≤ 8) : getL (putS [] ls) 0 = (join ls, ((putS [] ls).length : Int), 0) := by
  have := (put_told good_none ls [] 0 hok h8 (Nat.le_refl _)).1
  simp only [List.append_nil, List.nil_append, List.length_nil] at this
  exact get_told this hok h8
theorem whole_put {ls : List (List UInt8)} (hok : ∀ x ∈ ls, okL x = true) (h8 : ls.length ≤ 8) : wholeL (putS [] ls) = some (join ls) := by
  unfold wholeL wh; rw [get_putS hok h8]; simp
theorem whole_put_more {ls : List (List UInt8)} (hok : ∀ x ∈ ls, okL x = true) (h8 : ls.length ≤ 8) {t : List UInt8} (ht : t ≠ []) : wholeL (putS [] ls ++ t) = none := by
  unfold wholeL wh
  rw [get_more (get_putS hok h8) t]
  have := List.length_pos_iff.2 ht
  rw [if_neg]
  simp only [List.length_append, true_and]
  omega
theorem putS_end : ∀ ls : List (List UInt8), ∃ B, putS [] ls = B ++ [0]
  | [] => ⟨[], rfl⟩
  | p :: r => by
    obtain ⟨B, hB⟩ := putS_end r
    exact ⟨UInt8.ofNat p.length :: (p ++ B), by show UInt8.ofNat p.length :: (p ++ putS [] r) = _; rw [hB]; simp⟩
theorem rest_short {ls : List (List UInt8)} (hok : ∀ x ∈ ls, okL x = true) (h8 : ls.length ≤ 8) {B : List UInt8} (hB : putS [] ls = B ++ [0]) : restL B = some (join ls) := by
  have h1 : wholeL B = none := by
    unfold wholeL wh
    by_cases h : (getL B 0).2.2 = 0 ∧ (getL B 0).2.1 = (B.length : Int)
    · have hg : getL B 0 = ((getL B 0).1, (B.length : Int), 0) := by rw [← h.1, ← h.2]
      have h2 := get_more hg [0]
      rw [← hB, get_putS hok h8, hB] at h2
      simp only [Prod.mk.injEq, List.length_append, List.length_cons, List.length_nil] at h2
      omega
    · rw [if_neg h]
  unfold restL
  rw [h1]
  simp only
  rw [← hB, whole_put hok h8]
theorem rest_put {ls : List (List UInt8)} (hok : ∀ x ∈ ls, okL x = true) (h8 : ls.length ≤ 8) : restL (putS [] ls) = some (join ls) := by
  unfold restL; rw [whole_put hok h8]
theorem rest_more {ls : List (List UInt8)} (hok : ∀ x ∈ ls, okL x = true) (h8 : ls.length ≤ 8) : restL (putS [] ls ++ [0]) = none := by
  unfold restL; rw [whole_put_more hok h8 (by simp)]; simp only
  rw [List.append_assoc]; exact whole_put_more hok h8 (by simp)

theorem flag_byte {f : Int} (h : mayF f = true) : (((UInt8.ofNat f.toNat).toNat : Nat) : Int) = f := by
  have := mayF_bd h
  simp; omega
theorem put_back {f : Int} {n P : List UInt8} (h : putF f n = some P) : mayL n = true ∧ 4 ≤ P.length ∧ P.length ≤ 100 ∧ getF P = some (f, n) ∧ getF P.dropLast = some (f, n) ∧ getF (P ++ [0]) = none := by
  unfold putF at h
  by_cases hh : mayF f = true ∧ mayL n = true
  · rw [if_pos hh] at h
    simp only [Option.some.injEq] at h
    subst h
    have hok : ∀ x ∈ labsL n, okL x = true := fun x hx => labsL_ok hx
    have h8 := labsL_len n
    have hl := putS_len [] (labsL n) hok
    obtain ⟨B, hB⟩ := putS_end (labsL n)
    have hd : (UInt8.ofNat f.toNat :: 255 :: 255 :: putS [] (labsL n)).dropLast = UInt8.ofNat f.toNat :: 255 :: 255 :: B := by rw [hB]; simp [List.dropLast]
    refine ⟨hh.2, by simp; omega, by simp; omega, ?_, ?_, ?_⟩
    · rw [getF_cons, flag_byte hh.1, if_pos hh.1, rest_put hok h8, join_labs hh.2]; rfl
    · rw [hd, getF_cons, flag_byte hh.1, if_pos hh.1, rest_short hok h8 hB, join_labs hh.2]; rfl
    · rw [List.cons_append, List.cons_append, List.cons_append, getF_cons, flag_byte hh.1, if_pos hh.1, rest_more hok h8]; rfl
  · rw [if_neg hh] at h; cases h

/-! ### label by label -/
/-- The labels of a text from a place on, one by one. -/
def scanF : Nat → List UInt8 → Nat → List (List UInt8) → Option (List (List UInt8))
  | 0, _, _, _ => none
  | f + 1, t, a, labs => match t[a]? with
    | none => some labs
    | some c => if c.toNat = 0 then (if a + 1 = t.length then some labs else none)
      else if c.toNat ≤ 8 ∧ a + 1 + c.toNat ≤ t.length ∧ okL (foldL ((t.drop (a + 1)).take c.toNat)) = true then scanF f t (a + 1 + c.toNat) (labs ++ [foldL ((t.drop (a + 1)).take c.toNat)])
      else none
def finF : Option (List (List UInt8)) → Option (List UInt8)
  | none => none
  | some ls => if ls.length ≤ 8 then some (join ls) else none
theorem scan_len : ∀ (f : Nat) (t : List UInt8) (a : Nat) (labs L : List (List UInt8)), scanF f t a labs = some L → labs.length ≤ L.length
  | 0, _, _, _, _, h => by cases h
  | f + 1, t, a, labs, L, h => by
    unfold scanF at h
    split at h
    · cases h; exact Nat.le_refl _
    · split at h
      · split at h
        · cases h; exact Nat.le_refl _
        · cases h
      · split at h
        · have := scan_len f t _ _ L h
          simp at this; omega
        · cases h
theorem scan_many {f : Nat} {t : List UInt8} {a : Nat} {labs : List (List UInt8)} (h : 8 < labs.length) : finF (scanF f t a labs) = none := by
  cases hs : scanF f t a labs with
  | none => rfl
  | some L =>
    have := scan_len f t a labs L hs
    simp only [finF]
    rw [if_neg (by omega)]
theorem wh_err (n : Nat) {r : Sum Int St} {e : Int} (h : r = .inl e) (he : e = 300 ∨ e = 301) : wh n (endWire r) = none := by
  subst h; unfold wh endWire; simp only; rw [if_neg]; omega
def restAt (t : List UInt8) (x : St) : Option (List UInt8) := match wh t.length (endWire (allWire t x)) with
  | some n => some n
  | none => wh (t.length + 1) (endWire (allWire (t ++ [0]) x))
theorem restAt_err {t : List UInt8} {x : St} {e d : Int} (h1 : stepWire t x = .inl e) (h2 : stepWire (t ++ [0]) x = .inl d) : restAt t x = none := by
  unfold restAt
  rw [wh_err _ (allWire_err h1) (wstep_err h1)]
  exact wh_err _ (allWire_err h2) (wstep_err h2)
theorem zero_no {l : List UInt8} (h : (0 : UInt8) ∈ l) : okL (foldL l) = false := by
  cases hk : okL (foldL l) with
  | false => rfl
  | true =>
    simp only [okL, Bool.and_eq_true, List.all_eq_true] at hk
    have := hk.2 (foldC 0) (List.mem_map.2 ⟨0, h, rfl⟩)
    revert this; decide

theorem rest_scan_at (t : List UInt8) : ∀ (f a : Nat) (labs : List (List UInt8)), a ≤ t.length → t.length - a < f → labs.length ≤ 8 → restAt t ⟨a, 0, 0, labs⟩ = finF (scanF f t a labs)
  | 0, _, _, _, h, _ => by omega
  | f + 1, a, labs, ha, hf, h8 => by
    unfold scanF
    cases hc : t[a]? with
    | none =>
      have hat : a = t.length := by have := List.getElem?_eq_none_iff.1 hc; omega
      have s1 : stepWire t ⟨a, 0, 0, labs⟩ = .inl 301 := wstep_past (by simp; omega)
      have s2 : stepWire (t ++ [0]) ⟨a, 0, 0, labs⟩ = .inr (true, ⟨a, 0, a + 1, labs⟩) := wstep_zero (c := 0) (by simp [hat]) rfl
      simp only [finF]
      rw [if_pos h8]
      unfold restAt
      rw [wh_err _ (allWire_err s1) (.inr rfl)]
      simp only
      rw [allWire_end s2]
      simp [wh, endWire, hat]
    | some c =>
      have hlt : a < t.length := (List.getElem?_eq_some_iff.1 hc).1
      have hc2 : (t ++ [0])[a]? = some c := at_more hc
      have hb := c.toNat_lt
      simp only
      by_cases h0 : c.toNat = 0
      · rw [if_pos h0]
        have s1 : stepWire t ⟨a, 0, 0, labs⟩ = .inr (true, ⟨a, 0, a + 1, labs⟩) := wstep_zero hc h0
        have s2 : stepWire (t ++ [0]) ⟨a, 0, 0, labs⟩ = .inr (true, ⟨a, 0, a + 1, labs⟩) := wstep_zero hc2 h0
        unfold restAt
        rw [allWire_end s1, allWire_end s2]
        by_cases hl : a + 1 = t.length
        · rw [if_pos hl]
          have hl' : (a : Int) + 1 = t.length := by omega
          simp [wh, endWire, finF, hl', h8]
        · rw [if_neg hl]
          have hl1 : ¬ (a : Int) + 1 = t.length := by omega
          have hl2 : ¬ (a : Int) = t.length := by omega
          simp [wh, endWire, finF, hl1, hl2]
      · rw [if_neg h0]
        by_cases h9 : c.toNat ≤ 8
        · by_cases hl : a + 1 + c.toNat ≤ t.length
          · have hpm := piece_more (s := t) (t := [0]) (a := a + 1) (k := c.toNat) hl
            cases hk : okL (foldL ((t.drop (a + 1)).take c.toNat)) with
            | true =>
              rw [if_pos ⟨h9, hl, rfl⟩]
              by_cases h7 : labs.length = 8
              · rw [scan_many (by simp; omega)]
                exact restAt_err (wstep_form hc h0 h9 hl (.inr h7)) (wstep_form hc2 h0 h9 (by simp; omega) (.inr h7))
              · rw [← rest_scan_at t f _ _ hl (by omega) (by simp; omega)]
                have s1 := wstep_label (x := ⟨a, 0, 0, labs⟩) hc h0 h9 hl hk h7
                have s2 := wstep_label (x := ⟨a, 0, 0, labs⟩) hc2 h0 h9 (by simp; omega) (by rw [hpm]; exact hk) h7
                simp only [hpm] at s2
                unfold restAt
                rw [allWire_on s1, allWire_on s2]
            | false =>
              rw [if_neg (by rintro ⟨_, _, h⟩; cases h)]
              exact restAt_err (wstep_form hc h0 h9 hl (.inl hk)) (wstep_form hc2 h0 h9 (by simp; omega) (.inl (by rw [hpm]; exact hk)))
          · rw [if_neg (by rintro ⟨_, h, _⟩; exact hl h)]
            have s1 : stepWire t ⟨a, 0, 0, labs⟩ = .inl 301 := wstep_short hc h0 h9 (by simp; omega)
            by_cases hl2 : a + 1 + c.toNat = t.length + 1
            · refine restAt_err s1 (wstep_form hc2 h0 h9 (by simp; omega) (.inl (zero_no ?_)))
              simp only
              refine List.mem_of_getElem? (i := t.length - (a + 1)) ?_
              rw [List.getElem?_take, if_pos (by omega), List.getElem?_drop, show a + 1 + (t.length - (a + 1)) = t.length by omega]
              simp
            · exact restAt_err s1 (wstep_short hc2 h0 h9 (by simp; omega))
        · rw [if_neg (by rintro ⟨h, _⟩; exact h9 h)]
          by_cases h192 : 192 ≤ c.toNat
          · have hn : ∀ s : List UInt8, s[a]? = some c → ∃ e, stepWire s ⟨a, 0, 0, labs⟩ = .inl e := by
              intro s hs
              cases hd : s[a + 1]? with
              | none => exact ⟨_, wstep_half hs h192 (by have := List.getElem?_eq_none_iff.1 hd; simp only; omega)⟩
              | some d => exact ⟨_, wstep_far hs hd h192 (Nat.zero_le _)⟩
            obtain ⟨e1, s1⟩ := hn _ hc
            obtain ⟨e2, s2⟩ := hn _ hc2
            exact restAt_err s1 s2
          · exact restAt_err (wstep_none hc (by omega) (by omega)) (wstep_none hc2 (by omega) (by omega))

/-- The rest of a client's name, label by label. -/
theorem rest_scan (t : List UInt8) : restL t = finF (scanF (t.length + 1) t 0 []) := by
  rw [← rest_scan_at t (t.length + 1) 0 [] (Nat.zero_le _) (by omega) (by simp)]
  unfold restL wholeL restAt getL
  rw [List.length_append]
  rfl

end Go.Pin

/-
  Plain facts: what package dns's reader takes is what a text tells.
-/
import Derived.Test.YtdmooggmoihggaaGreatDoorDnsTake2
namespace Go.Proofs.YtdmooggmoihggaaGreatDoor
set_option maxRecDepth 100000
open Go.ChangeShapes Go.WideShapes Go.ChangeAt Go.RowKit Go.Pin Go.PlainAid

def stepQ (s : ByteArray) (x : Tk × List Qn) : Tk × List Qn := ((quesK s x.1).2, x.2 ++ [(quesK s x.1).1])
def stepR (s : ByteArray) (x : Tk × List Rec) : Tk × List Rec := ((recK s x.1).2, x.2 ++ [(recK s x.1).1])
def stepA (s : ByteArray) (x : Tk × List Rec × Int) : Tk × List Rec × Int :=
  if isOptK s x.1 then ((optK s (mustT (x.2.2 == 0) x.1)).2, x.2.1, (optK s (mustT (x.2.2 == 0) x.1)).1) else ((recK s x.1).2, x.2.1 ++ [(recK s x.1).1], x.2.2)
def mustS {α : Type} (so : Bool) (x : Tk × α) : Tk × α := (mustT so x.1, x.2)

/-! ### one part -/
theorem numT_f (s : ByteArray) (k : Nat) {x : Tk} (h : x.f = true) : numT s k x = (0, x) := by simp [numT, h]
theorem numT_yes (s : ByteArray) (k a : Nat) (h : a + k ≤ s.size) : numT s k ⟨(a : Int), false⟩ = (num s a k, ⟨((a + k : Nat) : Int), false⟩) := by
  have hg : getB s (a : Int) k = (num s a k, 0) := by
    unfold getB
    rw [if_neg (by omega), if_neg (by omega), Int.toNat_natCast]
  simp [numT, hg]
theorem numT_no (s : ByteArray) (k a : Nat) (h : s.size < a + k) : numT s k ⟨(a : Int), false⟩ = (0, ⟨(a : Int), true⟩) := by
  have hg : getB s (a : Int) k = (0, 101) := by
    unfold getB
    rw [if_neg (by omega), if_pos (by omega)]
  simp [numT, hg]
theorem nameT_f (s : ByteArray) {x : Tk} (h : x.f = true) : nameT s x = (⟨#[]⟩, x) := by simp [nameT, h]
theorem nameT_yes (s : ByteArray) (a : Nat) {n : List UInt8} {e : Int} (h : getL (bs s) a = (n, e, 0)) : nameT s ⟨(a : Int), false⟩ = (mk n, ⟨e, false⟩) := by simp [nameT, h]
theorem nameT_no (s : ByteArray) (a : Nat) (h : (getL (bs s) a).2.2 ≠ 0) : nameT s ⟨(a : Int), false⟩ = (⟨#[]⟩, ⟨(a : Int), true⟩) := by simp [nameT, h]
theorem mustT_f {so : Bool} {x : Tk} (h : x.f = true) : (mustT so x).f = true := by simp [mustT, h]
theorem iterK_f {σ : Type} {tk : σ → Tk} {step : σ → σ} {st : σ} (h : (tk st).f = true) : ∀ k, iterK tk step k st = st
  | 0 => rfl
  | k + 1 => by rw [iterK, if_pos h]

/-! ### the questions -/
theorem quesK_f (s : ByteArray) {x : Tk} (h : x.f = true) : (quesK s x).2.f = true := by
  simp only [quesK]
  rw [nameT_f s h, numT_f s 2 h, numT_f s 2 h]
  exact mustT_f h
theorem quesK_yes (s : ByteArray) (a e : Nat) {n : List UInt8} (h : getL (bs s) a = (n, (e : Int), 0)) (h4 : e + 4 ≤ s.size) (h1 : num s (e + 2) 2 = 1) : quesK s ⟨(a : Int), false⟩ = (⟨mk n, num s e 2⟩, ⟨((e + 4 : Nat) : Int), false⟩) := by
  simp only [quesK]
  rw [nameT_yes s a h]
  simp only
  rw [numT_yes s 2 e (by omega)]
  simp only
  rw [numT_yes s 2 (e + 2) (by omega), h1]
  simp [mustT]
  omega
theorem quesK_no (s : ByteArray) (a : Nat) (h : ¬ ((getL (bs s) a).2.2 = 0 ∧ (getL (bs s) a).2.1 + 4 ≤ s.size ∧ num s ((getL (bs s) a).2.1.toNat + 2) 2 = 1)) : (quesK s ⟨(a : Int), false⟩).2.f = true := by
  rcases hg : getL (bs s) a with ⟨n, e, er⟩
  rw [hg] at h
  simp only at h
  by_cases h0 : er = 0
  · subst h0
    have he := get_ends hg
    obtain ⟨e, rfl⟩ : ∃ e' : Nat, e = e' := ⟨e.toNat, by omega⟩
    simp only [Int.toNat_natCast, true_and, not_and] at h
    simp only [quesK]
    rw [nameT_yes s a hg]
    simp only
    by_cases h2 : e + 2 ≤ s.size
    · rw [numT_yes s 2 e h2]
      simp only
      by_cases h4 : e + 4 ≤ s.size
      · rw [numT_yes s 2 (e + 2) (by omega)]
        have := h (by omega)
        simp [mustT, this]
      · rw [numT_no s 2 (e + 2) (by omega)]
        rfl
    · rw [numT_no s 2 e (by omega)]
      simp only
      rw [numT_f s 2 rfl]
      rfl
  · simp only [quesK]
    rw [nameT_no s a (by rw [hg]; exact h0)]
    simp only
    rw [numT_f s 2 rfl, numT_f s 2 rfl]
    rfl
theorem iterQ (s : ByteArray) : ∀ (k a : Nat) (acc : List Qn), (∀ l a', takeQs s k a = some (l, a') → iterK (·.1) (stepQ s) k (⟨(a : Int), false⟩, acc) = (⟨(a' : Int), false⟩, acc ++ l)) ∧ (takeQs s k a = none → (iterK (·.1) (stepQ s) k (⟨(a : Int), false⟩, acc)).1.f = true)
  | 0, a, acc => by
    refine ⟨fun l a' h => ?_, fun h => by cases h⟩
    simp only [takeQs, Option.some.injEq, Prod.mk.injEq] at h
    obtain ⟨rfl, rfl⟩ := h
    simp [iterK]
  | k + 1, a, acc => by
    rw [iterK, takeQs]
    simp only [Bool.false_eq_true, if_false]
    split
    · rename_i hc
      rcases hg : getL (bs s) a with ⟨n, e, er⟩
      rw [hg] at hc
      simp only at hc ⊢
      obtain ⟨rfl, h4, h1⟩ := hc
      have he := get_ends hg
      obtain ⟨e, rfl⟩ : ∃ e' : Nat, e = e' := ⟨e.toNat, by omega⟩
      simp only [Int.toNat_natCast] at h1 ⊢
      have hst : stepQ s (⟨(a : Int), false⟩, acc) = (⟨((e + 4 : Nat) : Int), false⟩, acc ++ [⟨mk n, num s e 2⟩]) := by
        simp only [stepQ]; rw [quesK_yes s a e hg (by omega) h1]
      rw [hst]
      obtain ⟨ih1, ih2⟩ := iterQ s k (e + 4) (acc ++ [⟨mk n, num s e 2⟩])
      refine ⟨fun l a' h => ?_, fun h => ?_⟩
      · simp only [Option.map_eq_some_iff] at h
        obtain ⟨y, hy, hh⟩ := h
        simp only [Prod.mk.injEq] at hh
        obtain ⟨rfl, rfl⟩ := hh
        rw [ih1 y.1 y.2 hy]
        simp
      · simp only [Option.map_eq_none_iff] at h
        exact ih2 h
    · rename_i hc
      have hf : (stepQ s (⟨(a : Int), false⟩, acc)).1.f = true := quesK_no s a hc
      rw [iterK_f hf]
      exact ⟨fun l a' h => (by cases h), fun _ => hf⟩

/-! ### the records -/
theorem iterR (s : ByteArray) : ∀ (k a : Nat) (acc : List Rec), (∀ l a', takeRs s k a = some (l, a') → iterK (·.1) (stepR s) k (⟨(a : Int), false⟩, acc) = (⟨(a' : Int), false⟩, acc ++ l)) ∧ (takeRs s k a = none → (iterK (·.1) (stepR s) k (⟨(a : Int), false⟩, acc)).1.f = true)
  | 0, a, acc => by
    refine ⟨fun l a' h => ?_, fun h => by cases h⟩
    simp only [takeRs, Option.some.injEq, Prod.mk.injEq] at h
    obtain ⟨rfl, rfl⟩ := h
    simp [iterK]
  | k + 1, a, acc => by
    rw [iterK, takeRs]
    simp only [Bool.false_eq_true, if_false]
    cases hg : getRec s (a : Int) with
    | none =>
      have hf : (stepR s (⟨(a : Int), false⟩, acc)).1.f = true := by simp [stepR, recK, hg]
      rw [iterK_f hf]
      exact ⟨fun l a' h => (by cases h), fun _ => hf⟩
    | some q =>
      obtain ⟨r, e⟩ := q
      have he := inrec_end (get_inrec hg).2
      obtain ⟨e, rfl⟩ : ∃ e' : Nat, e = e' := ⟨e.toNat, by omega⟩
      have hst : stepR s (⟨(a : Int), false⟩, acc) = (⟨(e : Int), false⟩, acc ++ [r]) := by simp [stepR, recK, hg]
      rw [hst]
      simp only [Int.toNat_natCast]
      obtain ⟨ih1, ih2⟩ := iterR s k e (acc ++ [r])
      refine ⟨fun l a' h => ?_, fun h => ?_⟩
      · simp only [Option.map_eq_some_iff] at h
        obtain ⟨y, hy, hh⟩ := h
        simp only [Prod.mk.injEq] at hh
        obtain ⟨rfl, rfl⟩ := hh
        rw [ih1 y.1 y.2 hy]
        simp
      · simp only [Option.map_eq_none_iff] at h
        exact ih2 h

/-! ### what is additional -/
theorem isEmpty_mk (n : List UInt8) : (mk n).toList.isEmpty = n.isEmpty := by rw [ByteArray.toList_eq]; rfl
theorem recK_f (s : ByteArray) {x : Tk} (h : x.f = true) : (recK s x).2.f = true := by simp [recK, h]
theorem textT_f (s : ByteArray) (n : Nat) {x : Tk} (h : x.f = true) : textT s n x = (⟨#[]⟩, x) := by simp [textT, h]
theorem optK_f (s : ByteArray) {x : Tk} (h : x.f = true) : (optK s x).2.f = true := by
  have hA : (optA s x).f = true := by unfold optA; rw [nameT_f s h]; exact mustT_f h
  have hB : optB s x = optA s x := by unfold optB; rw [numT_f s 2 hA]
  have hC : optC s x = (0, optA s x) := by unfold optC; rw [hB, numT_f s 2 hA]
  have hD : optD s x = optA s x := by unfold optD; rw [hC]; simp only; rw [numT_f s 4 hA]
  have hE : optE s x = (0, optA s x) := by unfold optE; rw [hD, numT_f s 2 hA]
  unfold optK
  rw [hE]
  simp only
  rw [textT_f s _ hA]
  exact hA
/-- The name here, if there is one, and its type. -/
theorem isOptK_is (s : ByteArray) (a : Nat) : isOptK s ⟨(a : Int), false⟩ = true ↔ ∃ n e, getL (bs s) a = (n, ((e : Nat) : Int), 0) ∧ e + 2 ≤ s.size ∧ num s e 2 = 41 := by
  unfold isOptK
  rcases hg : getL (bs s) a with ⟨n, e, er⟩
  by_cases h0 : er = 0
  · subst h0
    have he := get_ends hg
    obtain ⟨e, rfl⟩ : ∃ e' : Nat, e = e' := ⟨e.toNat, by omega⟩
    rw [nameT_yes s a hg]
    simp only
    by_cases h2 : e + 2 ≤ s.size
    · rw [numT_yes s 2 e h2]
      simp only [beq_iff_eq]
      constructor
      · intro h; exact ⟨n, e, rfl, h2, h⟩
      · rintro ⟨n', e', h1, h3, h4⟩
        simp only [Prod.mk.injEq, Int.natCast_inj, and_true] at h1
        rw [h1.2]; exact h4
    · rw [numT_no s 2 e (by omega)]
      constructor
      · intro h; simp at h
      · rintro ⟨n', e', h1, h3, h4⟩
        simp only [Prod.mk.injEq, Int.natCast_inj, and_true] at h1
        omega
  · rw [nameT_no s a (by rw [hg]; exact h0)]
    simp only
    rw [numT_f s 2 rfl]
    constructor
    · intro h; simp at h
    · rintro ⟨n', e', h1, _⟩
      simp only [Prod.mk.injEq] at h1
      exact absurd h1.2.2 h0
theorem optK_yes (s : ByteArray) (a e : Nat) (hg : getL (bs s) a = ([], (e : Int), 0)) (h10 : e + 10 ≤ s.size) (hl : (e : Int) + 10 + num s (e + 8) 2 ≤ s.size) : optK s ⟨(a : Int), false⟩ = (max (num s (e + 2) 2) 512, ⟨(((e : Int) + 10 + num s (e + 8) 2).toNat : Int), false⟩) := by
  have hA : optA s ⟨(a : Int), false⟩ = ⟨(e : Int), false⟩ := by unfold optA; rw [nameT_yes s a hg]; simp [mustT, isEmpty_mk]
  have hB : optB s ⟨(a : Int), false⟩ = ⟨((e + 2 : Nat) : Int), false⟩ := by unfold optB; rw [hA, numT_yes s 2 e (by omega)]
  have hC : optC s ⟨(a : Int), false⟩ = (num s (e + 2) 2, ⟨((e + 2 + 2 : Nat) : Int), false⟩) := by unfold optC; rw [hB, numT_yes s 2 (e + 2) (by omega)]
  have hD : optD s ⟨(a : Int), false⟩ = ⟨((e + 2 + 2 + 4 : Nat) : Int), false⟩ := by unfold optD; rw [hC]; simp only; rw [numT_yes s 4 (e + 2 + 2) (by omega)]
  have hE : optE s ⟨(a : Int), false⟩ = (num s (e + 8) 2, ⟨((e + 10 : Nat) : Int), false⟩) := by unfold optE; rw [hD, numT_yes s 2 (e + 2 + 2 + 4) (by omega)]
  have hb := num_bd s (e + 8) 2
  unfold optK
  rw [hE, hC]
  simp only
  have hsz : (s.size : Int) - ((e + 10 : Nat) : Int) ≥ ((num s (e + 8) 2).toNat : Int) := by omega
  have ht : textT s (num s (e + 8) 2).toNat ⟨((e + 10 : Nat) : Int), false⟩ = (s.extract (e + 10) (e + 10 + (num s (e + 8) 2).toNat), ⟨((e + 10 : Nat) : Int) + ((num s (e + 8) 2).toNat : Nat), false⟩) := by
    simp only [textT, Bool.false_eq_true, if_false]
    rw [if_pos (by omega), Int.toNat_natCast]
  rw [ht]
  simp only [Prod.mk.injEq, Tk.mk.injEq, and_true]
  refine ⟨?_, by omega⟩
  split <;> omega
theorem optK_no (s : ByteArray) (a e : Nat) {n : List UInt8} (hg : getL (bs s) a = (n, (e : Int), 0)) (h : ¬ (n = [] ∧ e + 10 ≤ s.size ∧ (e : Int) + 10 + num s (e + 8) 2 ≤ s.size)) : (optK s ⟨(a : Int), false⟩).2.f = true := by
  have fin : ∀ x : Tk, x.f = true → (∀ k, (textT s k x).2.f = true) := fun x hx k => by rw [textT_f s k hx]; exact hx
  by_cases hn : n = []
  · subst hn
    have hA : optA s ⟨(a : Int), false⟩ = ⟨(e : Int), false⟩ := by unfold optA; rw [nameT_yes s a hg]; simp [mustT, isEmpty_mk]
    unfold optK
    by_cases h2 : e + 2 ≤ s.size
    · have hB : optB s ⟨(a : Int), false⟩ = ⟨((e + 2 : Nat) : Int), false⟩ := by unfold optB; rw [hA, numT_yes s 2 e h2]
      by_cases h4 : e + 4 ≤ s.size
      · have hC : optC s ⟨(a : Int), false⟩ = (num s (e + 2) 2, ⟨((e + 2 + 2 : Nat) : Int), false⟩) := by unfold optC; rw [hB, numT_yes s 2 (e + 2) (by omega)]
        by_cases h8 : e + 8 ≤ s.size
        · have hD : optD s ⟨(a : Int), false⟩ = ⟨((e + 2 + 2 + 4 : Nat) : Int), false⟩ := by unfold optD; rw [hC]; simp only; rw [numT_yes s 4 (e + 2 + 2) (by omega)]
          by_cases h10 : e + 10 ≤ s.size
          · have hE : optE s ⟨(a : Int), false⟩ = (num s (e + 8) 2, ⟨((e + 10 : Nat) : Int), false⟩) := by unfold optE; rw [hD, numT_yes s 2 (e + 2 + 2 + 4) (by omega)]
            have hb := num_bd s (e + 8) 2
            have hne : ¬ ((e : Int) + 10 + num s (e + 8) 2 ≤ s.size) := fun hh => h ⟨rfl, h10, hh⟩
            rw [hE]
            simp only [textT, Bool.false_eq_true, if_false]
            rw [if_neg (by omega)]
          · have hE : (optE s ⟨(a : Int), false⟩).2.f = true := by unfold optE; rw [hD, numT_no s 2 _ (by omega)]
            exact fin _ hE _
        · have hD : (optD s ⟨(a : Int), false⟩).f = true := by unfold optD; rw [hC]; simp only; rw [numT_no s 4 _ (by omega)]
          have hE : (optE s ⟨(a : Int), false⟩).2.f = true := by unfold optE; rw [numT_f s 2 hD]; exact hD
          exact fin _ hE _
      · have hC : (optC s ⟨(a : Int), false⟩).2.f = true := by unfold optC; rw [hB, numT_no s 2 _ (by omega)]
        have hD : (optD s ⟨(a : Int), false⟩).f = true := by unfold optD; rw [numT_f s 4 hC]; exact hC
        have hE : (optE s ⟨(a : Int), false⟩).2.f = true := by unfold optE; rw [numT_f s 2 hD]; exact hD
        exact fin _ hE _
    · have hB : (optB s ⟨(a : Int), false⟩).f = true := by unfold optB; rw [hA, numT_no s 2 e (by omega)]
      have hC : (optC s ⟨(a : Int), false⟩).2.f = true := by unfold optC; rw [numT_f s 2 hB]; exact hB
      have hD : (optD s ⟨(a : Int), false⟩).f = true := by unfold optD; rw [numT_f s 4 hC]; exact hC
      have hE : (optE s ⟨(a : Int), false⟩).2.f = true := by unfold optE; rw [numT_f s 2 hD]; exact hD
      exact fin _ hE _
  · have hA : (optA s ⟨(a : Int), false⟩).f = true := by
      unfold optA; rw [nameT_yes s a hg]
      have : n.isEmpty = false := by cases n with | nil => exact absurd rfl hn | cons _ _ => rfl
      simp [mustT, isEmpty_mk, this]
    have hB : (optB s ⟨(a : Int), false⟩).f = true := by unfold optB; rw [numT_f s 2 hA]; exact hA
    have hC : (optC s ⟨(a : Int), false⟩).2.f = true := by unfold optC; rw [numT_f s 2 hB]; exact hB
    have hD : (optD s ⟨(a : Int), false⟩).f = true := by unfold optD; rw [numT_f s 4 hC]; exact hC
    have hE : (optE s ⟨(a : Int), false⟩).2.f = true := by unfold optE; rw [numT_f s 2 hD]; exact hD
    exact fin _ hE _
/-- Where a record stands its type is not TypeOpt. -/
theorem rec_isOpt {s : ByteArray} {a : Nat} {r : Rec} {e : Int} (h : getRec s (a : Int) = some (r, e)) : isOptK s ⟨(a : Int), false⟩ = false := by
  obtain ⟨hm, _, m, k, hg, h10, v1, _⟩ := get_inrec h
  rw [Int.toNat_natCast] at hg
  have ht := (may_zero hm).2
  cases ho : isOptK s ⟨(a : Int), false⟩ with
  | false => rfl
  | true =>
    obtain ⟨n', e', h1, _, h3⟩ := (isOptK_is s a).1 ho
    rw [hg] at h1
    simp only [Prod.mk.injEq, Int.natCast_inj, and_true] at h1
    rw [← h1.2, v1] at h3
    rw [h3] at ht
    simp [typeB, isN, isT] at ht
theorem iterA (s : ByteArray) : ∀ (k a : Nat) (acc : List Rec) (z : Int), (∀ l z' a', takeAd s k a z = some (l, z', a') → iterK (·.1) (stepA s) k (⟨(a : Int), false⟩, acc, z) = (⟨(a' : Int), false⟩, acc ++ l, z')) ∧ (takeAd s k a z = none → (iterK (·.1) (stepA s) k (⟨(a : Int), false⟩, acc, z)).1.f = true)
  | 0, a, acc, z => by
    refine ⟨fun l z' a' h => ?_, fun h => by cases h⟩
    simp only [takeAd, Option.some.injEq, Prod.mk.injEq] at h
    obtain ⟨rfl, rfl, rfl⟩ := h
    simp [iterK]
  | k + 1, a, acc, z => by
    rw [iterK, takeAd]
    simp only [Bool.false_eq_true, if_false]
    cases ho : isOptK s ⟨(a : Int), false⟩ with
    | true =>
      obtain ⟨n, e, hg, h2, h41⟩ := (isOptK_is s a).1 ho
      have hrec : getRec s (a : Int) = none := by
        cases hr : getRec s (a : Int) with
        | none => rfl
        | some q => rw [rec_isOpt (r := q.1) (e := q.2) hr] at ho; cases ho
      by_cases hz : z = 0
      · subst hz
        by_cases hc : n = [] ∧ e + 10 ≤ s.size ∧ (e : Int) + 10 + num s (e + 8) 2 ≤ s.size
        · obtain ⟨rfl, h10, hl⟩ := hc
          have hopt : optAt s a = some (max (num s (e + 2) 2) 512, ((e : Int) + 10 + num s (e + 8) 2).toNat) := by
            unfold optAt
            rw [hg]
            simp only [Int.toNat_natCast]
            rw [if_pos ⟨trivial, trivial, by omega, h41, hl⟩]
          have hst : stepA s (⟨(a : Int), false⟩, acc, 0) = (⟨(((e : Int) + 10 + num s (e + 8) 2).toNat : Int), false⟩, acc, max (num s (e + 2) 2) 512) := by
            simp only [stepA, ho, if_true]
            rw [show mustT ((0 : Int) == 0) ⟨(a : Int), false⟩ = ⟨(a : Int), false⟩ by simp [mustT], optK_yes s a e hg h10 hl]
          rw [hst, if_pos rfl, hopt]
          exact iterA s k _ acc _
        · have hopt : optAt s a = none := by
            unfold optAt
            rw [hg]
            simp only [Int.toNat_natCast]
            rw [if_neg]
            rintro ⟨_, q1, q2, _, q3⟩
            exact hc ⟨q1, by omega, q3⟩
          have hf : (stepA s (⟨(a : Int), false⟩, acc, 0)).1.f = true := by
            simp only [stepA, ho, if_true]
            rw [show mustT ((0 : Int) == 0) ⟨(a : Int), false⟩ = ⟨(a : Int), false⟩ by simp [mustT]]
            exact optK_no s a e hg hc
          rw [iterK_f hf, if_pos rfl, hopt]
          simp only [hrec]
          exact ⟨fun l z' a' h => (by cases h), fun _ => hf⟩
      · have hf : (stepA s (⟨(a : Int), false⟩, acc, z)).1.f = true := by
          simp only [stepA, ho, if_true]
          exact optK_f s (by simp [mustT, hz])
        rw [iterK_f hf, if_neg hz]
        simp only [hrec]
        exact ⟨fun l z' a' h => (by cases h), fun _ => hf⟩
    | false =>
      have hopt : optAt s a = none := by
        cases hp : optAt s a with
        | none => rfl
        | some q =>
          unfold optAt at hp
          split at hp
          · rename_i hc
            rcases hg : getL (bs s) a with ⟨n, e, er⟩
            rw [hg] at hc
            simp only at hc
            obtain ⟨rfl, rfl, h10, h41, _⟩ := hc
            have he := get_ends hg
            obtain ⟨e, rfl⟩ : ∃ e' : Nat, e = e' := ⟨e.toNat, by omega⟩
            simp only [Int.toNat_natCast] at h41
            have := (isOptK_is s a).2 ⟨[], e, hg, by omega, h41⟩
            rw [ho] at this; cases this
          · cases hp
      have hno : (if z = 0 then optAt s a else none) = none := by rw [hopt]; split <;> rfl
      rw [hno]
      simp only
      cases hg : getRec s (a : Int) with
      | none =>
        have hf : (stepA s (⟨(a : Int), false⟩, acc, z)).1.f = true := by simp [stepA, ho, recK, hg]
        rw [iterK_f hf]
        exact ⟨fun l z' a' h => (by cases h), fun _ => hf⟩
      | some q =>
        obtain ⟨r, e⟩ := q
        have he := inrec_end (get_inrec hg).2
        obtain ⟨e, rfl⟩ : ∃ e' : Nat, e = e' := ⟨e.toNat, by omega⟩
        have hst : stepA s (⟨(a : Int), false⟩, acc, z) = (⟨(e : Int), false⟩, acc ++ [r], z) := by simp [stepA, ho, recK, hg]
        rw [hst]
        simp only [Int.toNat_natCast]
        obtain ⟨ih1, ih2⟩ := iterA s k e (acc ++ [r]) z
        refine ⟨fun l z' a' h => ?_, fun h => ?_⟩
        · simp only [Option.map_eq_some_iff] at h
          obtain ⟨y, hy, hh⟩ := h
          simp only [Prod.mk.injEq] at hh
          obtain ⟨rfl, hh⟩ := hh
          rw [ih1 y.1 z' a' (by rw [hy]; simp [← hh])]
          simp
        · simp only [Option.map_eq_none_iff] at h
          exact ih2 h

/-! ### what is told may be -/
theorem takeQs_may (s : ByteArray) : ∀ (k a : Nat) (l : List Qn) (a' : Nat), takeQs s k a = some (l, a') → l.length = k ∧ ∀ q ∈ l, mayQ q = true
  | 0, a, l, a', h => by
    simp only [takeQs, Option.some.injEq, Prod.mk.injEq] at h
    obtain ⟨rfl, rfl⟩ := h; simp
  | k + 1, a, l, a', h => by
    rw [takeQs] at h
    split at h
    · rename_i hc
      simp only [Option.map_eq_some_iff] at h
      obtain ⟨y, hy, hh⟩ := h
      simp only [Prod.mk.injEq] at hh
      obtain ⟨rfl, rfl⟩ := hh
      obtain ⟨i1, i2⟩ := takeQs_may s k _ y.1 y.2 hy
      refine ⟨by simp [i1], fun q hq => ?_⟩
      rcases List.mem_cons.1 hq with rfl | hq
      · rcases hg : getL (bs s) a with ⟨n, e, er⟩
        rw [hg] at hc
        simp only at hc
        obtain ⟨rfl, _, _⟩ := hc
        have hb := num_bd s e.toNat 2
        have hm := (get_may hg).1
        simp only [mayQ, upB, Bool.and_eq_true, decide_eq_true_eq, bs_mk]
        exact ⟨hm, by omega, by omega⟩
      · exact i2 q hq
    · cases h
theorem takeRs_may (s : ByteArray) : ∀ (k a : Nat) (l : List Rec) (a' : Nat), takeRs s k a = some (l, a') → l.length = k ∧ ∀ r ∈ l, mayR r = true
  | 0, a, l, a', h => by
    simp only [takeRs, Option.some.injEq, Prod.mk.injEq] at h
    obtain ⟨rfl, rfl⟩ := h; simp
  | k + 1, a, l, a', h => by
    rw [takeRs] at h
    split at h
    · cases h
    · rename_i r e hr
      simp only [Option.map_eq_some_iff] at h
      obtain ⟨y, hy, hh⟩ := h
      simp only [Prod.mk.injEq] at hh
      obtain ⟨rfl, rfl⟩ := hh
      obtain ⟨i1, i2⟩ := takeRs_may s k _ y.1 y.2 hy
      refine ⟨by simp [i1], fun q hq => ?_⟩
      rcases List.mem_cons.1 hq with rfl | hq
      · exact (get_inrec hr).1
      · exact i2 q hq
theorem takeAd_may (s : ByteArray) : ∀ (k a : Nat) (z : Int) (l : List Rec) (z' : Int) (a' : Nat), takeAd s k a z = some (l, z', a') → maySz z = true → (∀ r ∈ l, mayR r = true) ∧ maySz z' = true
  | 0, a, z, l, z', a', h, hz => by
    simp only [takeAd, Option.some.injEq, Prod.mk.injEq] at h
    obtain ⟨rfl, rfl, rfl⟩ := h; exact ⟨by simp, hz⟩
  | k + 1, a, z, l, z', a', h, hz => by
    rw [takeAd] at h
    split at h
    · rename_i z1 e ho
      by_cases h0 : z = 0
      · rw [if_pos h0] at ho
        refine takeAd_may s k e z1 l z' a' h ?_
        unfold optAt at ho
        split at ho
        · simp only [Option.some.injEq, Prod.mk.injEq] at ho
          obtain ⟨rfl, _⟩ := ho
          have hb := num_bd s ((getL (bs s) a).2.1.toNat + 2) 2
          simp only [maySz, Bool.or_eq_true, Bool.and_eq_true, decide_eq_true_eq]
          omega
        · cases ho
      · rw [if_neg h0] at ho; cases ho
    · split at h
      · cases h
      · rename_i r e hr
        simp only [Option.map_eq_some_iff] at h
        obtain ⟨y, hy, hh⟩ := h
        simp only [Prod.mk.injEq] at hh
        obtain ⟨rfl, hh⟩ := hh
        obtain ⟨i1, i2⟩ := takeAd_may s k _ z y.1 z' a' (by rw [hy]; simp [← hh]) hz
        refine ⟨fun q hq => ?_, i2⟩
        rcases List.mem_cons.1 hq with rfl | hq
        · exact (get_inrec hr).1
        · exact i1 q hq

/-! ### the whole -/
def hd1 (s : ByteArray) : Int × Tk := numT s 2 ⟨0, false⟩
def hd2 (s : ByteArray) : Int × Tk := ((numT s 2 (hd1 s).2).1, mustT ((numT s 2 (hd1 s).2).1 / 16 % 16 == 0) (numT s 2 (hd1 s).2).2)
def hd3 (s : ByteArray) : Int × Tk := numT s 2 (hd2 s).2
def hd4 (s : ByteArray) : Int × Tk := numT s 2 (hd3 s).2
def hd5 (s : ByteArray) : Int × Tk := numT s 2 (hd4 s).2
def hd6 (s : ByteArray) : Int × Tk := numT s 2 (hd5 s).2
def rowQ (s : ByteArray) : Tk × List Qn := iterK (·.1) (stepQ s) (hd3 s).1.toNat (mustT (decide ((hd3 s).1 ≤ 4)) (hd6 s).2, [])
def rowA (s : ByteArray) : Tk × List Rec := iterK (·.1) (stepR s) (hd4 s).1.toNat (mustT (decide ((hd4 s).1 ≤ 32)) (rowQ s).1, [])
def rowS (s : ByteArray) : Tk × List Rec := iterK (·.1) (stepR s) (hd5 s).1.toNat (mustT (decide ((hd5 s).1 ≤ 32)) (rowA s).1, [])
def rowD (s : ByteArray) : Tk × List Rec × Int := iterK (·.1) (stepA s) (hd6 s).1.toNat (mustT (decide ((hd6 s).1 ≤ 33)) (rowS s).1, [], 0)
/-- The message as it is taken, whether it has failed or not. -/
def msgK (s : ByteArray) : Msg := ⟨(hd1 s).1, bit (hd2 s).1 32768, (hd2 s).1 / 2048 % 16, bit (hd2 s).1 1024, bit (hd2 s).1 512, bit (hd2 s).1 256, (hd2 s).1 % 16, (rowQ s).2, (rowA s).2, (rowS s).2, (rowD s).2.1, (rowD s).2.2⟩
def endK (s : ByteArray) : Tk := mustT ((rowD s).1.at_ == s.size) (rowD s).1
theorem fail_chain {σ : Type} {x : Tk} {y : σ} {step : Tk × σ → Tk × σ} {k : Nat} {so : Bool} (h : x.f = true) : (iterK (·.1) step k (mustT so x, y)).1.f = true := by
  have := mustT_f (so := so) h
  rw [iterK_f (tk := (·.1)) (st := (mustT so x, y)) this]
  exact this
theorem getK_is (s : ByteArray) : (if (endK s).f then none else if mayM (msgK s) then some (msgK s) else none) = getM s := by
  have fin : (hd6 s).2.f = true ∨ (rowQ s).1.f = true ∨ (rowA s).1.f = true ∨ (rowS s).1.f = true ∨ (rowD s).1.f = true → (endK s).f = true := by
    have d : (rowD s).1.f = true → (endK s).f = true := fun h => mustT_f h
    have c : (rowS s).1.f = true → (endK s).f = true := fun h => d (fail_chain h)
    have b : (rowA s).1.f = true → (endK s).f = true := fun h => c (fail_chain h)
    have a : (rowQ s).1.f = true → (endK s).f = true := fun h => b (fail_chain h)
    rintro (h | h | h | h | h)
    · exact a (fail_chain h)
    · exact a h
    · exact b h
    · exact c h
    · exact d h
  by_cases h12 : s.size < 12
  · have h6 : (hd6 s).2.f = true := by
      have g1 : (hd1 s).2.f = true ∨ (2 ≤ s.size ∧ (hd1 s).2 = ⟨((2 : Nat) : Int), false⟩) := by
        by_cases h : 2 ≤ s.size
        · right; exact ⟨h, by unfold hd1; rw [show (0 : Int) = ((0 : Nat) : Int) from rfl, numT_yes s 2 0 (by omega)]⟩
        · left; unfold hd1; rw [show (0 : Int) = ((0 : Nat) : Int) from rfl, numT_no s 2 0 (by omega)]
      have step : ∀ (x y : Tk) (n : Nat), y = (numT s 2 x).2 → (x.f = true ∨ (n ≤ s.size ∧ x = ⟨(n : Int), false⟩)) → (y.f = true ∨ (n + 2 ≤ s.size ∧ y = ⟨((n + 2 : Nat) : Int), false⟩)) := by
        rintro x y n rfl (h | ⟨h, rfl⟩)
        · left; rw [numT_f s 2 h]; exact h
        · by_cases h2 : n + 2 ≤ s.size
          · right; exact ⟨h2, by rw [numT_yes s 2 n h2]⟩
          · left; rw [numT_no s 2 n (by omega)]
      have g2 : (hd2 s).2.f = true ∨ (4 ≤ s.size ∧ (hd2 s).2 = ⟨((4 : Nat) : Int), false⟩) := by
        rcases step (hd1 s).2 _ 2 rfl g1 with h | ⟨h, e⟩
        · left; exact mustT_f h
        · cases hso : ((numT s 2 (hd1 s).2).1 / 16 % 16 == 0) with
          | false => left; unfold hd2; rw [hso]; simp [mustT]
          | true => right; exact ⟨h, by unfold hd2; rw [hso, e]; simp [mustT]⟩
      have g6 := step (hd5 s).2 (hd6 s).2 10 rfl (step (hd4 s).2 (hd5 s).2 8 rfl (step (hd3 s).2 (hd4 s).2 6 rfl (step (hd2 s).2 (hd3 s).2 4 rfl g2)))
      rcases g6 with h | ⟨h, _⟩
      · exact h
      · omega
    rw [if_pos (fin (.inl h6))]
    unfold getM
    rw [if_pos h12]
  · have e1 : hd1 s = (num s 0 2, ⟨((2 : Nat) : Int), false⟩) := by unfold hd1; rw [show (0 : Int) = ((0 : Nat) : Int) from rfl, numT_yes s 2 0 (by omega)]
    have e2' : numT s 2 (hd1 s).2 = (num s 2 2, ⟨((4 : Nat) : Int), false⟩) := by rw [e1]; simp only; rw [numT_yes s 2 2 (by omega)]
    unfold getM
    rw [if_neg h12]
    by_cases hb : num s 2 2 / 16 % 16 = 0
    · have e2 : hd2 s = (num s 2 2, ⟨((4 : Nat) : Int), false⟩) := by unfold hd2; rw [e2']; simp [mustT, hb]
      have e3 : hd3 s = (num s 4 2, ⟨((6 : Nat) : Int), false⟩) := by unfold hd3; rw [e2]; simp only; rw [numT_yes s 2 4 (by omega)]
      have e4 : hd4 s = (num s 6 2, ⟨((8 : Nat) : Int), false⟩) := by unfold hd4; rw [e3]; simp only; rw [numT_yes s 2 6 (by omega)]
      have e5 : hd5 s = (num s 8 2, ⟨((10 : Nat) : Int), false⟩) := by unfold hd5; rw [e4]; simp only; rw [numT_yes s 2 8 (by omega)]
      have e6 : hd6 s = (num s 10 2, ⟨((12 : Nat) : Int), false⟩) := by unfold hd6; rw [e5]; simp only; rw [numT_yes s 2 10 (by omega)]
      have q0 := num_bd s 4 2
      have q1 := num_bd s 6 2
      have q2 := num_bd s 8 2
      have q3 := num_bd s 10 2
      have cut : ∀ {σ : Type} {x : Tk} {y : σ} {step : Tk × σ → Tk × σ} {k : Nat}, (iterK (·.1) step k (mustT false x, y)).1.f = true := by
        intro σ x y step k
        have : (mustT false x).f = true := by simp [mustT]
        rw [iterK_f (tk := (·.1)) (st := (mustT false x, y)) this]
        exact this
      by_cases hall : num s 4 2 ≤ 4 ∧ num s 6 2 ≤ 32 ∧ num s 8 2 ≤ 32 ∧ num s 10 2 ≤ 33
      · obtain ⟨k0, k1, k2, k3⟩ := hall
        rw [if_neg (show ¬ (num s 2 2 / 16 % 16 ≠ 0 ∨ 4 < num s 4 2 ∨ 32 < num s 6 2 ∨ 32 < num s 8 2 ∨ 33 < num s 10 2) by omega)]
        have rQ : rowQ s = iterK (·.1) (stepQ s) (num s 4 2).toNat (⟨((12 : Nat) : Int), false⟩, []) := by unfold rowQ; rw [e3, e6]; simp [mustT, k0]
        obtain ⟨iq1, iq2⟩ := iterQ s (num s 4 2).toNat 12 []
        cases hq : takeQs s (num s 4 2).toNat 12 with
        | none => rw [if_pos (fin (.inr (.inl (by rw [rQ]; exact iq2 hq))))]
        | some v =>
          obtain ⟨qs, a1⟩ := v
          have rQ' : rowQ s = (⟨(a1 : Int), false⟩, qs) := by rw [rQ, iq1 qs a1 hq]; simp
          obtain ⟨mq1, mq2⟩ := takeQs_may s _ _ _ _ hq
          simp only
          have rA : rowA s = iterK (·.1) (stepR s) (num s 6 2).toNat (⟨(a1 : Int), false⟩, []) := by unfold rowA; rw [e4, rQ']; simp [mustT, k1]
          obtain ⟨ia1, ia2⟩ := iterR s (num s 6 2).toNat a1 []
          cases ha : takeRs s (num s 6 2).toNat a1 with
          | none => rw [if_pos (fin (.inr (.inr (.inl (by rw [rA]; exact ia2 ha)))))]
          | some v =>
            obtain ⟨an, a2⟩ := v
            have rA' : rowA s = (⟨(a2 : Int), false⟩, an) := by rw [rA, ia1 an a2 ha]; simp
            obtain ⟨ma1, ma2⟩ := takeRs_may s _ _ _ _ ha
            simp only
            have rS : rowS s = iterK (·.1) (stepR s) (num s 8 2).toNat (⟨(a2 : Int), false⟩, []) := by unfold rowS; rw [e5, rA']; simp [mustT, k2]
            obtain ⟨is1, is2⟩ := iterR s (num s 8 2).toNat a2 []
            cases hs : takeRs s (num s 8 2).toNat a2 with
            | none => rw [if_pos (fin (.inr (.inr (.inr (.inl (by rw [rS]; exact is2 hs))))))]
            | some v =>
              obtain ⟨sv, a3⟩ := v
              have rS' : rowS s = (⟨(a3 : Int), false⟩, sv) := by rw [rS, is1 sv a3 hs]; simp
              obtain ⟨ms1, ms2⟩ := takeRs_may s _ _ _ _ hs
              simp only
              have rD : rowD s = iterK (·.1) (stepA s) (num s 10 2).toNat (⟨(a3 : Int), false⟩, [], 0) := by unfold rowD; rw [e6, rS']; simp [mustT, k3]
              obtain ⟨id1, id2⟩ := iterA s (num s 10 2).toNat a3 [] 0
              cases hd : takeAd s (num s 10 2).toNat a3 0 with
              | none => rw [if_pos (fin (.inr (.inr (.inr (.inr (by rw [rD]; exact id2 hd))))))]
              | some v =>
                obtain ⟨ad, z, a4⟩ := v
                have rD' : rowD s = (⟨(a4 : Int), false⟩, ad, z) := by rw [rD, id1 ad z a4 hd]; simp
                obtain ⟨md1, md2⟩ := takeAd_may s _ _ _ _ _ _ hd (by decide)
                have hM : msgK s = ⟨num s 0 2, bit (num s 2 2) 32768, num s 2 2 / 2048 % 16, bit (num s 2 2) 1024, bit (num s 2 2) 512, bit (num s 2 2) 256, num s 2 2 % 16, qs, an, sv, ad, z⟩ := by
                  unfold msgK; rw [e1, e2, rQ', rA', rS', rD']
                have hE : endK s = ⟨(a4 : Int), !((a4 : Int) == s.size)⟩ := by unfold endK; rw [rD']; simp [mustT]
                have b0 := num_bd s 0 2
                have b2 := num_bd s 2 2
                simp only
                rw [hE, ← hM]
                by_cases h4 : a4 = s.size
                · have h4' : ((a4 : Int) == s.size) = true := by simp [h4]
                  simp only [h4', Bool.not_true, Bool.false_eq_true, if_false]
                  by_cases h32 : ad.length ≤ 32
                  · rw [if_pos (show a4 = s.size ∧ ad.length ≤ 32 from ⟨h4, h32⟩), if_pos]
                    rw [mayM_iff, hM]
                    simp only [maySz, Bool.or_eq_true, Bool.and_eq_true, decide_eq_true_eq] at md2
                    exact ⟨mq2, by simp only; omega, by simp only; omega, by simp only; omega, by simp only; omega, ma2, by simp only; omega, ms2, by simp only; omega, md1, h32, md2⟩
                  · rw [if_neg (show ¬ (a4 = s.size ∧ ad.length ≤ 32) from fun h => h32 h.2), if_neg]
                    intro h
                    rw [mayM_iff, hM] at h
                    exact h32 h.adl
                · have h4' : ((a4 : Int) == s.size) = false := by simp; omega
                  simp only [h4', Bool.not_false, if_true]
                  rw [if_neg (fun h => h4 h.1)]
      · have hf : (endK s).f = true := by
          by_cases k0 : num s 4 2 ≤ 4
          · by_cases k1 : num s 6 2 ≤ 32
            · by_cases k2 : num s 8 2 ≤ 32
              · have k3 : ¬ num s 10 2 ≤ 33 := fun k3 => hall ⟨k0, k1, k2, k3⟩
                refine fin (.inr (.inr (.inr (.inr ?_))))
                unfold rowD; rw [e6, show decide ((num s 10 2, (⟨((12 : Nat) : Int), false⟩ : Tk)).1 ≤ 33) = false by simpa using k3]
                exact cut
              · refine fin (.inr (.inr (.inr (.inl ?_))))
                unfold rowS; rw [e5, show decide ((num s 8 2, (⟨((10 : Nat) : Int), false⟩ : Tk)).1 ≤ 32) = false by simpa using k2]
                exact cut
            · refine fin (.inr (.inr (.inl ?_)))
              unfold rowA; rw [e4, show decide ((num s 6 2, (⟨((8 : Nat) : Int), false⟩ : Tk)).1 ≤ 32) = false by simpa using k1]
              exact cut
          · refine fin (.inr (.inl ?_))
            unfold rowQ; rw [e3, show decide ((num s 4 2, (⟨((6 : Nat) : Int), false⟩ : Tk)).1 ≤ 4) = false by simpa using k0]
            exact cut
        rw [if_pos hf, if_pos (show num s 2 2 / 16 % 16 ≠ 0 ∨ 4 < num s 4 2 ∨ 32 < num s 6 2 ∨ 32 < num s 8 2 ∨ 33 < num s 10 2 by omega)]
    · have h6 : (hd6 s).2.f = true := by
        have e2 : (hd2 s).2.f = true := by unfold hd2; rw [e2']; simp [mustT, hb]
        have e3 : (hd3 s).2.f = true := by unfold hd3; rw [numT_f s 2 e2]; exact e2
        have e4 : (hd4 s).2.f = true := by unfold hd4; rw [numT_f s 2 e3]; exact e3
        have e5 : (hd5 s).2.f = true := by unfold hd5; rw [numT_f s 2 e4]; exact e4
        unfold hd6; rw [numT_f s 2 e5]; exact e5
      rw [if_pos (fin (.inl h6)), if_pos (.inl hb)]

end Go.Proofs.YtdmooggmoihggaaGreatDoor

/-
  Plain facts: what the document's own reader of messages takes is what a text tells.
-/
import Derived.Test.YtdmooggmoihggaaGreatDoorDnsReads
import Derived.Test.YtdmooggmoihggaaGreatDoorBDns
namespace Go.Proofs.YtdmooggmoihggaaGreatDoor
set_option maxRecDepth 100000
open Go.ChangeShapes Go.WideShapes Go.ChangeAt Go.RowKit Go.Pin Go.PlainAid

/-- A record as the document's reader takes it. -/
def refR (s : ByteArray) (x : Tk) : Tk × Rec := match getRec s x.at_ with
  | some (r, e) => (⟨e, false⟩, r)
  | none => (⟨0, true⟩, zeroR)
def stepRR (s : ByteArray) (st : Tk × List Rec) : Tk × List Rec := ((refR s st.1).1, st.2 ++ [(refR s st.1).2])
/-- A question as the document's reader takes it. -/
def refQ0 (s : ByteArray) (x : Tk) : Tk := ⟨(getL (bs s) x.at_.toNat).2.1, (getL (bs s) x.at_.toNat).2.2 != 0⟩
def refQ1 (s : ByteArray) (x : Tk) : Int × Tk := numT s 2 (refQ0 s x)
def refQ2 (s : ByteArray) (x : Tk) : Int × Tk := numT s 2 (refQ1 s x).2
def refQ3 (s : ByteArray) (x : Tk) : Tk := ⟨(refQ2 s x).2.at_, (refQ2 s x).1 != 1 || (refQ2 s x).2.f⟩
def refQn (s : ByteArray) (x : Tk) : Qn := ⟨mk (getL (bs s) x.at_.toNat).1, (refQ1 s x).1⟩
def stepRQ (s : ByteArray) (st : Tk × List Qn) : Tk × List Qn := (refQ3 s st.1, st.2 ++ [refQn s st.1])
/-- What is additional, as the document's reader takes it. -/
def stepRA (s : ByteArray) (st : Tk × List Rec × Int) : Tk × List Rec × Int := match (if st.2.2 = 0 then optAt s st.1.at_.toNat else none) with
  | some (z, e) => (⟨(e : Int), false⟩, st.2.1, z)
  | none => ((refR s st.1).1, st.2.1 ++ [(refR s st.1).2], st.2.2)

theorem refR_tk {s : ByteArray} {x : Tk} : 0 ≤ (refR s x).1.at_ ∧ (refR s x).1.at_ ≤ s.size := by
  unfold refR
  cases hg : getRec s x.at_ with
  | none => simp
  | some q =>
    obtain ⟨r, e⟩ := q
    exact inrec_end (get_inrec hg).2

theorem iterRR (s : ByteArray) : ∀ (k a : Nat) (acc : List Rec), (∀ l a', takeRs s k a = some (l, a') → iterK (·.1) (stepRR s) k (⟨(a : Int), false⟩, acc) = (⟨(a' : Int), false⟩, acc ++ l)) ∧ (takeRs s k a = none → (iterK (·.1) (stepRR s) k (⟨(a : Int), false⟩, acc)).1.f = true)
  | 0, a, acc => by
    refine ⟨fun l a' h => ?_, fun h => by cases h⟩
    simp only [takeRs, Option.some.injEq, Prod.mk.injEq] at h
    obtain ⟨rfl, rfl⟩ := h
    simp [iterK]
  | k + 1, a, acc => by
    rw [iterK, takeRs]
    simp only [Bool.false_eq_true, if_false]
    cases hg : getRec s (a : Int) with
    | none =>
      have hf : (stepRR s (⟨(a : Int), false⟩, acc)).1.f = true := by simp [stepRR, refR, hg]
      rw [iterK_f hf]
      exact ⟨fun l a' h => (by cases h), fun _ => hf⟩
    | some q =>
      obtain ⟨r, e⟩ := q
      have he := inrec_end (get_inrec hg).2
      obtain ⟨e, rfl⟩ : ∃ e' : Nat, e = e' := ⟨e.toNat, by omega⟩
      have hst : stepRR s (⟨(a : Int), false⟩, acc) = (⟨(e : Int), false⟩, acc ++ [r]) := by simp [stepRR, refR, hg]
      rw [hst]
      simp only [Int.toNat_natCast]
      obtain ⟨ih1, ih2⟩ := iterRR s k e (acc ++ [r])
      refine ⟨fun l a' h => ?_, fun h => ?_⟩
      · simp only [Option.map_eq_some_iff] at h
        obtain ⟨y, hy, hh⟩ := h
        simp only [Prod.mk.injEq] at hh
        obtain ⟨rfl, rfl⟩ := hh
        rw [ih1 y.1 y.2 hy]
        simp
      · simp only [Option.map_eq_none_iff] at h
        exact ih2 h
theorem iterRA (s : ByteArray) : ∀ (k a : Nat) (acc : List Rec) (z : Int), (∀ l z' a', takeAd s k a z = some (l, z', a') → iterK (·.1) (stepRA s) k (⟨(a : Int), false⟩, acc, z) = (⟨(a' : Int), false⟩, acc ++ l, z')) ∧ (takeAd s k a z = none → (iterK (·.1) (stepRA s) k (⟨(a : Int), false⟩, acc, z)).1.f = true)
  | 0, a, acc, z => by
    refine ⟨fun l z' a' h => ?_, fun h => by cases h⟩
    simp only [takeAd, Option.some.injEq, Prod.mk.injEq] at h
    obtain ⟨rfl, rfl, rfl⟩ := h
    simp [iterK]
  | k + 1, a, acc, z => by
    rw [iterK, takeAd]
    simp only [Bool.false_eq_true, if_false]
    cases ho : (if z = 0 then optAt s a else none) with
    | some q =>
      obtain ⟨z', e⟩ := q
      have hst : stepRA s (⟨(a : Int), false⟩, acc, z) = (⟨(e : Int), false⟩, acc, z') := by simp only [stepRA, Int.toNat_natCast, ho]
      rw [hst]
      exact iterRA s k e acc z'
    | none =>
      cases hg : getRec s (a : Int) with
      | none =>
        have hf : (stepRA s (⟨(a : Int), false⟩, acc, z)).1.f = true := by simp only [stepRA, Int.toNat_natCast, ho, refR, hg]
        rw [iterK_f hf]
        exact ⟨fun l z' a' h => (by cases h), fun _ => hf⟩
      | some q =>
        obtain ⟨r, e⟩ := q
        have he := inrec_end (get_inrec hg).2
        obtain ⟨e, rfl⟩ : ∃ e' : Nat, e = e' := ⟨e.toNat, by omega⟩
        have hst : stepRA s (⟨(a : Int), false⟩, acc, z) = (⟨(e : Int), false⟩, acc ++ [r], z) := by simp only [stepRA, Int.toNat_natCast, ho, refR, hg]
        rw [hst]
        simp only [Int.toNat_natCast]
        obtain ⟨ih1, ih2⟩ := iterRA s k e (acc ++ [r]) z
        refine ⟨fun l z' a' h => ?_, fun h => ?_⟩
        · simp only [Option.map_eq_some_iff] at h
          obtain ⟨y, hy, hh⟩ := h
          simp only [Prod.mk.injEq] at hh
          obtain ⟨rfl, hh⟩ := hh
          rw [ih1 y.1 z' a' (by rw [hy]; simp [← hh])]
          simp
        · simp only [Option.map_eq_none_iff] at h
          exact ih2 h
theorem refQ_yes (s : ByteArray) (a e : Nat) {n : List UInt8} (h : getL (bs s) a = (n, (e : Int), 0)) (h4 : e + 4 ≤ s.size) (h1 : num s (e + 2) 2 = 1) : refQ3 s ⟨(a : Int), false⟩ = ⟨((e + 4 : Nat) : Int), false⟩ ∧ refQn s ⟨(a : Int), false⟩ = ⟨mk n, num s e 2⟩ := by
  have e0 : refQ0 s ⟨(a : Int), false⟩ = ⟨(e : Int), false⟩ := by simp [refQ0, h]
  have e1 : refQ1 s ⟨(a : Int), false⟩ = (num s e 2, ⟨((e + 2 : Nat) : Int), false⟩) := by unfold refQ1; rw [e0, numT_yes s 2 e (by omega)]
  have e2 : refQ2 s ⟨(a : Int), false⟩ = (num s (e + 2) 2, ⟨((e + 2 + 2 : Nat) : Int), false⟩) := by unfold refQ2; rw [e1]; simp only; rw [numT_yes s 2 (e + 2) (by omega)]
  refine ⟨?_, ?_⟩
  · unfold refQ3; rw [e2, h1]; simp; omega
  · unfold refQn; rw [e1]; simp [h]
theorem refQ_no (s : ByteArray) (a : Nat) (h : ¬ ((getL (bs s) a).2.2 = 0 ∧ (getL (bs s) a).2.1 + 4 ≤ s.size ∧ num s ((getL (bs s) a).2.1.toNat + 2) 2 = 1)) : (refQ3 s ⟨(a : Int), false⟩).f = true := by
  rcases hg : getL (bs s) a with ⟨n, e, er⟩
  rw [hg] at h
  simp only at h
  by_cases h0 : er = 0
  · subst h0
    have he := get_ends hg
    obtain ⟨e, rfl⟩ : ∃ e' : Nat, e = e' := ⟨e.toNat, by omega⟩
    simp only [Int.toNat_natCast, true_and, not_and] at h
    have e0 : refQ0 s ⟨(a : Int), false⟩ = ⟨(e : Int), false⟩ := by simp [refQ0, hg]
    unfold refQ3 refQ2 refQ1
    rw [e0]
    by_cases h2 : e + 2 ≤ s.size
    · rw [numT_yes s 2 e h2]
      simp only
      by_cases h4 : e + 4 ≤ s.size
      · rw [numT_yes s 2 (e + 2) (by omega)]
        have := h (by omega)
        simp [this]
      · rw [numT_no s 2 (e + 2) (by omega)]
        simp
    · rw [numT_no s 2 e (by omega)]
      simp only
      rw [numT_f s 2 rfl]
      simp
  · have e0 : (refQ0 s ⟨(a : Int), false⟩).f = true := by simp [refQ0, hg, h0]
    unfold refQ3 refQ2 refQ1
    rw [numT_f s 2 e0]
    simp only
    rw [numT_f s 2 e0]
    simp only
    rw [e0]
    simp
theorem iterRQ (s : ByteArray) : ∀ (k a : Nat) (acc : List Qn), (∀ l a', takeQs s k a = some (l, a') → iterK (·.1) (stepRQ s) k (⟨(a : Int), false⟩, acc) = (⟨(a' : Int), false⟩, acc ++ l)) ∧ (takeQs s k a = none → (iterK (·.1) (stepRQ s) k (⟨(a : Int), false⟩, acc)).1.f = true)
  | 0, a, acc => by
    refine ⟨fun l a' h => ?_, fun h => by cases h⟩
    simp only [takeQs, Option.some.injEq, Prod.mk.injEq] at h
    obtain ⟨rfl, rfl⟩ := h
    simp [iterK]
  | k + 1, a, acc => by
    rw [iterK, takeQs]
    simp only [Bool.false_eq_true, if_false]
    split
    · rename_i hc
      rcases hg : getL (bs s) a with ⟨n, e, er⟩
      rw [hg] at hc
      simp only at hc ⊢
      obtain ⟨rfl, h4, h1⟩ := hc
      have he := get_ends hg
      obtain ⟨e, rfl⟩ : ∃ e' : Nat, e = e' := ⟨e.toNat, by omega⟩
      simp only [Int.toNat_natCast] at h1 ⊢
      obtain ⟨y1, y2⟩ := refQ_yes s a e hg (by omega) h1
      have hst : stepRQ s (⟨(a : Int), false⟩, acc) = (⟨((e + 4 : Nat) : Int), false⟩, acc ++ [⟨mk n, num s e 2⟩]) := by
        simp only [stepRQ]; rw [y1, y2]
      rw [hst]
      obtain ⟨ih1, ih2⟩ := iterRQ s k (e + 4) (acc ++ [⟨mk n, num s e 2⟩])
      refine ⟨fun l a' h => ?_, fun h => ?_⟩
      · simp only [Option.map_eq_some_iff] at h
        obtain ⟨y, hy, hh⟩ := h
        simp only [Prod.mk.injEq] at hh
        obtain ⟨rfl, rfl⟩ := hh
        rw [ih1 y.1 y.2 hy]
        simp
      · simp only [Option.map_eq_none_iff] at h
        exact ih2 h
    · rename_i hc
      have hf : (stepRQ s (⟨(a : Int), false⟩, acc)).1.f = true := refQ_no s a hc
      rw [iterK_f hf]
      exact ⟨fun l a' h => (by cases h), fun _ => hf⟩

theorem takeAd_len (s : ByteArray) : ∀ (k a : Nat) (z : Int) (l : List Rec) (z' : Int) (a' : Nat), takeAd s k a z = some (l, z', a') → l.length ≤ k
  | 0, a, z, l, z', a', h => by
    simp only [takeAd, Option.some.injEq, Prod.mk.injEq] at h
    obtain ⟨rfl, rfl, rfl⟩ := h; simp
  | k + 1, a, z, l, z', a', h => by
    rw [takeAd] at h
    split at h
    · have := takeAd_len s k _ _ l z' a' h; omega
    · split at h
      · cases h
      · rename_i r e hr
        simp only [Option.map_eq_some_iff] at h
        obtain ⟨y, hy, hh⟩ := h
        simp only [Prod.mk.injEq] at hh
        obtain ⟨rfl, hh⟩ := hh
        have := takeAd_len s k _ z y.1 z' a' (by rw [hy]; simp [← hh])
        simp; omega

/-! ### the whole -/
def rh1 (s : ByteArray) : Int × Tk := numT s 2 ⟨0, false⟩
def rh2 (s : ByteArray) : Int × Tk := numT s 2 (rh1 s).2
def rh3 (s : ByteArray) : Int × Tk := numT s 2 (rh2 s).2
def rh4 (s : ByteArray) : Int × Tk := numT s 2 (rh3 s).2
def rh5 (s : ByteArray) : Int × Tk := numT s 2 (rh4 s).2
def rh6 (s : ByteArray) : Int × Tk := numT s 2 (rh5 s).2
def rbad (s : ByteArray) : Bool := (rh6 s).2.f || !((rh2 s).1 / 16 % 16 == 0) || decide (4 < (rh3 s).1) || decide (32 < (rh4 s).1) || decide (32 < (rh5 s).1) || decide (33 < (rh6 s).1)
def rh7 (s : ByteArray) : Tk := ⟨(rh6 s).2.at_, rbad s⟩
def rfQ (s : ByteArray) : Tk × List Qn := iterK (·.1) (stepRQ s) (rh3 s).1.toNat (rh7 s, [])
def rfA (s : ByteArray) : Tk × List Rec := iterK (·.1) (stepRR s) (rh4 s).1.toNat ((rfQ s).1, [])
def rfS (s : ByteArray) : Tk × List Rec := iterK (·.1) (stepRR s) (rh5 s).1.toNat ((rfA s).1, [])
def rfD (s : ByteArray) : Tk × List Rec × Int := iterK (·.1) (stepRA s) (rh6 s).1.toNat ((rfS s).1, [], 0)
/-- The message as it is taken, whether it has failed or not. -/
def rfM (s : ByteArray) : Msg := ⟨(rh1 s).1, bit (rh2 s).1 32768, (rh2 s).1 / 2048 % 16, bit (rh2 s).1 1024, bit (rh2 s).1 512, bit (rh2 s).1 256, (rh2 s).1 % 16, (rfQ s).2, (rfA s).2, (rfS s).2, (rfD s).2.1, (rfD s).2.2⟩
theorem mayR_bulk {r : Rec} (h : mayR r = true) : r.n.size + r.tg.size + r.tx.size ≤ 1048576 := by
  simp only [mayR, Bool.and_eq_true, decide_eq_true_eq] at h
  have h1 := mayL_len h.1.1.1.1.1.2
  have h2 := mayL_len h.1.1.2
  rw [length_bs] at h1 h2
  omega
theorem rfm_is (s : ByteArray) : ((rfD s).1.f = false → (∀ q ∈ (rfM s).qs, mayQ q = true) ∧ (rfM s).qs.length ≤ 4 ∧ (∀ r ∈ (rfM s).an, mayR r = true) ∧ (rfM s).an.length ≤ 32 ∧ (∀ r ∈ (rfM s).sv, mayR r = true) ∧ (rfM s).sv.length ≤ 32 ∧ (∀ r ∈ (rfM s).ad, mayR r = true) ∧ (rfM s).ad.length ≤ 33) ∧
    getM s = (if ((rfD s).1.f || !((rfD s).1.at_ == s.size)) || !mayM (rfM s) then none else some (rfM s)) := by
  have bad : ∀ {σ : Type} {x : Tk} {y : σ} {step : Tk × σ → Tk × σ} {k : Nat}, x.f = true → (iterK (·.1) step k (x, y)).1.f = true := by
    intro σ x y step k h
    rw [iterK_f (tk := (·.1)) (st := (x, y)) h]; exact h
  have fin : (rh7 s).f = true ∨ (rfQ s).1.f = true ∨ (rfA s).1.f = true ∨ (rfS s).1.f = true ∨ (rfD s).1.f = true → (rfD s).1.f = true := by
    have c : (rfS s).1.f = true → (rfD s).1.f = true := fun h => bad h
    have b : (rfA s).1.f = true → (rfD s).1.f = true := fun h => c (bad h)
    have a : (rfQ s).1.f = true → (rfD s).1.f = true := fun h => b (bad h)
    rintro (h | h | h | h | h)
    · exact a (bad h)
    · exact a h
    · exact b h
    · exact c h
    · exact h
  have no : (rfD s).1.f = true → getM s = none → (((rfD s).1.f = false → (∀ q ∈ (rfM s).qs, mayQ q = true) ∧ (rfM s).qs.length ≤ 4 ∧ (∀ r ∈ (rfM s).an, mayR r = true) ∧ (rfM s).an.length ≤ 32 ∧ (∀ r ∈ (rfM s).sv, mayR r = true) ∧ (rfM s).sv.length ≤ 32 ∧ (∀ r ∈ (rfM s).ad, mayR r = true) ∧ (rfM s).ad.length ≤ 33) ∧
    getM s = (if ((rfD s).1.f || !((rfD s).1.at_ == s.size)) || !mayM (rfM s) then none else some (rfM s))) := fun h1 h2 => by
    rw [h1, h2]; exact ⟨fun h => (by cases h), by simp⟩
  by_cases h12 : s.size < 12
  · have h6 : (rh6 s).2.f = true := by
      have g1 : (rh1 s).2.f = true ∨ (2 ≤ s.size ∧ (rh1 s).2 = ⟨((2 : Nat) : Int), false⟩) := by
        by_cases h : 2 ≤ s.size
        · right; exact ⟨h, by unfold rh1; rw [show (0 : Int) = ((0 : Nat) : Int) from rfl, numT_yes s 2 0 (by omega)]⟩
        · left; unfold rh1; rw [show (0 : Int) = ((0 : Nat) : Int) from rfl, numT_no s 2 0 (by omega)]
      have step : ∀ (x y : Tk) (n : Nat), y = (numT s 2 x).2 → (x.f = true ∨ (n ≤ s.size ∧ x = ⟨(n : Int), false⟩)) → (y.f = true ∨ (n + 2 ≤ s.size ∧ y = ⟨((n + 2 : Nat) : Int), false⟩)) := by
        rintro x y n rfl (h | ⟨h, rfl⟩)
        · left; rw [numT_f s 2 h]; exact h
        · by_cases h2 : n + 2 ≤ s.size
          · right; exact ⟨h2, by rw [numT_yes s 2 n h2]⟩
          · left; rw [numT_no s 2 n (by omega)]
      have g6 := step (rh5 s).2 (rh6 s).2 10 rfl (step (rh4 s).2 (rh5 s).2 8 rfl (step (rh3 s).2 (rh4 s).2 6 rfl (step (rh2 s).2 (rh3 s).2 4 rfl (step (rh1 s).2 (rh2 s).2 2 rfl g1))))
      rcases g6 with h | ⟨h, _⟩
      · exact h
      · omega
    refine no (fin (.inl (by unfold rh7 rbad; simp [h6]))) ?_
    unfold getM
    rw [if_pos h12]
  · have e1 : rh1 s = (num s 0 2, ⟨((2 : Nat) : Int), false⟩) := by unfold rh1; rw [show (0 : Int) = ((0 : Nat) : Int) from rfl, numT_yes s 2 0 (by omega)]
    have e2 : rh2 s = (num s 2 2, ⟨((4 : Nat) : Int), false⟩) := by unfold rh2; rw [e1]; simp only; rw [numT_yes s 2 2 (by omega)]
    have e3 : rh3 s = (num s 4 2, ⟨((6 : Nat) : Int), false⟩) := by unfold rh3; rw [e2]; simp only; rw [numT_yes s 2 4 (by omega)]
    have e4 : rh4 s = (num s 6 2, ⟨((8 : Nat) : Int), false⟩) := by unfold rh4; rw [e3]; simp only; rw [numT_yes s 2 6 (by omega)]
    have e5 : rh5 s = (num s 8 2, ⟨((10 : Nat) : Int), false⟩) := by unfold rh5; rw [e4]; simp only; rw [numT_yes s 2 8 (by omega)]
    have e6 : rh6 s = (num s 10 2, ⟨((12 : Nat) : Int), false⟩) := by unfold rh6; rw [e5]; simp only; rw [numT_yes s 2 10 (by omega)]
    have q0 := num_bd s 4 2
    have q1 := num_bd s 6 2
    have q2 := num_bd s 8 2
    have q3 := num_bd s 10 2
    have e7 : rh7 s = ⟨((12 : Nat) : Int), !(num s 2 2 / 16 % 16 == 0) || decide (4 < num s 4 2) || decide (32 < num s 6 2) || decide (32 < num s 8 2) || decide (33 < num s 10 2)⟩ := by
      unfold rh7 rbad; rw [e2, e3, e4, e5, e6]; simp
    by_cases hb : (num s 2 2 / 16 % 16 ≠ 0 ∨ 4 < num s 4 2 ∨ 32 < num s 6 2 ∨ 32 < num s 8 2 ∨ 33 < num s 10 2)
    · refine no (fin (.inl ?_)) (by unfold getM; rw [if_neg h12, if_pos hb])
      rw [e7]
      simp only [Bool.or_eq_true, Bool.not_eq_true', beq_eq_false_iff_ne, decide_eq_true_eq, or_assoc]
      exact hb
    · have e7' : rh7 s = ⟨((12 : Nat) : Int), false⟩ := by
        rw [e7]
        simp only [not_or, Decidable.not_not, Int.not_lt] at hb
        obtain ⟨b1, b2, b3, b4, b5⟩ := hb
        simp [b1]
        omega
      unfold getM
      rw [if_neg h12, if_neg hb]
      have rQ : rfQ s = iterK (·.1) (stepRQ s) (num s 4 2).toNat (⟨((12 : Nat) : Int), false⟩, []) := by unfold rfQ; rw [e3, e7']
      obtain ⟨iq1, iq2⟩ := iterRQ s (num s 4 2).toNat 12 []
      cases hq : takeQs s (num s 4 2).toNat 12 with
      | none =>
        have hd := fin (.inr (.inl (by rw [rQ]; exact iq2 hq)))
        rw [hd]; exact ⟨fun h => (by cases h), by simp⟩
      | some v =>
        obtain ⟨qs, a1⟩ := v
        have rQ' : rfQ s = (⟨(a1 : Int), false⟩, qs) := by rw [rQ, iq1 qs a1 hq]; simp
        obtain ⟨mq1, mq2⟩ := takeQs_may s _ _ _ _ hq
        simp only
        have rA : rfA s = iterK (·.1) (stepRR s) (num s 6 2).toNat (⟨(a1 : Int), false⟩, []) := by unfold rfA; rw [e4, rQ']
        obtain ⟨ia1, ia2⟩ := iterRR s (num s 6 2).toNat a1 []
        cases ha : takeRs s (num s 6 2).toNat a1 with
        | none =>
          have hd := fin (.inr (.inr (.inl (by rw [rA]; exact ia2 ha))))
          rw [hd]; exact ⟨fun h => (by cases h), by simp⟩
        | some v =>
          obtain ⟨an, a2⟩ := v
          have rA' : rfA s = (⟨(a2 : Int), false⟩, an) := by rw [rA, ia1 an a2 ha]; simp
          obtain ⟨ma1, ma2⟩ := takeRs_may s _ _ _ _ ha
          simp only
          have rS : rfS s = iterK (·.1) (stepRR s) (num s 8 2).toNat (⟨(a2 : Int), false⟩, []) := by unfold rfS; rw [e5, rA']
          obtain ⟨is1, is2⟩ := iterRR s (num s 8 2).toNat a2 []
          cases hs : takeRs s (num s 8 2).toNat a2 with
          | none =>
            have hd := fin (.inr (.inr (.inr (.inl (by rw [rS]; exact is2 hs)))))
            rw [hd]; exact ⟨fun h => (by cases h), by simp⟩
          | some v =>
            obtain ⟨sv, a3⟩ := v
            have rS' : rfS s = (⟨(a3 : Int), false⟩, sv) := by rw [rS, is1 sv a3 hs]; simp
            obtain ⟨ms1, ms2⟩ := takeRs_may s _ _ _ _ hs
            simp only
            have rD : rfD s = iterK (·.1) (stepRA s) (num s 10 2).toNat (⟨(a3 : Int), false⟩, [], 0) := by unfold rfD; rw [e6, rS']
            obtain ⟨id1, id2⟩ := iterRA s (num s 10 2).toNat a3 [] 0
            cases hd : takeAd s (num s 10 2).toNat a3 0 with
            | none =>
              have hd := fin (.inr (.inr (.inr (.inr (by rw [rD]; exact id2 hd)))))
              rw [hd]; exact ⟨fun h => (by cases h), by simp⟩
            | some v =>
              obtain ⟨ad, z, a4⟩ := v
              have rD' : rfD s = (⟨(a4 : Int), false⟩, ad, z) := by rw [rD, id1 ad z a4 hd]; simp
              obtain ⟨md1, md2⟩ := takeAd_may s _ _ _ _ _ _ hd (by decide)
              have ml := takeAd_len s _ _ _ _ _ _ hd
              have hM : rfM s = ⟨num s 0 2, bit (num s 2 2) 32768, num s 2 2 / 2048 % 16, bit (num s 2 2) 1024, bit (num s 2 2) 512, bit (num s 2 2) 256, num s 2 2 % 16, qs, an, sv, ad, z⟩ := by
                unfold rfM; rw [e1, e2, rQ', rA', rS', rD']
              have b0 := num_bd s 0 2
              have b2 := num_bd s 2 2
              simp only [not_or, Int.not_lt] at hb
              obtain ⟨_, k0, k1, k2, k3⟩ := hb
              refine ⟨fun _ => ?_, ?_⟩
              · rw [hM]
                simp only
                exact ⟨mq2, by omega, ma2, by omega, ms2, by omega, md1, by omega⟩
              · simp only
                rw [← hM, rD']
                simp only [Bool.false_or]
                by_cases h4 : a4 = s.size
                · have h4' : ((a4 : Int) == s.size) = true := by simp [h4]
                  simp only [h4', Bool.not_true, Bool.false_or]
                  by_cases h32 : ad.length ≤ 32
                  · rw [if_pos (show a4 = s.size ∧ ad.length ≤ 32 from ⟨h4, h32⟩), if_neg]
                    simp only [Bool.not_eq_true', Bool.not_eq_false]
                    rw [mayM_iff, hM]
                    simp only [maySz, Bool.or_eq_true, Bool.and_eq_true, decide_eq_true_eq] at md2
                    exact ⟨mq2, by simp only; omega, by simp only; omega, by simp only; omega, by simp only; omega, ma2, by simp only; omega, ms2, by simp only; omega, md1, h32, md2⟩
                  · rw [if_neg (show ¬ (a4 = s.size ∧ ad.length ≤ 32) from fun h => h32 h.2), if_pos]
                    simp only [Bool.not_eq_true']
                    cases hm : mayM (rfM s) with
                    | false => rfl
                    | true =>
                      rw [mayM_iff, hM] at hm
                      exact absurd hm.adl h32
                · have h4' : ((a4 : Int) == s.size) = false := by simp; omega
                  simp only [h4', Bool.not_false, Bool.true_or, if_true]
                  rw [if_neg (fun h => h4 h.1)]
end Go.Proofs.YtdmooggmoihggaaGreatDoor

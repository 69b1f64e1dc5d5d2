/-
  Plain lemmas that speak of no program: texts cut at their points, joined again; which of them are names; which name is under which.
-/
import Derived.Test.YtlnkpgmflaekoaaPlain
import Derived.PlainAid
import Derived.Lib.Strings
import Derived.Lib.Bytealg
namespace Go.Pin
open Go.PlainAid

/-- May a byte stand in a label? -/
def okByte (x : Int) : Bool := decide (97 ≤ x ∧ x ≤ 122) || decide (48 ≤ x ∧ x ≤ 57) || decide (x = 45)
def bs (s : ByteArray) : List UInt8 := s.data.toList
def mk (l : List UInt8) : ByteArray := ⟨l.toArray⟩
theorem bs_mk (l : List UInt8) : bs (mk l) = l := rfl
theorem mk_bs (s : ByteArray) : mk (bs s) = s := by simp [mk, bs]
theorem mk_inj {a b : List UInt8} (h : mk a = mk b) : a = b := by have := congrArg bs h; simpa [bs_mk] using this
theorem size_mk (l : List UInt8) : (mk l).size = l.length := by simp [mk, ByteArray.size]
theorem length_bs (s : ByteArray) : (bs s).length = s.size := Array.length_toList
theorem bs_inj {a b : ByteArray} (h : bs a = bs b) : a = b := by rw [← mk_bs a, h, mk_bs]

def okC (c : UInt8) : Bool := okByte c.toNat
def okL (l : List UInt8) : Bool := decide (1 ≤ l.length) && decide (l.length ≤ 8) && l.all okC

/-- A text, cut at its points. -/
def split : List UInt8 → List (List UInt8)
  | [] => [[]]
  | c :: l => if c = 46 then [] :: split l else
    match split l with
    | [] => [[c]]
    | p :: ps => (c :: p) :: ps
/-- Joined with points. -/
def join : List (List UInt8) → List UInt8
  | [] => []
  | [x] => x
  | x :: y :: r => x ++ 46 :: join (y :: r)

theorem split_ne (l : List UInt8) : split l ≠ [] := by
  cases l with
  | nil => simp [split]
  | cons c l => unfold split; split <;> (try split) <;> simp

theorem split_dot (l : List UInt8) : split (46 :: l) = [] :: split l := by simp [split]
theorem split_cons (c : UInt8) (l : List UInt8) (h : c ≠ 46) : ∃ p ps, split l = p :: ps ∧ split (c :: l) = (c :: p) :: ps := by
  cases hs : split l with
  | nil => exact absurd hs (split_ne l)
  | cons p ps => exact ⟨p, ps, rfl, by simp [split, h, hs]⟩

theorem split_append (a b : List UInt8) : split (a ++ 46 :: b) = split a ++ split b := by
  induction a with
  | nil => simp [split]
  | cons c a ih =>
    by_cases h : c = 46
    · subst h; simp [split_dot, ih]
    · obtain ⟨p, ps, h1, h2⟩ := split_cons c a h
      obtain ⟨q, qs, h3, h4⟩ := split_cons c (a ++ 46 :: b) h
      rw [List.cons_append, h4, h2]
      rw [ih, h1] at h3
      simp only [List.cons_append, List.cons.injEq] at h3
      obtain ⟨rfl, rfl⟩ := h3
      simp

theorem split_nodot (a : List UInt8) (h : (46 : UInt8) ∉ a) : split a = [a] := by
  induction a with
  | nil => simp [split]
  | cons c a ih =>
    simp only [List.mem_cons, not_or] at h
    obtain ⟨p, ps, h1, h2⟩ := split_cons c a (fun e => h.1 e.symm)
    rw [ih h.2] at h1
    simp only [List.cons.injEq] at h1
    obtain ⟨rfl, rfl⟩ := h1
    exact h2

theorem mem_split (l x : List UInt8) (h : x ∈ split l) : (46 : UInt8) ∉ x := by
  induction l generalizing x with
  | nil => simp [split] at h; subst h; simp
  | cons c l ih =>
    by_cases hc : c = 46
    · subst hc
      rw [split_dot] at h
      rcases List.mem_cons.1 h with rfl | h
      · simp
      · exact ih x h
    · obtain ⟨p, ps, h1, h2⟩ := split_cons c l hc
      rw [h2] at h
      rcases List.mem_cons.1 h with rfl | h
      · have := ih p (by rw [h1]; simp)
        simp only [List.mem_cons, not_or]
        exact ⟨fun e => hc e.symm, this⟩
      · exact ih x (by rw [h1]; exact List.mem_cons_of_mem _ h)

theorem join_cons (x : List UInt8) (r : List (List UInt8)) (h : r ≠ []) : join (x :: r) = x ++ 46 :: join r := by
  cases r with
  | nil => exact absurd rfl h
  | cons y r => rfl

theorem join_append (a b : List (List UInt8)) (ha : a ≠ []) (hb : b ≠ []) : join (a ++ b) = join a ++ 46 :: join b := by
  induction a with
  | nil => exact absurd rfl ha
  | cons x a ih =>
    by_cases h : a = []
    · subst h; simp [join_cons x b hb, join]
    · rw [List.cons_append, join_cons x (a ++ b) (by simp [h]), ih h, join_cons x a h]; simp

theorem join_split (l : List UInt8) : join (split l) = l := by
  induction l with
  | nil => rfl
  | cons c l ih =>
    by_cases hc : c = 46
    · subst hc; rw [split_dot, join_cons _ _ (split_ne l), ih]; rfl
    · obtain ⟨p, ps, h1, h2⟩ := split_cons c l hc
      rw [h2]
      rw [h1] at ih
      cases ps with
      | nil => simp only [join] at ih ⊢; rw [ih]
      | cons y r => rw [join_cons _ _ (by simp)] at ih ⊢; rw [← ih]; rfl

theorem split_join (ls : List (List UInt8)) (h : ls ≠ []) (hd : ∀ x ∈ ls, (46 : UInt8) ∉ x) : split (join ls) = ls := by
  induction ls with
  | nil => exact absurd rfl h
  | cons x r ih =>
    by_cases hr : r = []
    · subst hr; exact split_nodot x (hd x (by simp))
    · rw [join_cons x r hr, split_append, split_nodot x (hd x (by simp)), ih hr (fun y hy => hd y (List.mem_cons_of_mem _ hy))]; rfl

/-- May a text be a name? -/
def mayL (l : List UInt8) : Bool := decide (l = []) || (decide ((split l).length ≤ 8) && (split l).all okL)
def labsL (l : List UInt8) : List (List UInt8) := if l = [] then [] else if mayL l = true then split l else []
def underL (s z : List UInt8) : Bool := mayL s && (mayL z && decide (labsL z <:+ labsL s))

theorem okL_ne {l : List UInt8} (h : okL l = true) : l ≠ [] := by intro e; subst e; simp [okL] at h
theorem okL_nodot {l : List UInt8} (h : okL l = true) : (46 : UInt8) ∉ l := by
  intro hm
  simp only [okL, Bool.and_eq_true, List.all_eq_true] at h
  have := h.2 46 hm
  revert this; decide
theorem mayL_nil : mayL [] = true := rfl
theorem labsL_nil : labsL [] = [] := rfl
theorem labsL_no {l : List UInt8} (h : mayL l = false) : labsL l = [] := by simp [labsL, h]
theorem labsL_yes {l : List UInt8} (h : mayL l = true) (hl : l ≠ []) : labsL l = split l := by simp [labsL, h, hl]
theorem labsL_len (l : List UInt8) : (labsL l).length ≤ 8 := by
  unfold labsL; split
  · simp
  · split
    · rename_i h h2; simp only [mayL, Bool.or_eq_true, decide_eq_true_eq, Bool.and_eq_true] at h2
      rcases h2 with h2 | h2
      · exact absurd h2 h
      · exact h2.1
    · simp
theorem labsL_ok {l x : List UInt8} (h : x ∈ labsL l) : okL x = true := by
  unfold labsL at h; split at h
  · simp at h
  · split at h
    · rename_i h1 h2; simp only [mayL, Bool.or_eq_true, decide_eq_true_eq, Bool.and_eq_true, List.all_eq_true] at h2
      rcases h2 with h2 | h2
      · exact absurd h2 h1
      · exact h2.2 x h
    · simp at h
theorem labsL_ne {l : List UInt8} (h : mayL l = true) (hl : l ≠ []) : labsL l ≠ [] := by rw [labsL_yes h hl]; exact split_ne l
/-- A name is its labels, joined. -/
theorem join_labs {l : List UInt8} (h : mayL l = true) : join (labsL l) = l := by
  by_cases hl : l = []
  · subst hl; rfl
  · rw [labsL_yes h hl, join_split]
theorem labs_inj {a b : List UInt8} (ha : mayL a = true) (hb : mayL b = true) (h : labsL a = labsL b) : a = b := by rw [← join_labs ha, h, join_labs hb]

theorem join_ne {ls : List (List UInt8)} (h : ls ≠ []) (ho : ∀ x ∈ ls, okL x = true) : join ls ≠ [] := by
  cases ls with
  | nil => exact absurd rfl h
  | cons x r =>
    have hx := okL_ne (ho x (by simp))
    by_cases hr : r = []
    · subst hr; exact hx
    · rw [join_cons x r hr]; simp
/-- Labels that may be, joined, are a name of just these. -/
theorem may_join {ls : List (List UInt8)} (hl : ls.length ≤ 8) (ho : ∀ x ∈ ls, okL x = true) : mayL (join ls) = true ∧ labsL (join ls) = ls := by
  by_cases h : ls = []
  · subst h; exact ⟨rfl, rfl⟩
  · have hs := split_join ls h (fun x hx => okL_nodot (ho x hx))
    have hm : mayL (join ls) = true := by
      simp only [mayL, hs, Bool.or_eq_true, Bool.and_eq_true, decide_eq_true_eq, List.all_eq_true]
      exact .inr ⟨hl, ho⟩
    exact ⟨hm, by rw [labsL_yes hm (join_ne h ho), hs]⟩

theorem suffix_ok {a b : List (List UInt8)} (h : a <:+ b) (ho : ∀ x ∈ b, okL x = true) : ∀ x ∈ a, okL x = true := fun x hx => ho x (h.subset hx)

/-- Under, by the letters: what the reference asks. -/
theorem under_letters {s z : List UInt8} (hs : mayL s = true) (hz : mayL z = true) (hz0 : z ≠ []) (hne : s ≠ z) :
    (labsL z <:+ labsL s) ↔ (∃ a, 1 ≤ a.length ∧ s = a ++ 46 :: z) := by
  constructor
  · rintro ⟨pre, hp⟩
    have hzl := labsL_ne hz hz0
    have hpre : pre ≠ [] := by
      intro e; subst e
      simp only [List.nil_append] at hp
      exact hne (labs_inj hs hz hp.symm)
    refine ⟨join pre, ?_, ?_⟩
    · have := join_ne hpre (fun x hx => labsL_ok (l := s) (by rw [← hp]; simp [hx]))
      cases h : join pre with
      | nil => exact absurd h this
      | cons => simp
    · rw [← join_labs hs, ← hp, join_append _ _ hpre hzl, join_labs hz]
  · rintro ⟨a, _, rfl⟩
    rw [labsL_yes hz hz0, labsL_yes hs (by simp), split_append]
    exact ⟨_, rfl⟩

theorem under_self {a : List UInt8} (h : mayL a = true) : underL a a = true := by simp [underL, h]
theorem under_root {a : List UInt8} (h : mayL a = true) : underL a [] = true := by simp [underL, h, mayL_nil, labsL_nil]
theorem under_trans {a b c : List UInt8} (h1 : underL a b = true) (h2 : underL b c = true) : underL a c = true := by
  simp only [underL, Bool.and_eq_true, decide_eq_true_eq] at *
  exact ⟨h1.1, h2.2.1, h2.2.2.trans h1.2.2⟩
theorem under_may {a b : List UInt8} (h : underL a b = true) : mayL a = true ∧ mayL b = true := by
  simp only [underL, Bool.and_eq_true, decide_eq_true_eq] at h
  exact ⟨h.1, h.2.1⟩
theorem under_two {s a b : List UInt8} (h1 : underL s a = true) (h2 : underL s b = true) : underL a b = true ∨ underL b a = true := by
  simp only [underL, Bool.and_eq_true, decide_eq_true_eq] at *
  rcases Nat.le_total (labsL a).length (labsL b).length with h | h
  · exact .inr ⟨h2.2.1, h1.2.1, List.suffix_of_suffix_length_le h1.2.2 h2.2.2 h⟩
  · exact .inl ⟨h1.2.1, h2.2.1, List.suffix_of_suffix_length_le h2.2.2 h1.2.2 h⟩
theorem under_both {a b : List UInt8} (h1 : underL a b = true) (h2 : underL b a = true) : a = b := by
  simp only [underL, Bool.and_eq_true, decide_eq_true_eq] at *
  exact labs_inj h1.1 h2.1 (List.IsSuffix.eq_of_length_le h2.2.2 h1.2.2.length_le)
/-- The parents of a name. -/
theorem under_parent {a : List UInt8} (h : mayL a = true) (i : Nat) : underL a (join ((labsL a).drop i)) = true := by
  have ho : ∀ x ∈ (labsL a).drop i, okL x = true := suffix_ok (List.drop_suffix i _) (fun x hx => labsL_ok hx)
  have hm := may_join (ls := (labsL a).drop i) (by have := labsL_len a; simp; omega) ho
  simp only [underL, h, hm.1, hm.2, Bool.true_and, decide_eq_true_eq]
  exact List.drop_suffix i _

/-! ### folding -/
def foldByte (x : Int) : Int := if 65 ≤ x ∧ x ≤ 90 then x + 32 else x
def foldC (c : UInt8) : UInt8 := if 65 ≤ c.toNat ∧ c.toNat ≤ 90 then UInt8.ofNat (c.toNat + 32) else c
def foldL (l : List UInt8) : List UInt8 := l.map foldC
theorem foldC_twice (c : UInt8) : foldC (foldC c) = foldC c := by
  have hc := c.toNat_lt
  have h2 : (UInt8.ofNat (c.toNat + 32)).toNat = (c.toNat + 32) % 256 := by simp
  unfold foldC
  split
  · rw [if_neg (by rw [h2]; omega)]
  · rfl
theorem foldL_twice (l : List UInt8) : foldL (foldL l) = foldL l := by simp [foldL, foldC_twice]
theorem foldC_okC (c : UInt8) (h : okC c = true) : foldC c = c := by
  unfold foldC
  rw [if_neg]
  intro hh
  simp [okC, okByte] at h
  omega
theorem fold_may {l : List UInt8} (h : mayL l = true) : foldL l = l := by
  have key : ∀ ls : List (List UInt8), (∀ x ∈ ls, okL x = true) → foldL (join ls) = join ls := by
    intro ls ho
    have hx : ∀ x : List UInt8, okL x = true → foldL x = x := by
      intro x hx
      simp only [okL, Bool.and_eq_true, List.all_eq_true] at hx
      unfold foldL
      have : x.map foldC = x.map id := List.map_congr_left fun c hc => foldC_okC c (hx.2 c hc)
      simpa using this
    induction ls with
    | nil => rfl
    | cons x r ih =>
      by_cases hr : r = []
      · subst hr; exact hx x (ho x (by simp))
      · rw [join_cons x r hr]
        have h1 := hx x (ho x (by simp))
        have h2 := ih (fun y hy => ho y (List.mem_cons_of_mem _ hy))
        unfold foldL at h1 h2 ⊢
        rw [List.map_append, List.map_cons, h1, h2]
        rfl
  have := key (labsL l) (fun x hx => labsL_ok hx)
  rwa [join_labs h] at this
end Go.Pin

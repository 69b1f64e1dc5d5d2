/-
  Plain lemmas that speak of no program: leases, which may be, which are live.
-/
import Derived.Test.YtlnkpgmflaekoaaNamePlain
import Derived.Test.YtlnkpgmflaekoaaPlain
namespace Go.Pin

/-- A lease: its host, state, client, end, name, is the name its own. -/
structure Lea where
  h : Int
  st : Int
  c : ByteArray
  u : Int
  n : ByteArray
  won : Bool
def zeroLea : Lea := ⟨0, 0, ⟨#[]⟩, 0, ⟨#[]⟩, false⟩
/-- As a value of Go's. -/
def cellsL (l : Lea) : Array Value := #[.int .i64 l.h, .int .i64 l.st, .string l.c, .int .i64 l.u, .string l.n, .bool l.won]
def lv (l : Lea) : Value := .agg (cellsL l)
def cellsLea (l : Lea) : List Value := [.int .i64 l.h, .int .i64 l.st, .string l.c, .int .i64 l.u, .string l.n, .bool l.won]
/-- May a lease be? -/
def mayLea (l : Lea) : Bool :=
  decide (2 ≤ l.h) && decide (l.h ≤ 254) && decide (0 ≤ l.st) && decide (l.st ≤ 3) && decide (l.c.size ≤ 16) && decide (0 ≤ l.u) && decide (l.u ≤ 1099511627776) && mayL (bs l.n) &&
  (!(decide (l.st = 1) || decide (l.st = 2)) || decide (l.c.size ≠ 0)) && (decide (l.st = 2) || decide (bs l.n = [])) && (!l.won || decide (bs l.n ≠ []))
/-- Is it live? -/
def liveLea (l : Lea) (now : Int) : Bool := mayLea l && decide (l.st ≠ 0) && decide (now < l.u)
theorem mayLea_iff (l : Lea) : mayLea l = true ↔ (2 ≤ l.h ∧ l.h ≤ 254 ∧ 0 ≤ l.st ∧ l.st ≤ 3 ∧ l.c.size ≤ 16 ∧ 0 ≤ l.u ∧ l.u ≤ 1099511627776) ∧ mayL (bs l.n) = true ∧ (l.st = 1 ∨ l.st = 2 → l.c.size ≠ 0) ∧ (l.st = 2 ∨ bs l.n = []) ∧ (l.won = true → bs l.n ≠ []) := by
  obtain ⟨h, st, c, u, n, won⟩ := l
  simp only [mayLea, Bool.and_eq_true, Bool.or_eq_true, Bool.not_eq_true', Bool.or_eq_false_iff, decide_eq_true_eq, decide_eq_false_iff_not]
  cases won <;> simp <;> constructor <;> intro hh
  · obtain ⟨⟨⟨⟨⟨⟨⟨⟨⟨h1, h2⟩, h3⟩, h4⟩, h5⟩, h6⟩, h7⟩, h8⟩, h9⟩, h10⟩ := hh
    refine ⟨⟨h1, h2, h3, h4, h5, h6, h7⟩, h8, fun hs => ?_, h10⟩
    rcases h9 with ⟨a, b⟩ | h9
    · rcases hs with hs | hs
      · exact absurd hs a
      · exact absurd hs b
    · exact h9
  · obtain ⟨⟨h1, h2, h3, h4, h5, h6, h7⟩, h8, h9, h10⟩ := hh
    refine ⟨⟨⟨⟨⟨⟨⟨⟨⟨h1, h2⟩, h3⟩, h4⟩, h5⟩, h6⟩, h7⟩, h8⟩, ?_⟩, h10⟩
    by_cases a : st = 1
    · exact .inr (h9 (.inl a))
    · by_cases b : st = 2
      · exact .inr (h9 (.inr b))
      · exact .inl ⟨a, b⟩
  · obtain ⟨⟨⟨⟨⟨⟨⟨⟨⟨⟨h1, h2⟩, h3⟩, h4⟩, h5⟩, h6⟩, h7⟩, h8⟩, h9⟩, h10⟩, h11⟩ := hh
    refine ⟨⟨h1, h2, h3, h4, h5, h6, h7⟩, h8, fun hs => ?_, h10, h11⟩
    rcases h9 with ⟨a, b⟩ | h9
    · rcases hs with hs | hs
      · exact absurd hs a
      · exact absurd hs b
    · exact h9
  · obtain ⟨⟨h1, h2, h3, h4, h5, h6, h7⟩, h8, h9, h10, h11⟩ := hh
    refine ⟨⟨⟨⟨⟨⟨⟨⟨⟨⟨h1, h2⟩, h3⟩, h4⟩, h5⟩, h6⟩, h7⟩, h8⟩, ?_⟩, h10⟩, h11⟩
    by_cases a : st = 1
    · exact .inr (h9 (.inl a))
    · by_cases b : st = 2
      · exact .inr (h9 (.inr b))
      · exact .inl ⟨a, b⟩

/-- Has it a name; does it stand right. -/
def namedL (l : Lea) : Bool := !l.n.toList.isEmpty || l.won
def standsL (l : Lea) : Bool :=
  if l.st = 0 ∨ l.st = 3 then !namedL l else if l.st = 1 then !l.c.toList.isEmpty && !namedL l
  else if l.st = 2 then !l.c.toList.isEmpty && (!l.n.toList.isEmpty || !l.won) else false
def fromTo (a x b : Int) : Bool := decide (a ≤ x) && decide (x ≤ b)
theorem empty_bs (s : ByteArray) : s.toList.isEmpty = decide (bs s = []) := by
  have : s.toList = bs s := ByteArray.toList_eq s
  rw [this]; cases bs s <;> simp
theorem empty_size (s : ByteArray) : s.toList.isEmpty = decide (s.size = 0) := by
  rw [empty_bs]
  have : s.size = (bs s).length := (length_bs s).symm
  rw [this]; cases bs s <;> simp
theorem mayLea_is (l : Lea) : mayLea l = (fromTo 2 l.h 254 && decide ((l.c.size : Int) ≤ 16) && fromTo 0 l.u 1099511627776 && mayL (bs l.n) && standsL l) := by
  obtain ⟨h, st, c, u, n, won⟩ := l
  rw [Bool.eq_iff_iff, mayLea_iff]
  simp only [standsL, namedL, fromTo, empty_bs n, empty_size c, Bool.and_eq_true, decide_eq_true_eq]
  constructor
  · rintro ⟨⟨h1, h2, h3, h4, h5, h6, h7⟩, hm, h8, h9, h10⟩
    refine ⟨⟨⟨⟨⟨h1, h2⟩, by omega⟩, h6, h7⟩, hm⟩, ?_⟩
    rcases (by omega : st = 0 ∨ st = 1 ∨ st = 2 ∨ st = 3) with rfl | rfl | rfl | rfl
    · simp at h9 ⊢
      refine ⟨h9, ?_⟩
      cases won
      · rfl
      · exact absurd h9 (h10 rfl)
    · simp at h8 h9 ⊢
      refine ⟨h8, h9, ?_⟩
      cases won
      · rfl
      · exact absurd h9 (h10 rfl)
    · simp at h8 ⊢
      refine ⟨h8, ?_⟩
      cases won
      · exact .inr rfl
      · exact .inl (h10 rfl)
    · simp at h9 ⊢
      refine ⟨h9, ?_⟩
      cases won
      · rfl
      · exact absurd h9 (h10 rfl)
  · rintro ⟨⟨⟨⟨⟨h1, h2⟩, h5⟩, h6, h7⟩, hm⟩, hs⟩
    by_cases s0 : st = 0
    · subst s0; simp at hs ⊢; exact ⟨⟨h1, h2, by omega, h6, h7⟩, hm, hs.1, fun hw => by rw [hs.2] at hw; cases hw⟩
    by_cases s1 : st = 1
    · subst s1; simp at hs ⊢; exact ⟨⟨h1, h2, by omega, h6, h7⟩, hm, hs.1, hs.2.1, fun hw => by rw [hs.2.2] at hw; cases hw⟩
    by_cases s2 : st = 2
    · subst s2; simp at hs ⊢
      refine ⟨⟨h1, h2, by omega, h6, h7⟩, hm, hs.1, fun hw => ?_⟩
      rcases hs.2 with h | h
      · exact h
      · rw [h] at hw; cases hw
    by_cases s3 : st = 3
    · subst s3; simp at hs ⊢; exact ⟨⟨h1, h2, by omega, h6, h7⟩, hm, hs.1, fun hw => by rw [hs.2] at hw; cases hw⟩
    simp [s0, s1, s2, s3] at hs
theorem liveLea_is (l : Lea) (now : Int) : liveLea l now = (mayLea l && decide (l.st ≠ 0) && decide (l.u > now)) := by
  unfold liveLea; simp

end Go.Pin

/-
  Several texts in one.
-/
import Derived.Test.YtdmooggmoihggaaGreatDoorBRget
import Derived.Test.YtdmooggmoihggaaGreatDoorBRput
import Derived.Test.YtdmooggmoihggaaGreatDoorBName
/-
  What a record that is told is: the numbers, names and texts that stand in a message.
-/
namespace Go.Proofs.YtdmooggmoihggaaGreatDoor
set_option maxRecDepth 100000
open Go.ChangeShapes Go.WideShapes Go.ChangeAt Go.RowKit Go.Pin Go.PlainAid

theorem numT_at (s : ByteArray) (k a : Nat) (h : a + k ≤ s.size) : numT s k ⟨a, false⟩ = (num s a k, ⟨((a + k : Nat) : Int), false⟩) := by
  have h1 : ¬ ((a : Int) < 0) := by omega
  have h2 : ¬ ((s.size : Int) < (a : Int) + k) := by omega
  simp [numT, getB, h1, h2]
theorem numT_ok {s : ByteArray} {k : Nat} {x : Tk} (h : (numT s k x).2.f = false) : ∃ a : Nat, x = ⟨a, false⟩ ∧ a + k ≤ s.size := by
  obtain ⟨a, f⟩ := x
  unfold numT at h
  cases f with
  | true => simp at h
  | false =>
    simp only [Bool.false_eq_true, if_false] at h
    unfold getB at h
    by_cases h0 : a < 0
    · rw [if_pos h0] at h; simp at h
    · rw [if_neg h0] at h
      by_cases h1 : (s.size : Int) < a + k
      · rw [if_pos h1] at h; simp at h
      · exact ⟨a.toNat, by rw [show ((a.toNat : Nat) : Int) = a by omega], by omega⟩
theorem nameT_at {s : ByteArray} {a m : Nat} {n : List UInt8} (h : getL (bs s) a = (n, (m : Int), 0)) : nameT s ⟨a, false⟩ = (mk n, ⟨m, false⟩) := by
  simp [nameT, h]
theorem nameT_ok {s : ByteArray} {x : Tk} (h : (nameT s x).2.f = false) : x.f = false ∧ ∃ (n : List UInt8) (m : Nat), getL (bs s) x.at_.toNat = (n, (m : Int), 0) ∧ nameT s x = (mk n, ⟨m, false⟩) := by
  obtain ⟨a, f⟩ := x
  cases f with
  | true => simp [nameT] at h
  | false =>
    refine ⟨rfl, ?_⟩
    unfold nameT at h ⊢
    simp only [Bool.false_eq_true, if_false] at h ⊢
    rcases hg : getL (bs s) a.toNat with ⟨n, e, er⟩
    rw [hg] at h
    simp only at h ⊢
    by_cases h0 : er = 0
    · subst h0
      have := get_ends hg
      obtain ⟨m, rfl⟩ : ∃ m : Nat, e = m := ⟨e.toNat, by omega⟩
      exact ⟨n, m, rfl, by simp⟩
    · rw [if_neg h0] at h; simp at h
theorem textT_at (s : ByteArray) (a n : Nat) (h : a + n ≤ s.size) : textT s n ⟨a, false⟩ = (s.extract a (a + n), ⟨((a + n : Nat) : Int), false⟩) := by
  have h1 : (n : Int) ≤ s.size - a := by omega
  simp [textT, h1]
theorem textT_ok {s : ByteArray} {n : Nat} {x : Tk} (h : (textT s n x).2.f = false) : x.f = false ∧ (n : Int) ≤ s.size - x.at_ := by
  obtain ⟨a, f⟩ := x
  cases f with
  | true => simp [textT] at h
  | false =>
    refine ⟨rfl, ?_⟩
    unfold textT at h
    simp only [Bool.false_eq_true, if_false] at h
    by_cases h0 : (n : Int) ≤ s.size - a
    · exact h0
    · rw [if_neg h0] at h; simp at h
theorem mustT_ok {so : Bool} {x : Tk} (h : (mustT so x).f = false) : so = true ∧ x.f = false ∧ mustT so x = x := by
  obtain ⟨a, f⟩ := x
  simp only [mustT, Bool.or_eq_false_iff, Bool.not_eq_false'] at h
  obtain ⟨rfl, rfl⟩ := h
  simp [mustT]
theorem mustT_yes (x : Tk) : mustT true x = x := by cases x; simp [mustT]

/-- What a record's type names, at place p, in k bytes. -/
def Dat (s : ByteArray) (p k : Nat) (r : Rec) : Prop :=
  if r.ty = 1 then k = 4 ∧ p + 4 ≤ s.size ∧ num s p 4 = r.ad
  else if isN r.ty then getL (bs s) p = (bs r.tg, ((p + k : Nat) : Int), 0)
  else if r.ty = 6 then ∃ j i : Nat, getL (bs s) p = (bs r.tg, (j : Int), 0) ∧ getL (bs s) j = (bs r.tg, (i : Int), 0) ∧ i + 20 ≤ s.size ∧ num s i 4 = r.se ∧ num s (i + 4) 4 = 60 ∧ num s (i + 8) 4 = 60 ∧ num s (i + 12) 4 = 600 ∧ num s (i + 16) 4 = 60 ∧ i + 20 = p + k
  else if r.ty = 16 then p + k ≤ s.size ∧ k = r.tx.size + 1 ∧ num s p 1 = r.tx.size ∧ s.extract (p + 1) (p + k) = r.tx
  else p + k ≤ s.size ∧ s.extract p (p + k) = r.tx
/-- From a on there stands the record r; it goes on at e. -/
def InRec (s : ByteArray) (a : Int) (r : Rec) (e : Int) : Prop := 0 ≤ a ∧ ∃ m k : Nat, getL (bs s) a.toNat = (bs r.n, (m : Int), 0) ∧ m + 10 ≤ s.size ∧ num s m 2 = r.ty ∧ num s (m + 2) 2 = 1 ∧ num s (m + 4) 4 = r.ttl ∧ num s (m + 8) 2 = k ∧ e = ((m + 10 + k : Nat) : Int) ∧ Dat s (m + 10) k r

theorem may_zero {r : Rec} (h : mayR r = true) : r = namedR r ∧ typeB r.ty = true := by
  simp only [mayR, Bool.and_eq_true] at h
  exact ⟨(sameR_iff _ _).1 h.1.1.1.1.1.1.2, h.1.1.1.1.1.1.1⟩

theorem dat_take {s : ByteArray} {p k : Nat} {r : Rec} (hm : mayR r = true) (h : Dat s p k r) : dataT s k ⟨r.n, r.ty, r.ttl, 0, ⟨#[]⟩, ⟨#[]⟩, 0⟩ ⟨p, false⟩ = (r, ⟨((p + k : Nat) : Int), false⟩) := by
  obtain ⟨hz, ht⟩ := may_zero hm
  obtain ⟨n, ty, ttl, ad, tg, tx, se⟩ := r
  simp only [namedR] at hz
  unfold Dat at h
  unfold dataT
  simp only at h hz ht ⊢
  by_cases h1 : ty = 1
  · rw [if_pos h1] at h hz ⊢
    simp only [Rec.mk.injEq, true_and] at hz
    obtain ⟨rfl, rfl, rfl⟩ := hz
    obtain ⟨rfl, hp, hv⟩ := h
    rw [numT_at s 4 p hp, hv]
  · rw [if_neg h1] at h hz ⊢
    by_cases h2 : isN ty = true
    · rw [if_pos h2] at h hz ⊢
      simp only [Rec.mk.injEq, true_and] at hz
      obtain ⟨rfl, rfl, rfl⟩ := hz
      rw [nameT_at h, mk_bs]
    · rw [if_neg h2] at h hz ⊢
      by_cases h3 : ty = 6
      · rw [if_pos h3] at h hz ⊢
        simp only [Rec.mk.injEq, true_and, and_true] at hz
        obtain ⟨rfl, rfl⟩ := hz
        obtain ⟨j, i, g1, g2, hi, v1, v2, v3, v4, v5, he⟩ := h
        have e1 : soaT s ⟨p, false⟩ = ((tg, se), ⟨((i + 20 : Nat) : Int), false⟩) := by
          simp only [soaT, nameT_at g1, nameT_at g2, beq_self_eq_true, mustT_yes, isT4]
          rw [numT_at s 4 i (by omega)]
          simp only
          rw [numT_at s 4 (i + 4) (by omega), v2]
          simp only [beq_self_eq_true, mustT_yes]
          rw [numT_at s 4 (i + 4 + 4) (by omega), show i + 4 + 4 = i + 8 from rfl, v3]
          simp only [beq_self_eq_true, mustT_yes]
          rw [numT_at s 4 (i + 8 + 4) (by omega), show i + 8 + 4 = i + 12 from rfl, v4]
          simp only [beq_self_eq_true, mustT_yes]
          rw [numT_at s 4 (i + 12 + 4) (by omega), show i + 12 + 4 = i + 16 from rfl, v5]
          simp only [beq_self_eq_true, mustT_yes, mk_bs, v1]
        rw [e1, ← he]
      · rw [if_neg h3] at h hz ⊢
        by_cases h4 : ty = 16
        · rw [if_pos h4] at h ⊢
          rw [if_pos (by simp [isT, h4])] at hz
          simp only [Rec.mk.injEq, true_and] at hz
          obtain ⟨rfl, rfl, rfl⟩ := hz
          obtain ⟨hp, hk, hv, hx⟩ := h
          rw [numT_at s 1 p (by omega), hv]
          simp only [Int.toNat_natCast]
          rw [textT_at s (p + 1) tx.size (by omega), show p + 1 + tx.size = p + k by omega, hx]
        · rw [if_neg h4] at h ⊢
          have h5 : ty = 49 := by
            simp only [typeB, isT, Bool.or_eq_true, decide_eq_true_eq] at ht
            rcases ht with ((h | h) | h) | h | h
            · exact absurd h h1
            · exact absurd h h2
            · exact absurd h h3
            · exact absurd h h4
            · exact h
          rw [if_pos h5]
          rw [if_pos (by simp [isT, h5])] at hz
          simp only [Rec.mk.injEq, true_and] at hz
          obtain ⟨rfl, rfl, rfl⟩ := hz
          rw [textT_at s p k h.1, h.2]

theorem inrec_get {s : ByteArray} {a : Int} {r : Rec} {e : Int} (hm : mayR r = true) (h : InRec s a r e) : getRec s a = some (r, e) := by
  obtain ⟨ha, m, k, g, hs, v1, v2, v3, v4, rfl, hd⟩ := h
  have hend := get_ends g
  rw [length_bs] at hend
  have hst : startT s a = ⟨((a.toNat : Nat) : Int), false⟩ := by
    have h1 : ¬ a < 0 := by omega
    have h2 : ¬ (s.size : Int) < a := by omega
    simp [startT, h1, h2]; omega
  have e1 : recT s ⟨((a.toNat : Nat) : Int), false⟩ = (r, ⟨((m + 10 + k : Nat) : Int), false⟩) := by
    unfold recT
    simp only [nameT_at g, mk_bs]
    rw [numT_at s 2 m (by omega), v1]
    simp only
    rw [numT_at s 2 (m + 2) (by omega), v2]
    simp only [beq_self_eq_true, mustT_yes]
    rw [numT_at s 4 (m + 2 + 2) (by omega), show m + 2 + 2 = m + 4 from rfl, v3]
    simp only
    rw [numT_at s 2 (m + 4 + 4) (by omega), show m + 4 + 4 = m + 8 from rfl, v4]
    simp only [Int.toNat_natCast]
    rw [show ((m + 8 + 2 : Nat) : Int) = ((m + 10 : Nat) : Int) from rfl, dat_take hm hd]
    simp only
    rw [show ((((m + 10 + k : Nat) : Int) == ((m + 10 : Nat) : Int) + (k : Int)) : Bool) = true by simp, mustT_yes]
  unfold getRec
  rw [hst, e1]
  simp [hm]

theorem take_dat {s : ByteArray} {p k : Nat} {n : ByteArray} {ty ttl : Int} {R : Rec} {x : Tk} (hm : mayR R = true) (h : dataT s k ⟨n, ty, ttl, 0, ⟨#[]⟩, ⟨#[]⟩, 0⟩ ⟨p, false⟩ = (R, x)) (hx : x.f = false) (he : x.at_ = ((p + k : Nat) : Int)) : R.n = n ∧ R.ty = ty ∧ R.ttl = ttl ∧ Dat s p k R := by
  have hxx : x = ⟨((p + k : Nat) : Int), false⟩ := by cases x; simp_all
  subst hxx
  unfold dataT at h
  simp only at h
  unfold Dat
  by_cases h1 : ty = 1
  · rw [if_pos h1] at h
    simp only [Prod.mk.injEq] at h
    obtain ⟨rfl, hx⟩ := h
    refine ⟨rfl, rfl, rfl, ?_⟩
    rw [if_pos h1]
    obtain ⟨a, ha, hl⟩ := numT_ok (x := ⟨p, false⟩) (by rw [hx])
    simp only [Tk.mk.injEq, and_true, Int.natCast_inj] at ha
    subst ha
    rw [numT_at s 4 p hl] at hx ⊢
    simp only [Tk.mk.injEq, and_true, Int.natCast_inj] at hx
    exact ⟨by omega, hl, rfl⟩
  · rw [if_neg h1] at h
    by_cases h2 : isN ty = true
    · rw [if_pos h2] at h
      simp only [Prod.mk.injEq] at h
      obtain ⟨rfl, hx⟩ := h
      refine ⟨rfl, rfl, rfl, ?_⟩
      rw [if_neg h1, if_pos h2]
      obtain ⟨_, n', m', g, hn⟩ := nameT_ok (x := ⟨p, false⟩) (by rw [hx])
      rw [hn] at hx ⊢
      simp only [Tk.mk.injEq, and_true, Int.toNat_natCast] at hx g ⊢
      rw [g, bs_mk, hx]
    · rw [if_neg h2] at h
      by_cases h3 : ty = 6
      · rw [if_pos h3] at h
        simp only [Prod.mk.injEq] at h
        obtain ⟨rfl, hx⟩ := h
        refine ⟨rfl, rfl, rfl, ?_⟩
        rw [if_neg h1, if_neg h2, if_pos h3]
        simp only [soaT, isT4] at hx ⊢
        have f5 := mustT_ok (by rw [hx])
        rw [f5.2.2] at hx
        obtain ⟨a5, q5, l5⟩ := numT_ok f5.2.1
        have f4 := mustT_ok (by rw [q5])
        rw [f4.2.2] at q5 hx f5
        obtain ⟨a4, q4, l4⟩ := numT_ok f4.2.1
        have f3 := mustT_ok (by rw [q4])
        rw [f3.2.2] at q4 q5 hx f4 f5
        obtain ⟨a3, q3, l3⟩ := numT_ok f3.2.1
        have f2 := mustT_ok (by rw [q3])
        rw [f2.2.2] at q3 q4 q5 hx f3 f4 f5
        obtain ⟨a2, q2, l2⟩ := numT_ok f2.2.1
        have f1 := mustT_ok (x := (nameT s (nameT s ⟨p, false⟩).2).2) (so := (nameT s (nameT s ⟨p, false⟩).2).1.toList == (nameT s ⟨p, false⟩).1.toList) (by
          obtain ⟨a1, q1, _⟩ := numT_ok (s := s) (k := 4) (by rw [q2])
          rw [q1])
        rw [f1.2.2] at q2 q3 q4 q5 hx f2 f3 f4 f5 ⊢
        obtain ⟨w1, n2, m2, g2, hn2⟩ := nameT_ok f1.2.1
        obtain ⟨_, n1, m1, g1, hn1⟩ := nameT_ok w1
        rw [hn1] at g2 hn2 f1
        rw [hn2] at f1
        simp only [hn1, hn2, Int.toNat_natCast] at *
        have heq : n2 = n1 := by
          have := f1.1
          rw [beq_iff_eq, text_inj] at this
          exact mk_inj this
        subst heq
        obtain ⟨a1, q1, l1⟩ := numT_ok (s := s) (k := 4) (x := ⟨m2, false⟩) (by rw [q2])
        simp only [Tk.mk.injEq, and_true, Int.natCast_inj] at q1
        subst q1
        rw [numT_at s 4 m2 l1] at *
        simp only [Tk.mk.injEq, and_true, Int.natCast_inj] at q2
        subst q2
        rw [numT_at s 4 (m2 + 4) l2] at *
        simp only [Tk.mk.injEq, and_true, Int.natCast_inj, beq_iff_eq] at q3 f2
        subst q3
        rw [numT_at s 4 (m2 + 4 + 4) l3] at *
        simp only [Tk.mk.injEq, and_true, Int.natCast_inj, beq_iff_eq] at q4 f3
        subst q4
        rw [numT_at s 4 (m2 + 4 + 4 + 4) l4] at *
        simp only [Tk.mk.injEq, and_true, Int.natCast_inj, beq_iff_eq] at q5 f4
        subst q5
        rw [numT_at s 4 (m2 + 4 + 4 + 4 + 4) l5] at *
        simp only [Tk.mk.injEq, and_true, Int.natCast_inj, beq_iff_eq] at hx f5
        exact ⟨m1, m2, by rw [g1, bs_mk], by rw [g2, bs_mk], by omega, rfl, f2.1, f3.1, f4.1, f5.1, by omega⟩
      · rw [if_neg h3] at h
        by_cases h4 : ty = 16
        · rw [if_pos h4] at h
          simp only [Prod.mk.injEq] at h
          obtain ⟨rfl, hx⟩ := h
          refine ⟨rfl, rfl, rfl, ?_⟩
          rw [if_neg h1, if_neg h2, if_neg h3, if_pos h4]
          obtain ⟨f1, l2⟩ := textT_ok (by rw [hx])
          obtain ⟨a, ha, hl⟩ := numT_ok f1
          simp only [Tk.mk.injEq, and_true, Int.natCast_inj] at ha
          subst ha
          have hb := numT_bd s 1 ⟨p, false⟩
          rw [numT_at s 1 p hl] at *
          simp only at l2 hb hx ⊢
          rw [textT_at s (p + 1) _ (by omega)] at hx ⊢
          simp only [Tk.mk.injEq, and_true, Int.natCast_inj] at hx ⊢
          have hsz : (s.extract (p + 1) (p + 1 + (num s p 1).toNat)).size = (num s p 1).toNat := by simp; omega
          refine ⟨by omega, by rw [hsz]; omega, by rw [hsz]; omega, by rw [← hx]⟩
        · rw [if_neg h4] at h
          by_cases h5 : ty = 49
          · rw [if_pos h5] at h
            simp only [Prod.mk.injEq] at h
            obtain ⟨rfl, hx⟩ := h
            refine ⟨rfl, rfl, rfl, ?_⟩
            rw [if_neg h1, if_neg h2, if_neg h3, if_neg h4]
            obtain ⟨_, l2⟩ := textT_ok (x := ⟨p, false⟩) (by rw [hx])
            simp only at l2
            rw [textT_at s p k (by omega)] at hx ⊢
            exact ⟨by omega, rfl⟩
          · rw [if_neg h5] at h
            simp only [Prod.mk.injEq] at h
            obtain ⟨rfl, _⟩ := h
            have := (may_zero hm).2
            simp only [typeB, isT, Bool.or_eq_true, decide_eq_true_eq] at this
            rcases this with ((h | h) | h) | h | h
            · exact absurd h h1
            · exact absurd h h2
            · exact absurd h h3
            · exact absurd h h4
            · exact absurd h h5

theorem get_inrec {s : ByteArray} {a : Int} {r : Rec} {e : Int} (h : getRec s a = some (r, e)) : mayR r = true ∧ InRec s a r e := by
  unfold getRec at h
  split at h
  · cases h
  · rename_i hc
    simp only [Bool.or_eq_true, Bool.not_eq_true', not_or, Bool.not_eq_true, Bool.not_eq_false] at hc
    obtain ⟨hf, hm⟩ := hc
    simp only [Option.some.injEq, Prod.mk.injEq] at h
    obtain ⟨rfl, rfl⟩ := h
    refine ⟨hm, ?_⟩
    generalize hx : startT s a = x at *
    simp only [recT] at hf hm ⊢
    have f1 := mustT_ok hf
    rw [f1.2.2] at hf ⊢
    obtain ⟨so, fd, _⟩ := f1
    rw [beq_iff_eq] at so
    -- the data's state is not failed, so that of the size is not
    have hback : ∀ (k : Nat) (R : Rec) (y : Tk), (dataT s k R y).2.f = false → y.f = false := by
      intro k R y
      unfold dataT
      repeat' split
      · intro h; obtain ⟨a, ha, _⟩ := numT_ok h; rw [ha]
      · intro h; exact (nameT_ok h).1
      · intro h
        simp only [soaT, isT4] at h
        have g5 := (mustT_ok h).2.1
        obtain ⟨a5, q5, _⟩ := numT_ok g5
        have g4 := (mustT_ok (by rw [q5])).2.1
        obtain ⟨a4, q4, _⟩ := numT_ok g4
        have g3 := (mustT_ok (by rw [q4])).2.1
        obtain ⟨a3, q3, _⟩ := numT_ok g3
        have g2 := (mustT_ok (by rw [q3])).2.1
        obtain ⟨a2, q2, _⟩ := numT_ok g2
        obtain ⟨a1, q1, _⟩ := numT_ok (s := s) (k := 4) (by rw [q2])
        have g1 := (mustT_ok (by rw [q1])).2.1
        exact (nameT_ok (nameT_ok g1).1).1
      · intro h; obtain ⟨a, ha, _⟩ := numT_ok (textT_ok h).1; rw [ha]
      · intro h; exact (textT_ok h).1
      · intro h; exact h
    have f2 := hback _ _ _ fd
    obtain ⟨a4, q4, l4⟩ := numT_ok f2
    obtain ⟨a3, q3, l3⟩ := numT_ok (s := s) (k := 4) (by rw [q4])
    have f3 := mustT_ok (by rw [q3])
    rw [f3.2.2] at q3
    obtain ⟨a2, q2, l2⟩ := numT_ok f3.2.1
    obtain ⟨a1, q1, l1⟩ := numT_ok (s := s) (k := 2) (by rw [q2])
    obtain ⟨f0, n, m, g, hn⟩ := nameT_ok (s := s) (x := x) (by rw [q1])
    have hxa : x = ⟨a, false⟩ ∧ 0 ≤ a := by
      rw [← hx] at f0 ⊢
      simp only [startT, Bool.or_eq_false_iff, decide_eq_false_iff_not] at f0 ⊢
      refine ⟨?_, by omega⟩
      rw [f0.1 |> fun h => decide_eq_false h, f0.2 |> fun h => decide_eq_false h]; rfl
    obtain ⟨rfl, ha⟩ := hxa
    simp only [hn] at *
    simp only [Tk.mk.injEq, and_true, Int.natCast_inj] at q1
    subst q1
    rw [numT_at s 2 m l1] at *
    simp only [Tk.mk.injEq, and_true, Int.natCast_inj] at q2
    subst q2
    rw [numT_at s 2 (m + 2) l2] at *
    simp only [Tk.mk.injEq, and_true, Int.natCast_inj, beq_iff_eq] at q3 f3
    subst q3
    simp only [f3.2.2] at *
    rw [numT_at s 4 (m + 2 + 2) l3] at *
    simp only [Tk.mk.injEq, and_true, Int.natCast_inj] at q4
    subst q4
    have hb := numT_bd s 2 ⟨((m + 2 + 2 + 4 : Nat) : Int), false⟩
    rw [numT_at s 2 (m + 2 + 2 + 4) l4] at *
    simp only at hb hf so fd hm ⊢
    generalize hk : num s (m + 2 + 2 + 4) 2 = K at hb hf so fd hm ⊢
    obtain ⟨k, rfl⟩ : ∃ k : Nat, K = k := ⟨K.toNat, by omega⟩
    simp only [Int.toNat_natCast] at hb hf so fd hm ⊢
    obtain ⟨t1, t2, t3, t4⟩ := take_dat (x := (dataT s k ⟨mk n, num s m 2, num s (m + 2 + 2) 4, 0, ⟨#[]⟩, ⟨#[]⟩, 0⟩ ⟨((m + 2 + 2 + 4 + 2 : Nat) : Int), false⟩).2) hm rfl fd (by rw [so]; simp)
    refine ⟨ha, m, k, ?_, by omega, t2.symm, f3.1, t3.symm, hk, by rw [so]; simp; omega, t4⟩
    rw [t1, g, bs_mk]

end Go.Proofs.YtdmooggmoihggaaGreatDoor

/-
  What is put is told again: records, one behind the other.
-/
namespace Go.Proofs.YtdmooggmoihggaaGreatDoor
set_option maxRecDepth 100000
open Go.ChangeShapes Go.WideShapes Go.ChangeAt Go.RowKit Go.Pin Go.PlainAid

/-- What a record's type names, put at place fr. -/
def dataL (fr : Int) (ks : List Kn) (r : Rec) : Option (List UInt8 × List Kn) :=
  if r.ty = 1 then some (bs (be r.ad 4), ks)
  else if isN r.ty then if mayPutL fr ks (bs r.tg) then some (putS ks (labsL (bs r.tg)), ks ++ putN ks fr (labsL (bs r.tg))) else none
  else if r.ty = 6 then
    if mayPutL fr ks (bs r.tg) then
      if mayPutL (fr + (putS ks (labsL (bs r.tg))).length) (ks ++ putN ks fr (labsL (bs r.tg))) (bs r.tg) then
        some (putS ks (labsL (bs r.tg)) ++ putS (ks ++ putN ks fr (labsL (bs r.tg))) (labsL (bs r.tg)) ++ bs (be r.se 4) ++ bs (be 60 4) ++ bs (be 60 4) ++ bs (be 600 4) ++ bs (be 60 4),
          ks ++ putN ks fr (labsL (bs r.tg)) ++ putN (ks ++ putN ks fr (labsL (bs r.tg))) (fr + (putS ks (labsL (bs r.tg))).length) (labsL (bs r.tg)))
      else none
    else none
  else if r.ty = 16 then some (bs (be r.tx.size 1) ++ bs r.tx, ks)
  else some (bs r.tx, ks)
/-- A record put. -/
def putL (at_ : Int) (ks : List Kn) (r : Rec) : Option (List UInt8 × List Kn) :=
  if mayR r && mayPutL at_ ks (bs r.n) then
    match dataL (at_ + (putS ks (labsL (bs r.n))).length + 10) (ks ++ putN ks at_ (labsL (bs r.n))) r with
    | none => none
    | some (D, ks') => some (putS ks (labsL (bs r.n)) ++ bs (be r.ty 2) ++ bs (be 1 2) ++ bs (be r.ttl 4) ++ bs (be D.length 2) ++ D, ks')
  else none

theorem nameW_yes {at_ : Int} {n : List UInt8} {x : Wt} (hx : x.rf = false) (h : mayPutL (at_ + x.P.length) x.ks n = true) : nameW at_ n x = ⟨x.P ++ putS x.ks (labsL n), x.ks ++ putN x.ks (at_ + x.P.length) (labsL n), false⟩ := by simp [nameW, hx, h]
theorem nameW_no {at_ : Int} {n : List UInt8} {x : Wt} (hx : x.rf = false) (h : mayPutL (at_ + x.P.length) x.ks n = false) : (nameW at_ n x).rf = true := by simp [nameW, hx, h]
theorem dataW_none {at_ : Int} {r : Rec} {x : Wt} (hx : x.rf = false) (h : dataL (at_ + x.P.length) x.ks r = none) : (dataW at_ r x).rf = true := by
  unfold dataL at h
  unfold dataW
  split
  · rename_i h1; rw [if_pos h1] at h; cases h
  · rename_i h1
    rw [if_neg h1] at h
    split
    · rename_i h2
      rw [if_pos h2] at h
      cases hm : mayPutL (at_ + x.P.length) x.ks (bs r.tg) with
      | true => rw [hm] at h; cases h
      | false => exact nameW_no hx hm
    · rename_i h2
      rw [if_neg h2] at h
      split
      · rename_i h3
        rw [if_pos h3] at h
        cases hm : mayPutL (at_ + x.P.length) x.ks (bs r.tg) with
        | false => unfold soaW; simp only [numW_rf]; exact nameW_rf (nameW_no hx hm)
        | true =>
          rw [hm] at h
          simp only [if_true] at h
          unfold soaW
          simp only [numW_rf]
          rw [nameW_yes hx hm]
          refine nameW_no rfl ?_
          simp only [List.length_append, Int.natCast_add, ← Int.add_assoc]
          cases hm2 : mayPutL (at_ + x.P.length + (putS x.ks (labsL (bs r.tg))).length) (x.ks ++ putN x.ks (at_ + x.P.length) (labsL (bs r.tg))) (bs r.tg) with
          | true => rw [hm2] at h; cases h
          | false => rfl
      · rename_i h3
        rw [if_neg h3] at h
        split at h <;> cases h
theorem dataW_some {at_ : Int} {r : Rec} {x : Wt} {D : List UInt8} {ks' : List Kn} (hx : x.rf = false) (h : dataL (at_ + x.P.length) x.ks r = some (D, ks')) : dataW at_ r x = ⟨x.P ++ D, ks', false⟩ := by
  unfold dataL at h
  unfold dataW
  split
  · rename_i h1
    rw [if_pos h1] at h
    simp only [Option.some.injEq, Prod.mk.injEq] at h
    obtain ⟨rfl, rfl⟩ := h
    simp [numW, textW, hx]
  · rename_i h1
    rw [if_neg h1] at h
    split
    · rename_i h2
      rw [if_pos h2] at h
      split at h
      · rename_i hm
        simp only [Option.some.injEq, Prod.mk.injEq] at h
        obtain ⟨rfl, rfl⟩ := h
        exact nameW_yes hx hm
      · cases h
    · rename_i h2
      rw [if_neg h2] at h
      split
      · rename_i h3
        rw [if_pos h3] at h
        split at h
        · rename_i hm
          split at h
          · rename_i hm2
            simp only [Option.some.injEq, Prod.mk.injEq] at h
            obtain ⟨rfl, rfl⟩ := h
            unfold soaW
            rw [nameW_yes hx hm, nameW_yes rfl (by simp only [List.length_append, Int.natCast_add, ← Int.add_assoc]; exact hm2)]
            simp [numW, textW, ← Int.add_assoc]
          · cases h
        · cases h
      · rename_i h3
        rw [if_neg h3] at h
        split
        · rename_i h4
          rw [if_pos h4] at h
          simp only [Option.some.injEq, Prod.mk.injEq] at h
          obtain ⟨rfl, rfl⟩ := h
          simp [textW, numW, hx]
        · rename_i h4
          rw [if_neg h4] at h
          simp only [Option.some.injEq, Prod.mk.injEq] at h
          obtain ⟨rfl, rfl⟩ := h
          simp [textW, hx]
theorem countW_rf {at_ : Int} {r : Rec} {x : Wt} (hx : x.rf = true) : (countW at_ r x).rf = true := by
  have h := dataW_rf (at_ := at_) (r := r) (x := numW 0 2 x) (by rw [numW_rf]; exact hx)
  simp [countW, h]
theorem over_mid (A Z D s : List UInt8) (h : Z.length = s.length) : over (A ++ Z ++ D) A.length s = A ++ s ++ D := by
  unfold over
  have e1 : (A ++ Z ++ D).take A.length = A := by rw [List.append_assoc, List.take_left]
  have e2 : (A ++ Z ++ D).drop (A.length + s.length) = D := by rw [← h, ← List.length_append, List.drop_left]
  rw [e1, e2]
  simp
theorem putRec_is (at_ : Int) (ks : List Kn) (r : Rec) : putRec at_ ks r = putL at_ ks r := by
  unfold putRec putL
  cases hm : mayR r with
  | false => simp
  | true =>
    simp only [if_true, Bool.true_and]
    have e4 : ∀ x1 : Wt, putW at_ ks r = countW at_ r (numW r.ttl 4 (numW 1 2 (numW r.ty 2 x1))) ∨ x1 ≠ nameW at_ (bs r.n) ⟨[], ks, false⟩ := fun x1 => by
      by_cases h : x1 = nameW at_ (bs r.n) ⟨[], ks, false⟩
      · left; rw [h]; rfl
      · exact .inr h
    cases hp : mayPutL at_ ks (bs r.n) with
    | false =>
      have h1 : (nameW at_ (bs r.n) ⟨[], ks, false⟩).rf = true := nameW_no rfl (by simpa using hp)
      have h2 : (putW at_ ks r).rf = true := by
        refine countW_rf ?_
        simp only [numW_rf]
        exact h1
      simp [h2]
    | true =>
      have h1 : nameW at_ (bs r.n) ⟨[], ks, false⟩ = ⟨putS ks (labsL (bs r.n)), ks ++ putN ks at_ (labsL (bs r.n)), false⟩ := by
        have := nameW_yes (at_ := at_) (n := bs r.n) (x := ⟨[], ks, false⟩) rfl (by simpa using hp)
        simpa using this
      generalize putS ks (labsL (bs r.n)) = N at *
      generalize ks ++ putN ks at_ (labsL (bs r.n)) = k1 at *
      have h2 : putW at_ ks r = countW at_ r ⟨N ++ bs (be r.ty 2) ++ bs (be 1 2) ++ bs (be r.ttl 4), k1, false⟩ := by
        unfold putW; rw [h1]; rfl
      rw [h2]
      have hl : (numW 0 2 ⟨N ++ bs (be r.ty 2) ++ bs (be 1 2) ++ bs (be r.ttl 4), k1, false⟩).P.length = N.length + 10 := by simp [numW, textW, length_bs, size_be]
      have hfr : at_ + ((numW 0 2 ⟨N ++ bs (be r.ty 2) ++ bs (be 1 2) ++ bs (be r.ttl 4), k1, false⟩).P.length : Int) = at_ + N.length + 10 := by rw [hl]; simp; omega
      cases hd : dataL (at_ + N.length + 10) k1 r with
      | none =>
        have h3 : (countW at_ r ⟨N ++ bs (be r.ty 2) ++ bs (be 1 2) ++ bs (be r.ttl 4), k1, false⟩).rf = true := by
          have := dataW_none (x := numW 0 2 ⟨N ++ bs (be r.ty 2) ++ bs (be 1 2) ++ bs (be r.ttl 4), k1, false⟩) rfl (by rw [hfr]; exact hd)
          unfold countW
          simp only [this, if_true]
        rw [if_pos h3]
        rfl
      | some q =>
        obtain ⟨D, ks'⟩ := q
        have h3 := dataW_some (x := numW 0 2 ⟨N ++ bs (be r.ty 2) ++ bs (be 1 2) ++ bs (be r.ttl 4), k1, false⟩) rfl (by rw [hfr]; exact hd)
        have h4 : countW at_ r ⟨N ++ bs (be r.ty 2) ++ bs (be 1 2) ++ bs (be r.ttl 4), k1, false⟩ = ⟨N ++ bs (be r.ty 2) ++ bs (be 1 2) ++ bs (be r.ttl 4) ++ bs (be D.length 2) ++ D, ks', false⟩ := by
          unfold countW
          simp only [h3, Bool.false_eq_true, if_false]
          congr 1
          rw [show (numW 0 2 ⟨N ++ bs (be r.ty 2) ++ bs (be 1 2) ++ bs (be r.ttl 4), k1, false⟩).P = N ++ bs (be r.ty 2) ++ bs (be 1 2) ++ bs (be r.ttl 4) ++ bs (be 0 2) from rfl]
          rw [over_mid _ _ _ _ (by simp [length_bs, size_be])]
          congr 4
          simp; omega
        rw [h4]
        rfl

/-! ### told again -/
theorem bs_app (a b : ByteArray) : bs (a ++ b) = bs a ++ bs b := by simp [bs]
theorem mk_mid (A B : List UInt8) (M : ByteArray) : mk (A ++ bs M ++ B) = mk A ++ M ++ mk B := by
  apply bs_inj
  rw [bs_app, bs_app, bs_mk, bs_mk, bs_mk]
theorem num_at (M A B : List UInt8) (v : Int) (k p : Nat) (hM : M = A ++ bs (be v k) ++ B) (hp : p = A.length) (h : inB v k) : num (mk M) p k = v := by
  subst hM hp
  rw [mk_mid]
  have := num_mid (mk A) (be v k) (mk B) k (by rw [size_be]; exact Nat.le_refl _)
  rw [size_mk] at this
  rw [this]
  exact num_be v k h
theorem name_at (M A B : List UInt8) (ks : List Kn) (n : List UInt8) (p q : Nat) (hg : Go.Pin.Good A ks) (hn : mayL n = true) (hM : M = A ++ putS ks (labsL n) ++ B) (hp : p = A.length) (hq : q = p + (putS ks (labsL n)).length) : getL M p = (n, (q : Int), 0) := by
  subst hM hp hq
  have h := (put_told hg (labsL n) [] A.length (fun x hx => labsL_ok hx) (labsL_len n) (Nat.le_refl _)).1
  simp only [List.append_nil] at h
  have h2 := get_told (h.more B) (fun x hx => labsL_ok hx) (labsL_len n)
  rw [join_labs hn] at h2
  rw [h2]
  simp
theorem good_name {A : List UInt8} {ks : List Kn} (hg : Go.Pin.Good A ks) (n : List UInt8) : Go.Pin.Good (A ++ putS ks (labsL n)) (ks ++ putN ks (A.length : Nat) (labsL n)) := by
  have h := put_good hg (labsL n) [] (fun x hx => labsL_ok hx) (labsL_len n)
  simp only [List.append_nil] at h
  intro k hk
  rcases List.mem_append.1 hk with hk | hk
  · exact hg.more _ k hk
  · exact h k hk
theorem ext_at (M A X B : List UInt8) (p q : Nat) (hM : M = A ++ X ++ B) (hp : p = A.length) (hq : q = p + X.length) : (mk M).extract p q = mk X := by
  subst hM hp hq
  apply bs_inj
  simp [bs, mk]

theorem may_put {at_ : Int} {ks : List Kn} {n : List UInt8} (h : mayPutL at_ ks n = true) : 0 ≤ at_ ∧ at_ ≤ 65535 ∧ mayL n = true ∧ ks.all knownL = true := by
  simp only [mayPutL, Bool.and_eq_true, decide_eq_true_eq] at h
  exact ⟨h.1.1.1, h.1.1.2, h.1.2, h.2⟩

theorem dat_put {A : List UInt8} {ks : List Kn} {r : Rec} {D : List UInt8} {ks' : List Kn} (hm : mayR r = true) (hg : Go.Pin.Good A ks) (h : dataL (A.length : Nat) ks r = some (D, ks')) (B : List UInt8) : Dat (mk (A ++ D ++ B)) A.length D.length r ∧ Go.Pin.Good (A ++ D) ks' := by
  have hmm := hm
  simp only [mayR, upB, Bool.and_eq_true, decide_eq_true_eq] at hmm
  obtain ⟨⟨⟨⟨⟨⟨⟨_, _⟩, _⟩, _⟩, had⟩, htg⟩, hse⟩, htx⟩ := hmm
  unfold dataL at h
  unfold Dat
  by_cases h1 : r.ty = 1
  · rw [if_pos h1] at h ⊢
    simp only [Option.some.injEq, Prod.mk.injEq] at h
    obtain ⟨rfl, rfl⟩ := h
    refine ⟨⟨by rw [length_bs, size_be], by rw [size_mk]; simp [length_bs, size_be], ?_⟩, hg.more _⟩
    exact num_at _ A B r.ad 4 _ rfl rfl (.inr (.inr ⟨rfl, by omega, by omega⟩))
  · rw [if_neg h1] at h ⊢
    by_cases h2 : isN r.ty = true
    · rw [if_pos h2] at h ⊢
      split at h
      · rename_i hp
        simp only [Option.some.injEq, Prod.mk.injEq] at h
        obtain ⟨rfl, rfl⟩ := h
        exact ⟨name_at _ A B ks (bs r.tg) _ _ hg htg (bs_mk _) rfl rfl, good_name hg _⟩
      · cases h
    · rw [if_neg h2] at h ⊢
      by_cases h3 : r.ty = 6
      · rw [if_pos h3] at h ⊢
        split at h
        · rename_i hp
          split at h
          · rename_i hp2
            simp only [Option.some.injEq, Prod.mk.injEq] at h
            obtain ⟨rfl, rfl⟩ := h
            have g1 := good_name hg (bs r.tg)
            have hl1 : ((A.length : Nat) : Int) + (putS ks (labsL (bs r.tg))).length = ((A ++ putS ks (labsL (bs r.tg))).length : Nat) := by simp
            have g2 := good_name g1 (bs r.tg)
            rw [hl1]
            generalize ks ++ putN ks (A.length : Nat) (labsL (bs r.tg)) = k1 at *
            generalize hD1 : putS ks (labsL (bs r.tg)) = D1 at *
            generalize hD2 : putS k1 (labsL (bs r.tg)) = D2 at *
            refine ⟨⟨(A ++ D1).length, (A ++ D1 ++ D2).length, ?_, ?_, ?_, ?_, ?_, ?_, ?_, ?_, ?_⟩, ?_⟩
            · exact name_at _ A (D2 ++ bs (be r.se 4) ++ bs (be 60 4) ++ bs (be 60 4) ++ bs (be 600 4) ++ bs (be 60 4) ++ B) ks (bs r.tg) _ _ hg htg (by rw [bs_mk, hD1]; simp) rfl (by rw [hD1]; simp)
            · exact name_at _ (A ++ D1) (bs (be r.se 4) ++ bs (be 60 4) ++ bs (be 60 4) ++ bs (be 600 4) ++ bs (be 60 4) ++ B) k1 (bs r.tg) _ _ g1 htg (by rw [bs_mk, hD2]; simp) rfl (by rw [hD2]; simp; omega)
            · rw [size_mk]; simp [length_bs, size_be]; omega
            · exact num_at _ (A ++ D1 ++ D2) (bs (be 60 4) ++ bs (be 60 4) ++ bs (be 600 4) ++ bs (be 60 4) ++ B) r.se 4 _ (by simp) rfl (.inr (.inr ⟨rfl, by omega, by omega⟩))
            · exact num_at _ (A ++ D1 ++ D2 ++ bs (be r.se 4)) (bs (be 60 4) ++ bs (be 600 4) ++ bs (be 60 4) ++ B) 60 4 _ (by simp) (by simp [length_bs, size_be]; omega) (.inr (.inr ⟨rfl, by omega, by omega⟩))
            · exact num_at _ (A ++ D1 ++ D2 ++ bs (be r.se 4) ++ bs (be 60 4)) (bs (be 600 4) ++ bs (be 60 4) ++ B) 60 4 _ (by simp) (by simp [length_bs, size_be]; omega) (.inr (.inr ⟨rfl, by omega, by omega⟩))
            · exact num_at _ (A ++ D1 ++ D2 ++ bs (be r.se 4) ++ bs (be 60 4) ++ bs (be 60 4)) (bs (be 60 4) ++ B) 600 4 _ (by simp) (by simp [length_bs, size_be]; omega) (.inr (.inr ⟨rfl, by omega, by omega⟩))
            · exact num_at _ (A ++ D1 ++ D2 ++ bs (be r.se 4) ++ bs (be 60 4) ++ bs (be 60 4) ++ bs (be 600 4)) B 60 4 _ (by simp) (by simp [length_bs, size_be]; omega) (.inr (.inr ⟨rfl, by omega, by omega⟩))
            · simp [length_bs, size_be]; omega
            · have := g2.more (bs (be r.se 4) ++ bs (be 60 4) ++ bs (be 60 4) ++ bs (be 600 4) ++ bs (be 60 4))
              simpa using this
          · cases h
        · cases h
      · rw [if_neg h3] at h ⊢
        by_cases h4 : r.ty = 16
        · rw [if_pos h4] at h ⊢
          simp only [Option.some.injEq, Prod.mk.injEq] at h
          obtain ⟨rfl, rfl⟩ := h
          refine ⟨⟨by rw [size_mk]; simp, by simp [length_bs, size_be]; omega, ?_, ?_⟩, hg.more _⟩
          · exact num_at _ A (bs r.tx ++ B) r.tx.size 1 _ (by simp) rfl (.inl ⟨rfl, by omega, by omega⟩)
          · rw [ext_at _ (A ++ bs (be r.tx.size 1)) (bs r.tx) B _ _ (by simp) (by simp [length_bs, size_be]) (by simp [length_bs, size_be]; omega), mk_bs]
        · rw [if_neg h4] at h ⊢
          simp only [Option.some.injEq, Prod.mk.injEq] at h
          obtain ⟨rfl, rfl⟩ := h
          refine ⟨⟨by rw [size_mk]; simp, ?_⟩, hg.more _⟩
          rw [ext_at _ A (bs r.tx) B _ _ rfl rfl rfl, mk_bs]

theorem put_inrec {A : List UInt8} {ks : List Kn} {r : Rec} {P : List UInt8} {ks' : List Kn} (hg : Go.Pin.Good A ks) (h : putL (A.length : Nat) ks r = some (P, ks')) (B : List UInt8) : mayR r = true ∧ InRec (mk (A ++ P ++ B)) (A.length : Nat) r ((A ++ P).length : Nat) ∧ Go.Pin.Good (A ++ P) ks' := by
  unfold putL at h
  split at h
  · rename_i hc
    simp only [Bool.and_eq_true] at hc
    obtain ⟨hm, hp⟩ := hc
    have hp' := may_put hp
    have hty := mayR_ty hm
    have g1 := good_name hg (bs r.n)
    generalize hN : putS ks (labsL (bs r.n)) = N at *
    generalize ks ++ putN ks (A.length : Nat) (labsL (bs r.n)) = k1 at *
    split at h
    · cases h
    · rename_i D k2 hd
      simp only [Option.some.injEq, Prod.mk.injEq] at h
      obtain ⟨rfl, rfl⟩ := h
      have hl : ((A.length : Nat) : Int) + (N.length : Nat) + 10 = ((A ++ N ++ bs (be r.ty 2) ++ bs (be 1 2) ++ bs (be r.ttl 4) ++ bs (be D.length 2)).length : Nat) := by simp [length_bs, size_be]; omega
      rw [hl] at hd
      have g2 : Go.Pin.Good (A ++ N ++ bs (be r.ty 2) ++ bs (be 1 2) ++ bs (be r.ttl 4) ++ bs (be D.length 2)) k1 := by
        have := g1.more (bs (be r.ty 2) ++ bs (be 1 2) ++ bs (be r.ttl 4) ++ bs (be D.length 2))
        simpa using this
      obtain ⟨hdat, hgood⟩ := dat_put hm g2 hd B
      have hDl : D.length ≤ 65535 := by
        have hz : r.tx.size ≤ 64 := by simp only [mayR, Bool.and_eq_true, decide_eq_true_eq] at hm; exact hm.2
        obtain ⟨D', h1, h2⟩ := dataW_len (0 : Int) r ⟨A ++ N ++ bs (be r.ty 2) ++ bs (be 1 2) ++ bs (be r.ttl 4) ++ bs (be D.length 2), k1, false⟩ hz
        rw [dataW_some (x := ⟨A ++ N ++ bs (be r.ty 2) ++ bs (be 1 2) ++ bs (be r.ttl 4) ++ bs (be D.length 2), k1, false⟩) (D := D) (ks' := k2) rfl (by rw [Int.zero_add]; exact hd)] at h1
        have := List.append_cancel_left h1
        rw [this]; omega
      refine ⟨hm, ⟨by omega, (A ++ N).length, D.length, ?_, ?_, ?_, ?_, ?_, ?_, ?_, ?_⟩, ?_⟩
      · rw [Int.toNat_natCast]
        exact name_at _ A (bs (be r.ty 2) ++ bs (be 1 2) ++ bs (be r.ttl 4) ++ bs (be D.length 2) ++ D ++ B) ks (bs r.n) _ _ hg hp'.2.2.1 (by rw [bs_mk, hN]; simp) rfl (by rw [hN]; simp)
      · rw [size_mk]; simp [length_bs, size_be]; omega
      · exact num_at _ (A ++ N) (bs (be 1 2) ++ bs (be r.ttl 4) ++ bs (be D.length 2) ++ D ++ B) r.ty 2 _ (by simp) rfl (.inr (.inl ⟨rfl, by omega, by omega⟩))
      · exact num_at _ (A ++ N ++ bs (be r.ty 2)) (bs (be r.ttl 4) ++ bs (be D.length 2) ++ D ++ B) 1 2 _ (by simp) (by simp [length_bs, size_be]; omega) (.inr (.inl ⟨rfl, by omega, by omega⟩))
      · exact num_at _ (A ++ N ++ bs (be r.ty 2) ++ bs (be 1 2)) (bs (be D.length 2) ++ D ++ B) r.ttl 4 _ (by simp) (by simp [length_bs, size_be]; omega) (.inr (.inr ⟨rfl, by omega, by omega⟩))
      · exact num_at _ (A ++ N ++ bs (be r.ty 2) ++ bs (be 1 2) ++ bs (be r.ttl 4)) (D ++ B) D.length 2 _ (by simp) (by simp [length_bs, size_be]; omega) (.inr (.inl ⟨rfl, by omega, by omega⟩))
      · simp [length_bs, size_be]; omega
      · have e1 : (A ++ N).length + 10 = (A ++ N ++ bs (be r.ty 2) ++ bs (be 1 2) ++ bs (be r.ttl 4) ++ bs (be D.length 2)).length := by simp [length_bs, size_be]; omega
        have e2 : A ++ (N ++ bs (be r.ty 2) ++ bs (be 1 2) ++ bs (be r.ttl 4) ++ bs (be D.length 2) ++ D) ++ B = A ++ N ++ bs (be r.ty 2) ++ bs (be 1 2) ++ bs (be r.ttl 4) ++ bs (be D.length 2) ++ D ++ B := by simp
        rw [e1, e2]
        exact hdat
      · have e2 : A ++ (N ++ bs (be r.ty 2) ++ bs (be 1 2) ++ bs (be r.ttl 4) ++ bs (be D.length 2) ++ D) = A ++ N ++ bs (be r.ty 2) ++ bs (be 1 2) ++ bs (be r.ttl 4) ++ bs (be D.length 2) ++ D := by simp
        rw [e2]
        exact hgood
  · cases h

/-! ### a longer message -/
theorem bt_more (s t : List UInt8) (i : Nat) (h : i < s.length) : bt (mk (s ++ t)) i = bt (mk s) i := by
  rw [bt_list, bt_list]
  simp only [mk, List.map_append]
  rw [List.getElem?_append_left (by simpa using h)]
theorem num_more (s t : List UInt8) (p : Nat) : ∀ k, p + k ≤ s.length → num (mk (s ++ t)) p k = num (mk s) p k
  | 0, _ => rfl
  | k + 1, h => by rw [num, num, num_more s t p k (by omega), bt_more s t (p + k) (by omega)]
theorem ext_more (s t : List UInt8) (p q : Nat) (h : q ≤ s.length) : (mk (s ++ t)).extract p q = (mk s).extract p q := by
  apply bs_inj
  simp [bs, mk]
  by_cases hp : p ≤ s.length
  · rw [List.drop_append_of_le_length hp, List.take_append_of_le_length (by simp; omega)]
  · rw [show q - p = 0 by omega]; simp
theorem inrec_end {s : ByteArray} {a : Int} {r : Rec} {e : Int} (h : InRec s a r e) : 0 ≤ e ∧ e ≤ s.size := by
  obtain ⟨_, m, k, _, _, _, _, _, _, rfl, hd⟩ := h
  unfold Dat at hd
  refine ⟨by omega, ?_⟩
  split at hd
  · obtain ⟨rfl, hd, _⟩ := hd; omega
  · split at hd
    · have := get_ends hd; rw [length_bs] at this; omega
    · split at hd
      · obtain ⟨j, i, _, _, _, _, _, _, _, _, _⟩ := hd; omega
      · split at hd
        · have := hd.1; omega
        · have := hd.1; omega
theorem inrec_more {s : List UInt8} {a : Int} {r : Rec} {e : Int} (h : InRec (mk s) a r e) (t : List UInt8) : InRec (mk (s ++ t)) a r e := by
  obtain ⟨ha, m, k, g, hs, v1, v2, v3, v4, he, hd⟩ := h
  rw [size_mk] at hs
  rw [bs_mk] at g
  refine ⟨ha, m, k, by rw [bs_mk]; exact get_more g t, by rw [size_mk]; simp; omega, by rw [num_more _ _ _ _ (by omega)]; exact v1, by rw [num_more _ _ _ _ (by omega)]; exact v2, by rw [num_more _ _ _ _ (by omega)]; exact v3, by rw [num_more _ _ _ _ (by omega)]; exact v4, he, ?_⟩
  unfold Dat at hd ⊢
  simp only [size_mk, bs_mk, List.length_append] at hd ⊢
  split
  · rename_i h1
    rw [if_pos h1] at hd
    exact ⟨hd.1, by omega, by rw [num_more _ _ _ _ hd.2.1]; exact hd.2.2⟩
  · rename_i h1
    rw [if_neg h1] at hd
    split
    · rename_i h2
      rw [if_pos h2] at hd
      exact get_more hd t
    · rename_i h2
      rw [if_neg h2] at hd
      split
      · rename_i h3
        rw [if_pos h3] at hd
        obtain ⟨j, i, g1, g2, hi, w1, w2, w3, w4, w5, w6⟩ := hd
        exact ⟨j, i, get_more g1 t, get_more g2 t, by omega, by rw [num_more _ _ _ _ (by omega)]; exact w1, by rw [num_more _ _ _ _ (by omega)]; exact w2, by rw [num_more _ _ _ _ (by omega)]; exact w3, by rw [num_more _ _ _ _ (by omega)]; exact w4, by rw [num_more _ _ _ _ (by omega)]; exact w5, w6⟩
      · rename_i h3
        rw [if_neg h3] at hd
        split
        · rename_i h4
          rw [if_pos h4] at hd
          exact ⟨by omega, hd.2.1, by rw [num_more _ _ _ _ (by omega)]; exact hd.2.2.1, by rw [ext_more _ _ _ _ hd.1]; exact hd.2.2.2⟩
        · rename_i h4
          rw [if_neg h4] at hd
          exact ⟨by omega, by rw [ext_more _ _ _ _ hd.1]; exact hd.2⟩

end Go.Proofs.YtdmooggmoihggaaGreatDoor

/-
  Put and Get of package rr, their answers named.
-/
namespace Go.Proofs.YtdmooggmoihggaaGreatDoor
set_option maxRecDepth 100000
open Go.ChangeShapes Go.WideShapes Go.ChangeAt Go.RowKit Go.Pin Go.PlainAid

theorem mayR_is {r : Rec} (h1 : r = namedR r) (h2 : (typeB r.ty && mayL (bs r.n) && upB r.ttl 1048576 && upB r.ad 4294967295 && mayL (bs r.tg) && upB r.se 4294967295 && decide (r.tx.size ≤ 64)) = true) : mayR r = true := by
  have h3 := (sameR_iff r (namedR r)).2 h1
  simp only [mayR, Bool.and_eq_true] at h2 ⊢
  exact ⟨⟨⟨⟨⟨⟨⟨h2.1.1.1.1.1.1, h3⟩, h2.1.1.1.1.1.2⟩, h2.1.1.1.1.2⟩, h2.1.1.1.2⟩, h2.1.1.2⟩, h2.1.2⟩, h2.2⟩
theorem mayR_not {r : Rec} (h : r ≠ namedR r ∨ typeB r.ty = false ∨ mayL (bs r.n) = false ∨ upB r.ttl 1048576 = false ∨ upB r.ad 4294967295 = false ∨ mayL (bs r.tg) = false ∨ upB r.se 4294967295 = false ∨ 64 < r.tx.size) : mayR r = false := by
  cases hm : mayR r with
  | false => rfl
  | true =>
    exfalso
    have hz := may_zero hm
    simp only [mayR, Bool.and_eq_true, decide_eq_true_eq] at hm
    rcases h with h | h | h | h | h | h | h | h
    · exact h hz.1
    · rw [hz.2] at h; cases h
    · rw [hm.1.1.1.1.1.2] at h; cases h
    · rw [hm.1.1.1.1.2] at h; cases h
    · rw [hm.1.1.1.2] at h; cases h
    · rw [hm.1.1.2] at h; cases h
    · rw [hm.1.2] at h; cases h
    · omega
theorem putL_not {at_ : Int} {ks : List Kn} {r : Rec} (h : mayR r = false) : putL at_ ks r = none := by simp [putL, h]

theorem rrPut_yes (at_ : Int) (a : Option Addr) (n cap : Nat) (ks ks' : List Kn) (r : Rec) (s : ByteArray) (w : World) (hn : n = ks.length) (h1 : r.n.size ≤ maxLen) (h2 : r.tg.size ≤ maxLen) (hat : -9223372036854775808 ≤ at_ ∧ at_ ≤ 9223372036854775807) (hq : ks.length ≤ 1048500) (hl : ∀ k ∈ ks, k.1.length ≤ maxLen) (hk : KnLies w a ks) (hL : Laid w) (h : putL at_ ks r = some (bs s, ks')) :
    Calls Tryz.prog 42 #[.int .i64 at_, .slice a n cap, rv r] w fun e w' => (∃ v, e = .returned (.tuple #[.string s, v, .int .i64 0]) ∧ Knowns w' w.heap.size v ks') ∧ Below w.heap.size w w' := by
  have := rrPut_c at_ a n cap ks r w hn h1 h2 hat hq hl hk hL
  rw [putRec_is, h] at this
  simp only [mk_bs] at this
  exact this
theorem rrPut_no (at_ : Int) (a : Option Addr) (n cap : Nat) (ks : List Kn) (r : Rec) (w : World) (hn : n = ks.length) (h1 : r.n.size ≤ maxLen) (h2 : r.tg.size ≤ maxLen) (hat : -9223372036854775808 ≤ at_ ∧ at_ ≤ 9223372036854775807) (hq : ks.length ≤ 1048500) (hl : ∀ k ∈ ks, k.1.length ≤ maxLen) (hk : KnLies w a ks) (hL : Laid w) (h : putL at_ ks r = none) :
    Calls Tryz.prog 42 #[.int .i64 at_, .slice a n cap, rv r] w fun e w' => e = .returned (.tuple #[.string ⟨#[]⟩, .slice none 0 0, .int .i64 400]) ∧ Below w.heap.size w w' := by
  have := rrPut_c at_ a n cap ks r w hn h1 h2 hat hq hl hk hL
  rw [putRec_is, h] at this
  exact this
theorem rrPut_nil (at_ : Int) (cap : Nat) (ks' : List Kn) (r : Rec) (s : ByteArray) (w : World) (h1 : r.n.size ≤ maxLen) (h2 : r.tg.size ≤ maxLen) (hat : -9223372036854775808 ≤ at_ ∧ at_ ≤ 9223372036854775807) (hL : Laid w) (h : putL at_ [] r = some (bs s, ks')) :
    Calls Tryz.prog 42 #[.int .i64 at_, .slice none 0 cap, rv r] w fun e w' => (∃ v, e = .returned (.tuple #[.string s, v, .int .i64 0]) ∧ Knowns w' w.heap.size v ks') ∧ Below w.heap.size w w' :=
  rrPut_yes at_ none 0 cap [] ks' r s w rfl h1 h2 hat (by simp) (by simp) (.inl rfl) hL h
theorem rrPut_nilno (at_ : Int) (cap : Nat) (r : Rec) (w : World) (h1 : r.n.size ≤ maxLen) (h2 : r.tg.size ≤ maxLen) (hat : -9223372036854775808 ≤ at_ ∧ at_ ≤ 9223372036854775807) (hL : Laid w) (h : putL at_ [] r = none) :
    Calls Tryz.prog 42 #[.int .i64 at_, .slice none 0 cap, rv r] w fun e w' => e = .returned (.tuple #[.string ⟨#[]⟩, .slice none 0 0, .int .i64 400]) ∧ Below w.heap.size w w' :=
  rrPut_no at_ none 0 cap [] r w rfl h1 h2 hat (by simp) (by simp) (.inl rfl) hL h
theorem rrGet_yes (s : ByteArray) (a : Int) (r : Rec) (e0 : Int) (w : World) (hs : s.size ≤ 1125899906842624) (hL : Laid w) (ha : -9223372036854775808 ≤ a ∧ a ≤ 9223372036854775807) (h : getRec s a = some (r, e0)) :
    Calls Tryz.prog 87 #[.string s, .int .i64 a] w fun e w' => e = .returned (.tuple #[rv r, .int .i64 e0, .int .i64 0]) ∧ Below w.heap.size w w' := by
  have := rrGet_c s a w hs ha hL
  rw [h] at this
  exact this
theorem rrGet_no (s : ByteArray) (a : Int) (w : World) (hs : s.size ≤ 1125899906842624) (hL : Laid w) (ha : -9223372036854775808 ≤ a ∧ a ≤ 9223372036854775807) (h : getRec s a = none) :
    Calls Tryz.prog 87 #[.string s, .int .i64 a] w fun e w' => e = .returned (.tuple #[rv zeroR, .int .i64 0, .int .i64 400]) ∧ Below w.heap.size w w' := by
  have := rrGet_c s a w hs ha hL
  rw [h] at this
  exact this
theorem rrMay_is (r : Rec) (b : Bool) (w : World) (hn : r.n.size ≤ maxLen) (ht : r.tg.size ≤ maxLen) (h : mayR r = b) : Calls Tryz.prog 67 #[rv r] w fun e w' => e = .returned (.bool b) ∧ Below w.heap.size w w' := by
  subst h; exact rrMay_c r w hn ht
theorem get_empty : getRec ⟨#[]⟩ 0 = none := by
  cases h : getRec ⟨#[]⟩ 0 with
  | none => rfl
  | some q =>
    obtain ⟨_, _, m, k, g, _⟩ := get_inrec (r := q.1) (e := q.2) h
    have := get_ends g
    simp [bs] at this
    omega
theorem good_nil : Go.Pin.Good [] [] := fun k hk => by simp at hk
/-- What is put is got, wherever it stands. -/
theorem put_get {A : List UInt8} {ks : List Kn} {r : Rec} {P : List UInt8} {ks' : List Kn} (hg : Go.Pin.Good A ks) (h : putL (A.length : Nat) ks r = some (P, ks')) (B : List UInt8) : getRec (mk (A ++ P ++ B)) (A.length : Nat) = some (r, (((A ++ P).length : Nat) : Int)) ∧ Go.Pin.Good (A ++ P) ks' := by
  obtain ⟨h1, h2, h3⟩ := put_inrec hg h B
  exact ⟨inrec_get h1 h2, h3⟩
/-- A piece of its front is no record. -/
theorem put_cut {r : Rec} {P : List UInt8} {ks' : List Kn} (h : putL 0 [] r = some (P, ks')) (k : Nat) (hk : k < P.length) : getRec (mk (P.take k)) 0 = none := by
  cases hc : getRec (mk (P.take k)) 0 with
  | none => rfl
  | some q =>
    exfalso
    obtain ⟨hm, hi⟩ := get_inrec (r := q.1) (e := q.2) hc
    have he := inrec_end hi
    have h1 := inrec_get hm (inrec_more hi (P.drop k))
    rw [List.take_append_drop] at h1
    have h2 := (put_get (A := []) good_nil h []).1
    simp only [List.nil_append, List.append_nil, List.length_nil] at h2
    rw [show ((0 : Nat) : Int) = 0 from rfl, h1] at h2
    simp only [Option.some.injEq, Prod.mk.injEq] at h2
    rw [size_mk] at he
    simp at he
    omega
theorem putL_len {at_ : Int} {ks : List Kn} {r : Rec} {P : List UInt8} {ks' : List Kn} (h : putL at_ ks r = some (P, ks')) : 1 ≤ P.length ∧ P.length ≤ 500 ∧ ks'.length ≤ ks.length + 24 ∧ (∀ k ∈ ks', k.1.length ≤ 72 ∨ k ∈ ks) := by
  unfold putL at h
  split at h
  · rename_i hc
    simp only [Bool.and_eq_true] at hc
    have hm := hc.1
    have hz : r.tx.size ≤ 64 := by simp only [mayR, Bool.and_eq_true, decide_eq_true_eq] at hm; exact hm.2
    split at h
    · cases h
    · rename_i D k2 hd
      simp only [Option.some.injEq, Prod.mk.injEq] at h
      obtain ⟨rfl, rfl⟩ := h
      have h1 := putS_len ks (labsL (bs r.n)) (fun x hx => labsL_ok hx)
      have h2 := labsL_len (bs r.n)
      have hn1 := putN_len ks (labsL (bs r.n)) at_
      have hn2 := putN_mem ks (labsL (bs r.n)) at_ (fun x hx => labsL_ok hx) h2
      obtain ⟨D', e1, e2⟩ := dataW_len (at_ + (putS ks (labsL (bs r.n))).length + 10) r ⟨[], ks ++ putN ks at_ (labsL (bs r.n)), false⟩ hz
      rw [dataW_some (x := ⟨[], ks ++ putN ks at_ (labsL (bs r.n)), false⟩) (D := D) (ks' := k2) rfl (by simpa using hd)] at e1
      simp only [List.nil_append] at e1
      subst e1
      have hkk : k2.length ≤ ks.length + 24 ∧ ∀ k ∈ k2, k.1.length ≤ 72 ∨ k ∈ ks := by
        have hbase : (ks ++ putN ks at_ (labsL (bs r.n))).length ≤ ks.length + 8 ∧ ∀ k ∈ ks ++ putN ks at_ (labsL (bs r.n)), k.1.length ≤ 72 ∨ k ∈ ks := by
          refine ⟨by simp; omega, fun k hk => ?_⟩
          rcases List.mem_append.1 hk with hk | hk
          · exact .inr hk
          · exact .inl (hn2 k hk)
        generalize ks ++ putN ks at_ (labsL (bs r.n)) = k1 at *
        have step : ∀ (k1 : List Kn) (m : Nat) (fr : Int), (k1.length ≤ ks.length + m ∧ ∀ k ∈ k1, k.1.length ≤ 72 ∨ k ∈ ks) → (k1 ++ putN k1 fr (labsL (bs r.tg))).length ≤ ks.length + (m + 8) ∧ ∀ k ∈ k1 ++ putN k1 fr (labsL (bs r.tg)), k.1.length ≤ 72 ∨ k ∈ ks := by
          intro k1 m fr ⟨q1, q2⟩
          have a1 := putN_len k1 (labsL (bs r.tg)) fr
          have a2 := labsL_len (bs r.tg)
          have a3 := putN_mem k1 (labsL (bs r.tg)) fr (fun x hx => labsL_ok hx) a2
          refine ⟨by simp; omega, fun k hk => ?_⟩
          rcases List.mem_append.1 hk with hk | hk
          · exact q2 k hk
          · exact .inl (a3 k hk)
        unfold dataL at hd
        split at hd
        · simp only [Option.some.injEq, Prod.mk.injEq] at hd; obtain ⟨_, rfl⟩ := hd; exact ⟨by omega, hbase.2⟩
        · split at hd
          · split at hd
            · simp only [Option.some.injEq, Prod.mk.injEq] at hd; obtain ⟨_, rfl⟩ := hd
              exact ⟨Nat.le_trans (step k1 8 _ hbase).1 (by omega), (step k1 8 _ hbase).2⟩
            · cases hd
          · split at hd
            · split at hd
              · split at hd
                · simp only [Option.some.injEq, Prod.mk.injEq] at hd; obtain ⟨_, rfl⟩ := hd
                  exact step _ 16 _ (step k1 8 _ hbase)
                · cases hd
              · cases hd
            · split at hd
              · simp only [Option.some.injEq, Prod.mk.injEq] at hd; obtain ⟨_, rfl⟩ := hd; exact ⟨by omega, hbase.2⟩
              · simp only [Option.some.injEq, Prod.mk.injEq] at hd; obtain ⟨_, rfl⟩ := hd; exact ⟨by omega, hbase.2⟩
      refine ⟨?_, ?_, hkk.1, hkk.2⟩
      · simp [length_bs, size_be]; omega
      · simp [length_bs, size_be]; omega
  · cases h

end Go.Proofs.YtdmooggmoihggaaGreatDoor

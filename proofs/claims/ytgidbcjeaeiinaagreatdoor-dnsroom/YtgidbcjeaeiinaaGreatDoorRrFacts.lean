/-
  What a record that is told is: the numbers, names and texts that stand in a message.
-/
import Derived.Test.YtgidbcjeaeiinaaGreatDoorRrGet2
namespace Go.Proofs.YtgidbcjeaeiinaaGreatDoor
set_option maxRecDepth 100000
open Go.ChangeShapes Go.WideShapes Go.ChangeAt Go.RowKit Go.Pin Go.PlainAid

theorem numT_at (s : ByteArray) (k a : Nat) (h : a + k ≤ s.size) : numT s k ⟨a, false⟩ = (num s a k, ⟨((a + k : Nat) : Int), false⟩) := by
  have h1 : ¬ ((a : Int) < 0) := by omega
  have h2 : ¬ ((s.size : Int) < (a : Int) + k) := by omega
  simp [numT, getB, h1, h2]
theorem numT_ok {s : ByteArray} {k : Nat} {x : Tk} (h : (numT s k x).2.f = false) : ∃ a : Nat, x = ⟨a, false⟩ ∧ a + k ≤ s.size := by
  obtain ⟨a, f⟩ := x
  unfold numT at h
  cases f with
  | true => simp at h
  | false =>
    simp only [Bool.false_eq_true, if_false] at h
    unfold getB at h
    by_cases h0 : a < 0
    · rw [if_pos h0] at h; simp at h
    · rw [if_neg h0] at h
      by_cases h1 : (s.size : Int) < a + k
      · rw [if_pos h1] at h; simp at h
      · exact ⟨a.toNat, by rw [show ((a.toNat : Nat) : Int) = a by omega], by omega⟩
theorem nameT_at {s : ByteArray} {a m : Nat} {n : List UInt8} (h : getL (bs s) a = (n, (m : Int), 0)) : nameT s ⟨a, false⟩ = (mk n, ⟨m, false⟩) := by
  simp [nameT, h]
theorem nameT_ok {s : ByteArray} {x : Tk} (h : (nameT s x).2.f = false) : x.f = false ∧ ∃ (n : List UInt8) (m : Nat), getL (bs s) x.at_.toNat = (n, (m : Int), 0) ∧ nameT s x = (mk n, ⟨m, false⟩) := by
  obtain ⟨a, f⟩ := x
  cases f with
  | true => simp [nameT] at h
  | false =>
    refine ⟨rfl, ?_⟩
    unfold nameT at h ⊢
    simp only [Bool.false_eq_true, if_false] at h ⊢
    rcases hg : getL (bs s) a.toNat with ⟨n, e, er⟩
    rw [hg] at h
    simp only at h ⊢
    by_cases h0 : er = 0
    · subst h0
      have := get_ends hg
      obtain ⟨m, rfl⟩ : ∃ m : Nat, e = m := ⟨e.toNat, by omega⟩
      exact ⟨n, m, rfl, by simp⟩
    · rw [if_neg h0] at h; simp at h
theorem textT_at (s : ByteArray) (a n : Nat) (h : a + n ≤ s.size) : textT s n ⟨a, false⟩ = (s.extract a (a + n), ⟨((a + n : Nat) : Int), false⟩) := by
  have h1 : (n : Int) ≤ s.size - a := by omega
  simp [textT, h1]
theorem textT_ok {s : ByteArray} {n : Nat} {x : Tk} (h : (textT s n x).2.f = false) : x.f = false ∧ (n : Int) ≤ s.size - x.at_ := by
  obtain ⟨a, f⟩ := x
  cases f with
  | true => simp [textT] at h
  | false =>
    refine ⟨rfl, ?_⟩
    unfold textT at h
    simp only [Bool.false_eq_true, if_false] at h
    by_cases h0 : (n : Int) ≤ s.size - a
    · exact h0
    · rw [if_neg h0] at h; simp at h
theorem mustT_ok {so : Bool} {x : Tk} (h : (mustT so x).f = false) : so = true ∧ x.f = false ∧ mustT so x = x := by
  obtain ⟨a, f⟩ := x
  simp only [mustT, Bool.or_eq_false_iff, Bool.not_eq_false'] at h
  obtain ⟨rfl, rfl⟩ := h
  simp [mustT]
theorem mustT_yes (x : Tk) : mustT true x = x := by cases x; simp [mustT]

/-- What a record's type names, at place p, in k bytes. -/
def Dat (s : ByteArray) (p k : Nat) (r : Rec) : Prop :=
  if r.ty = 1 then k = 4 ∧ p + 4 ≤ s.size ∧ num s p 4 = r.ad
  else if isN r.ty then getL (bs s) p = (bs r.tg, ((p + k : Nat) : Int), 0)
  else if r.ty = 6 then ∃ j i : Nat, getL (bs s) p = (bs r.tg, (j : Int), 0) ∧ getL (bs s) j = (bs r.tg, (i : Int), 0) ∧ i + 20 ≤ s.size ∧ num s i 4 = r.se ∧ num s (i + 4) 4 = 60 ∧ num s (i + 8) 4 = 60 ∧ num s (i + 12) 4 = 600 ∧ num s (i + 16) 4 = 60 ∧ i + 20 = p + k
  else if r.ty = 16 then p + k ≤ s.size ∧ k = r.tx.size + 1 ∧ num s p 1 = r.tx.size ∧ s.extract (p + 1) (p + k) = r.tx
  else p + k ≤ s.size ∧ s.extract p (p + k) = r.tx
/-- From a on there stands the record r; it goes on at e. -/
def InRec (s : ByteArray) (a : Int) (r : Rec) (e : Int) : Prop := 0 ≤ a ∧ ∃ m k : Nat, getL (bs s) a.toNat = (bs r.n, (m : Int), 0) ∧ m + 10 ≤ s.size ∧ num s m 2 = r.ty ∧ num s (m + 2) 2 = 1 ∧ num s (m + 4) 4 = r.ttl ∧ num s (m + 8) 2 = k ∧ e = ((m + 10 + k : Nat) : Int) ∧ Dat s (m + 10) k r

theorem may_zero {r : Rec} (h : mayR r = true) : r = namedR r ∧ typeB r.ty = true := by
  simp only [mayR, Bool.and_eq_true] at h
  exact ⟨(sameR_iff _ _).1 h.1.1.1.1.1.1.2, h.1.1.1.1.1.1.1⟩

theorem dat_take {s : ByteArray} {p k : Nat} {r : Rec} (hm : mayR r = true) (h : Dat s p k r) : dataT s k ⟨r.n, r.ty, r.ttl, 0, ⟨#[]⟩, ⟨#[]⟩, 0⟩ ⟨p, false⟩ = (r, ⟨((p + k : Nat) : Int), false⟩) := by
  obtain ⟨hz, ht⟩ := may_zero hm
  obtain ⟨n, ty, ttl, ad, tg, tx, se⟩ := r
  simp only [namedR] at hz
  unfold Dat at h
  unfold dataT
  simp only at h hz ht ⊢
  by_cases h1 : ty = 1
  · rw [if_pos h1] at h hz ⊢
    simp only [Rec.mk.injEq, true_and] at hz
    obtain ⟨rfl, rfl, rfl⟩ := hz
    obtain ⟨rfl, hp, hv⟩ := h
    rw [numT_at s 4 p hp, hv]
  · rw [if_neg h1] at h hz ⊢
    by_cases h2 : isN ty = true
    · rw [if_pos h2] at h hz ⊢
      simp only [Rec.mk.injEq, true_and] at hz
      obtain ⟨rfl, rfl, rfl⟩ := hz
      rw [nameT_at h, mk_bs]
    · rw [if_neg h2] at h hz ⊢
      by_cases h3 : ty = 6
      · rw [if_pos h3] at h hz ⊢
        simp only [Rec.mk.injEq, true_and, and_true] at hz
        obtain ⟨rfl, rfl⟩ := hz
        obtain ⟨j, i, g1, g2, hi, v1, v2, v3, v4, v5, he⟩ := h
        have e1 : soaT s ⟨p, false⟩ = ((tg, se), ⟨((i + 20 : Nat) : Int), false⟩) := by
          simp only [soaT, nameT_at g1, nameT_at g2, beq_self_eq_true, mustT_yes, isT4]
          rw [numT_at s 4 i (by omega)]
          simp only
          rw [numT_at s 4 (i + 4) (by omega), v2]
          simp only [beq_self_eq_true, mustT_yes]
          rw [numT_at s 4 (i + 4 + 4) (by omega), show i + 4 + 4 = i + 8 from rfl, v3]
          simp only [beq_self_eq_true, mustT_yes]
          rw [numT_at s 4 (i + 8 + 4) (by omega), show i + 8 + 4 = i + 12 from rfl, v4]
          simp only [beq_self_eq_true, mustT_yes]
          rw [numT_at s 4 (i + 12 + 4) (by omega), show i + 12 + 4 = i + 16 from rfl, v5]
          simp only [beq_self_eq_true, mustT_yes, mk_bs, v1]
        rw [e1, ← he]
      · rw [if_neg h3] at h hz ⊢
        by_cases h4 : ty = 16
        · rw [if_pos h4] at h ⊢
          rw [if_pos (by simp [isT, h4])] at hz
          simp only [Rec.mk.injEq, true_and] at hz
          obtain ⟨rfl, rfl, rfl⟩ := hz
          obtain ⟨hp, hk, hv, hx⟩ := h
          rw [numT_at s 1 p (by omega), hv]
          simp only [Int.toNat_natCast]
          rw [textT_at s (p + 1) tx.size (by omega), show p + 1 + tx.size = p + k by omega, hx]
        · rw [if_neg h4] at h ⊢
          have h5 : ty = 49 := by
            simp only [typeB, isT, Bool.or_eq_true, decide_eq_true_eq] at ht
            rcases ht with ((h | h) | h) | h | h
            · exact absurd h h1
            · exact absurd h h2
            · exact absurd h h3
            · exact absurd h h4
            · exact h
          rw [if_pos h5]
          rw [if_pos (by simp [isT, h5])] at hz
          simp only [Rec.mk.injEq, true_and] at hz
          obtain ⟨rfl, rfl, rfl⟩ := hz
          rw [textT_at s p k h.1, h.2]

theorem inrec_get {s : ByteArray} {a : Int} {r : Rec} {e : Int} (hm : mayR r = true) (h : InRec s a r e) : getRec s a = some (r, e) := by
  obtain ⟨ha, m, k, g, hs, v1, v2, v3, v4, rfl, hd⟩ := h
  have hend := get_ends g
  rw [length_bs] at hend
  have hst : startT s a = ⟨((a.toNat : Nat) : Int), false⟩ := by
    have h1 : ¬ a < 0 := by omega
    have h2 : ¬ (s.size : Int) < a := by omega
    simp [startT, h1, h2]; omega
  have e1 : recT s ⟨((a.toNat : Nat) : Int), false⟩ = (r, ⟨((m + 10 + k : Nat) : Int), false⟩) := by
    unfold recT
    simp only [nameT_at g, mk_bs]
    rw [numT_at s 2 m (by omega), v1]
    simp only
    rw [numT_at s 2 (m + 2) (by omega), v2]
    simp only [beq_self_eq_true, mustT_yes]
    rw [numT_at s 4 (m + 2 + 2) (by omega), show m + 2 + 2 = m + 4 from rfl, v3]
    simp only
    rw [numT_at s 2 (m + 4 + 4) (by omega), show m + 4 + 4 = m + 8 from rfl, v4]
    simp only [Int.toNat_natCast]
    rw [show ((m + 8 + 2 : Nat) : Int) = ((m + 10 : Nat) : Int) from rfl, dat_take hm hd]
    simp only
    rw [show ((((m + 10 + k : Nat) : Int) == ((m + 10 : Nat) : Int) + (k : Int)) : Bool) = true by simp, mustT_yes]
  unfold getRec
  rw [hst, e1]
  simp [hm]

theorem take_dat {s : ByteArray} {p k : Nat} {n : ByteArray} {ty ttl : Int} {R : Rec} {x : Tk} (hm : mayR R = true) (h : dataT s k ⟨n, ty, ttl, 0, ⟨#[]⟩, ⟨#[]⟩, 0⟩ ⟨p, false⟩ = (R, x)) (hx : x.f = false) (he : x.at_ = ((p + k : Nat) : Int)) : R.n = n ∧ R.ty = ty ∧ R.ttl = ttl ∧ Dat s p k R := by
  have hxx : x = ⟨((p + k : Nat) : Int), false⟩ := by cases x; simp_all
  subst hxx
  unfold dataT at h
  simp only at h
  unfold Dat
  by_cases h1 : ty = 1
  · rw [if_pos h1] at h
    simp only [Prod.mk.injEq] at h
    obtain ⟨rfl, hx⟩ := h
    refine ⟨rfl, rfl, rfl, ?_⟩
    rw [if_pos h1]
    obtain ⟨a, ha, hl⟩ := numT_ok (x := ⟨p, false⟩) (by rw [hx])
    simp only [Tk.mk.injEq, and_true, Int.natCast_inj] at ha
    subst ha
    rw [numT_at s 4 p hl] at hx ⊢
    simp only [Tk.mk.injEq, and_true, Int.natCast_inj] at hx
    exact ⟨by omega, hl, rfl⟩
  · rw [if_neg h1] at h
    by_cases h2 : isN ty = true
    · rw [if_pos h2] at h
      simp only [Prod.mk.injEq] at h
      obtain ⟨rfl, hx⟩ := h
      refine ⟨rfl, rfl, rfl, ?_⟩
      rw [if_neg h1, if_pos h2]
      obtain ⟨_, n', m', g, hn⟩ := nameT_ok (x := ⟨p, false⟩) (by rw [hx])
      rw [hn] at hx ⊢
      simp only [Tk.mk.injEq, and_true, Int.toNat_natCast] at hx g ⊢
      rw [g, bs_mk, hx]
    · rw [if_neg h2] at h
      by_cases h3 : ty = 6
      · rw [if_pos h3] at h
        simp only [Prod.mk.injEq] at h
        obtain ⟨rfl, hx⟩ := h
        refine ⟨rfl, rfl, rfl, ?_⟩
        rw [if_neg h1, if_neg h2, if_pos h3]
        simp only [soaT, isT4] at hx ⊢
        have f5 := mustT_ok (by rw [hx])
        rw [f5.2.2] at hx
        obtain ⟨a5, q5, l5⟩ := numT_ok f5.2.1
        have f4 := mustT_ok (by rw [q5])
        rw [f4.2.2] at q5 hx f5
        obtain ⟨a4, q4, l4⟩ := numT_ok f4.2.1
        have f3 := mustT_ok (by rw [q4])
        rw [f3.2.2] at q4 q5 hx f4 f5
        obtain ⟨a3, q3, l3⟩ := numT_ok f3.2.1
        have f2 := mustT_ok (by rw [q3])
        rw [f2.2.2] at q3 q4 q5 hx f3 f4 f5
        obtain ⟨a2, q2, l2⟩ := numT_ok f2.2.1
        have f1 := mustT_ok (x := (nameT s (nameT s ⟨p, false⟩).2).2) (so := (nameT s (nameT s ⟨p, false⟩).2).1.toList == (nameT s ⟨p, false⟩).1.toList) (by
          obtain ⟨a1, q1, _⟩ := numT_ok (s := s) (k := 4) (by rw [q2])
          rw [q1])
        rw [f1.2.2] at q2 q3 q4 q5 hx f2 f3 f4 f5 ⊢
        obtain ⟨w1, n2, m2, g2, hn2⟩ := nameT_ok f1.2.1
        obtain ⟨_, n1, m1, g1, hn1⟩ := nameT_ok w1
        rw [hn1] at g2 hn2 f1
        rw [hn2] at f1
        simp only [hn1, hn2, Int.toNat_natCast] at *
        have heq : n2 = n1 := by
          have := f1.1
          rw [beq_iff_eq, text_inj] at this
          exact mk_inj this
        subst heq
        obtain ⟨a1, q1, l1⟩ := numT_ok (s := s) (k := 4) (x := ⟨m2, false⟩) (by rw [q2])
        simp only [Tk.mk.injEq, and_true, Int.natCast_inj] at q1
        subst q1
        rw [numT_at s 4 m2 l1] at *
        simp only [Tk.mk.injEq, and_true, Int.natCast_inj] at q2
        subst q2
        rw [numT_at s 4 (m2 + 4) l2] at *
        simp only [Tk.mk.injEq, and_true, Int.natCast_inj, beq_iff_eq] at q3 f2
        subst q3
        rw [numT_at s 4 (m2 + 4 + 4) l3] at *
        simp only [Tk.mk.injEq, and_true, Int.natCast_inj, beq_iff_eq] at q4 f3
        subst q4
        rw [numT_at s 4 (m2 + 4 + 4 + 4) l4] at *
        simp only [Tk.mk.injEq, and_true, Int.natCast_inj, beq_iff_eq] at q5 f4
        subst q5
        rw [numT_at s 4 (m2 + 4 + 4 + 4 + 4) l5] at *
        simp only [Tk.mk.injEq, and_true, Int.natCast_inj, beq_iff_eq] at hx f5
        exact ⟨m1, m2, by rw [g1, bs_mk], by rw [g2, bs_mk], by omega, rfl, f2.1, f3.1, f4.1, f5.1, by omega⟩
      · rw [if_neg h3] at h
        by_cases h4 : ty = 16
        · rw [if_pos h4] at h
          simp only [Prod.mk.injEq] at h
          obtain ⟨rfl, hx⟩ := h
          refine ⟨rfl, rfl, rfl, ?_⟩
          rw [if_neg h1, if_neg h2, if_neg h3, if_pos h4]
          obtain ⟨f1, l2⟩ := textT_ok (by rw [hx])
          obtain ⟨a, ha, hl⟩ := numT_ok f1
          simp only [Tk.mk.injEq, and_true, Int.natCast_inj] at ha
          subst ha
          have hb := numT_bd s 1 ⟨p, false⟩
          rw [numT_at s 1 p hl] at *
          simp only at l2 hb hx ⊢
          rw [textT_at s (p + 1) _ (by omega)] at hx ⊢
          simp only [Tk.mk.injEq, and_true, Int.natCast_inj] at hx ⊢
          have hsz : (s.extract (p + 1) (p + 1 + (num s p 1).toNat)).size = (num s p 1).toNat := by simp; omega
          refine ⟨by omega, by rw [hsz]; omega, by rw [hsz]; omega, by rw [← hx]⟩
        · rw [if_neg h4] at h
          by_cases h5 : ty = 49
          · rw [if_pos h5] at h
            simp only [Prod.mk.injEq] at h
            obtain ⟨rfl, hx⟩ := h
            refine ⟨rfl, rfl, rfl, ?_⟩
            rw [if_neg h1, if_neg h2, if_neg h3, if_neg h4]
            obtain ⟨_, l2⟩ := textT_ok (x := ⟨p, false⟩) (by rw [hx])
            simp only at l2
            rw [textT_at s p k (by omega)] at hx ⊢
            exact ⟨by omega, rfl⟩
          · rw [if_neg h5] at h
            simp only [Prod.mk.injEq] at h
            obtain ⟨rfl, _⟩ := h
            have := (may_zero hm).2
            simp only [typeB, isT, Bool.or_eq_true, decide_eq_true_eq] at this
            rcases this with ((h | h) | h) | h | h
            · exact absurd h h1
            · exact absurd h h2
            · exact absurd h h3
            · exact absurd h h4
            · exact absurd h h5

theorem get_inrec {s : ByteArray} {a : Int} {r : Rec} {e : Int} (h : getRec s a = some (r, e)) : mayR r = true ∧ InRec s a r e := by
  unfold getRec at h
  split at h
  · cases h
  · rename_i hc
    simp only [Bool.or_eq_true, Bool.not_eq_true', not_or, Bool.not_eq_true, Bool.not_eq_false] at hc
    obtain ⟨hf, hm⟩ := hc
    simp only [Option.some.injEq, Prod.mk.injEq] at h
    obtain ⟨rfl, rfl⟩ := h
    refine ⟨hm, ?_⟩
    generalize hx : startT s a = x at *
    simp only [recT] at hf hm ⊢
    have f1 := mustT_ok hf
    rw [f1.2.2] at hf ⊢
    obtain ⟨so, fd, _⟩ := f1
    rw [beq_iff_eq] at so
    -- the data's state is not failed, so that of the size is not
    have hback : ∀ (k : Nat) (R : Rec) (y : Tk), (dataT s k R y).2.f = false → y.f = false := by
      intro k R y
      unfold dataT
      repeat' split
      · intro h; obtain ⟨a, ha, _⟩ := numT_ok h; rw [ha]
      · intro h; exact (nameT_ok h).1
      · intro h
        simp only [soaT, isT4] at h
        have g5 := (mustT_ok h).2.1
        obtain ⟨a5, q5, _⟩ := numT_ok g5
        have g4 := (mustT_ok (by rw [q5])).2.1
        obtain ⟨a4, q4, _⟩ := numT_ok g4
        have g3 := (mustT_ok (by rw [q4])).2.1
        obtain ⟨a3, q3, _⟩ := numT_ok g3
        have g2 := (mustT_ok (by rw [q3])).2.1
        obtain ⟨a2, q2, _⟩ := numT_ok g2
        obtain ⟨a1, q1, _⟩ := numT_ok (s := s) (k := 4) (by rw [q2])
        have g1 := (mustT_ok (by rw [q1])).2.1
        exact (nameT_ok (nameT_ok g1).1).1
      · intro h; obtain ⟨a, ha, _⟩ := numT_ok (textT_ok h).1; rw [ha]
      · intro h; exact (textT_ok h).1
      · intro h; exact h
    have f2 := hback _ _ _ fd
    obtain ⟨a4, q4, l4⟩ := numT_ok f2
    obtain ⟨a3, q3, l3⟩ := numT_ok (s := s) (k := 4) (by rw [q4])
    have f3 := mustT_ok (by rw [q3])
    rw [f3.2.2] at q3
    obtain ⟨a2, q2, l2⟩ := numT_ok f3.2.1
    obtain ⟨a1, q1, l1⟩ := numT_ok (s := s) (k := 2) (by rw [q2])
    obtain ⟨f0, n, m, g, hn⟩ := nameT_ok (s := s) (x := x) (by rw [q1])
    have hxa : x = ⟨a, false⟩ ∧ 0 ≤ a := by
      rw [← hx] at f0 ⊢
      simp only [startT, Bool.or_eq_false_iff, decide_eq_false_iff_not] at f0 ⊢
      refine ⟨?_, by omega⟩
      rw [f0.1 |> fun h => decide_eq_false h, f0.2 |> fun h => decide_eq_false h]; rfl
    obtain ⟨rfl, ha⟩ := hxa
    simp only [hn] at *
    simp only [Tk.mk.injEq, and_true, Int.natCast_inj] at q1
    subst q1
    rw [numT_at s 2 m l1] at *
    simp only [Tk.mk.injEq, and_true, Int.natCast_inj] at q2
    subst q2
    rw [numT_at s 2 (m + 2) l2] at *
    simp only [Tk.mk.injEq, and_true, Int.natCast_inj, beq_iff_eq] at q3 f3
    subst q3
    simp only [f3.2.2] at *
    rw [numT_at s 4 (m + 2 + 2) l3] at *
    simp only [Tk.mk.injEq, and_true, Int.natCast_inj] at q4
    subst q4
    have hb := numT_bd s 2 ⟨((m + 2 + 2 + 4 : Nat) : Int), false⟩
    rw [numT_at s 2 (m + 2 + 2 + 4) l4] at *
    simp only at hb hf so fd hm ⊢
    generalize hk : num s (m + 2 + 2 + 4) 2 = K at hb hf so fd hm ⊢
    obtain ⟨k, rfl⟩ : ∃ k : Nat, K = k := ⟨K.toNat, by omega⟩
    simp only [Int.toNat_natCast] at hb hf so fd hm ⊢
    obtain ⟨t1, t2, t3, t4⟩ := take_dat (x := (dataT s k ⟨mk n, num s m 2, num s (m + 2 + 2) 4, 0, ⟨#[]⟩, ⟨#[]⟩, 0⟩ ⟨((m + 2 + 2 + 4 + 2 : Nat) : Int), false⟩).2) hm rfl fd (by rw [so]; simp)
    refine ⟨ha, m, k, ?_, by omega, t2.symm, f3.1, t3.symm, hk, by rw [so]; simp; omega, t4⟩
    rw [t1, g, bs_mk]

end Go.Proofs.YtgidbcjeaeiinaaGreatDoor

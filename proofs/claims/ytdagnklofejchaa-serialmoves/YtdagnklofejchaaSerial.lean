/-
  Contracts of package serial and of the references SerialOrder, NextSerial: what each call returns, for every number.
-/
import Derived.Test.YtdagnklofejchaaRows
import Derived.Test.YtdagnklofejchaaBName
import Derived.WalkKit
import Derived.ProofKit
import Derived.WalkSpells
import Derived.PlainAid
import Derived.Handy
namespace Go.Proofs.Ytdagnklofejchaa
open Go.ChangeShapes Go.WideShapes Go.ChangeAt Go.RowKit Go.Pin Go.PlainAid

/-- Is it a serial? How far is b ahead of a; what is the order of that; the next of a. -/
def isS (x : Int) : Prop := 0 ≤ x ∧ x < 4294967296
instance (x : Int) : Decidable (isS x) := by unfold isS; infer_instance
def okS (x : Int) : Bool := decide (0 ≤ x ∧ x < 4294967296)
theorem okS_yes (x : Int) (h : isS x) : okS x = true := decide_eq_true h
theorem okS_no (x : Int) (h : ¬ isS x) : okS x = false := decide_eq_false h
def aheadS (a b : Int) : Int := (b - a) % 4294967296
def ordS (d : Int) : Int := if d = 0 then 0 else if d < 2147483648 then 1 else if d = 2147483648 then 3 else 2
def nextS (a : Int) : Int := (a + 1) % 4294967296
/-- What Order and Next answer. -/
def orderA (a b : Int) : Int × Int := if isS a ∧ isS b then (ordS (aheadS a b), 0) else (0, 1000)
def nextA (a : Int) : Int × Int := if isS a then (nextS a, 0) else (0, 1000)

theorem mayBe_c (x : Int) (w : World) : Calls Try.prog 14 #[.int .i64 x] w fun e w' => e = .returned (.bool (okS x)) ∧ w' = w := by
  have h : okS x = (x % 4294967296 == x) := by
    unfold okS
    rw [Bool.eq_iff_iff, decide_eq_true_eq, beq_iff_eq]
    omega
  rw [h]
  clear h
  go_enter Try.func14, Try.ntmps14
  go_wp2
  go_ret
  exact ⟨rfl, rfl⟩

theorem ahead_c (a b : Int) (w : World) : Calls Try.prog 16 #[.int .i64 a, .int .i64 b] w fun e w' => e = .returned (.int .u32 (aheadS a b)) ∧ w' = w := by
  have h : aheadS a b = (b % 4294967296 - a % 4294967296) % 4294967296 := by unfold aheadS; omega
  rw [h]
  clear h
  go_enter Try.func16, Try.ntmps16
  go_wp2
  go_ret
  exact ⟨rfl, rfl⟩

theorem ordered_c (d : Int) (w : World) : Calls Try.prog 15 #[.int .u32 d] w fun e w' => e = .returned (.int .i64 (ordS d)) ∧ w' = w := by
  by_cases c0 : d = 0
  · have e : ordS d = 0 := by simp [ordS, c0]
    rw [e]
    clear e
    go_enter Try.func15, Try.ntmps15
    go_wp2
    go_ret
    exact ⟨rfl, rfl⟩
  · by_cases c1 : d < 2147483648
    · have e : ordS d = 1 := by simp [ordS, c0, c1]
      rw [e]
      clear e
      go_enter Try.func15, Try.ntmps15
      go_wp2
      go_ret
      exact ⟨rfl, rfl⟩
    · by_cases c2 : d = 2147483648
      · have e : ordS d = 3 := by simp [ordS, c2]
        rw [e]
        clear e
        go_enter Try.func15, Try.ntmps15
        go_wp2
        go_ret
        exact ⟨rfl, rfl⟩
      · have e : ordS d = 2 := by simp [ordS, c0, c1, c2]
        rw [e]
        clear e
        go_enter Try.func15, Try.ntmps15
        go_wp2
        go_ret
        exact ⟨rfl, rfl⟩

theorem order_yes (a b : Int) (w : World) (ha : isS a) (hb : isS b) : Calls Try.prog 8 #[.int .i64 a, .int .i64 b] w fun e w' => e = .returned (.tuple #[.int .i64 (ordS (aheadS a b)), .int .i64 0]) ∧ w' = w := by
  have U0 : Hid (∀ w, _) := fun w => mayBe_c a w
  have U1 : Hid (∀ w, _) := fun w => mayBe_c b w
  have U2 : Hid (∀ w, _) := fun w => ahead_c a b w
  have U3 : Hid (∀ w, _) := fun w => ordered_c (aheadS a b) w
  rw [okS_yes _ ha] at U0
  rw [okS_yes _ hb] at U1
  generalize ordS (aheadS a b) = O at U3 ⊢
  generalize aheadS a b = D at U2 U3
  clear ha hb
  go_enter Try.func8, Try.ntmps8
  go_wp2_with fail
  refine (U0.out _).mono ?_; rintro e w1 ⟨rfl, rfl⟩
  go_wp2_with fail
  refine (U1.out _).mono ?_; rintro e w1 ⟨rfl, rfl⟩
  go_wp2_with fail
  refine (U2.out _).mono ?_; rintro e w1 ⟨rfl, rfl⟩
  go_wp2_with fail
  refine (U3.out _).mono ?_; rintro e w1 ⟨rfl, rfl⟩
  go_wp2
  go_ret2
  exact ⟨rfl, rfl⟩

theorem order_no (a b : Int) (w : World) (h : ¬ (isS a ∧ isS b)) : Calls Try.prog 8 #[.int .i64 a, .int .i64 b] w fun e w' => e = .returned (.tuple #[.int .i64 0, .int .i64 1000]) ∧ w' = w := by
  have U0 : Hid (∀ w, _) := fun w => mayBe_c a w
  have U1 : Hid (∀ w, _) := fun w => mayBe_c b w
  by_cases ha : isS a
  · have hb : ¬ isS b := fun hb => h ⟨ha, hb⟩
    rw [okS_yes _ ha] at U0
    rw [okS_no _ hb] at U1
    clear ha hb h
    go_enter Try.func8, Try.ntmps8
    go_wp2_with fail
    refine (U0.out _).mono ?_; rintro e w1 ⟨rfl, rfl⟩
    go_wp2_with fail
    refine (U1.out _).mono ?_; rintro e w1 ⟨rfl, rfl⟩
    go_wp2
    go_ret2
    exact ⟨rfl, rfl⟩
  · rw [okS_no _ ha] at U0
    clear ha h
    go_enter Try.func8, Try.ntmps8
    go_wp2_with fail
    refine (U0.out _).mono ?_; rintro e w1 ⟨rfl, rfl⟩
    go_wp2
    go_ret2
    exact ⟨rfl, rfl⟩

theorem order_c (a b : Int) (w : World) : Calls Try.prog 8 #[.int .i64 a, .int .i64 b] w fun e w' => e = .returned (.tuple #[.int .i64 (orderA a b).1, .int .i64 (orderA a b).2]) ∧ w' = w := by
  by_cases h : isS a ∧ isS b
  · have e : orderA a b = (ordS (aheadS a b), 0) := by unfold orderA; rw [if_pos h]
    rw [e]
    exact order_yes a b w h.1 h.2
  · have e : orderA a b = (0, 1000) := by unfold orderA; rw [if_neg h]
    rw [e]
    exact order_no a b w h

theorem next_yes (a : Int) (w : World) (ha : isS a) : Calls Try.prog 10 #[.int .i64 a] w fun e w' => e = .returned (.tuple #[.int .i64 (nextS a), .int .i64 0]) ∧ w' = w := by
  have U0 : Hid (∀ w, _) := fun w => mayBe_c a w
  rw [okS_yes _ ha] at U0
  rw [nextS]
  clear ha
  go_enter Try.func10, Try.ntmps10
  go_wp2_with fail
  refine (U0.out _).mono ?_; rintro e w1 ⟨rfl, rfl⟩
  go_wp2
  go_ret2
  exact ⟨rfl, rfl⟩

theorem next_no (a : Int) (w : World) (ha : ¬ isS a) : Calls Try.prog 10 #[.int .i64 a] w fun e w' => e = .returned (.tuple #[.int .i64 0, .int .i64 1000]) ∧ w' = w := by
  have U0 : Hid (∀ w, _) := fun w => mayBe_c a w
  rw [okS_no _ ha] at U0
  clear ha
  go_enter Try.func10, Try.ntmps10
  go_wp2_with fail
  refine (U0.out _).mono ?_; rintro e w1 ⟨rfl, rfl⟩
  go_wp2
  go_ret2
  exact ⟨rfl, rfl⟩

theorem next_c (a : Int) (w : World) : Calls Try.prog 10 #[.int .i64 a] w fun e w' => e = .returned (.tuple #[.int .i64 (nextA a).1, .int .i64 (nextA a).2]) ∧ w' = w := by
  by_cases h : isS a
  · have e : nextA a = (nextS a, 0) := by unfold nextA; rw [if_pos h]
    rw [e]
    exact next_yes a w h
  · have e : nextA a = (0, 1000) := by unfold nextA; rw [if_neg h]
    rw [e]
    exact next_no a w h

/-! ### The references -/
theorem within_32 (x : Int) (w : World) : Calls Try.prog 17 #[.int .i64 x, .int .i64 32] w fun e w' => e = .returned (.bool (okS x)) ∧ w' = w := by
  by_cases h0 : x < 0
  · have e : okS x = false := by unfold okS; rw [decide_eq_false_iff_not]; omega
    rw [e]
    clear e
    go_enter Try.func17, Try.ntmps17
    go_wp2
    go_ret
    exact ⟨rfl, rfl⟩
  · have hs : ∀ w, (Op.shift BinOp.shl IntKind.i64 1 IntKind.i64 32).run Try.prog w = .ok (.int .i64 4294967296) w := fun _ => by kernel_rfl
    have e : okS x = decide (x < 4294967296) := by unfold okS; rw [decide_eq_decide]; omega
    rw [e]
    clear e
    go_enter Try.func17, Try.ntmps17
    go_wp2
    go_ret
    exact ⟨rfl, rfl⟩

theorem rorder_c (a b : Int) (w : World) : Calls Try.prog 9 #[.int .i64 a, .int .i64 b] w fun e w' => e = .returned (.tuple #[.int .i64 (orderA a b).1, .int .i64 (orderA a b).2]) ∧ w' = w := by
  have U0 : Hid (∀ w, _) := fun w => within_32 a w
  have U1 : Hid (∀ w, _) := fun w => within_32 b w
  by_cases ha : isS a
  · by_cases hb : isS b
    · have e : orderA a b = (ordS (aheadS a b), 0) := by unfold orderA; rw [if_pos ⟨ha, hb⟩]
      have hd : aheadS a b = (b % 4294967296 - a % 4294967296) % 4294967296 := by unfold aheadS; omega
      rw [okS_yes _ ha] at U0
      rw [okS_yes _ hb] at U1
      rw [e, hd]
      clear e hd ha hb
      obtain ⟨D, HD⟩ : ∃ D, (b % 4294967296 - a % 4294967296) % 4294967296 = D := ⟨_, rfl⟩
      rw [HD]
      by_cases c0 : D = 0
      · have e : ordS D = 0 := by simp [ordS, c0]
        rw [e]
        clear e
        go_enter Try.func9, Try.ntmps9
        go_wp2_with fail
        refine (U0.out _).mono ?_; rintro e w1 ⟨rfl, rfl⟩
        go_wp2_with fail
        refine (U1.out _).mono ?_; rintro e w1 ⟨rfl, rfl⟩
        go_wp2
        go_ret2
        exact ⟨rfl, rfl⟩
      · by_cases c1 : D < 2147483648
        · have e : ordS D = 1 := by simp [ordS, c0, c1]
          rw [e]
          clear e
          go_enter Try.func9, Try.ntmps9
          go_wp2_with fail
          refine (U0.out _).mono ?_; rintro e w1 ⟨rfl, rfl⟩
          go_wp2_with fail
          refine (U1.out _).mono ?_; rintro e w1 ⟨rfl, rfl⟩
          go_wp2
          go_ret2
          exact ⟨rfl, rfl⟩
        · by_cases c2 : D = 2147483648
          · have e : ordS D = 3 := by simp [ordS, c2]
            rw [e]
            clear e
            go_enter Try.func9, Try.ntmps9
            go_wp2_with fail
            refine (U0.out _).mono ?_; rintro e w1 ⟨rfl, rfl⟩
            go_wp2_with fail
            refine (U1.out _).mono ?_; rintro e w1 ⟨rfl, rfl⟩
            go_wp2
            go_ret2
            exact ⟨rfl, rfl⟩
          · have e : ordS D = 2 := by simp [ordS, c0, c1, c2]
            rw [e]
            clear e
            go_enter Try.func9, Try.ntmps9
            go_wp2_with fail
            refine (U0.out _).mono ?_; rintro e w1 ⟨rfl, rfl⟩
            go_wp2_with fail
            refine (U1.out _).mono ?_; rintro e w1 ⟨rfl, rfl⟩
            go_wp2
            go_ret2
            exact ⟨rfl, rfl⟩
    · have e : orderA a b = (0, 1000) := by unfold orderA; rw [if_neg (fun h => hb h.2)]
      rw [okS_yes _ ha] at U0
      rw [okS_no _ hb] at U1
      rw [e]
      clear e ha hb
      go_enter Try.func9, Try.ntmps9
      go_wp2_with fail
      refine (U0.out _).mono ?_; rintro e w1 ⟨rfl, rfl⟩
      go_wp2_with fail
      refine (U1.out _).mono ?_; rintro e w1 ⟨rfl, rfl⟩
      go_wp2
      go_ret2
      exact ⟨rfl, rfl⟩
  · have e : orderA a b = (0, 1000) := by unfold orderA; rw [if_neg (fun h => ha h.1)]
    rw [okS_no _ ha] at U0
    rw [e]
    clear e ha
    go_enter Try.func9, Try.ntmps9
    go_wp2_with fail
    refine (U0.out _).mono ?_; rintro e w1 ⟨rfl, rfl⟩
    go_wp2
    go_ret2
    exact ⟨rfl, rfl⟩

theorem rnext_c (a : Int) (w : World) : Calls Try.prog 11 #[.int .i64 a] w fun e w' => e = .returned (.tuple #[.int .i64 (nextA a).1, .int .i64 (nextA a).2]) ∧ w' = w := by
  have U0 : Hid (∀ w, _) := fun w => within_32 a w
  by_cases ha : isS a
  · have e : nextA a = (nextS a, 0) := by unfold nextA; rw [if_pos ha]
    rw [okS_yes _ ha] at U0
    unfold isS at ha
    rw [e, nextS]
    clear e
    go_enter Try.func11, Try.ntmps11
    go_wp2_with fail
    refine (U0.out _).mono ?_; rintro e w1 ⟨rfl, rfl⟩
    go_wp2
    go_ret2
    exact ⟨rfl, rfl⟩
  · have e : nextA a = (0, 1000) := by unfold nextA; rw [if_neg ha]
    rw [okS_no _ ha] at U0
    rw [e]
    clear e ha
    go_enter Try.func11, Try.ntmps11
    go_wp2_with fail
    refine (U0.out _).mono ?_; rintro e w1 ⟨rfl, rfl⟩
    go_wp2
    go_ret2
    exact ⟨rfl, rfl⟩
end Go.Proofs.Ytdagnklofejchaa

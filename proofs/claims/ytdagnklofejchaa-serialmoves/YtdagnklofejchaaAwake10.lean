/-
  The contract of the laws' own 'awake' of layer 10: it answers true. Order and Next with their answers named.
-/
import Derived.Test.YtdagnklofejchaaSerial
namespace Go.Proofs.Ytdagnklofejchaa
open Go.ChangeShapes Go.WideShapes Go.ChangeAt Go.RowKit Go.Pin Go.PlainAid

theorem order_is (a b O E : Int) (w : World) (h : orderA a b = (O, E)) : Calls Try.prog 8 #[.int .i64 a, .int .i64 b] w fun e w' => e = .returned (.tuple #[.int .i64 O, .int .i64 E]) ∧ w' = w := by
  have := order_c a b w
  rw [h] at this
  exact this
theorem next_is (a O E : Int) (w : World) (h : nextA a = (O, E)) : Calls Try.prog 10 #[.int .i64 a] w fun e w' => e = .returned (.tuple #[.int .i64 O, .int .i64 E]) ∧ w' = w := by
  have := next_c a w
  rw [h] at this
  exact this
theorem orderA_yes {a b : Int} (ha : isS a) (hb : isS b) : orderA a b = (ordS (aheadS a b), 0) := by unfold orderA; rw [if_pos ⟨ha, hb⟩]
theorem orderA_no {a b : Int} (h : ¬ (isS a ∧ isS b)) : orderA a b = (0, 1000) := by unfold orderA; rw [if_neg h]
theorem nextA_yes {a : Int} (ha : isS a) : nextA a = (nextS a, 0) := by unfold nextA; rw [if_pos ha]
theorem nextA_no {a : Int} (h : ¬ isS a) : nextA a = (0, 1000) := by unfold nextA; rw [if_neg h]
theorem ordS_same {d : Int} (h : d = 0) : ordS d = 0 := by unfold ordS; rw [if_pos h]
theorem ordS_before {d : Int} (h0 : 0 < d) (h1 : d < 2147483648) : ordS d = 1 := by unfold ordS; rw [if_neg (by omega), if_pos h1]
theorem ordS_after {d : Int} (h0 : 2147483648 < d) : ordS d = 2 := by unfold ordS; rw [if_neg (by omega), if_neg (by omega), if_neg (by omega)]
/-- Each before, behind, and at itself. -/
theorem order_before {a b : Int} (ha : isS a) (hb : isS b) (h0 : 0 < (b - a) % 4294967296) (h1 : (b - a) % 4294967296 < 2147483648) : orderA a b = (1, 0) := by
  rw [orderA_yes ha hb, aheadS, ordS_before h0 h1]
theorem order_after {a b : Int} (ha : isS a) (hb : isS b) (h0 : 2147483648 < (b - a) % 4294967296) : orderA a b = (2, 0) := by
  rw [orderA_yes ha hb, aheadS, ordS_after h0]
theorem order_same {a : Int} (ha : isS a) : orderA a a = (0, 0) := by
  rw [orderA_yes ha ha, aheadS, ordS_same (by omega)]

theorem awake10_yes (w : World) : Calls Try.prog 13 #[] w fun e w' => e = .returned (.bool true) ∧ w' = w := by
  have H1 : orderA 4294967295 0 = (1, 0) := by decide
  have H2 : orderA 0 2147483648 = (3, 0) := by decide
  have H3 : nextA 4294967295 = (0, 0) := by decide
  have H4 : nextA (-1) = (0, 1000) := by decide
  go_enter Try.func13, Try.ntmps13
  go_wp2_with fail
  refine (order_is _ _ _ _ _ H1).mono ?_; rintro e w1 ⟨rfl, rfl⟩
  go_wp2_with fail
  refine (order_is _ _ _ _ _ H2).mono ?_; rintro e w1 ⟨rfl, rfl⟩
  go_wp2_with fail
  refine (next_is _ _ _ _ H3).mono ?_; rintro e w1 ⟨rfl, rfl⟩
  go_wp2_with fail
  refine (next_is _ _ _ _ H4).mono ?_; rintro e w1 ⟨rfl, rfl⟩
  go_wp2_with (go_at_call 12; refine (num_any _ _).mono ?_; rintro e w2 ⟨rfl, rfl⟩)
  go_ret
  exact ⟨rfl, rfl⟩
end Go.Proofs.Ytdagnklofejchaa

/-
  The contract of the laws' own 'awake' of layer 1: it answers true.
-/
import Derived.Test.YtkijidgocbpbiaaBe
namespace Go.Proofs.Ytkijidgocbpbiaa
open Go.ChangeShapes Go.WideShapes Go.ChangeAt Go.RowKit Go.Pin Go.PlainAid

theorem awake_put (w : World) : Calls Try.prog 8 #[.int .i64 258, .int .i64 2] w fun e w' => e = .returned (.tuple #[.string ⟨#[1, 2]⟩, .int .i64 0]) ∧ Below w.heap.size w w' := put_ok 258 2 w (by unfold inB; omega)
theorem awake_get (w : World) : Calls Try.prog 10 #[.string ⟨#[120, 1, 2, 3, 4]⟩, .int .i64 1, .int .i64 4] w fun e w' => e = .returned (.tuple #[.int .i64 16909060, .int .i64 0]) ∧ w' = w :=
  get_ok ⟨#[120, 1, 2, 3, 4]⟩ 1 4 w (by decide) (by decide) (by decide)

theorem awake_yes (w : World) : Calls Try.prog 13 #[] w fun e w' => e = .returned (.bool true) ∧ Below w.heap.size w w' := by
  go_enter Try.func13, Try.ntmps13
  go_wp2_with fail
  refine (awake_put _).mono ?_; rintro e w1 ⟨rfl, hb⟩
  go_wp2_with fail
  refine (awake_get _).mono ?_; rintro e w2 ⟨rfl, rfl⟩
  go_wp2_with fail
  refine (put_no 256 1 _ (by unfold inB; omega)).mono ?_; rintro e w2 ⟨rfl, rfl⟩
  go_wp2_with fail
  refine (get_end ⟨#[120]⟩ 0 2 _ (by decide) (by decide) (by decide) (by decide)).mono ?_; rintro e w2 ⟨rfl, rfl⟩
  go_wp2_with fail
  refine (get_no ⟨#[120, 121, 122]⟩ 0 3 _ (by omega)).mono ?_; rintro e w2 ⟨rfl, rfl⟩
  go_wp2_with (go_at_call 12; refine (num_any _ _).mono ?_; rintro e w2 ⟨rfl, rfl⟩)
  go_ret
  exact ⟨rfl, hb⟩
end Go.Proofs.Ytkijidgocbpbiaa

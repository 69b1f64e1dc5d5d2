/-
  The contract of the laws' own 'awake' of layer 8: it answers true. Put and Get of package fqdn with their answers named.
-/
import Derived.Test.YteaediobcjednaaFqdnGet
import Derived.Test.YteaediobcjednaaNum
namespace Go.Proofs.Yteaediobcjednaa
open Go.ChangeShapes Go.WideShapes Go.ChangeAt Go.RowKit Go.Pin Go.PlainAid

theorem fPut_is (f : Int) (n S : ByteArray) (E : Int) (w : World) (hn : n.size ≤ maxLen) (h : fqA (putF f (bs n)) = (S, E)) :
    Calls Try.prog 7 #[.int .i64 f, .string n] w fun e w' => e = .returned (.tuple #[.string S, .int .i64 E]) ∧ Below w.heap.size w w' := by
  have := fPut_c f n w hn
  rw [h] at this
  exact this
theorem fGet_yes (s N : ByteArray) (v : Int) (w : World) (hs : s.size ≤ 281474976710656) (h : getF (bs s) = some (v, bs N)) :
    Calls Try.prog 9 #[.string s] w fun e w' => e = .returned (.tuple #[.int .i64 v, .string N, .int .i64 0]) ∧ Below w.heap.size w w' := by
  have := fGet_c s w hs
  rw [h] at this
  simp only [fqG, mk_bs] at this
  exact this
theorem fGet_no (s : ByteArray) (w : World) (hs : s.size ≤ 281474976710656) (h : getF (bs s) = none) :
    Calls Try.prog 9 #[.string s] w fun e w' => e = .returned (.tuple #[.int .i64 0, .string ⟨#[]⟩, .int .i64 800]) ∧ Below w.heap.size w w' := by
  have := fGet_c s w hs
  rw [h] at this
  exact this
/-- The laws' flags: four bits, one of them set. -/
theorem flag_any (x : Int) : ∃ m K : Int, bits .and .i64 x 15 = m ∧ bits .or .i64 m 4 = K ∧ mayF K = true := by
  refine ⟨x % 16, bits .or .i64 (x % 16) 4, i64_mask 4 x (by omega), rfl, ?_⟩
  have h : x % 16 = 0 ∨ x % 16 = 1 ∨ x % 16 = 2 ∨ x % 16 = 3 ∨ x % 16 = 4 ∨ x % 16 = 5 ∨ x % 16 = 6 ∨ x % 16 = 7 ∨ x % 16 = 8 ∨ x % 16 = 9 ∨ x % 16 = 10 ∨ x % 16 = 11 ∨ x % 16 = 12 ∨ x % 16 = 13 ∨ x % 16 = 14 ∨ x % 16 = 15 := by omega
  rcases h with h | h | h | h | h | h | h | h | h | h | h | h | h | h | h | h <;> rw [h] <;> decide +kernel

set_option maxHeartbeats 1000000 in
theorem awake8_yes (w : World) : Calls Try.prog 12 #[] w fun e w' => e = .returned (.bool true) ∧ Below w.heap.size w w' := by
  go_enter Try.func12, Try.ntmps12
  go_wp2_with fail
  refine (fPut_is 5 ⟨#[97, 46, 108, 97, 110]⟩ ⟨#[5, 255, 255, 1, 97, 3, 108, 97, 110, 0]⟩ 0 _ (by decide) (by decide +kernel)).mono ?_; rintro e w1 ⟨rfl, B⟩
  go_wp2_with fail
  refine (fGet_yes ⟨#[5, 255, 255, 1, 97, 3, 108, 97, 110, 0]⟩ ⟨#[97, 46, 108, 97, 110]⟩ 5 _ (by decide) (by decide +kernel)).mono ?_; rintro e w2 ⟨rfl, hb⟩
  replace B := bel_trans B hb
  clear hb
  go_wp2_with fail
  refine (fGet_yes ⟨#[4, 0, 0, 1, 66]⟩ ⟨#[98]⟩ 4 _ (by decide) (by decide +kernel)).mono ?_; rintro e w3 ⟨rfl, hb⟩
  replace B := bel_trans B hb
  clear hb
  go_wp2_with fail
  refine (fGet_no ⟨#[1, 0, 0, 1, 98, 0]⟩ _ (by decide) (by decide +kernel)).mono ?_; rintro e w4 ⟨rfl, hb⟩
  replace B := bel_trans B hb
  clear hb
  go_wp2_with fail
  refine (fPut_is 1 ⟨#[97]⟩ ⟨#[]⟩ 800 _ (by decide) (by decide +kernel)).mono ?_; rintro e w5 ⟨rfl, hb⟩
  replace B := bel_trans B hb
  clear hb
  go_wp2_with (go_at_call 11; refine (num_any _ _).mono ?_; rintro e w6 ⟨rfl, rfl⟩)
  go_ret
  exact ⟨rfl, B⟩

end Go.Proofs.Yteaediobcjednaa

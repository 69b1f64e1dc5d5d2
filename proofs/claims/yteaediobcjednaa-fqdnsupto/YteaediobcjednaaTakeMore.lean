/-
  Contracts of package taker: how many bytes are left; all of them.
-/
import Derived.Test.YteaediobcjednaaOBase
import Derived.BigQuiet
namespace Go.Proofs.Yteaediobcjednaa
open Go.ChangeShapes Go.WideShapes Go.ChangeAt Go.RowKit Go.Pin Go.PlainAid

theorem left_failed (b : Nat) (s : ByteArray) (x : Tk) (w : World) (h : TkAt w b s x) (hf : x.f = true) : Calls Try.prog 38 #[.pointer (some ⟨b, 0, none⟩)] w fun e w' => e = .returned (.int .i64 0) ∧ w' = w := by
  obtain ⟨c0, c1, c2, fz, lt, _, _⟩ := h
  rw [hf] at c2
  go_enter Try.func38, Try.ntmps38
  go_wp2
  go_ret
  exact ⟨rfl, rfl⟩
theorem left_ok (b : Nat) (s : ByteArray) (x : Tk) (w : World) (h : TkAt w b s x) (hf : x.f = false) (hs : s.size ≤ 1125899906842624) : Calls Try.prog 38 #[.pointer (some ⟨b, 0, none⟩)] w fun e w' => e = .returned (.int .i64 (s.size - x.at_)) ∧ Below w.heap.size w w' := by
  obtain ⟨c0, c1, c2, fz, lt, r, _⟩ := h
  obtain ⟨r0, r1⟩ := r hf
  rw [hf] at c2
  have hsz : (s.size : Int) ≤ 1125899906842624 := by omega
  clear fz
  go_enter Try.func38, Try.ntmps38
  go_wp2
  go_quiet (fail)
  go_wp2
  go_ret
  exact ⟨rfl, below_drewN (Below.refl _ _) _⟩
/-- How many bytes are left. -/
def restN (s : ByteArray) (x : Tk) : Nat := if x.f then 0 else (s.size - x.at_).toNat
theorem left_c (b : Nat) (s : ByteArray) (x : Tk) (w : World) (h : TkAt w b s x) (hs : s.size ≤ 1125899906842624) : Calls Try.prog 38 #[.pointer (some ⟨b, 0, none⟩)] w fun e w' => e = .returned (.int .i64 (restN s x)) ∧ Below w.heap.size w w' := by
  unfold restN
  cases hf : x.f with
  | true => exact (left_failed b s x w h hf).mono fun e w' ⟨h1, h2⟩ => ⟨h1, by rw [h2]; exact Below.refl _ _⟩
  | false =>
    have hr := h.rg hf
    have := left_ok b s x w h hf hs
    rw [if_neg (by simp), show (((s.size - x.at_).toNat : Nat) : Int) = s.size - x.at_ by omega]
    exact this
/-- All that is left. -/
def restT (s : ByteArray) (x : Tk) : ByteArray × Tk := textT s (restN s x) x
theorem rest_size (s : ByteArray) (x : Tk) : (restT s x).1.size ≤ s.size := by
  unfold restT textT
  split
  · exact Nat.zero_le _
  · split
    · simp only [ByteArray.size_extract]; omega
    · exact Nat.zero_le _
end Go.Proofs.Yteaediobcjednaa

/-
  Contracts of the document's own reader of messages: num, at every state.
-/
import Derived.Test.YtdmooggmoihggaaGreatDoorDnsRefPut2
import Derived.Test.YtdmooggmoihggaaGreatDoorRrRefGet
namespace Go.Proofs.YtdmooggmoihggaaGreatDoor
set_option maxRecDepth 100000
open Go.ChangeShapes Go.WideShapes Go.ChangeAt Go.RowKit Go.Pin Go.PlainAid

set_option maxRecDepth 100000 in
set_option maxHeartbeats 1000000 in
theorem dNum_no (b : Nat) (s : ByteArray) (x : Tk) (k : Nat) (w : World) (hk : k = 1 ∨ k = 2 ∨ k = 4) (hs : s.size ≤ 1125899906842624) (h : TkAt w b s x) (hn : x.f = true ∨ (getB s x.at_ k).2 ≠ 0) :
    Calls Tryz.prog 23 #[.pointer (some ⟨b, 0, none⟩), .int .i64 k] w fun e w' => e = .returned (.int .i64 0) ∧ TkAt w' b s { x with f := true } ∧ Turn b w w' := by
  have HG : Hid (∀ w, _) := fun w => rget_b s x.at_ k w hk (by unfold maxLen; omega)
  have K1 : Hid (∀ n, TkAt (w.drewN n) b s x) := fun n => h.below (below_drewN (Below.refl _ _) n) h.lt
  have U1 : Hid (∀ n, Turn b w (w.drewN n)) := fun n => Turn.of_below (below_drewN (Below.refl _ _) n) h.lt
  generalize (getB s x.at_ k).1 = v at *
  generalize (getB s x.at_ k).2 = er at *
  obtain ⟨c0, c1, c2, fz, lt, _, _⟩ := h
  have f2 := fz 2
  clear fz hk hs
  cases hf : x.f
  · have her : (er == 0) = false := by
      rcases hn with h | h
      · rw [hf] at h; cases h
      · simpa using h
    rw [hf] at c2
    clear hn
    go_enter Tryz.func23, Tryz.ntmps23
    go_wp2_with fail
    go_quiet ((go_at_call 59; exact Calls.quiet_of_same (HG.out _)))
    go_wp2
    go_ret
    exact ⟨rfl, (K1.out _).fail, (U1.out _).trans (Turn.set _ _ _)⟩
  · rw [hf] at c2
    clear hn
    go_enter Tryz.func23, Tryz.ntmps23
    go_wp2_with fail
    go_quiet ((go_at_call 59; exact Calls.quiet_of_same (HG.out _)))
    go_wp2
    go_ret
    exact ⟨rfl, (K1.out _).fail, (U1.out _).trans (Turn.set _ _ _)⟩
set_option maxRecDepth 100000 in
set_option maxHeartbeats 1000000 in
theorem dNum_yes (b : Nat) (s : ByteArray) (x : Tk) (k : Nat) (w : World) (hk : k = 1 ∨ k = 2 ∨ k = 4) (hs : s.size ≤ 1125899906842624) (h : TkAt w b s x) (hf : x.f = false) (h0 : (getB s x.at_ k).2 = 0) :
    Calls Tryz.prog 23 #[.pointer (some ⟨b, 0, none⟩), .int .i64 k] w fun e w' => e = .returned (.int .i64 (getB s x.at_ k).1) ∧ TkAt w' b s ⟨x.at_ + k, false⟩ ∧ Turn b w w' := by
  have HG : Hid (∀ w, _) := fun w => rget_b s x.at_ k w hk (by unfold maxLen; omega)
  obtain ⟨r0, r1⟩ := h.rg hf
  have hle : x.at_ + k ≤ s.size := by
    unfold getB at h0
    rw [if_neg (by omega)] at h0
    by_cases hh : (s.size : Int) < x.at_ + k
    · rw [if_pos hh] at h0; simp at h0
    · omega
  rw [h0] at HG
  have R1 : Hid (∀ n w', w' = ((w.drewN n).setCell ⟨b, 1, none⟩ (.int .i64 (x.at_ + k))) → TkAt w' b s ⟨x.at_ + k, false⟩) := fun n w' h2 => by
    rw [h2]
    have := (h.below (below_drewN (Below.refl w.heap.size w) n) h.lt).set1 (x.at_ + k) (fun _ => ⟨by omega, hle⟩) ⟨by omega, by omega⟩
    rw [show ({ x with at_ := x.at_ + k } : Tk) = ⟨x.at_ + k, false⟩ by rw [← hf]] at this
    exact this
  have U1 : Hid (∀ n, Turn b w (w.drewN n)) := fun n => Turn.of_below (below_drewN (Below.refl _ _) n) h.lt
  generalize (getB s x.at_ k).1 = v at *
  obtain ⟨c0, c1, c2, fz, lt, _, _⟩ := h
  have f1 := fz 1
  rw [hf] at c2
  have hw : IntKind.i64.wrap (x.at_ + k) = x.at_ + k := wrap_in _ (by omega) (by omega)
  have hr : x.at_ + k ≤ 1125899906842624 := by omega
  clear fz hk h0
  go_enter Tryz.func23, Tryz.ntmps23
  go_wp2_with fail
  go_quiet ((go_at_call 59; exact Calls.quiet_of_same (HG.out _)))
  go_wp2
  go_ret
  exact ⟨rfl, R1.out _ _ rfl, (U1.out _).trans (Turn.set _ _ _)⟩
theorem dNum_c (b : Nat) (s : ByteArray) (x : Tk) (k : Nat) (w : World) (hk : k = 1 ∨ k = 2 ∨ k = 4) (hs : s.size ≤ 1125899906842624) (h : TkAt w b s x) :
    Calls Tryz.prog 23 #[.pointer (some ⟨b, 0, none⟩), .int .i64 k] w fun e w' => e = .returned (.int .i64 (numT s k x).1) ∧ TkAt w' b s (numT s k x).2 ∧ Turn b w w' := by
  unfold numT
  cases hf : x.f with
  | true =>
    have := dNum_no b s x k w hk hs h (.inl hf)
    have e : ({ x with f := true } : Tk) = x := by cases x; simp only at hf; subst hf; rfl
    rw [e] at this
    exact this
  | false =>
    by_cases h0 : (getB s x.at_ k).2 = 0
    · rw [if_neg (by simp), if_pos h0]; exact dNum_yes b s x k w hk hs h hf h0
    · rw [if_neg (by simp), if_neg h0]; exact dNum_no b s x k w hk hs h (.inr h0)
end Go.Proofs.YtdmooggmoihggaaGreatDoor

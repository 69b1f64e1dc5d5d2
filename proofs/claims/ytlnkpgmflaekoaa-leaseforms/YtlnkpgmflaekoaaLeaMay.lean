/-
  Contracts of package lease: May and its parts, Live.
-/
import Derived.Test.YtlnkpgmflaekoaaLeaMem
import Derived.Deep.QuietTactic
import Derived.Deep.RegionHeld3
namespace Go.Proofs.Ytlnkpgmflaekoaa
open Go.ChangeShapes Go.WideShapes Go.ChangeAt Go.RowKit Go.Pin Go.PlainAid

theorem lWithin_c (a x b : Int) (w : World) : Calls Try.prog 13 #[.int .i64 a, .int .i64 x, .int .i64 b] w fun e w' => e = .returned (.bool (fromTo a x b)) ∧ w' = w := by
  by_cases h0 : a ≤ x
  · have h1 : decide (a ≤ x) = true := by simpa using h0
    have h2 : fromTo a x b = decide (x ≤ b) := by simp [fromTo, h0]
    rw [h2]
    go_enter Try.func13, Try.ntmps13
    go_wp2
    go_ret
    exact ⟨rfl, rfl⟩
  · have h1 : decide (a ≤ x) = false := by simpa using h0
    have h2 : fromTo a x b = false := by simp [fromTo, h0]
    rw [h2]
    go_enter Try.func13, Try.ntmps13
    go_wp2
    go_ret
    exact ⟨rfl, rfl⟩

theorem named_c (l : Lea) (w : World) : Calls Try.prog 18 #[lv l] w fun e w' => e = .returned (.bool (namedL l)) ∧ Below w.heap.size w w' := by
  obtain ⟨h, st, c, u, n, won⟩ := l
  have A0 : Hid (Below w.heap.size w (w.alloc (.cells (cellsL ⟨h, st, c, u, n, won⟩) 23))) := (Below.refl _ _).alloc (Nat.le_refl _) _
  simp only [lv, cellsL, namedL] at *
  cases he : n.toList.isEmpty
  all_goals
    go_enter Try.func18, Try.ntmps18
    go_wp2
    go_ret
    exact ⟨rfl, A0.out⟩

theorem stands_c (l : Lea) (w : World) : Calls Try.prog 15 #[lv l] w fun e w' => e = .returned (.bool (standsL l)) ∧ Below w.heap.size w w' := by
  have HN : Hid (∀ w, _) := fun w => named_c l w
  have A0 : Hid (Below w.heap.size w (w.alloc (.cells (cellsL l) 23))) := (Below.refl _ _).alloc (Nat.le_refl _) _
  obtain ⟨V, hv⟩ : ∃ V, standsL l = V := ⟨_, rfl⟩
  rw [hv]
  unfold standsL at hv
  obtain ⟨h, st, c, u, n, won⟩ := l
  generalize namedL ⟨h, st, c, u, n, won⟩ = N at *
  simp only [lv, cellsL] at *
  by_cases s0 : st = 0
  · subst s0
    simp at hv; subst hv
    go_enter Try.func15, Try.ntmps15
    go_wp2_with fail
    refine (HN.out _).mono ?_; rintro e w1 ⟨rfl, hb⟩
    go_wp2
    go_ret
    exact ⟨rfl, bel_trans A0.out hb⟩
  by_cases s3 : st = 3
  · subst s3
    simp at hv; subst hv
    go_enter Try.func15, Try.ntmps15
    go_wp2_with fail
    refine (HN.out _).mono ?_; rintro e w1 ⟨rfl, hb⟩
    go_wp2
    go_ret
    exact ⟨rfl, bel_trans A0.out hb⟩
  by_cases s1 : st = 1
  · subst s1
    simp at hv
    cases hc : c.toList.isEmpty
    · simp [hc] at hv; subst hv
      go_enter Try.func15, Try.ntmps15
      go_wp2_with fail
      refine (HN.out _).mono ?_; rintro e w1 ⟨rfl, hb⟩
      go_wp2
      go_ret
      exact ⟨rfl, bel_trans A0.out hb⟩
    · simp [hc] at hv; subst hv
      go_enter Try.func15, Try.ntmps15
      go_wp2
      go_ret
      exact ⟨rfl, A0.out⟩
  by_cases s2 : st = 2
  · subst s2
    simp at hv
    cases hc : c.toList.isEmpty
    · cases hn : n.toList.isEmpty
      · simp [hc, hn] at hv; subst hv
        go_enter Try.func15, Try.ntmps15
        go_wp2
        go_ret
        exact ⟨rfl, A0.out⟩
      · simp [hc, hn] at hv; subst hv
        go_enter Try.func15, Try.ntmps15
        go_wp2
        go_ret
        exact ⟨rfl, A0.out⟩
    · simp [hc] at hv; subst hv
      go_enter Try.func15, Try.ntmps15
      go_wp2
      go_ret
      exact ⟨rfl, A0.out⟩
  simp [s0, s1, s2, s3] at hv; subst hv
  go_enter Try.func15, Try.ntmps15
  go_wp2
  go_ret
  exact ⟨rfl, A0.out⟩

theorem lMay_c (l : Lea) (w : World) (hn : l.n.size ≤ maxLen) : Calls Try.prog 7 #[lv l] w fun e w' => e = .returned (.bool (mayLea l)) ∧ Below w.heap.size w w' := by
  have H1 : Hid (∀ w, _) := fun w => lWithin_c 2 l.h 254 w
  have H2 : Hid (∀ w, _) := fun w => lWithin_c 0 l.u 1099511627776 w
  have H3 : Hid (∀ w, _) := fun w => may_c l.n w hn
  have H4 : Hid (∀ w, _) := fun w => stands_c l w
  have A0 : Hid (Below w.heap.size w (w.alloc (.cells (cellsL l) 23))) := (Below.refl _ _).alloc (Nat.le_refl _) _
  have BX : Hid (BoxL (w.alloc (.cells (cellsL l) 23)) w.heap.size l) := BoxL.new w l
  have hcell : Hid (∀ (w' : World), BoxL w' w.heap.size l → _) := fun w' hh => hh.all
  have hbel : Hid (∀ w' w'', BoxL w' w.heap.size l → Below w'.heap.size w' w'' → BoxL w'' w.heap.size l) := fun w' w'' h1 h2 => h1.below h2
  rw [mayLea_is]
  generalize fromTo 2 l.h 254 = k1 at *
  generalize fromTo 0 l.u 1099511627776 = k3 at *
  generalize mayL (bs l.n) = k4 at *
  generalize standsL l = k5 at *
  have hd : decide ((l.c.size : Int) ≤ 16) = _ := rfl
  generalize hk2 : decide ((l.c.size : Int) ≤ 16) = k2 at *
  clear hn hd
  simp only [lv, cellsL] at *
  go_enter Try.func7, Try.ntmps7
  go_wp2_with fail
  refine (H1.out _).mono ?_; rintro e w1 ⟨rfl, rfl⟩
  cases k1
  · go_wp2
    go_ret
    exact ⟨rfl, A0.out⟩
  cases k2
  · go_wp2
    go_ret
    exact ⟨rfl, A0.out⟩
  go_wp2_with fail
  refine (H2.out _).mono ?_; rintro e w1 ⟨rfl, rfl⟩
  cases k3
  · go_wp2
    go_ret
    exact ⟨rfl, A0.out⟩
  go_wp2_with fail
  refine (H3.out _).mono ?_; rintro e w2 ⟨rfl, hb⟩
  cases k4
  · go_wp2
    go_ret
    exact ⟨rfl, bel_trans A0.out hb⟩
  obtain ⟨c0, c1, c2, c3, c4, c5⟩ := hcell.out _ (hbel.out _ _ BX.out hb)
  go_wp2_with fail
  refine (H4.out _).mono ?_; rintro e w3 ⟨rfl, hb2⟩
  go_wp2
  go_ret
  exact ⟨ret_bool (by simp), bel_trans (bel_trans A0.out hb) hb2⟩

theorem lLive_c (l : Lea) (now : Int) (w : World) (hn : l.n.size ≤ maxLen) : Calls Try.prog 9 #[lv l, .int .i64 now] w fun e w' => e = .returned (.bool (liveLea l now)) ∧ Below w.heap.size w w' := by
  have H1 : Hid (∀ w, _) := fun w => lMay_c l w hn
  have A0 : Hid (Below w.heap.size w (w.alloc (.cells (cellsL l) 23))) := (Below.refl _ _).alloc (Nat.le_refl _) _
  have BX : Hid (BoxL (w.alloc (.cells (cellsL l) 23)) w.heap.size l) := BoxL.new w l
  have hcell : Hid (∀ (w' : World), BoxL w' w.heap.size l → _) := fun w' hh => hh.all
  have hbel : Hid (∀ w' w'', BoxL w' w.heap.size l → Below w'.heap.size w' w'' → BoxL w'' w.heap.size l) := fun w' w'' h1 h2 => h1.below h2
  rw [liveLea_is]
  generalize mayLea l = k1 at *
  simp only [lv, cellsL] at *
  clear hn
  go_enter Try.func9, Try.ntmps9
  go_wp2_with fail
  refine (H1.out _).mono ?_; rintro e w1 ⟨rfl, hb⟩
  obtain ⟨c0, c1, c2, c3, c4, c5⟩ := hcell.out _ (hbel.out _ _ BX.out hb)
  cases k1
  · go_wp2
    go_ret
    exact ⟨rfl, bel_trans A0.out hb⟩
  by_cases hs : l.st = 0
  · have hd : decide (l.st = 0) = true := by simpa using hs
    go_wp2
    go_ret
    exact ⟨ret_bool (by simp [hs]), bel_trans A0.out hb⟩
  · have hd : decide (l.st = 0) = false := by simpa using hs
    go_wp2
    go_ret
    exact ⟨ret_bool (by simp [hs]), bel_trans A0.out hb⟩

theorem lMay_is (l : Lea) (b : Bool) (w : World) (hn : l.n.size ≤ maxLen) (h : mayLea l = b) : Calls Try.prog 7 #[lv l] w fun e w' => e = .returned (.bool b) ∧ Below w.heap.size w w' := by
  rw [← h]; exact lMay_c l w hn
theorem lLive_is (l : Lea) (now : Int) (b : Bool) (w : World) (hn : l.n.size ≤ maxLen) (h : liveLea l now = b) : Calls Try.prog 9 #[lv l, .int .i64 now] w fun e w' => e = .returned (.bool b) ∧ Below w.heap.size w w' := by
  rw [← h]; exact lLive_c l now w hn

end Go.Proofs.Ytlnkpgmflaekoaa

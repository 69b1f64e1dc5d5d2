/-
  Contracts of the references' LeaseMay and Live.
-/
import Derived.Test.YtlnkpgmflaekoaaLeaMem
import Derived.Test.YtlnkpgmflaekoaaNameRef
import Derived.Deep.QuietTactic
import Derived.BigQuiet
import Derived.Deep.RegionHeld3
namespace Go.Proofs.Ytlnkpgmflaekoaa
open Go.ChangeShapes Go.WideShapes Go.ChangeAt Go.RowKit Go.Pin Go.PlainAid

set_option maxHeartbeats 2000000 in
theorem rLMay_c (l : Lea) (w : World) (hn : l.n.size ≤ 1048576) : Calls Try.prog 8 #[lv l] w fun e w' => e = .returned (.bool (mayLea l)) ∧ Below w.heap.size w w' := by
  have HN : Hid (∀ w, _) := fun w => nameMay_c l.n w hn
  have A0 : Hid (Below w.heap.size w (w.alloc (.cells (cellsL l) 23))) := (Below.refl _ _).alloc (Nat.le_refl _) _
  have BX : Hid (BoxL (w.alloc (.cells (cellsL l) 23)) w.heap.size l) := BoxL.new w l
  have hcell : Hid (∀ (w' : World), BoxL w' w.heap.size l → _) := fun w' hh => hh.all
  have hbel : Hid (∀ w' w'', BoxL w' w.heap.size l → Below w'.heap.size w' w'' → BoxL w'' w.heap.size l) := fun w' w'' h1 h2 => h1.below h2
  obtain ⟨V, hv⟩ : ∃ V, mayLea l = V := ⟨_, rfl⟩
  have hV := hv
  rw [hv]
  rw [mayLea_is, standsL, namedL] at hV
  clear hn hv
  generalize mayL (bs l.n) = M at *
  have Hv : Hid (_ = V) := hV
  clear hV
  obtain ⟨h, st, c, u, n, won⟩ := l
  simp only [lv, cellsL] at *
  by_cases d1p : h < 2
  · have d1 : decide (h < 2) = true := by simpa using d1p
    obtain rfl : V = false := by
      rw [← Hv.out]
      cases M <;> simp [fromTo] <;> omega
    clear Hv BX hcell hbel HN
    go_enter Try.func8, Try.ntmps8
    go_wp2
    go_ret
    exact ⟨rfl, A0.out⟩
  have d1 : decide (h < 2) = false := by simpa using d1p
  by_cases d2p : h > 254
  · have d2 : decide (h > 254) = true := by simpa using d2p
    obtain rfl : V = false := by
      rw [← Hv.out]
      cases M <;> simp [fromTo] <;> omega
    clear Hv BX hcell hbel HN
    go_enter Try.func8, Try.ntmps8
    go_wp2
    go_ret
    exact ⟨rfl, A0.out⟩
  have d2 : decide (h > 254) = false := by simpa using d2p
  by_cases d3p : st < 0
  · have d3 : decide (st < 0) = true := by simpa using d3p
    obtain rfl : V = false := by
      rw [← Hv.out]
      rw [if_neg (by omega), if_neg (by omega), if_neg (by omega)]; simp
    clear Hv BX hcell hbel HN
    go_enter Try.func8, Try.ntmps8
    go_wp2
    go_ret
    exact ⟨rfl, A0.out⟩
  have d3 : decide (st < 0) = false := by simpa using d3p
  by_cases d4p : st > 3
  · have d4 : decide (st > 3) = true := by simpa using d4p
    obtain rfl : V = false := by
      rw [← Hv.out]
      rw [if_neg (by omega), if_neg (by omega), if_neg (by omega)]; simp
    clear Hv BX hcell hbel HN
    go_enter Try.func8, Try.ntmps8
    go_wp2
    go_ret
    exact ⟨rfl, A0.out⟩
  have d4 : decide (st > 3) = false := by simpa using d4p
  by_cases d5p : (c.size : Int) > 16
  · have d5 : decide ((c.size : Int) > 16) = true := by simpa using d5p
    obtain rfl : V = false := by
      rw [← Hv.out]
      cases M <;> simp [fromTo] <;> omega
    clear Hv BX hcell hbel HN
    go_enter Try.func8, Try.ntmps8
    go_wp2
    go_ret
    exact ⟨rfl, A0.out⟩
  have d5 : decide ((c.size : Int) > 16) = false := by simpa using d5p
  by_cases d6p : u < 0
  · have d6 : decide (u < 0) = true := by simpa using d6p
    obtain rfl : V = false := by
      rw [← Hv.out]
      cases M <;> simp [fromTo] <;> omega
    clear Hv BX hcell hbel HN
    go_enter Try.func8, Try.ntmps8
    go_wp2
    go_ret
    exact ⟨rfl, A0.out⟩
  have d6 : decide (u < 0) = false := by simpa using d6p
  by_cases d7p : u > 1099511627776
  · have d7 : decide (u > 1099511627776) = true := by simpa using d7p
    obtain rfl : V = false := by
      rw [← Hv.out]
      cases M <;> simp [fromTo] <;> omega
    clear Hv BX hcell hbel HN
    go_enter Try.func8, Try.ntmps8
    go_wp2
    go_ret
    exact ⟨rfl, A0.out⟩
  have d7 : decide (u > 1099511627776) = false := by simpa using d7p
  have hV : (M && standsL ⟨h, st, c, u, n, won⟩) = V := by
    rw [← Hv.out]
    have e1 : fromTo 2 h 254 = true := by simp [fromTo]; omega
    have e2 : fromTo 0 u 1099511627776 = true := by simp [fromTo]; omega
    have e3 : decide ((c.size : Int) ≤ 16) = true := by simp; omega
    simp only [standsL, namedL, e1, e2, e3, Bool.true_and]
  clear Hv
  cases M
  · obtain rfl : V = false := by rw [← hV]; rfl
    go_enter Try.func8, Try.ntmps8
    go_wp2_with fail
    refine (HN.out _).mono ?_; rintro e w1 ⟨rfl, hb⟩
    go_wp2
    go_ret
    exact ⟨rfl, bel_trans A0.out hb⟩
  have Hs : Hid (standsL ⟨h, st, c, u, n, won⟩ = V) := by rw [← hV]; rfl
  clear hV
  go_enter Try.func8, Try.ntmps8
  go_wp2_with fail
  refine (HN.out _).mono ?_; rintro e w1 ⟨rfl, hb⟩
  obtain ⟨c0, c1, c2, c3, c4, c5⟩ := hcell.out _ (hbel.out _ _ BX.out hb)
  have B : Hid (Below w.heap.size w w1) := bel_trans A0.out hb
  clear BX hcell hbel HN A0 hb d1 d2 d3 d4 d5 d6 d7
  cases hc : c.toList.isEmpty <;> cases hn : n.toList.isEmpty <;> cases won
  all_goals
    rcases (by omega : st = 0 ∨ st = 1 ∨ st = 2 ∨ st = 3) with rfl | rfl | rfl | rfl
  all_goals
    go_wp2
    go_ret
    exact ⟨ret_bool (by rw [← Hs.out]; simp [standsL, namedL, hc, hn]), B.out⟩

theorem rLLive_c (l : Lea) (now : Int) (w : World) (hn : l.n.size ≤ 1048576) : Calls Try.prog 10 #[lv l, .int .i64 now] w fun e w' => e = .returned (.bool (liveLea l now)) ∧ Below w.heap.size w w' := by
  have H1 : Hid (∀ w, _) := fun w => rLMay_c l w hn
  have A0 : Hid (Below w.heap.size w (w.alloc (.cells (cellsL l) 23))) := (Below.refl _ _).alloc (Nat.le_refl _) _
  have BX : Hid (BoxL (w.alloc (.cells (cellsL l) 23)) w.heap.size l) := BoxL.new w l
  have hcell : Hid (∀ (w' : World), BoxL w' w.heap.size l → _) := fun w' hh => hh.all
  have hbel : Hid (∀ w' w'', BoxL w' w.heap.size l → Below w'.heap.size w' w'' → BoxL w'' w.heap.size l) := fun w' w'' h1 h2 => h1.below h2
  rw [liveLea_is]
  generalize mayLea l = k1 at *
  simp only [lv, cellsL] at *
  clear hn
  go_enter Try.func10, Try.ntmps10
  go_wp2_with fail
  refine (H1.out _).mono ?_; rintro e w1 ⟨rfl, hb⟩
  obtain ⟨c0, c1, c2, c3, c4, c5⟩ := hcell.out _ (hbel.out _ _ BX.out hb)
  cases k1
  · go_wp2
    go_ret
    exact ⟨rfl, bel_trans A0.out hb⟩
  by_cases hs : l.st = 0
  · have hd : decide (l.st = 0) = true := by simpa using hs
    go_wp2
    go_ret
    exact ⟨ret_bool (by simp [hs]), bel_trans A0.out hb⟩
  · have hd : decide (l.st = 0) = false := by simpa using hs
    go_wp2
    go_ret
    exact ⟨ret_bool (by simp [hs]), bel_trans A0.out hb⟩

theorem rLMay_is (l : Lea) (b : Bool) (w : World) (hn : l.n.size ≤ 1048576) (h : mayLea l = b) : Calls Try.prog 8 #[lv l] w fun e w' => e = .returned (.bool b) ∧ Below w.heap.size w w' := by
  rw [← h]; exact rLMay_c l w hn
theorem rLLive_is (l : Lea) (now : Int) (b : Bool) (w : World) (hn : l.n.size ≤ 1048576) (h : liveLea l now = b) : Calls Try.prog 10 #[lv l, .int .i64 now] w fun e w' => e = .returned (.bool b) ∧ Below w.heap.size w w' := by
  rw [← h]; exact rLLive_c l now w hn

end Go.Proofs.Ytlnkpgmflaekoaa

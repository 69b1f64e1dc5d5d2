/-
  The contract of the laws' own 'awake' of layer 12: it answers true.
-/
import Derived.Test.YtlnkpgmflaekoaaLeaMay
import Derived.RegionTactic
import Derived.Deep.DeepCutAuto
import Derived.Deep.CutRange
namespace Go.Proofs.Ytlnkpgmflaekoaa
open Go.ChangeShapes Go.WideShapes Go.ChangeAt Go.RowKit Go.Pin Go.PlainAid

/-- What awake asks of. -/
def aL : Lea := ⟨10, 2, ⟨#[109, 101]⟩, 50, ⟨#[97]⟩, true⟩
def bL : Lea := ⟨10, 0, ⟨#[]⟩, 50, ⟨#[]⟩, false⟩
def dL : Lea := ⟨10, 1, ⟨#[109, 101]⟩, 0, ⟨#[97]⟩, false⟩
theorem aL_may : mayLea aL = true := by decide +kernel
theorem aL_49 : liveLea aL 49 = true := by decide +kernel
theorem aL_50 : liveLea aL 50 = false := by decide +kernel
theorem zL_may : mayLea zeroLea = false := by decide +kernel
theorem bL_0 : liveLea bL 0 = false := by decide +kernel
theorem dL_may : mayLea dL = false := by decide +kernel

theorem awake12_yes (w : World) : Calls Try.prog 11 #[] w fun e w' => e = .returned (.bool true) ∧ Below w.heap.size w w' := by
  have sz : ∀ (l : Lea), l.n.size ≤ 1 → l.n.size ≤ maxLen := fun l h => by unfold maxLen; omega
  have H1 : Hid (∀ w, _) := fun w => lMay_is aL _ w (sz _ (by decide)) aL_may
  have H2 : Hid (∀ w, _) := fun w => lLive_is aL 49 _ w (sz _ (by decide)) aL_49
  have H3 : Hid (∀ w, _) := fun w => lLive_is aL 50 _ w (sz _ (by decide)) aL_50
  have H4 : Hid (∀ w, _) := fun w => lMay_is zeroLea _ w (sz _ (by decide)) zL_may
  have H5 : Hid (∀ w, _) := fun w => lLive_is bL 0 _ w (sz _ (by decide)) bL_0
  have H6 : Hid (∀ w, _) := fun w => lMay_is dL _ w (sz _ (by decide)) dL_may
  clear sz
  simp only [lv, cellsL, aL, bL, dL, zeroLea] at H1 H2 H3 H4 H5 H6
  obtain ⟨w0, hw0⟩ : ∃ w0, w.alloc (.cells (cellsL aL) 23) = w0 := ⟨_, rfl⟩
  have A0 : Hid (Below w.heap.size w w0) := by rw [← hw0]; exact (Below.refl _ _).alloc (Nat.le_refl _) _
  have BX : Hid (BoxL w0 w.heap.size aL) := by rw [← hw0]; exact BoxL.new w aL
  have hcell : Hid (∀ (w' : World), Below w0.heap.size w0 w' → _) := fun w' hb => (BX.out.below hb).all
  simp only [cellsL, aL] at hw0 hcell
  have Hw : Hid (_ = w0) := hw0
  clear hw0 BX
  go_enter Try.func11, Try.ntmps11
  go_upto_region 2 with fail
  rw [Hw.out]
  clear Hw
  obtain ⟨c0, c1, c2, c3, c4, c5⟩ := hcell.out _ (Below.refl _ _)
  go_wp2_with fail
  refine (num_any _ _).mono ?_; rintro e x0 ⟨rfl, h⟩; subst h
  go_wp2_with fail
  refine (H1.out _).mono ?_; rintro e x1 ⟨rfl, hb⟩
  have B1 : Hid (Below x0.heap.size x0 x1) := hb
  clear hb c0 c1 c2 c3 c4 c5 H1
  obtain ⟨c0, c1, c2, c3, c4, c5⟩ := hcell.out _ B1.out
  go_wp2_with fail
  refine (H2.out _).mono ?_; rintro e x2 ⟨rfl, hb⟩
  have B2 : Hid (Below x0.heap.size x0 x2) := bel_trans B1.out hb
  clear hb c0 c1 c2 c3 c4 c5 H2 B1
  obtain ⟨c0, c1, c2, c3, c4, c5⟩ := hcell.out _ B2.out
  go_wp2_with fail
  refine (H3.out _).mono ?_; rintro e x3 ⟨rfl, hb⟩
  have B3 : Hid (Below x0.heap.size x0 x3) := bel_trans B2.out hb
  clear hb c0 c1 c2 c3 c4 c5 H3 B2
  go_wp2_with fail
  refine (H4.out _).mono ?_; rintro e x4 ⟨rfl, hb⟩
  have B4 : Hid (Below x0.heap.size x0 x4) := bel_trans B3.out hb
  clear hb H4 B3
  go_wp2_with fail
  refine (H5.out _).mono ?_; rintro e x5 ⟨rfl, hb⟩
  have B5 : Hid (Below x0.heap.size x0 x5) := bel_trans B4.out hb
  clear hb H5 B4
  go_wp2_with fail
  refine (H6.out _).mono ?_; rintro e x6 ⟨rfl, hb⟩
  go_wp2
  go_ret
  exact ⟨rfl, bel_trans A0.out (bel_trans B5.out hb)⟩
end Go.Proofs.Ytlnkpgmflaekoaa

/-
  Contracts of the references' RrMay and what it asks, at every record of at most 1048576 letters a text.
-/
import Derived.Test.YtedbihckdbpebaaRrMay
import Derived.Test.YtedbihckdbpebaaBName
namespace Go.Proofs.Ytedbihckdbpebaa
open Go.ChangeShapes Go.WideShapes Go.ChangeAt Go.RowKit Go.Pin Go.PlainAid

theorem within_c (x : Int) (w : World) : Calls Try.prog 71 #[.int .i64 x, .int .i64 32] w fun e w' => e = .returned (.bool (upB x 4294967295)) ∧ w' = w := by
  have hsh : ∀ w, (Op.shift BinOp.shl IntKind.i64 1 IntKind.i64 32).run Try.prog w = .ok (.int .i64 4294967296) w := fun _ => by kernel_rfl
  by_cases h0 : 0 ≤ x
  · have h1 : decide (0 ≤ x) = true := by simpa using h0
    have h2 : upB x 4294967295 = decide (x < 4294967296) := by simp [upB, h0]; omega
    rw [h2]
    go_enter Try.func71, Try.ntmps71
    go_wp2
    go_ret
    exact ⟨rfl, rfl⟩
  · have h1 : decide (0 ≤ x) = false := by simpa using h0
    have h2 : upB x 4294967295 = false := by simp [upB, h0]
    rw [h2]
    go_enter Try.func71, Try.ntmps71
    go_wp2
    go_ret
    exact ⟨rfl, rfl⟩

set_option maxHeartbeats 1000000 in
theorem refMay_1 (n : ByteArray) (ttl ad : Int) (tg tx : ByteArray) (se : Int) (w : World) (hn : n.size ≤ 1048576) (ht : tg.size ≤ 1048576) : Calls Try.prog 55 #[rv ⟨n, 1, ttl, ad, tg, tx, se⟩] w fun e w' => e = .returned (.bool (mayR ⟨n, 1, ttl, ad, tg, tx, se⟩)) ∧ Below w.heap.size w w' := by
  have HN : Hid (∀ w, _) := fun w => nameMay_c n w hn
  have HT : Hid (∀ w, _) := fun w => nameMay_c tg w ht
  have hq : Hid (∀ w, _) := fun w => eql_rec ⟨n, 1, ttl, ad, tg, tx, se⟩ ⟨n, 1, ttl, ad, ⟨#[]⟩, ⟨#[]⟩, 0⟩ w
  have hm : mayR ⟨n, 1, ttl, ad, tg, tx, se⟩ = (sameR ⟨n, 1, ttl, ad, tg, tx, se⟩ ⟨n, 1, ttl, ad, ⟨#[]⟩, ⟨#[]⟩, 0⟩ && mayL (bs n) && upB ttl 1048576 && upB ad 4294967295 && mayL (bs tg) && upB se 4294967295 && decide (tx.size ≤ 64)) := rfl
  generalize mayR ⟨n, 1, ttl, ad, tg, tx, se⟩ = V at *
  generalize sameR ⟨n, 1, ttl, ad, tg, tx, se⟩ ⟨n, 1, ttl, ad, ⟨#[]⟩, ⟨#[]⟩, 0⟩ = sm at *
  generalize mayL (bs n) = m1 at *
  generalize mayL (bs tg) = m2 at *
  have U2 : Hid (∀ w, _) := fun w => within_c ad w
  have U3 : Hid (∀ w, _) := fun w => within_c se w
  generalize upB ad 4294967295 = u2 at *
  generalize upB se 4294967295 = u3 at *
  have HR : Hid (∀ t, _) := fun t => RecAt.new w ⟨n, 1, ttl, ad, tg, tx, se⟩ t
  have hq' := hq.out
  clear hq
  simp only [rv] at hq' HR ⊢
  go_enter Try.func55, Try.ntmps55
  cases sm
  · go_wp2
    go_ret
    exact ⟨ret_bool (by simp [hm]), (((Below.refl _ _).alloc (Nat.le_refl _) _).alloc (by simp) _)⟩
  go_wp2_with fail
  refine (HN.out _).mono ?_; rintro e w1 ⟨rfl, hb1⟩
  have hR := ((HR.out 49).below ((Below.refl _ _).alloc (Nat.le_refl _) _) (by simp)).below hb1 (by simp; omega)
  have B1 : Hid (Below w.heap.size w w1) := bel_trans (((Below.refl _ _).alloc (Nat.le_refl _) _).alloc (by simp) _) hb1
  have hR1 : Hid (_) := hR
  obtain ⟨c0, c1, c2, c3, c4, c5, c6, _, hlt⟩ := hR
  clear hb1 HR
  cases m1
  · go_wp2
    go_ret
    exact ⟨ret_bool (by simp [hm]), B1.out⟩
  by_cases ht0 : 0 ≤ ttl
  · by_cases ht1 : ttl ≤ 1048576
    · have e1 : upB ttl 1048576 = true := by simp [upB, ht0, ht1]
      rw [e1] at hm
      have d0 : decide (0 ≤ ttl) = true := by simpa using ht0
      have d1 : decide (ttl ≤ 1048576) = true := by simpa using ht1
      go_wp2_with fail
      refine (U2.out _).mono ?_; rintro e w3 ⟨rfl, rfl⟩
      cases u2
      · go_wp2
        go_ret
        exact ⟨ret_bool (by simp [hm]), B1.out⟩
      go_wp2_with fail
      refine (HT.out _).mono ?_; rintro e w4 ⟨rfl, hb4⟩
      have hR4 := hR1.out.below hb4 hlt
      have B4 : Hid (Below w.heap.size w w4) := bel_trans B1.out hb4
      clear c0 c1 c2 c3 c4 c5 c6 hb4 hR1 B1
      obtain ⟨c0, c1, c2, c3, c4, c5, c6, _, hlt4⟩ := hR4
      cases m2
      · go_wp2
        go_ret
        exact ⟨ret_bool (by simp [hm]), B4.out⟩
      go_wp2_with fail
      refine (U3.out _).mono ?_; rintro e w3 ⟨rfl, rfl⟩
      cases u3
      · go_wp2
        go_ret
        exact ⟨ret_bool (by simp [hm]), B4.out⟩
      go_wp2
      go_ret
      exact ⟨ret_bool (by simp [hm]; omega), B4.out⟩
    · have e1 : upB ttl 1048576 = false := by simp [upB, ht1]
      rw [e1] at hm
      have d0 : decide (0 ≤ ttl) = true := by simpa using ht0
      have d1 : decide (ttl ≤ 1048576) = false := by simpa using ht1
      go_wp2
      go_ret
      exact ⟨ret_bool (by simp [hm]), B1.out⟩
  · have e1 : upB ttl 1048576 = false := by simp [upB, ht0]
    rw [e1] at hm
    have d0 : decide (0 ≤ ttl) = false := by simpa using ht0
    go_wp2
    go_ret
    exact ⟨ret_bool (by simp [hm]), B1.out⟩
set_option maxHeartbeats 1000000 in
theorem refMay_2 (n : ByteArray) (ttl ad : Int) (tg tx : ByteArray) (se : Int) (w : World) (hn : n.size ≤ 1048576) (ht : tg.size ≤ 1048576) : Calls Try.prog 55 #[rv ⟨n, 2, ttl, ad, tg, tx, se⟩] w fun e w' => e = .returned (.bool (mayR ⟨n, 2, ttl, ad, tg, tx, se⟩)) ∧ Below w.heap.size w w' := by
  have HN : Hid (∀ w, _) := fun w => nameMay_c n w hn
  have HT : Hid (∀ w, _) := fun w => nameMay_c tg w ht
  have hq : Hid (∀ w, _) := fun w => eql_rec ⟨n, 2, ttl, ad, tg, tx, se⟩ ⟨n, 2, ttl, 0, tg, ⟨#[]⟩, 0⟩ w
  have hm : mayR ⟨n, 2, ttl, ad, tg, tx, se⟩ = (sameR ⟨n, 2, ttl, ad, tg, tx, se⟩ ⟨n, 2, ttl, 0, tg, ⟨#[]⟩, 0⟩ && mayL (bs n) && upB ttl 1048576 && upB ad 4294967295 && mayL (bs tg) && upB se 4294967295 && decide (tx.size ≤ 64)) := rfl
  generalize mayR ⟨n, 2, ttl, ad, tg, tx, se⟩ = V at *
  generalize sameR ⟨n, 2, ttl, ad, tg, tx, se⟩ ⟨n, 2, ttl, 0, tg, ⟨#[]⟩, 0⟩ = sm at *
  generalize mayL (bs n) = m1 at *
  generalize mayL (bs tg) = m2 at *
  have U2 : Hid (∀ w, _) := fun w => within_c ad w
  have U3 : Hid (∀ w, _) := fun w => within_c se w
  generalize upB ad 4294967295 = u2 at *
  generalize upB se 4294967295 = u3 at *
  have HR : Hid (∀ t, _) := fun t => RecAt.new w ⟨n, 2, ttl, ad, tg, tx, se⟩ t
  have hq' := hq.out
  clear hq
  simp only [rv] at hq' HR ⊢
  go_enter Try.func55, Try.ntmps55
  cases sm
  · go_wp2
    go_ret
    exact ⟨ret_bool (by simp [hm]), (((Below.refl _ _).alloc (Nat.le_refl _) _).alloc (by simp) _)⟩
  go_wp2_with fail
  refine (HN.out _).mono ?_; rintro e w1 ⟨rfl, hb1⟩
  have hR := ((HR.out 49).below ((Below.refl _ _).alloc (Nat.le_refl _) _) (by simp)).below hb1 (by simp; omega)
  have B1 : Hid (Below w.heap.size w w1) := bel_trans (((Below.refl _ _).alloc (Nat.le_refl _) _).alloc (by simp) _) hb1
  have hR1 : Hid (_) := hR
  obtain ⟨c0, c1, c2, c3, c4, c5, c6, _, hlt⟩ := hR
  clear hb1 HR
  cases m1
  · go_wp2
    go_ret
    exact ⟨ret_bool (by simp [hm]), B1.out⟩
  by_cases ht0 : 0 ≤ ttl
  · by_cases ht1 : ttl ≤ 1048576
    · have e1 : upB ttl 1048576 = true := by simp [upB, ht0, ht1]
      rw [e1] at hm
      have d0 : decide (0 ≤ ttl) = true := by simpa using ht0
      have d1 : decide (ttl ≤ 1048576) = true := by simpa using ht1
      go_wp2_with fail
      refine (U2.out _).mono ?_; rintro e w3 ⟨rfl, rfl⟩
      cases u2
      · go_wp2
        go_ret
        exact ⟨ret_bool (by simp [hm]), B1.out⟩
      go_wp2_with fail
      refine (HT.out _).mono ?_; rintro e w4 ⟨rfl, hb4⟩
      have hR4 := hR1.out.below hb4 hlt
      have B4 : Hid (Below w.heap.size w w4) := bel_trans B1.out hb4
      clear c0 c1 c2 c3 c4 c5 c6 hb4 hR1 B1
      obtain ⟨c0, c1, c2, c3, c4, c5, c6, _, hlt4⟩ := hR4
      cases m2
      · go_wp2
        go_ret
        exact ⟨ret_bool (by simp [hm]), B4.out⟩
      go_wp2_with fail
      refine (U3.out _).mono ?_; rintro e w3 ⟨rfl, rfl⟩
      cases u3
      · go_wp2
        go_ret
        exact ⟨ret_bool (by simp [hm]), B4.out⟩
      go_wp2
      go_ret
      exact ⟨ret_bool (by simp [hm]; omega), B4.out⟩
    · have e1 : upB ttl 1048576 = false := by simp [upB, ht1]
      rw [e1] at hm
      have d0 : decide (0 ≤ ttl) = true := by simpa using ht0
      have d1 : decide (ttl ≤ 1048576) = false := by simpa using ht1
      go_wp2
      go_ret
      exact ⟨ret_bool (by simp [hm]), B1.out⟩
  · have e1 : upB ttl 1048576 = false := by simp [upB, ht0]
    rw [e1] at hm
    have d0 : decide (0 ≤ ttl) = false := by simpa using ht0
    go_wp2
    go_ret
    exact ⟨ret_bool (by simp [hm]), B1.out⟩
set_option maxHeartbeats 1000000 in
theorem refMay_5 (n : ByteArray) (ttl ad : Int) (tg tx : ByteArray) (se : Int) (w : World) (hn : n.size ≤ 1048576) (ht : tg.size ≤ 1048576) : Calls Try.prog 55 #[rv ⟨n, 5, ttl, ad, tg, tx, se⟩] w fun e w' => e = .returned (.bool (mayR ⟨n, 5, ttl, ad, tg, tx, se⟩)) ∧ Below w.heap.size w w' := by
  have HN : Hid (∀ w, _) := fun w => nameMay_c n w hn
  have HT : Hid (∀ w, _) := fun w => nameMay_c tg w ht
  have hq : Hid (∀ w, _) := fun w => eql_rec ⟨n, 5, ttl, ad, tg, tx, se⟩ ⟨n, 5, ttl, 0, tg, ⟨#[]⟩, 0⟩ w
  have hm : mayR ⟨n, 5, ttl, ad, tg, tx, se⟩ = (sameR ⟨n, 5, ttl, ad, tg, tx, se⟩ ⟨n, 5, ttl, 0, tg, ⟨#[]⟩, 0⟩ && mayL (bs n) && upB ttl 1048576 && upB ad 4294967295 && mayL (bs tg) && upB se 4294967295 && decide (tx.size ≤ 64)) := rfl
  generalize mayR ⟨n, 5, ttl, ad, tg, tx, se⟩ = V at *
  generalize sameR ⟨n, 5, ttl, ad, tg, tx, se⟩ ⟨n, 5, ttl, 0, tg, ⟨#[]⟩, 0⟩ = sm at *
  generalize mayL (bs n) = m1 at *
  generalize mayL (bs tg) = m2 at *
  have U2 : Hid (∀ w, _) := fun w => within_c ad w
  have U3 : Hid (∀ w, _) := fun w => within_c se w
  generalize upB ad 4294967295 = u2 at *
  generalize upB se 4294967295 = u3 at *
  have HR : Hid (∀ t, _) := fun t => RecAt.new w ⟨n, 5, ttl, ad, tg, tx, se⟩ t
  have hq' := hq.out
  clear hq
  simp only [rv] at hq' HR ⊢
  go_enter Try.func55, Try.ntmps55
  cases sm
  · go_wp2
    go_ret
    exact ⟨ret_bool (by simp [hm]), (((Below.refl _ _).alloc (Nat.le_refl _) _).alloc (by simp) _)⟩
  go_wp2_with fail
  refine (HN.out _).mono ?_; rintro e w1 ⟨rfl, hb1⟩
  have hR := ((HR.out 49).below ((Below.refl _ _).alloc (Nat.le_refl _) _) (by simp)).below hb1 (by simp; omega)
  have B1 : Hid (Below w.heap.size w w1) := bel_trans (((Below.refl _ _).alloc (Nat.le_refl _) _).alloc (by simp) _) hb1
  have hR1 : Hid (_) := hR
  obtain ⟨c0, c1, c2, c3, c4, c5, c6, _, hlt⟩ := hR
  clear hb1 HR
  cases m1
  · go_wp2
    go_ret
    exact ⟨ret_bool (by simp [hm]), B1.out⟩
  by_cases ht0 : 0 ≤ ttl
  · by_cases ht1 : ttl ≤ 1048576
    · have e1 : upB ttl 1048576 = true := by simp [upB, ht0, ht1]
      rw [e1] at hm
      have d0 : decide (0 ≤ ttl) = true := by simpa using ht0
      have d1 : decide (ttl ≤ 1048576) = true := by simpa using ht1
      go_wp2_with fail
      refine (U2.out _).mono ?_; rintro e w3 ⟨rfl, rfl⟩
      cases u2
      · go_wp2
        go_ret
        exact ⟨ret_bool (by simp [hm]), B1.out⟩
      go_wp2_with fail
      refine (HT.out _).mono ?_; rintro e w4 ⟨rfl, hb4⟩
      have hR4 := hR1.out.below hb4 hlt
      have B4 : Hid (Below w.heap.size w w4) := bel_trans B1.out hb4
      clear c0 c1 c2 c3 c4 c5 c6 hb4 hR1 B1
      obtain ⟨c0, c1, c2, c3, c4, c5, c6, _, hlt4⟩ := hR4
      cases m2
      · go_wp2
        go_ret
        exact ⟨ret_bool (by simp [hm]), B4.out⟩
      go_wp2_with fail
      refine (U3.out _).mono ?_; rintro e w3 ⟨rfl, rfl⟩
      cases u3
      · go_wp2
        go_ret
        exact ⟨ret_bool (by simp [hm]), B4.out⟩
      go_wp2
      go_ret
      exact ⟨ret_bool (by simp [hm]; omega), B4.out⟩
    · have e1 : upB ttl 1048576 = false := by simp [upB, ht1]
      rw [e1] at hm
      have d0 : decide (0 ≤ ttl) = true := by simpa using ht0
      have d1 : decide (ttl ≤ 1048576) = false := by simpa using ht1
      go_wp2
      go_ret
      exact ⟨ret_bool (by simp [hm]), B1.out⟩
  · have e1 : upB ttl 1048576 = false := by simp [upB, ht0]
    rw [e1] at hm
    have d0 : decide (0 ≤ ttl) = false := by simpa using ht0
    go_wp2
    go_ret
    exact ⟨ret_bool (by simp [hm]), B1.out⟩
set_option maxHeartbeats 1000000 in
theorem refMay_12 (n : ByteArray) (ttl ad : Int) (tg tx : ByteArray) (se : Int) (w : World) (hn : n.size ≤ 1048576) (ht : tg.size ≤ 1048576) : Calls Try.prog 55 #[rv ⟨n, 12, ttl, ad, tg, tx, se⟩] w fun e w' => e = .returned (.bool (mayR ⟨n, 12, ttl, ad, tg, tx, se⟩)) ∧ Below w.heap.size w w' := by
  have HN : Hid (∀ w, _) := fun w => nameMay_c n w hn
  have HT : Hid (∀ w, _) := fun w => nameMay_c tg w ht
  have hq : Hid (∀ w, _) := fun w => eql_rec ⟨n, 12, ttl, ad, tg, tx, se⟩ ⟨n, 12, ttl, 0, tg, ⟨#[]⟩, 0⟩ w
  have hm : mayR ⟨n, 12, ttl, ad, tg, tx, se⟩ = (sameR ⟨n, 12, ttl, ad, tg, tx, se⟩ ⟨n, 12, ttl, 0, tg, ⟨#[]⟩, 0⟩ && mayL (bs n) && upB ttl 1048576 && upB ad 4294967295 && mayL (bs tg) && upB se 4294967295 && decide (tx.size ≤ 64)) := rfl
  generalize mayR ⟨n, 12, ttl, ad, tg, tx, se⟩ = V at *
  generalize sameR ⟨n, 12, ttl, ad, tg, tx, se⟩ ⟨n, 12, ttl, 0, tg, ⟨#[]⟩, 0⟩ = sm at *
  generalize mayL (bs n) = m1 at *
  generalize mayL (bs tg) = m2 at *
  have U2 : Hid (∀ w, _) := fun w => within_c ad w
  have U3 : Hid (∀ w, _) := fun w => within_c se w
  generalize upB ad 4294967295 = u2 at *
  generalize upB se 4294967295 = u3 at *
  have HR : Hid (∀ t, _) := fun t => RecAt.new w ⟨n, 12, ttl, ad, tg, tx, se⟩ t
  have hq' := hq.out
  clear hq
  simp only [rv] at hq' HR ⊢
  go_enter Try.func55, Try.ntmps55
  cases sm
  · go_wp2
    go_ret
    exact ⟨ret_bool (by simp [hm]), (((Below.refl _ _).alloc (Nat.le_refl _) _).alloc (by simp) _)⟩
  go_wp2_with fail
  refine (HN.out _).mono ?_; rintro e w1 ⟨rfl, hb1⟩
  have hR := ((HR.out 49).below ((Below.refl _ _).alloc (Nat.le_refl _) _) (by simp)).below hb1 (by simp; omega)
  have B1 : Hid (Below w.heap.size w w1) := bel_trans (((Below.refl _ _).alloc (Nat.le_refl _) _).alloc (by simp) _) hb1
  have hR1 : Hid (_) := hR
  obtain ⟨c0, c1, c2, c3, c4, c5, c6, _, hlt⟩ := hR
  clear hb1 HR
  cases m1
  · go_wp2
    go_ret
    exact ⟨ret_bool (by simp [hm]), B1.out⟩
  by_cases ht0 : 0 ≤ ttl
  · by_cases ht1 : ttl ≤ 1048576
    · have e1 : upB ttl 1048576 = true := by simp [upB, ht0, ht1]
      rw [e1] at hm
      have d0 : decide (0 ≤ ttl) = true := by simpa using ht0
      have d1 : decide (ttl ≤ 1048576) = true := by simpa using ht1
      go_wp2_with fail
      refine (U2.out _).mono ?_; rintro e w3 ⟨rfl, rfl⟩
      cases u2
      · go_wp2
        go_ret
        exact ⟨ret_bool (by simp [hm]), B1.out⟩
      go_wp2_with fail
      refine (HT.out _).mono ?_; rintro e w4 ⟨rfl, hb4⟩
      have hR4 := hR1.out.below hb4 hlt
      have B4 : Hid (Below w.heap.size w w4) := bel_trans B1.out hb4
      clear c0 c1 c2 c3 c4 c5 c6 hb4 hR1 B1
      obtain ⟨c0, c1, c2, c3, c4, c5, c6, _, hlt4⟩ := hR4
      cases m2
      · go_wp2
        go_ret
        exact ⟨ret_bool (by simp [hm]), B4.out⟩
      go_wp2_with fail
      refine (U3.out _).mono ?_; rintro e w3 ⟨rfl, rfl⟩
      cases u3
      · go_wp2
        go_ret
        exact ⟨ret_bool (by simp [hm]), B4.out⟩
      go_wp2
      go_ret
      exact ⟨ret_bool (by simp [hm]; omega), B4.out⟩
    · have e1 : upB ttl 1048576 = false := by simp [upB, ht1]
      rw [e1] at hm
      have d0 : decide (0 ≤ ttl) = true := by simpa using ht0
      have d1 : decide (ttl ≤ 1048576) = false := by simpa using ht1
      go_wp2
      go_ret
      exact ⟨ret_bool (by simp [hm]), B1.out⟩
  · have e1 : upB ttl 1048576 = false := by simp [upB, ht0]
    rw [e1] at hm
    have d0 : decide (0 ≤ ttl) = false := by simpa using ht0
    go_wp2
    go_ret
    exact ⟨ret_bool (by simp [hm]), B1.out⟩
set_option maxHeartbeats 1000000 in
theorem refMay_6 (n : ByteArray) (ttl ad : Int) (tg tx : ByteArray) (se : Int) (w : World) (hn : n.size ≤ 1048576) (ht : tg.size ≤ 1048576) : Calls Try.prog 55 #[rv ⟨n, 6, ttl, ad, tg, tx, se⟩] w fun e w' => e = .returned (.bool (mayR ⟨n, 6, ttl, ad, tg, tx, se⟩)) ∧ Below w.heap.size w w' := by
  have HN : Hid (∀ w, _) := fun w => nameMay_c n w hn
  have HT : Hid (∀ w, _) := fun w => nameMay_c tg w ht
  have hq : Hid (∀ w, _) := fun w => eql_rec ⟨n, 6, ttl, ad, tg, tx, se⟩ ⟨n, 6, ttl, 0, tg, ⟨#[]⟩, se⟩ w
  have hm : mayR ⟨n, 6, ttl, ad, tg, tx, se⟩ = (sameR ⟨n, 6, ttl, ad, tg, tx, se⟩ ⟨n, 6, ttl, 0, tg, ⟨#[]⟩, se⟩ && mayL (bs n) && upB ttl 1048576 && upB ad 4294967295 && mayL (bs tg) && upB se 4294967295 && decide (tx.size ≤ 64)) := rfl
  generalize mayR ⟨n, 6, ttl, ad, tg, tx, se⟩ = V at *
  generalize sameR ⟨n, 6, ttl, ad, tg, tx, se⟩ ⟨n, 6, ttl, 0, tg, ⟨#[]⟩, se⟩ = sm at *
  generalize mayL (bs n) = m1 at *
  generalize mayL (bs tg) = m2 at *
  have U2 : Hid (∀ w, _) := fun w => within_c ad w
  have U3 : Hid (∀ w, _) := fun w => within_c se w
  generalize upB ad 4294967295 = u2 at *
  generalize upB se 4294967295 = u3 at *
  have HR : Hid (∀ t, _) := fun t => RecAt.new w ⟨n, 6, ttl, ad, tg, tx, se⟩ t
  have hq' := hq.out
  clear hq
  simp only [rv] at hq' HR ⊢
  go_enter Try.func55, Try.ntmps55
  cases sm
  · go_wp2
    go_ret
    exact ⟨ret_bool (by simp [hm]), (((Below.refl _ _).alloc (Nat.le_refl _) _).alloc (by simp) _)⟩
  go_wp2_with fail
  refine (HN.out _).mono ?_; rintro e w1 ⟨rfl, hb1⟩
  have hR := ((HR.out 49).below ((Below.refl _ _).alloc (Nat.le_refl _) _) (by simp)).below hb1 (by simp; omega)
  have B1 : Hid (Below w.heap.size w w1) := bel_trans (((Below.refl _ _).alloc (Nat.le_refl _) _).alloc (by simp) _) hb1
  have hR1 : Hid (_) := hR
  obtain ⟨c0, c1, c2, c3, c4, c5, c6, _, hlt⟩ := hR
  clear hb1 HR
  cases m1
  · go_wp2
    go_ret
    exact ⟨ret_bool (by simp [hm]), B1.out⟩
  by_cases ht0 : 0 ≤ ttl
  · by_cases ht1 : ttl ≤ 1048576
    · have e1 : upB ttl 1048576 = true := by simp [upB, ht0, ht1]
      rw [e1] at hm
      have d0 : decide (0 ≤ ttl) = true := by simpa using ht0
      have d1 : decide (ttl ≤ 1048576) = true := by simpa using ht1
      go_wp2_with fail
      refine (U2.out _).mono ?_; rintro e w3 ⟨rfl, rfl⟩
      cases u2
      · go_wp2
        go_ret
        exact ⟨ret_bool (by simp [hm]), B1.out⟩
      go_wp2_with fail
      refine (HT.out _).mono ?_; rintro e w4 ⟨rfl, hb4⟩
      have hR4 := hR1.out.below hb4 hlt
      have B4 : Hid (Below w.heap.size w w4) := bel_trans B1.out hb4
      clear c0 c1 c2 c3 c4 c5 c6 hb4 hR1 B1
      obtain ⟨c0, c1, c2, c3, c4, c5, c6, _, hlt4⟩ := hR4
      cases m2
      · go_wp2
        go_ret
        exact ⟨ret_bool (by simp [hm]), B4.out⟩
      go_wp2_with fail
      refine (U3.out _).mono ?_; rintro e w3 ⟨rfl, rfl⟩
      cases u3
      · go_wp2
        go_ret
        exact ⟨ret_bool (by simp [hm]), B4.out⟩
      go_wp2
      go_ret
      exact ⟨ret_bool (by simp [hm]; omega), B4.out⟩
    · have e1 : upB ttl 1048576 = false := by simp [upB, ht1]
      rw [e1] at hm
      have d0 : decide (0 ≤ ttl) = true := by simpa using ht0
      have d1 : decide (ttl ≤ 1048576) = false := by simpa using ht1
      go_wp2
      go_ret
      exact ⟨ret_bool (by simp [hm]), B1.out⟩
  · have e1 : upB ttl 1048576 = false := by simp [upB, ht0]
    rw [e1] at hm
    have d0 : decide (0 ≤ ttl) = false := by simpa using ht0
    go_wp2
    go_ret
    exact ⟨ret_bool (by simp [hm]), B1.out⟩
set_option maxHeartbeats 1000000 in
theorem refMay_16 (n : ByteArray) (ttl ad : Int) (tg tx : ByteArray) (se : Int) (w : World) (hn : n.size ≤ 1048576) (ht : tg.size ≤ 1048576) : Calls Try.prog 55 #[rv ⟨n, 16, ttl, ad, tg, tx, se⟩] w fun e w' => e = .returned (.bool (mayR ⟨n, 16, ttl, ad, tg, tx, se⟩)) ∧ Below w.heap.size w w' := by
  have HN : Hid (∀ w, _) := fun w => nameMay_c n w hn
  have HT : Hid (∀ w, _) := fun w => nameMay_c tg w ht
  have hq : Hid (∀ w, _) := fun w => eql_rec ⟨n, 16, ttl, ad, tg, tx, se⟩ ⟨n, 16, ttl, 0, ⟨#[]⟩, tx, 0⟩ w
  have hm : mayR ⟨n, 16, ttl, ad, tg, tx, se⟩ = (sameR ⟨n, 16, ttl, ad, tg, tx, se⟩ ⟨n, 16, ttl, 0, ⟨#[]⟩, tx, 0⟩ && mayL (bs n) && upB ttl 1048576 && upB ad 4294967295 && mayL (bs tg) && upB se 4294967295 && decide (tx.size ≤ 64)) := rfl
  generalize mayR ⟨n, 16, ttl, ad, tg, tx, se⟩ = V at *
  generalize sameR ⟨n, 16, ttl, ad, tg, tx, se⟩ ⟨n, 16, ttl, 0, ⟨#[]⟩, tx, 0⟩ = sm at *
  generalize mayL (bs n) = m1 at *
  generalize mayL (bs tg) = m2 at *
  have U2 : Hid (∀ w, _) := fun w => within_c ad w
  have U3 : Hid (∀ w, _) := fun w => within_c se w
  generalize upB ad 4294967295 = u2 at *
  generalize upB se 4294967295 = u3 at *
  have HR : Hid (∀ t, _) := fun t => RecAt.new w ⟨n, 16, ttl, ad, tg, tx, se⟩ t
  have hq' := hq.out
  clear hq
  simp only [rv] at hq' HR ⊢
  go_enter Try.func55, Try.ntmps55
  cases sm
  · go_wp2
    go_ret
    exact ⟨ret_bool (by simp [hm]), (((Below.refl _ _).alloc (Nat.le_refl _) _).alloc (by simp) _)⟩
  go_wp2_with fail
  refine (HN.out _).mono ?_; rintro e w1 ⟨rfl, hb1⟩
  have hR := ((HR.out 49).below ((Below.refl _ _).alloc (Nat.le_refl _) _) (by simp)).below hb1 (by simp; omega)
  have B1 : Hid (Below w.heap.size w w1) := bel_trans (((Below.refl _ _).alloc (Nat.le_refl _) _).alloc (by simp) _) hb1
  have hR1 : Hid (_) := hR
  obtain ⟨c0, c1, c2, c3, c4, c5, c6, _, hlt⟩ := hR
  clear hb1 HR
  cases m1
  · go_wp2
    go_ret
    exact ⟨ret_bool (by simp [hm]), B1.out⟩
  by_cases ht0 : 0 ≤ ttl
  · by_cases ht1 : ttl ≤ 1048576
    · have e1 : upB ttl 1048576 = true := by simp [upB, ht0, ht1]
      rw [e1] at hm
      have d0 : decide (0 ≤ ttl) = true := by simpa using ht0
      have d1 : decide (ttl ≤ 1048576) = true := by simpa using ht1
      go_wp2_with fail
      refine (U2.out _).mono ?_; rintro e w3 ⟨rfl, rfl⟩
      cases u2
      · go_wp2
        go_ret
        exact ⟨ret_bool (by simp [hm]), B1.out⟩
      go_wp2_with fail
      refine (HT.out _).mono ?_; rintro e w4 ⟨rfl, hb4⟩
      have hR4 := hR1.out.below hb4 hlt
      have B4 : Hid (Below w.heap.size w w4) := bel_trans B1.out hb4
      clear c0 c1 c2 c3 c4 c5 c6 hb4 hR1 B1
      obtain ⟨c0, c1, c2, c3, c4, c5, c6, _, hlt4⟩ := hR4
      cases m2
      · go_wp2
        go_ret
        exact ⟨ret_bool (by simp [hm]), B4.out⟩
      go_wp2_with fail
      refine (U3.out _).mono ?_; rintro e w3 ⟨rfl, rfl⟩
      cases u3
      · go_wp2
        go_ret
        exact ⟨ret_bool (by simp [hm]), B4.out⟩
      go_wp2
      go_ret
      exact ⟨ret_bool (by simp [hm]; omega), B4.out⟩
    · have e1 : upB ttl 1048576 = false := by simp [upB, ht1]
      rw [e1] at hm
      have d0 : decide (0 ≤ ttl) = true := by simpa using ht0
      have d1 : decide (ttl ≤ 1048576) = false := by simpa using ht1
      go_wp2
      go_ret
      exact ⟨ret_bool (by simp [hm]), B1.out⟩
  · have e1 : upB ttl 1048576 = false := by simp [upB, ht0]
    rw [e1] at hm
    have d0 : decide (0 ≤ ttl) = false := by simpa using ht0
    go_wp2
    go_ret
    exact ⟨ret_bool (by simp [hm]), B1.out⟩
set_option maxHeartbeats 1000000 in
theorem refMay_49 (n : ByteArray) (ttl ad : Int) (tg tx : ByteArray) (se : Int) (w : World) (hn : n.size ≤ 1048576) (ht : tg.size ≤ 1048576) : Calls Try.prog 55 #[rv ⟨n, 49, ttl, ad, tg, tx, se⟩] w fun e w' => e = .returned (.bool (mayR ⟨n, 49, ttl, ad, tg, tx, se⟩)) ∧ Below w.heap.size w w' := by
  have HN : Hid (∀ w, _) := fun w => nameMay_c n w hn
  have HT : Hid (∀ w, _) := fun w => nameMay_c tg w ht
  have hq : Hid (∀ w, _) := fun w => eql_rec ⟨n, 49, ttl, ad, tg, tx, se⟩ ⟨n, 49, ttl, 0, ⟨#[]⟩, tx, 0⟩ w
  have hm : mayR ⟨n, 49, ttl, ad, tg, tx, se⟩ = (sameR ⟨n, 49, ttl, ad, tg, tx, se⟩ ⟨n, 49, ttl, 0, ⟨#[]⟩, tx, 0⟩ && mayL (bs n) && upB ttl 1048576 && upB ad 4294967295 && mayL (bs tg) && upB se 4294967295 && decide (tx.size ≤ 64)) := rfl
  generalize mayR ⟨n, 49, ttl, ad, tg, tx, se⟩ = V at *
  generalize sameR ⟨n, 49, ttl, ad, tg, tx, se⟩ ⟨n, 49, ttl, 0, ⟨#[]⟩, tx, 0⟩ = sm at *
  generalize mayL (bs n) = m1 at *
  generalize mayL (bs tg) = m2 at *
  have U2 : Hid (∀ w, _) := fun w => within_c ad w
  have U3 : Hid (∀ w, _) := fun w => within_c se w
  generalize upB ad 4294967295 = u2 at *
  generalize upB se 4294967295 = u3 at *
  have HR : Hid (∀ t, _) := fun t => RecAt.new w ⟨n, 49, ttl, ad, tg, tx, se⟩ t
  have hq' := hq.out
  clear hq
  simp only [rv] at hq' HR ⊢
  go_enter Try.func55, Try.ntmps55
  cases sm
  · go_wp2
    go_ret
    exact ⟨ret_bool (by simp [hm]), (((Below.refl _ _).alloc (Nat.le_refl _) _).alloc (by simp) _)⟩
  go_wp2_with fail
  refine (HN.out _).mono ?_; rintro e w1 ⟨rfl, hb1⟩
  have hR := ((HR.out 49).below ((Below.refl _ _).alloc (Nat.le_refl _) _) (by simp)).below hb1 (by simp; omega)
  have B1 : Hid (Below w.heap.size w w1) := bel_trans (((Below.refl _ _).alloc (Nat.le_refl _) _).alloc (by simp) _) hb1
  have hR1 : Hid (_) := hR
  obtain ⟨c0, c1, c2, c3, c4, c5, c6, _, hlt⟩ := hR
  clear hb1 HR
  cases m1
  · go_wp2
    go_ret
    exact ⟨ret_bool (by simp [hm]), B1.out⟩
  by_cases ht0 : 0 ≤ ttl
  · by_cases ht1 : ttl ≤ 1048576
    · have e1 : upB ttl 1048576 = true := by simp [upB, ht0, ht1]
      rw [e1] at hm
      have d0 : decide (0 ≤ ttl) = true := by simpa using ht0
      have d1 : decide (ttl ≤ 1048576) = true := by simpa using ht1
      go_wp2_with fail
      refine (U2.out _).mono ?_; rintro e w3 ⟨rfl, rfl⟩
      cases u2
      · go_wp2
        go_ret
        exact ⟨ret_bool (by simp [hm]), B1.out⟩
      go_wp2_with fail
      refine (HT.out _).mono ?_; rintro e w4 ⟨rfl, hb4⟩
      have hR4 := hR1.out.below hb4 hlt
      have B4 : Hid (Below w.heap.size w w4) := bel_trans B1.out hb4
      clear c0 c1 c2 c3 c4 c5 c6 hb4 hR1 B1
      obtain ⟨c0, c1, c2, c3, c4, c5, c6, _, hlt4⟩ := hR4
      cases m2
      · go_wp2
        go_ret
        exact ⟨ret_bool (by simp [hm]), B4.out⟩
      go_wp2_with fail
      refine (U3.out _).mono ?_; rintro e w3 ⟨rfl, rfl⟩
      cases u3
      · go_wp2
        go_ret
        exact ⟨ret_bool (by simp [hm]), B4.out⟩
      go_wp2
      go_ret
      exact ⟨ret_bool (by simp [hm]; omega), B4.out⟩
    · have e1 : upB ttl 1048576 = false := by simp [upB, ht1]
      rw [e1] at hm
      have d0 : decide (0 ≤ ttl) = true := by simpa using ht0
      have d1 : decide (ttl ≤ 1048576) = false := by simpa using ht1
      go_wp2
      go_ret
      exact ⟨ret_bool (by simp [hm]), B1.out⟩
  · have e1 : upB ttl 1048576 = false := by simp [upB, ht0]
    rw [e1] at hm
    have d0 : decide (0 ≤ ttl) = false := by simpa using ht0
    go_wp2
    go_ret
    exact ⟨ret_bool (by simp [hm]), B1.out⟩
theorem refMay_no (r : Rec) (w : World) (h : typeB r.ty = false) : Calls Try.prog 55 #[rv r] w fun e w' => e = .returned (.bool (mayR r)) ∧ Below w.heap.size w w' := by
  have hm : mayR r = false := by simp [mayR, h]
  rw [hm]
  clear hm
  obtain ⟨n, ty, ttl, ad, tg, tx, se⟩ := r
  simp only [typeB, isN, isT, Bool.or_eq_false_iff, decide_eq_false_iff_not, not_or] at h
  obtain ⟨⟨⟨h1, h2, h5, h12⟩, h6⟩, h16, h49⟩ := h
  simp only [rv]
  go_enter Try.func55, Try.ntmps55
  go_wp2
  go_ret
  exact ⟨rfl, (((Below.refl _ _).alloc (Nat.le_refl _) _).alloc (by simp) _)⟩
theorem refMay_c (r : Rec) (w : World) (hn : r.n.size ≤ 1048576) (ht : r.tg.size ≤ 1048576) : Calls Try.prog 55 #[rv r] w fun e w' => e = .returned (.bool (mayR r)) ∧ Below w.heap.size w w' := by
  cases h : typeB r.ty with
  | false => exact refMay_no r w h
  | true =>
    obtain ⟨n, ty, ttl, ad, tg, tx, se⟩ := r
    simp only [typeB, isN, isT, Bool.or_eq_true, decide_eq_true_eq] at h
    rcases h with ((rfl | rfl | rfl | rfl) | rfl) | rfl | rfl
    · exact refMay_1 n ttl ad tg tx se w hn ht
    · exact refMay_2 n ttl ad tg tx se w hn ht
    · exact refMay_5 n ttl ad tg tx se w hn ht
    · exact refMay_12 n ttl ad tg tx se w hn ht
    · exact refMay_6 n ttl ad tg tx se w hn ht
    · exact refMay_16 n ttl ad tg tx se w hn ht
    · exact refMay_49 n ttl ad tg tx se w hn ht


end Go.Proofs.Ytedbihckdbpebaa

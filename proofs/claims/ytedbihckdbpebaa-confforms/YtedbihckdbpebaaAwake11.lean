/-
  The contracts of the laws' own 'given' and 'awake' of layer 11: awake answers true. Contracts of package conf with their answers named.
-/
import Derived.Test.YtedbihckdbpebaaConfOwn
import Derived.Test.YtedbihckdbpebaaConfCopy
import Derived.Test.YtedbihckdbpebaaConfSame
import Derived.Test.YtedbihckdbpebaaBName
namespace Go.Proofs.Ytedbihckdbpebaa
open Go.ChangeShapes Go.WideShapes Go.ChangeAt Go.RowKit Go.Pin Go.PlainAid

theorem cMay_is (c : Cf) (p : CPl) (b : Bool) (w : World) (hL : CfLies w c p) (hF : CfFits c) (h : mayC c = b) : Calls Try.prog 15 #[cv c p] w fun e w' => e = .returned (.bool b) ∧ Below w.heap.size w w' := by
  rw [← h]; exact cMay_c c p w hL hF
theorem usable_is (c : Cf) (p : CPl) (x : Int) (b : Bool) (w : World) (hL : CfLies w c p) (hF : CfFits c) (h : usableC c x = b) : Calls Try.prog 17 #[cv c p, .int .i64 x] w fun e w' => e = .returned (.bool b) ∧ Below w.heap.size w w' := by
  rw [← h]; exact usable_c c p x w hL hF
theorem owner_is (c : Cf) (p : CPl) (x : Int) (s : ByteArray) (b : Bool) (w : World) (hL : CfLies w c p) (hF : CfFits c) (h : ownerC c x = (s, b)) : Calls Try.prog 9 #[cv c p, .int .i64 x] w fun e w' => e = .returned (.tuple #[.string s, .bool b]) ∧ Below w.heap.size w w' := by
  have := owner_c c p x w hL hF
  rw [h] at this; exact this
theorem reserved_is (c : Cf) (p : CPl) (x : ByteArray) (s : Int) (b : Bool) (w : World) (hL : CfLies w c p) (hF : CfFits c) (h : reservedC c x = (s, b)) : Calls Try.prog 11 #[cv c p, .string x] w fun e w' => e = .returned (.tuple #[.int .i64 s, .bool b]) ∧ Below w.heap.size w w' := by
  have := reserved_c c p x w hL hF
  rw [h] at this; exact this
theorem address_is (x a e : Int) (w : World) (h : addrA x = (a, e)) : Calls Try.prog 13 #[.int .i64 x] w fun r w' => r = .returned (.tuple #[.int .i64 a, .int .i64 e]) ∧ w' = w := by
  have := address_c x w
  rw [h] at this; exact this
theorem host_is (x h : Int) (w : World) (hh : hostA x = h) : Calls Try.prog 20 #[.int .i64 x] w fun r w' => r = .returned (.int .i64 h) ∧ w' = w := by
  rw [← hh]; exact host_c x w

/-- What awake begins with. -/
def gC : Cf := ⟨10, 13, [12], [⟨⟨#[118, 105, 112]⟩, 13⟩], 100, ⟨#[108, 97, 110]⟩, [⟨⟨#[119, 119, 119, 46, 108, 97, 110]⟩, 1, 5, 7, ⟨#[]⟩, ⟨#[]⟩, 0⟩]⟩
def bC : Cf := { gC with zo := ⟨#[]⟩ }
theorem gC_fits : CfFits gC := ⟨by unfold maxLen; decide, by unfold maxLen; decide, by unfold IsRec maxLen; decide, by unfold maxLen; decide, by unfold maxLen; decide, by unfold maxLen; decide⟩
theorem bC_fits : CfFits bC := ⟨by unfold maxLen; decide, by unfold maxLen; decide, by unfold IsRec maxLen; decide, by unfold maxLen; decide, by unfold maxLen; decide, by unfold maxLen; decide⟩
theorem gC_may : mayC gC = true := by decide +kernel
theorem bC_may : mayC bC = false := by decide +kernel
theorem gC_10 : usableC gC 10 = true := by decide +kernel
theorem gC_12 : usableC gC 12 = false := by decide +kernel
theorem gC_14 : usableC gC 14 = false := by decide +kernel
theorem gC_o13 : ownerC gC 13 = (⟨#[118, 105, 112]⟩, true) := by decide +kernel
theorem gC_vip : reservedC gC ⟨#[118, 105, 112]⟩ = (13, true) := by decide +kernel

set_option maxHeartbeats 400000 in
theorem given11_c (w : World) : Calls Try.prog 24 #[] w fun e w' => (∃ p, e = .returned (cv gC p) ∧ Rows3 w' w.heap.size gC p) ∧ Below w.heap.size w w' := by
  obtain ⟨p, hp⟩ : ∃ p : CPl, p = ⟨some ⟨w.heap.size + 1, 0, none⟩, 1, some ⟨w.heap.size + 1 + 1, 0, none⟩, 1, some ⟨w.heap.size + 1 + 1 + 1, 0, none⟩, 1⟩ := ⟨_, rfl⟩
  obtain ⟨w1, hw1⟩ : ∃ w1, w.alloc (.cells (cellsC gC p) 26) = w1 := ⟨_, rfl⟩
  have s1 : w1.heap.size = w.heap.size + 1 := by rw [← hw1]; simp
  have X1 : BoxC w1 w.heap.size gC p := by rw [← hw1]; exact BoxC.new w gC p
  obtain ⟨w2, hw2⟩ : ∃ w2, w1.alloc (.cells #[.int .i64 12] 3) = w2 := ⟨_, rfl⟩
  have s2 : w2.heap.size = w.heap.size + 1 + 1 := by rw [← hw2]; simp [s1]
  have E2 : w2.ownsRow w.heap.size 3 1 (.slice (some ⟨w.heap.size + 1, 0, none⟩) 1 1) 1 [.int .i64 12] := by
    rw [← hw2, ← s1]
    exact World.ownsRow_lit w1 #[.int .i64 12] 1 (by omega) (by unfold maxLen; omega) rfl
  obtain ⟨w3, hw3⟩ : ∃ w3, w2.alloc (.cells #[.string ⟨#[118, 105, 112]⟩, .int .i64 13] 47) = w3 := ⟨_, rfl⟩
  have s3 : w3.heap.size = w.heap.size + 1 + 1 + 1 := by rw [← hw3]; simp [s2]
  have E3 : w3.ownsRow w.heap.size 47 2 (.slice (some ⟨w.heap.size + 1 + 1, 0, none⟩) 1 1) 1 [.string ⟨#[118, 105, 112]⟩, .int .i64 13] := by
    rw [← hw3, ← s2]
    exact World.ownsRow_lit w2 #[.string ⟨#[118, 105, 112]⟩, .int .i64 13] 1 (by omega) (by unfold maxLen; omega) rfl
  obtain ⟨w4, hw4⟩ : ∃ w4, w3.alloc (.cells #[.string ⟨#[119, 119, 119, 46, 108, 97, 110]⟩, .int .i64 1, .int .i64 5, .int .i64 7, .string ⟨#[]⟩, .string ⟨#[]⟩, .int .i64 0] 49) = w4 := ⟨_, rfl⟩
  have E4 : w4.ownsRow w.heap.size 49 7 (.slice (some ⟨w.heap.size + 1 + 1 + 1, 0, none⟩) 1 1) 1 [.string ⟨#[119, 119, 119, 46, 108, 97, 110]⟩, .int .i64 1, .int .i64 5, .int .i64 7, .string ⟨#[]⟩, .string ⟨#[]⟩, .int .i64 0] := by
    rw [← hw4, ← s3]
    exact World.ownsRow_lit w3 #[.string ⟨#[119, 119, 119, 46, 108, 97, 110]⟩, .int .i64 1, .int .i64 5, .int .i64 7, .string ⟨#[]⟩, .string ⟨#[]⟩, .int .i64 0] 1 (by omega) (by unfold maxLen; omega) rfl
  have b2 : Below w1.heap.size w1 w2 := by rw [← hw2]; exact (Below.refl _ _).alloc (Nat.le_refl _) _
  have b3 : Below w2.heap.size w2 w3 := by rw [← hw3]; exact (Below.refl _ _).alloc (Nat.le_refl _) _
  have b4 : Below w3.heap.size w3 w4 := by rw [← hw4]; exact (Below.refl _ _).alloc (Nat.le_refl _) _
  have B : Hid (Below w.heap.size w w4) := by
    have b1 : Below w.heap.size w w1 := by rw [← hw1]; exact (Below.refl _ _).alloc (Nat.le_refl _) _
    exact bel_trans (bel_trans (bel_trans b1 b2) b3) b4
  have R : Hid (Rows3 w4 w.heap.size gC p) := by
    subst hp
    exact ⟨row_below (row_below E2 b3) b4, row_below E3 b4, E4⟩
  have Q : Hid (BoxC w4 w.heap.size gC p) := ((X1.below b2).below b3).below b4
  have HW : Hid ((((w.alloc (.cells (cellsC gC p) 26)).alloc (.cells #[.int .i64 12] 3)).alloc (.cells #[.string ⟨#[118, 105, 112]⟩, .int .i64 13] 47)).alloc (.cells #[.string ⟨#[119, 119, 119, 46, 108, 97, 110]⟩, .int .i64 1, .int .i64 5, .int .i64 7, .string ⟨#[]⟩, .string ⟨#[]⟩, .int .i64 0] 49) = w4) := by
    show _ = _
    rw [hw1, hw2, hw3, hw4]
  clear hw1 hw2 hw3 hw4 s1 s2 s3 X1 E2 E3 E4 b2 b3 b4
  have HP : Hid (_ = _) := hp
  clear hp
  go_enter Try.func24, Try.ntmps24
  go_wp2
  have hW := HW.out
  rw [HP.out] at hW
  simp only [cellsC, gC, List.length_cons, List.length_nil, Nat.zero_add] at hW
  rw [hW]
  obtain ⟨c0, c1, c2, c3, c4, c5, c6⟩ := Q.out.all
  have hpp := HP.out
  have HR := R.out
  have e2 : p.ea = some ⟨w.heap.size + 1, 0, none⟩ ∧ p.ec = 1 ∧ p.ra = some ⟨w.heap.size + 1 + 1, 0, none⟩ ∧ p.rc = 1 ∧ p.sa = some ⟨w.heap.size + 1 + 1 + 1, 0, none⟩ ∧ p.sc = 1 := by rw [hpp]; exact ⟨rfl, rfl, rfl, rfl, rfl, rfl⟩
  refine bodyPost_ret (v := cv gC p) ?_ rfl ⟨⟨p, rfl, HR⟩, B.out⟩
  simp [results, Try.results24, go_sem, c0, c1, c2, c3, c4, c5, c6, cv, cellsC]

theorem bC_lies {w : World} {p : CPl} (h : CfLies w gC p) : CfLies w bC p := ⟨h.e, h.r, h.s⟩
set_option maxRecDepth 100000 in
set_option maxHeartbeats 2000000 in
theorem awake11_yes (w : World) : Calls Try.prog 23 #[] w fun e w' => e = .returned (.bool true) ∧ Below w.heap.size w w' := by
  have HG : Hid (∀ w, _) := fun w => given11_c w
  have HO : Hid (∀ (p : CPl) (w : World), CfLies w gC p → _) := fun p w h => owner_is gC p 13 _ _ w h gC_fits gC_o13
  have HV : Hid (∀ (p : CPl) (w : World), CfLies w gC p → _) := fun p w h => reserved_is gC p ⟨#[118, 105, 112]⟩ _ _ w h gC_fits gC_vip
  have HA1 : Hid (∀ w, _) := fun w => address_is 13 167772173 0 w (by decide)
  have HA2 : Hid (∀ w, _) := fun w => address_is 255 0 1100 w (by decide)
  have HC : Hid (∀ (p : CPl) (w : World), CfLies w gC p → _) := fun p w h => copyCf_c gC p w h (by decide) (by decide) (by decide)
  have HM : Hid (∀ (p : CPl) (w : World), CfLies w gC p → _) := fun p w h => cMay_is gC p _ w h gC_fits gC_may
  have HN : Hid (∀ (p : CPl) (w : World), CfLies w gC p → _) := fun p w h => cMay_is bC p _ w (bC_lies h) bC_fits bC_may
  have HU0 : Hid (∀ (p : CPl) (w : World), CfLies w gC p → _) := fun p w h => usable_is gC p 10 _ w h gC_fits gC_10
  have HU2 : Hid (∀ (p : CPl) (w : World), CfLies w gC p → _) := fun p w h => usable_is gC p 12 _ w h gC_fits gC_12
  have HU4 : Hid (∀ (p : CPl) (w : World), CfLies w gC p → _) := fun p w h => usable_is gC p 14 _ w h gC_fits gC_14
  have HH1 : Hid (∀ w, _) := fun w => host_is 167772173 13 w (by decide)
  have HH2 : Hid (∀ w, _) := fun w => host_is 13 0 w (by decide)
  have hz : Hid (∀ (w : World) (b : Nat) (p : CPl), BoxC w b gC p → BoxC (w.setCell ⟨b, 5, none⟩ (.string ⟨#[]⟩)) b bC p) := fun w b p h => h.set 5 _ rfl
  have hcell : Hid (∀ (w : World) (b : Nat) (p : CPl), BoxC w b gC p → _) := fun w b p h => h.all
  have hcellb : Hid (∀ (w : World) (b : Nat) (p : CPl), BoxC w b bC p → _) := fun w b p h => h.all
  have hnew : Hid (∀ (w : World) (p : CPl), _) := fun w p => BoxC.new w gC p
  have hnewb : Hid (∀ (w : World) (p : CPl), _) := fun w p => BoxC.new w bC p
  simp only [bC] at HN hcellb hnewb
  generalize gC = g at *
  simp only [cv, cellsC] at HG HO HV HC HM HN HU0 HU2 HU4 hnew hnewb
  go_enter Try.func23, Try.ntmps23
  go_wp2_with fail
  refine (HG.out _).mono ?_; rintro e w1 ⟨⟨p, rfl, hR⟩, hb⟩
  have hX := hnew.out w1 p
  obtain ⟨w2, hw2⟩ : ∃ w2, w1.alloc (.cells #[.int .i64 g.fi, .int .i64 g.la, .slice p.ea g.ex.length p.ec, .slice p.ra g.rs.length p.rc, .int .i64 g.ti, .string g.zo, .slice p.sa g.st.length p.sc] 26) = w2 := ⟨_, rfl⟩
  rw [hw2] at hX
  have h2 : Below w1.heap.size w1 w2 := by rw [← hw2]; exact (Below.refl _ _).alloc (Nat.le_refl _) _
  have X2 : Hid (BoxC w2 w1.heap.size g p) := hX
  have L2 : Hid (CfLies w2 g p) := hR.lies.below h2
  have B2 : Hid (Below w.heap.size w w2) := bel_trans hb h2
  have HW2 : Hid (_ = w2) := hw2
  clear hX hR hb h2 hw2 HG
  go_wp2_with fail
  rw [HW2.out]
  clear HW2
  generalize w1.heap.size = b at *
  refine (HO.out _ _ L2.out).mono ?_; rintro e w3 ⟨rfl, hb⟩
  have X3 : Hid (BoxC w3 b g p) := X2.out.below hb
  have L3 : Hid (CfLies w3 g p) := L2.out.below hb
  have B3 : Hid (Below w.heap.size w w3) := bel_trans B2.out hb
  clear hb X2 L2 B2
  obtain ⟨c0, c1, c2, c3, c4, c5, c6⟩ := hcell.out _ _ _ X3.out
  go_wp2_with fail
  clear c0 c1 c2 c3 c4 c5 c6
  refine (HV.out _ _ L3.out).mono ?_; rintro e w4 ⟨rfl, hb⟩
  have X4 : Hid (BoxC w4 b g p) := X3.out.below hb
  have L4 : Hid (CfLies w4 g p) := L3.out.below hb
  have B4 : Hid (Below w.heap.size w w4) := bel_trans B3.out hb
  clear hb X3 L3 B3
  go_wp2_with fail
  refine (HA1.out _).mono ?_; rintro e wa ⟨rfl, h⟩; subst h
  go_wp2_with fail
  refine (HA2.out _).mono ?_; rintro e wa2 ⟨rfl, h⟩; subst h
  obtain ⟨c0, c1, c2, c3, c4, c5, c6⟩ := hcell.out _ _ _ X4.out
  go_wp2_with fail
  clear c0 c1 c2 c3 c4 c5 c6
  refine (HC.out _ _ L4.out).mono ?_; rintro e wc ⟨⟨p2, rfl, hR⟩, hb⟩
  have X5 : Hid (BoxC wc b g p) := X4.out.below hb
  have L5 : Hid (CfLies wc g p) := L4.out.below hb
  have B5 : Hid (Below w.heap.size w wc) := bel_trans B4.out hb
  have M5 : Hid (CfLies wc g p2) := hR.lies
  clear hb hR X4 L4 B4
  go_upto_region 8 with fail
  have hY := hnewb.out wc p2
  obtain ⟨wd, hwd⟩ : ∃ wd, wc.alloc (.cells #[.int .i64 g.fi, .int .i64 g.la, .slice p2.ea g.ex.length p2.ec, .slice p2.ra g.rs.length p2.rc, .int .i64 g.ti, .string ⟨#[]⟩, .slice p2.sa g.st.length p2.sc] 26) = wd := ⟨_, rfl⟩
  have h2 : Below wc.heap.size wc wd := by rw [← hwd]; exact (Below.refl _ _).alloc (Nat.le_refl _) _
  rw [hwd] at hY ⊢
  have X6 : Hid (BoxC wd b g p) := X5.out.below h2
  have L6 : Hid (CfLies wd g p) := L5.out.below h2
  have B6 : Hid (Below w.heap.size w wd) := bel_trans B5.out h2
  have M6 : Hid (CfLies wd g p2) := M5.out.below h2
  have Y6 : Hid (BoxC wd wc.heap.size ⟨g.fi, g.la, g.ex, g.rs, g.ti, ⟨#[]⟩, g.st⟩ p2) := hY
  clear hY h2 hwd X5 L5 B5 M5 HO HV HC HA1 HA2 hz hnew hnewb
  generalize wc.heap.size = b2 at *
  obtain ⟨c0, c1, c2, c3, c4, c5, c6⟩ := hcell.out _ _ _ X6.out
  go_wp2_with fail
  clear c0 c1 c2 c3 c4 c5 c6
  refine (HM.out _ _ L6.out).mono ?_; rintro e w7 ⟨rfl, hb⟩
  have X7 : Hid (BoxC w7 b g p) := X6.out.below hb
  have L7 : Hid (CfLies w7 g p) := L6.out.below hb
  have B7 : Hid (Below w.heap.size w w7) := bel_trans B6.out hb
  have Y7 : Hid (BoxC w7 b2 ⟨g.fi, g.la, g.ex, g.rs, g.ti, ⟨#[]⟩, g.st⟩ p2) := Y6.out.below hb
  have M7 : Hid (CfLies w7 g p2) := M6.out.below hb
  clear hb X6 L6 B6 Y6 M6
  obtain ⟨d0, d1, d2, d3, d4, d5, d6⟩ := hcellb.out _ _ _ Y7.out
  go_wp2_with fail
  clear d0 d1 d2 d3 d4 d5 d6
  refine (HN.out _ _ M7.out).mono ?_; rintro e w8 ⟨rfl, hb⟩
  have X8 : Hid (BoxC w8 b g p) := X7.out.below hb
  have L8 : Hid (CfLies w8 g p) := L7.out.below hb
  have B8 : Hid (Below w.heap.size w w8) := bel_trans B7.out hb
  have Y8 : Hid (BoxC w8 b2 ⟨g.fi, g.la, g.ex, g.rs, g.ti, ⟨#[]⟩, g.st⟩ p2) := Y7.out.below hb
  have M8 : Hid (CfLies w8 g p2) := M7.out.below hb
  clear hb X7 L7 B7 Y7 M7
  obtain ⟨c0, c1, c2, c3, c4, c5, c6⟩ := hcell.out _ _ _ X8.out
  go_wp2_with fail
  clear c0 c1 c2 c3 c4 c5 c6
  refine (HU0.out _ _ L8.out).mono ?_; rintro e w9 ⟨rfl, hb⟩
  have X9 : Hid (BoxC w9 b g p) := X8.out.below hb
  have L9 : Hid (CfLies w9 g p) := L8.out.below hb
  have B9 : Hid (Below w.heap.size w w9) := bel_trans B8.out hb
  have Y9 : Hid (BoxC w9 b2 ⟨g.fi, g.la, g.ex, g.rs, g.ti, ⟨#[]⟩, g.st⟩ p2) := Y8.out.below hb
  have M9 : Hid (CfLies w9 g p2) := M8.out.below hb
  clear hb X8 L8 B8 Y8 M8
  obtain ⟨c0, c1, c2, c3, c4, c5, c6⟩ := hcell.out _ _ _ X9.out
  go_wp2_with fail
  clear c0 c1 c2 c3 c4 c5 c6
  refine (HU2.out _ _ L9.out).mono ?_; rintro e w10 ⟨rfl, hb⟩
  have X10 : Hid (BoxC w10 b g p) := X9.out.below hb
  have L10 : Hid (CfLies w10 g p) := L9.out.below hb
  have B10 : Hid (Below w.heap.size w w10) := bel_trans B9.out hb
  have Y10 : Hid (BoxC w10 b2 ⟨g.fi, g.la, g.ex, g.rs, g.ti, ⟨#[]⟩, g.st⟩ p2) := Y9.out.below hb
  have M10 : Hid (CfLies w10 g p2) := M9.out.below hb
  clear hb X9 L9 B9 Y9 M9
  obtain ⟨c0, c1, c2, c3, c4, c5, c6⟩ := hcell.out _ _ _ X10.out
  go_wp2_with fail
  clear c0 c1 c2 c3 c4 c5 c6
  refine (HU4.out _ _ L10.out).mono ?_; rintro e w11 ⟨rfl, hb⟩
  have X11 : Hid (BoxC w11 b g p) := X10.out.below hb
  have L11 : Hid (CfLies w11 g p) := L10.out.below hb
  have B11 : Hid (Below w.heap.size w w11) := bel_trans B10.out hb
  have Y11 : Hid (BoxC w11 b2 ⟨g.fi, g.la, g.ex, g.rs, g.ti, ⟨#[]⟩, g.st⟩ p2) := Y10.out.below hb
  have M11 : Hid (CfLies w11 g p2) := M10.out.below hb
  clear hb X10 L10 B10 Y10 M10
  go_wp2_with (first | (go_at_call 19; refine (num_any _ _).mono ?_; rintro e wz ⟨rfl, rfl⟩) | (go_at_call 20; first | (refine (HH1.out _).mono ?_; rintro e wz ⟨rfl, rfl⟩) | (refine (HH2.out _).mono ?_; rintro e wz ⟨rfl, rfl⟩)) | fail)
  go_ret
  exact ⟨rfl, B11.out⟩

end Go.Proofs.Ytedbihckdbpebaa

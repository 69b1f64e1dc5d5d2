/-
  The contract of the laws' own 'awake' of layer 5: it answers true.
-/
import Derived.Test.YtdmooggmoihggaaGreatDoorDnsGot
import Derived.Test.YtdmooggmoihggaaGreatDoorDnsPut
namespace Go.Proofs.YtdmooggmoihggaaGreatDoor
set_option maxRecDepth 100000
open Go.ChangeShapes Go.WideShapes Go.ChangeAt Go.RowKit Go.Pin Go.PlainAid

def aw5 : Msg := ⟨258, false, 0, false, false, true, 0, [⟨⟨#[97, 46, 108, 97, 110]⟩, 1⟩], [], [], [], 0⟩
def aw5b : Msg := ⟨258, false, 0, false, false, true, 0, [⟨⟨#[97, 46, 108, 97, 110]⟩, 1⟩], [], [], [], 600⟩
def aw5S : ByteArray := ⟨#[1, 2, 1, 0, 0, 1, 0, 0, 0, 0, 0, 0, 1, 97, 3, 108, 97, 110, 0, 0, 1, 0, 1]⟩
def aw5T : ByteArray := ⟨#[1, 2, 1, 0, 0, 1, 0, 0, 0, 0, 0, 1, 1, 97, 3, 108, 97, 110, 0, 0, 1, 0, 1, 0, 0, 41, 2, 88, 0, 0, 0, 0, 0, 0]⟩
theorem aw5_may : mayM aw5 = true := by decide +kernel
theorem aw5b_may : mayM aw5b = true := by decide +kernel
theorem aw5_written : writtenM aw5 = bs aw5S := by decide +kernel
theorem aw5b_written : writtenM aw5b = bs aw5T := by decide +kernel
theorem aw5_cutLen : (writtenM (cutM aw5)).length = 23 := by decide +kernel
theorem aw5_put : putM aw5 512 = (aw5S, 0) := by
  unfold putM; rw [aw5_may, aw5_written, mk_bs, if_neg (by decide), if_pos (by decide)]
theorem aw5_put12 : putM aw5 12 = (⟨#[]⟩, 501) := by
  unfold putM; rw [aw5_may, aw5_written, aw5_cutLen, if_neg (by decide), if_neg (by decide), if_neg (by decide)]
theorem aw5_put11 : putM aw5 11 = (⟨#[]⟩, 500) := by
  unfold putM; rw [aw5_may, if_pos (by decide)]
theorem aw5b_put : putM aw5b 512 = (aw5T, 0) := by
  unfold putM; rw [aw5b_may, aw5b_written, mk_bs, if_neg (by decide), if_pos (by decide)]
theorem aw5_get : getM aw5S = some aw5 := by
  have := (getM_written ((mayM_iff _).1 aw5_may)).1
  rw [aw5_written, mk_bs] at this; exact this
theorem aw5_more : getM (aw5S ++ ⟨#[120]⟩) = none := by
  have := getM_on ((mayM_iff _).1 aw5_may) (bs ⟨#[120]⟩) (by decide)
  rw [aw5_written, ← bs_app, mk_bs] at this; exact this

/-- Get, where the text tells a message; where it tells none. -/
theorem dGet_yes (s : ByteArray) (m : Msg) (w : World) (hs : s.size ≤ 1125899906842624) (hL : Laid w) (h : getM s = some m) :
    Calls Tryz.prog 7 #[.string s] w fun e w' => (∃ p, e = .returned (.tuple #[mv m p, .int .i64 0]) ∧ Rows4 w' w.heap.size m p) ∧ Below w.heap.size w w' := by
  have := dGet_c s w hs hL
  rw [h] at this; exact this
theorem dGet_no (s : ByteArray) (w : World) (hs : s.size ≤ 1125899906842624) (hL : Laid w) (h : getM s = none) :
    Calls Tryz.prog 7 #[.string s] w fun e w' => e = .returned (.tuple #[.agg #[.int .i64 0, .bool false, .int .i64 0, .bool false, .bool false, .bool false, .int .i64 0, .slice none 0 0, .slice none 0 0, .slice none 0 0, .slice none 0 0, .int .i64 0], .int .i64 500]) ∧ Below w.heap.size w w' := by
  have := dGet_c s w hs hL
  rw [h] at this; exact this
theorem dPut_is (m : Msg) (p : Pl) (most : Int) (S : ByteArray) (E : Int) (w : World) (hf : MsgFits m) (hl : MsgLies w m p) (hL : Laid w) (h : putM m most = (S, E)) :
    Calls Tryz.prog 5 #[mv m p, .int .i64 most] w fun e w' => e = .returned (.tuple #[.string S, .int .i64 E]) ∧ Below w.heap.size w w' := by
  have := dPut_c m p most w hf hl hL
  rw [h] at this; exact this
/-- Where awake's questions lie. -/
def awP (b : Nat) : Pl := ⟨some ⟨b, 0, none⟩, 1, none, 0, none, 0, none, 0⟩
theorem aw5_fits : MsgFits aw5 := ⟨by decide, (by intro r h; cases h), (by intro r h; cases h), (by intro r h; cases h), by decide, by decide, by decide, by decide⟩
theorem aw5b_fits : MsgFits aw5b := ⟨by decide, (by intro r h; cases h), (by intro r h; cases h), (by intro r h; cases h), by decide, by decide, by decide, by decide⟩
theorem aw5_lies (w : World) : QuesLie (w.alloc (.cells #[.string ⟨#[97, 46, 108, 97, 110]⟩, .int .i64 1] 59)) (some ⟨w.heap.size, 0, none⟩) [⟨⟨#[97, 46, 108, 97, 110]⟩, 1⟩] :=
  .inr ⟨_, rfl, fun j q hj => by
    match j, hj with
    | 0, hj =>
      simp at hj; subst hj
      exact ⟨new_at _ _ _ 0 _ _ rfl rfl, new_at _ _ _ 1 _ _ rfl rfl⟩⟩
theorem awP_lies {w : World} {b : Nat} (h : QuesLie w (some ⟨b, 0, none⟩) [⟨⟨#[97, 46, 108, 97, 110]⟩, 1⟩]) : MsgLies w aw5 (awP b) := ⟨h, .inl rfl, .inl rfl, .inl rfl⟩
theorem awPb_lies {w : World} {b : Nat} (h : QuesLie w (some ⟨b, 0, none⟩) [⟨⟨#[97, 46, 108, 97, 110]⟩, 1⟩]) : MsgLies w aw5b (awP b) := ⟨h, .inl rfl, .inl rfl, .inl rfl⟩

set_option maxHeartbeats 2000000 in
theorem awake5_yes (w : World) (hL : Laid w) : Calls Tryz.prog 14 #[] w fun e w' => e = .returned (.bool true) ∧ Below w.heap.size w w' := by
  have HL : Hid (Laid w) := hL
  clear hL
  have Q0 : Hid (QuesLie (w.alloc (.cells #[.string ⟨#[97, 46, 108, 97, 110]⟩, .int .i64 1] 59)) (some ⟨w.heap.size, 0, none⟩) [⟨⟨#[97, 46, 108, 97, 110]⟩, 1⟩]) := aw5_lies w
  have P1 : Hid (∀ w', QuesLie w' (some ⟨w.heap.size, 0, none⟩) [⟨⟨#[97, 46, 108, 97, 110]⟩, 1⟩] → Laid w' → _) := fun w' h hL => dPut_is aw5 (awP w.heap.size) 512 _ _ w' aw5_fits (awP_lies h) hL aw5_put
  have P2 : Hid (∀ w', QuesLie w' (some ⟨w.heap.size, 0, none⟩) [⟨⟨#[97, 46, 108, 97, 110]⟩, 1⟩] → Laid w' → _) := fun w' h hL => dPut_is aw5 (awP w.heap.size) 12 _ _ w' aw5_fits (awP_lies h) hL aw5_put12
  have P3 : Hid (∀ w', QuesLie w' (some ⟨w.heap.size, 0, none⟩) [⟨⟨#[97, 46, 108, 97, 110]⟩, 1⟩] → Laid w' → _) := fun w' h hL => dPut_is aw5 (awP w.heap.size) 11 _ _ w' aw5_fits (awP_lies h) hL aw5_put11
  have P4 : Hid (∀ w', QuesLie w' (some ⟨w.heap.size, 0, none⟩) [⟨⟨#[97, 46, 108, 97, 110]⟩, 1⟩] → Laid w' → _) := fun w' h hL => dPut_is aw5b (awP w.heap.size) 512 _ _ w' aw5b_fits (awPb_lies h) hL aw5b_put
  have M5 : Hid (∀ w', QuesLie w' (some ⟨w.heap.size, 0, none⟩) [⟨⟨#[97, 46, 108, 97, 110]⟩, 1⟩] → _) := fun w' h => dMay_c aw5b (awP w.heap.size) w' aw5b_fits (awPb_lies h)
  rw [aw5b_may] at M5
  have G1 : Hid (∀ w', Laid w' → _) := fun w' hL => dGet_yes aw5S aw5 w' (by decide) hL aw5_get
  have G2 : Hid (∀ w', Laid w' → _) := fun w' hL => dGet_no (aw5S ++ ⟨#[120]⟩) w' (by decide) hL aw5_more
  have hS : aw5S.toList = [1, 2, 1, 0, 0, 1, 0, 0, 0, 0, 0, 0, 1, 97, 3, 108, 97, 110, 0, 0, 1, 0, 1] := by rw [ByteArray.toList_eq]; rfl
  have hz : aw5S.size = 23 := rfl
  have hzT : aw5T.size = 34 := rfl
  simp only [mv, cellsM, awP, aw5, aw5b, List.length_cons, List.length_nil, Nat.zero_add] at P1 P2 P3 P4 M5 G1
  go_enter Tryz.func14, Tryz.ntmps14
  go_wp2_with fail
  have BA := ((Below.refl w.heap.size w).alloc (Nat.le_refl _) (.cells #[.string ⟨#[97, 46, 108, 97, 110]⟩, .int .i64 1] 59)).alloc (by simp) (.cells (cellsM aw5 (awP w.heap.size)) 25)
  have QA := Q0.out.below ((Below.refl _ _).alloc (Nat.le_refl _) (.cells (cellsM aw5 (awP w.heap.size)) 25))
  have XA : BoxM ((w.alloc (.cells #[.string ⟨#[97, 46, 108, 97, 110]⟩, .int .i64 1] 59)).alloc (.cells (cellsM aw5 (awP w.heap.size)) 25)) (w.heap.size + 1) aw5 (awP w.heap.size) := by
    have := BoxM.new (w.alloc (.cells #[.string ⟨#[97, 46, 108, 97, 110]⟩, .int .i64 1] 59)) aw5 (awP w.heap.size)
    simpa using this
  refine (P1.out _ QA (HL.out.below BA)).mono ?_; rintro e w1 ⟨rfl, hb⟩
  have B1 : Hid (Below w.heap.size w w1) := bel_trans BA hb
  have Q1 : Hid (QuesLie w1 (some ⟨w.heap.size, 0, none⟩) [⟨⟨#[97, 46, 108, 97, 110]⟩, 1⟩]) := QA.below hb
  have X1 : Hid (BoxM w1 (w.heap.size + 1) aw5 (awP w.heap.size)) := XA.below hb
  clear hb BA QA XA Q0 P1
  go_wp2_with fail
  refine (G1.out _ (HL.out.below B1.out)).mono ?_; rintro e w2 ⟨⟨p2, rfl, _⟩, hb⟩
  have B2 : Hid (Below w.heap.size w w2) := bel_trans B1.out hb
  have Q2 : Hid (QuesLie w2 (some ⟨w.heap.size, 0, none⟩) [⟨⟨#[97, 46, 108, 97, 110]⟩, 1⟩]) := Q1.out.below hb
  have X2 : Hid (BoxM w2 (w.heap.size + 1) aw5 (awP w.heap.size)) := X1.out.below hb
  clear hb B1 Q1 X1 G1
  go_wp2_with fail
  have A3 := (Below.refl w2.heap.size w2).alloc (Nat.le_refl _) (.cells (cellsM aw5 p2) 25)
  have Y2 : BoxM (w2.alloc (.cells (cellsM aw5 p2) 25)) w2.heap.size aw5 p2 := BoxM.new w2 aw5 p2
  refine (G2.out _ ((HL.out.below B2.out).below A3)).mono ?_; rintro e w3 ⟨rfl, hb⟩
  have hb' := bel_trans A3 hb
  have B3 : Hid (Below w.heap.size w w3) := bel_trans B2.out hb'
  have Q3 : Hid (QuesLie w3 (some ⟨w.heap.size, 0, none⟩) [⟨⟨#[97, 46, 108, 97, 110]⟩, 1⟩]) := Q2.out.below hb'
  have X3 : Hid (BoxM w3 (w.heap.size + 1) aw5 (awP w.heap.size)) := X2.out.below hb'
  have Y3 : Hid (BoxM w3 w2.heap.size aw5 p2) := Y2.below hb
  have hne : ¬ w2.heap.size = w.heap.size + 1 := fun e => absurd X2.out.lt (by omega)
  clear hb hb' A3 Y2 B2 Q2 X2 G2
  have hcell : Hid (∀ w', BoxM w' (w.heap.size + 1) aw5 (awP w.heap.size) → _) := fun w' h => h.all
  simp only [aw5, awP, List.length_cons, List.length_nil, Nat.zero_add] at hcell
  obtain ⟨c0, c1, c2, c3, c4, c5, c6, c7, c8, c9, c10, c11⟩ := hcell.out _ X3.out
  have hl3 := X3.out.lt
  go_wp2_with fail
  have A4 := (Below.refl w3.heap.size w3).alloc (Nat.le_refl _) (.cells #[.int .i64 0, .bool false, .int .i64 0, .bool false, .bool false, .bool false, .int .i64 0, .slice none 0 0, .slice none 0 0, .slice none 0 0, .slice none 0 0, .int .i64 0] 25)
  refine (P2.out _ (Q3.out.below A4) ((HL.out.below B3.out).below A4)).mono ?_; rintro e w4 ⟨rfl, hb4⟩
  have hb := bel_trans A4 hb4
  clear hb4 A4 hl3
  have B4 : Hid (Below w.heap.size w w4) := bel_trans B3.out hb
  have Q4 : Hid (QuesLie w4 (some ⟨w.heap.size, 0, none⟩) [⟨⟨#[97, 46, 108, 97, 110]⟩, 1⟩]) := Q3.out.below hb
  have X4 : Hid (BoxM w4 (w.heap.size + 1) aw5 (awP w.heap.size)) := X3.out.below hb
  have Y4 : Hid (BoxM w4 w2.heap.size aw5 p2) := Y3.out.below hb
  clear hb B3 Q3 X3 Y3 P2 c0 c1 c2 c3 c4 c5 c6 c7 c8 c9 c10 c11
  obtain ⟨c0, c1, c2, c3, c4, c5, c6, c7, c8, c9, c10, c11⟩ := hcell.out _ X4.out
  go_wp2_with fail
  refine (P3.out _ Q4.out (HL.out.below B4.out)).mono ?_; rintro e w5 ⟨rfl, hb⟩
  have B5 : Hid (Below w.heap.size w w5) := bel_trans B4.out hb
  have Q5 : Hid (QuesLie w5 (some ⟨w.heap.size, 0, none⟩) [⟨⟨#[97, 46, 108, 97, 110]⟩, 1⟩]) := Q4.out.below hb
  have X5 : Hid (BoxM w5 (w.heap.size + 1) aw5 (awP w.heap.size)) := X4.out.below hb
  have Y5 : Hid (BoxM w5 w2.heap.size aw5 p2) := Y4.out.below hb
  clear hb B4 Q4 X4 Y4 P3 c0 c1 c2 c3 c4 c5 c6 c7 c8 c9 c10 c11
  obtain ⟨c0, c1, c2, c3, c4, c5, c6, c7, c8, c9, c10, c11⟩ := hcell.out _ X5.out
  have f11 := X5.out.fz 11
  go_wp2_with fail
  have B6 : Below w.heap.size w (w5.setCell ⟨w.heap.size + 1, 11, none⟩ (.int .i64 600)) := B5.out.setCell (by simp) _
  have Q6 : QuesLie (w5.setCell ⟨w.heap.size + 1, 11, none⟩ (.int .i64 600)) (some ⟨w.heap.size, 0, none⟩) [⟨⟨#[97, 46, 108, 97, 110]⟩, 1⟩] := Q5.out.keep fun x hx _ => by cases hx; exact Below.heap_setCell _ _ _ _ (by simp)
  have X6 : BoxM (w5.setCell ⟨w.heap.size + 1, 11, none⟩ (.int .i64 600)) (w.heap.size + 1) aw5b (awP w.heap.size) := X5.out.set 11 _ rfl
  have Y6 : BoxM (w5.setCell ⟨w.heap.size + 1, 11, none⟩ (.int .i64 600)) w2.heap.size aw5 p2 := Y5.out.far hne
  refine (P4.out _ Q6 (HL.out.below B6)).mono ?_; rintro e w7 ⟨rfl, hb⟩
  have B7 : Hid (Below w.heap.size w w7) := bel_trans B6 hb
  have Q7 : Hid (QuesLie w7 (some ⟨w.heap.size, 0, none⟩) [⟨⟨#[97, 46, 108, 97, 110]⟩, 1⟩]) := Q6.below hb
  have X7 : Hid (BoxM w7 (w.heap.size + 1) aw5b (awP w.heap.size)) := X6.below hb
  have Y7 : Hid (BoxM w7 w2.heap.size aw5 p2) := Y6.below hb
  clear hb B5 Q5 X5 Y5 B6 Q6 X6 Y6 P4 c0 c1 c2 c3 c4 c5 c6 c7 c8 c9 c10 c11 f11 hcell
  have hcell : Hid (∀ w', BoxM w' (w.heap.size + 1) aw5b (awP w.heap.size) → _) := fun w' h => h.all
  simp only [aw5b, awP, List.length_cons, List.length_nil, Nat.zero_add] at hcell
  obtain ⟨c0, c1, c2, c3, c4, c5, c6, c7, c8, c9, c10, c11⟩ := hcell.out _ X7.out
  have y0 := Y7.out.cell 0
  have y5 := Y7.out.cell 5
  simp [cellsM, aw5] at y0 y5
  go_wp2_with (go_at_call 9; refine (num_any _ _).mono ?_; rintro e w8 ⟨rfl, rfl⟩)
  refine (M5.out _ Q7.out).mono ?_; rintro e w9 ⟨rfl, hb⟩
  have B9 := bel_trans B7.out hb
  clear hb
  go_wp2
  go_ret
  exact ⟨rfl, B9⟩

end Go.Proofs.YtdmooggmoihggaaGreatDoor

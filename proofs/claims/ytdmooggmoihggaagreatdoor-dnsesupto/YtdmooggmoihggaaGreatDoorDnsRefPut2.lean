/-
  Contract of the document's own PutDns, at every message and bound.
-/
import Derived.Test.YtdmooggmoihggaaGreatDoorDnsRefPut
import Derived.Test.YtdmooggmoihggaaGreatDoorDnsPut
import Derived.Test.YtdmooggmoihggaaGreatDoorBDns
import Derived.Test.YtdmooggmoihggaaGreatDoorDnsBits
namespace Go.Proofs.YtdmooggmoihggaaGreatDoor
set_option maxRecDepth 100000
open Go.ChangeShapes Go.WideShapes Go.ChangeAt Go.RowKit Go.Pin Go.PlainAid

theorem bulk_cut {m : Msg} {n : Nat} (h : MsgBulk m n) : MsgBulk (cutM m) n := ⟨h.q, by simp [cutM], by simp [cutM], by simp [cutM], by have := h.l; simp only [cutM, List.length_nil]; omega⟩
set_option maxRecDepth 100000 in
set_option maxHeartbeats 4000000 in
/-- The document's own PutDns. -/
theorem rPutDns_c (m : Msg) (p : Pl) (k : Int) (w : World) (hf : MsgFits m) (hk : MsgBulk m 1048576) (hl : MsgLies w m p) :
    Calls Tryz.prog 6 #[mv m p, .int .i64 k] w fun e w' => e = .returned (.tuple #[.string (putM m k).1, .int .i64 (putM m k).2]) ∧ Below w.heap.size w w' := by
  have HMay : Hid (∀ w', Below w.heap.size w w' → _) := fun w' hb => rDMay_c m p w' hf hk (hl.below hb)
  obtain ⟨w0, hw0⟩ : ∃ w0, w.alloc (.cells (cellsM m p) 25) = w0 := ⟨_, rfl⟩
  have hb0 : Below w.heap.size w w0 := by rw [← hw0]; exact (Below.refl _ _).alloc (Nat.le_refl _) _
  have X0 : Hid (BoxM w0 w.heap.size m p) := by
    show BoxM _ _ _ _
    rw [← hw0]; exact BoxM.new w m p
  have B0 : Hid (Below w.heap.size w w0) := hb0
  have hcell : Hid (∀ w', BoxM w' w.heap.size m p → _) := fun w' h => h.all
  have hbel : Hid (∀ w' w'', BoxM w' w.heap.size m p → Below w'.heap.size w' w'' → BoxM w'' w.heap.size m p) := fun w' w'' h1 h2 => h1.below h2
  have HL : Hid (MsgLies w m p) := hl
  have HK : Hid (MsgBulk m 1048576) := hk
  obtain ⟨c0, c1, c2, c3, c4, c5, c6, c7, c8, c9, c10, c11⟩ := hcell.out _ X0.out
  obtain ⟨PA, hPA⟩ : ∃ PA, putM m k = PA := ⟨_, rfl⟩
  have HPA : Hid (putM m k = PA) := hPA
  rw [hPA]
  have Hiff : Hid (mayM m = true ↔ MayM m) := mayM_iff m
  have Hno : Hid (mayM m = false → putM m k = (⟨#[]⟩, 500)) := fun h => by unfold putM; rw [h]; simp
  have Hlo : Hid (k < 12 → putM m k = (⟨#[]⟩, 500)) := fun h => by unfold putM; rw [if_pos (by simp [h])]
  have Hhi : Hid (65535 < k → putM m k = (⟨#[]⟩, 500)) := fun h => by unfold putM; rw [if_pos (by simp [h])]
  have Hyes : Hid (MayM m → 12 ≤ k → k ≤ 65535 → _) := fun h h0 h1 => putM_yes h h0 h1
  generalize mayM m = may at *
  clear hf hk hl hb0 hPA
  simp only [mv, cellsM] at *
  go_enter Tryz.func6, Tryz.ntmps6
  go_wp2_with fail
  refine (HMay.out _ B0.out).mono ?_; rintro e w1 ⟨rfl, hb1⟩
  have B1 : Hid (Below w.heap.size w w1) := bel_trans B0.out hb1
  have X1 : Hid (BoxM w1 w.heap.size m p) := hbel.out _ _ X0.out hb1
  clear hb1 X0 B0 c0 c1 c2 c3 c4 c5 c6 c7 c8 c9 c10 c11 hw0 HMay
  cases may
  · have e1 := Hno.out rfl
    rw [HPA.out] at e1
    subst e1
    go_wp2_with fail
    go_ret2
    exact ⟨rfl, B1.out⟩
  have hM : MayM m := Hiff.out.1 rfl
  by_cases h0 : k < 12
  · have e1 := Hlo.out h0
    rw [HPA.out] at e1
    subst e1
    have d0 : decide (k < 12) = true := by simpa using h0
    go_wp2_with fail
    go_ret2
    exact ⟨rfl, B1.out⟩
  have d0 : decide (k < 12) = false := by simpa using h0
  by_cases h1 : 65535 < k
  · have e1 := Hhi.out h1
    rw [HPA.out] at e1
    subst e1
    have d1 : decide (65535 < k) = true := by simpa using h1
    go_wp2_with fail
    go_ret2
    exact ⟨rfl, B1.out⟩
  have d1 : decide (65535 < k) = false := by simpa using h1
  have hY := Hyes.out hM (by omega) (by omega)
  rw [HPA.out] at hY
  have HY : Hid (PA = if ((writtenM m).length : Int) ≤ k then (mk (writtenM m), 0) else if ((writtenM (cutM m)).length : Int) ≤ k then (mk (writtenM (cutM m)), 0) else (⟨#[]⟩, 501)) := hY
  have HW1 : Hid (∀ w', Below w.heap.size w w' → _) := fun w' hb => rWritten_c m p w' hM HK.out (HL.out.below hb)
  have HW2 : Hid (∀ w', Below w.heap.size w w' → _) := fun w' hb => rWritten_c (cutM m) (cutP p) w' (mayM_cut hM) (bulk_cut HK.out) (cut_lies (HL.out.below hb))
  have z1 : (mk (writtenM m)).size = (writtenM m).length := size_mk _
  have z2 : (mk (writtenM (cutM m))).size = (writtenM (cutM m)).length := size_mk _
  generalize mk (writtenM m) = S1 at *
  generalize mk (writtenM (cutM m)) = S2 at *
  generalize (writtenM m).length = L1 at *
  generalize (writtenM (cutM m)).length = L2 at *
  simp only [mv, cellsM, cutM, cutP, List.length_nil] at HW1 HW2
  have hbc : Hid (∀ w', BoxM w' w.heap.size m p → _) := fun w' h => h.fz
  clear hY hM Hyes Hno Hlo Hhi Hiff
  obtain ⟨c0, c1, c2, c3, c4, c5, c6, c7, c8, c9, c10, c11⟩ := hcell.out _ X1.out
  go_wp2_with fail
  refine (HW1.out _ B1.out).mono ?_; rintro e w2 ⟨rfl, hb2⟩
  have B2 : Hid (Below w.heap.size w w2) := bel_trans B1.out hb2
  have X2 : Hid (BoxM w2 w.heap.size m p) := hbel.out _ _ X1.out hb2
  clear hb2 X1 B1 c0 c1 c2 c3 c4 c5 c6 c7 c8 c9 c10 c11 HW1
  by_cases hle : (L1 : Int) ≤ k
  · have dl : decide ((L1 : Int) ≤ k) = true := by simpa using hle
    have e1 := HY.out
    rw [if_pos hle] at e1
    subst e1
    go_wp2_with fail
    go_ret2
    exact ⟨rfl, B2.out⟩
  have dl : decide ((L1 : Int) ≤ k) = false := by simpa using hle
  have e1 := HY.out
  rw [if_neg hle] at e1
  have HE : Hid (PA = if (L2 : Int) ≤ k then (S2, 0) else (⟨#[]⟩, 501)) := e1
  clear e1 hle HY
  obtain ⟨c0, c1, c2, c3, c4, c5, c6, c7, c8, c9, c10, c11⟩ := hcell.out _ X2.out
  have g4 := X2.out.fz 4
  have g8 := X2.out.fz 8
  have g9 := X2.out.fz 9
  have g10 := X2.out.fz 10
  obtain ⟨wz, hwz⟩ : ∃ wz, (((w2.setCell ⟨w.heap.size, 4, none⟩ (.bool true)).setCell ⟨w.heap.size, 8, none⟩ (.slice none 0 0)).setCell ⟨w.heap.size, 9, none⟩ (.slice none 0 0)).setCell ⟨w.heap.size, 10, none⟩ (.slice none 0 0) = wz := ⟨_, rfl⟩
  have X3 : BoxM wz w.heap.size (cutM m) (cutP p) := by
    rw [← hwz]
    exact (((X2.out.set (m' := { m with tr := true }) (p' := p) 4 _ rfl).set (m' := { m with tr := true, an := [] }) (p' := { p with aa := none, ac := 0 }) 8 _ rfl).set (m' := { m with tr := true, an := [], sv := [] }) (p' := { p with aa := none, ac := 0, sa := none, sc := 0 }) 9 _ rfl).set (m' := cutM m) (p' := cutP p) 10 _ rfl
  have B3 : Hid (Below w.heap.size w wz) := by
    show Below _ _ _
    rw [← hwz]
    exact (((B2.out.setCell (Nat.le_refl _) _).setCell (Nat.le_refl _) _).setCell (Nat.le_refl _) _).setCell (Nat.le_refl _) _
  obtain ⟨a0, a1, a2, a3, a4, a5, a6, a7, a8, a9, a10, a11⟩ := X3.all
  simp only [cutM, cutP, List.length_nil] at a0 a1 a2 a3 a4 a5 a6 a7 a8 a9 a10 a11
  clear X3 X2 B2
  go_wp2_with fail
  refine (HW2.out _ B3.out).mono ?_; rintro e w4 ⟨rfl, hb4⟩
  have B4 : Hid (Below w.heap.size w w4) := bel_trans B3.out hb4
  clear hb4 B3 HW2 c0 c1 c2 c3 c4 c5 c6 c7 c8 c9 c10 c11 a0 a1 a2 a3 a4 a5 a6 a7 a8 a9 a10 a11 g4 g8 g9 g10 hwz
  by_cases hl2 : (L2 : Int) ≤ k
  · have dk : decide (k < (L2 : Int)) = false := by simpa using hl2
    have e2 := HE.out
    rw [if_pos hl2] at e2
    subst e2
    go_wp2_with fail
    go_ret2
    exact ⟨rfl, B4.out⟩
  · have dk : decide (k < (L2 : Int)) = true := by simp; omega
    have e2 := HE.out
    rw [if_neg hl2] at e2
    subst e2
    go_wp2_with fail
    go_ret2
    exact ⟨rfl, B4.out⟩
end Go.Proofs.YtdmooggmoihggaaGreatDoor

/-
  Proved here: pinfoldlaw9.IdentSame answers true for every two texts and packet (P9.1: who it is hangs on its option alone, if it has one; else on its hardware).
  Conditions: none but the row's own.
-/
import Derived.Test.YtkohojifnmklmaaAwake9
import Derived.Test.YtkohojifnmklmaaPackOpen
import Derived.Test.YtkohojifnmklmaaPackRef2
import Derived.Test.YtkohojifnmklmaaPackTake
import Derived.WalkKit
import Derived.ProofKit
import Derived.OpenShut
import Derived.ShutString
import Derived.ChangeOld
import Derived.SizedLaws
import Derived.Carry
namespace Go.Proofs.Ytkohojifnmklmaa
namespace identSame
open Go.ChangeShapes Go.WideShapes Go.ChangeAt Go.RowKit Go.Pin Go.PlainAid Go.ChangeMaps

/-- The packet with this hardware and no options; with this one option. -/
def pH (p : Pk) (hw : ByteArray) : Pk := { p with ch := hw, os := [] }
def pO (p : Pk) (hw id : ByteArray) : Pk := { p with ch := hw, os := [(61, bs id)] }
theorem pH_may {p : Pk} {hw : ByteArray} (h : mayP p = true) (h1 : hw.size ≤ 15) : mayP (pH p hw) = true := by
  rw [mayP_iff] at h ⊢
  exact ⟨h.1, h.2.1, h.2.2.1, by show hw.size ≤ 16; omega, by show MayO []; exact ⟨by simp, by simp, by simp⟩⟩
theorem pO_may {p : Pk} {hw id : ByteArray} (h : mayP p = true) (h1 : hw.size ≤ 15) (h2 : id.size ≤ 16) : mayP (pO p hw id) = true := by
  rw [mayP_iff] at h ⊢
  refine ⟨h.1, h.2.1, h.2.2.1, by show hw.size ≤ 16; omega, (?_ : MayO [(61, bs id)])⟩
  refine ⟨by simp, fun o ho => ?_, by simp⟩
  simp only [List.mem_singleton] at ho
  subst ho
  exact (okO_iff _).2 ⟨by simp, by simp, by simp only [length_bs]; omega⟩
theorem pH_is {p : Pk} {hw : ByteArray} (h : mayP p = true) (h1 : hw.size ≤ 15) : clientA (pH p hw) = if hw.size = 0 then (⟨#[]⟩, 900) else (mk [byteO p.ht] ++ hw, 0) := by
  unfold clientA
  rw [pH_may h h1]
  have ht : toldI (pH p hw) = if hw.size = 0 then [] else byteO p.ht :: bs hw := rfl
  rw [ht]
  by_cases hz : hw.size = 0
  · simp [hz, okI]
  · have : mk [byteO p.ht] ++ hw = mk (byteO p.ht :: bs hw) := by apply bs_inj; simp [bs, mk]
    have hl := length_bs hw
    rw [this]
    simp [hz, okI, hl]
    omega
theorem pO_is {p : Pk} {hw id : ByteArray} (h : mayP p = true) (h1 : hw.size ≤ 15) (h2 : id.size ≤ 16) : clientA (pO p hw id) = if id.size = 0 then (⟨#[]⟩, 900) else (id, 0) := by
  unfold clientA
  rw [pO_may h h1 h2]
  have ht : toldI (pO p hw id) = bs id := rfl
  rw [ht]
  have hl := length_bs id
  by_cases hz : id.size = 0
  · simp [hz, okI, hl]
  · simp [hz, okI, hl, mk_bs]
    omega

set_option maxRecDepth 100000 in
set_option maxHeartbeats 2000000 in
theorem walk_no (id hw : ByteArray) (p : Pk) (a : Option Addr) (c : Nat) (w : World) (hL : OpLies w a p.os) (hch : p.ch.size ≤ maxLen) (hl : p.os.length * 24 ≤ 140737488351232) (hid : id.size ≤ 140737488351232) (hhw : hw.size ≤ 140737488351232)
    (hno : mayP p = false ∨ 16 < id.size ∨ 15 < hw.size) : Calls Try.prog 5 #[.string id, .string hw, pv p a c] w fun e w' => e = .returned (.bool true) ∧ Below w.heap.size w w' := by
  have hl2 : p.os.length ≤ 10000000000000 := by omega
  have HM : Hid (∀ w', Below w.heap.size w w' → _) := fun w' hb => rpMay_c p a c w' (hL.below hb) hl2 hch
  have HW : Hid (∀ w, _) := fun w => awake9_yes w
  have BX : Hid (BoxP (w.alloc (.cells (cellsP p a c) 24)) w.heap.size p a c) := BoxP.new w p a c
  have B0 : Hid (Below w.heap.size w (w.alloc (.cells (cellsP p a c) 24))) := (Below.refl w.heap.size w).alloc (Nat.le_refl _) _
  have hcell : Hid (∀ w', BoxP w' w.heap.size p a c → _) := fun w' h => h.all
  have hd : Hid ((!mayP p || decide ((16 : Int) < id.size) || decide ((15 : Int) < hw.size)) = true) := by
    show _ = true
    rcases hno with h | h | h
    · simp [h]
    · have : (16 : Int) < id.size := by omega
      simp [this]
    · have : (15 : Int) < hw.size := by omega
      simp [this]
  generalize mayP p = m at *
  clear hL hch hl hl2 hno
  simp only [pv, cellsP] at *
  go_enter Try.func5, Try.ntmps5
  go_wp2_with fail
  refine (HW.out _).mono ?_; rintro e w1 ⟨rfl, hb⟩
  have B1 : Hid (Below w.heap.size w w1) := bel_trans B0.out hb
  obtain ⟨c0, c1, c2, c3, c4, c5, c6, c7, c8, c9, c10, c11⟩ := hcell.out _ (BX.out.below hb)
  clear hb B0 BX HW
  cases m
  · go_wp2_with fail
    refine (HM.out _ B1.out).mono ?_; rintro e w2 ⟨rfl, hb⟩
    have B2 : Hid (Below w.heap.size w w2) := bel_trans B1.out hb
    go_wp2
    go_ret
    exact ⟨rfl, B2.out⟩
  · cases h16 : decide ((16 : Int) < id.size)
    · have h15 : decide ((15 : Int) < hw.size) = true := by have := hd.out; rw [h16] at this; simpa using this
      go_wp2_with fail
      refine (HM.out _ B1.out).mono ?_; rintro e w2 ⟨rfl, hb⟩
      have B2 : Hid (Below w.heap.size w w2) := bel_trans B1.out hb
      go_wp2
      go_ret
      exact ⟨rfl, B2.out⟩
    · go_wp2_with fail
      refine (HM.out _ B1.out).mono ?_; rintro e w2 ⟨rfl, hb⟩
      have B2 : Hid (Below w.heap.size w w2) := bel_trans B1.out hb
      go_wp2
      go_ret
      exact ⟨rfl, B2.out⟩

set_option maxRecDepth 100000 in
set_option maxHeartbeats 4000000 in
theorem walk_yes (id hw : ByteArray) (p : Pk) (a : Option Addr) (c : Nat) (w : World) (hL : OpLies w a p.os) (hch : p.ch.size ≤ maxLen) (hm : mayP p = true) (hid : id.size ≤ 16) (hhw : hw.size ≤ 15) :
    Calls Try.prog 5 #[.string id, .string hw, pv p a c] w fun e w' => e = .returned (.bool true) ∧ Below w.heap.size w w' := by
  obtain ⟨h8, _, _, _, hO⟩ := (mayP_iff p).1 hm
  have hht : 0 ≤ p.ht ∧ p.ht < 256 := by have := h8 p.ht (by simp); unfold inB at this; omega
  have hl2 : p.os.length ≤ 10000000000000 := by have := hO.1; omega
  have HM : Hid (∀ w', Below w.heap.size w w' → _) := fun w' hb => rpMay_c p a c w' (hL.below hb) hl2 hch
  have HW : Hid (∀ w, _) := fun w => awake9_yes w
  have hA1 := pH_is (hw := hw) hm hhw
  have hA2 := pO_is (hw := hw) (id := id) hm hhw hid
  obtain ⟨⟨S1, E1⟩, hS1⟩ : ∃ x, clientA (pH p hw) = x := ⟨_, rfl⟩
  obtain ⟨⟨S2, E2⟩, hS2⟩ : ∃ x, clientA (pO p hw id) = x := ⟨_, rfl⟩
  have HC1 : Hid (∀ w, _) := fun w => client_is (pH p hw) none 0 _ _ w (.inl rfl) (by show hw.size ≤ maxLen; unfold maxLen; omega) hS1
  have HC2 : Hid (∀ (x : Nat) (w : World), OpLies w (some ⟨x, 0, none⟩) [(61, bs id)] → _) := fun x w h => client_is (pO p hw id) (some ⟨x, 0, none⟩) 1 _ _ w h (by show hw.size ≤ maxLen; unfold maxLen; omega) hS2
  rw [hS1] at hA1
  rw [hS2] at hA2
  rw [hm] at HM
  have BX : Hid (BoxP (w.alloc (.cells (cellsP p a c) 24)) w.heap.size p a c) := BoxP.new w p a c
  have B0 : Hid (Below w.heap.size w (w.alloc (.cells (cellsP p a c) 24))) := (Below.refl w.heap.size w).alloc (Nat.le_refl _) _
  have hcell : Hid (∀ (w' : World) (b : Nat) (q : Pk) (a : Option Addr) (c : Nat), BoxP w' b q a c → _) := fun w' b q a c h => h.all
  clear hL hch hm h8 hO hl2 hS1 hS2
  obtain ⟨hht0, hht1⟩ := hht
  have hN1 : Hid (∀ w : World, BoxP (w.alloc (.cells (cellsP p a c) 24)) w.heap.size p a c) := fun w => BoxP.new w p a c
  have hOp : Hid (∀ w : World, _) := fun w => op_one w 61 id 39
  simp only [pv, cellsP, pH, pO, List.length_nil, List.length_cons] at *
  go_enter Try.func5, Try.ntmps5
  go_wp2_with fail
  refine (HW.out _).mono ?_; rintro e w1 ⟨rfl, hb⟩
  have B1 : Hid (Below w.heap.size w w1) := bel_trans B0.out hb
  have X1 : Hid (BoxP w1 w.heap.size p a c) := BX.out.below hb
  obtain ⟨c0, c1, c2, c3, c4, c5, c6, c7, c8, c9, c10, c11⟩ := hcell.out _ _ _ _ _ X1.out
  clear hb B0 BX HW
  go_wp2_with fail
  refine (HM.out _ B1.out).mono ?_; rintro e w2 ⟨rfl, hb⟩
  have B2 : Hid (Below w.heap.size w w2) := bel_trans B1.out hb
  have X2 : Hid (BoxP w2 w.heap.size p a c) := X1.out.below hb
  clear hb B1 X1 HM c0 c1 c2 c3 c4 c5 c6 c7 c8 c9 c10 c11
  obtain ⟨c0, c1, c2, c3, c4, c5, c6, c7, c8, c9, c10, c11⟩ := hcell.out _ _ _ _ _ X2.out
  have g16 : decide ((16 : Int) < id.size) = false := by simp; omega
  have g15 : decide ((15 : Int) < hw.size) = false := by simp; omega
  obtain ⟨w3, hw3⟩ : ∃ w3, w2.alloc (.cells #[.int .i64 p.op, .int .i64 p.ht, .int .i64 p.ho, .int .i64 p.xid, .int .i64 p.sc, .int .i64 p.fl, .int .i64 p.ci, .int .i64 p.yi, .int .i64 p.si, .int .i64 p.gi, .string p.ch, .slice a p.os.length c] 24) = w3 := ⟨_, rfl⟩
  have Y3 : Hid (BoxP w3 w2.heap.size p a c) := by
    show BoxP _ _ _ _ _
    rw [← hw3]; exact hN1.out w2
  have B3 : Hid (Below w.heap.size w w3) := bel_trans B2.out (by rw [← hw3]; exact (Below.refl _ _).alloc (Nat.le_refl _) _)
  have X3 : Hid (BoxP w3 w.heap.size p a c) := X2.out.below (by rw [← hw3]; exact (Below.refl _ _).alloc (Nat.le_refl _) _)
  have hne : w.heap.size ≠ w2.heap.size := by have := B2.out.size; have := X2.out.lt; omega
  have hle2 : w.heap.size ≤ w2.heap.size := B2.out.size
  have y11 := Y3.out.cell 11
  have f11 := Y3.out.fz 11
  simp only [cellsP] at y11
  replace y11 : w3.cell? ⟨w2.heap.size, 11, none⟩ = some (.slice a p.os.length c) := y11
  have Y4 : Hid (BoxP (w3.setCell ⟨w2.heap.size, 11, none⟩ (.slice none 0 0)) w2.heap.size { p with os := [] } none 0) := Y3.out.set 11 _ rfl
  have X4 : Hid (BoxP (w3.setCell ⟨w2.heap.size, 11, none⟩ (.slice none 0 0)) w.heap.size p a c) := X3.out.other hne 11 _
  have B4 : Hid (Below w.heap.size w (w3.setCell ⟨w2.heap.size, 11, none⟩ (.slice none 0 0))) := B3.out.setCell hle2 _
  obtain ⟨w4, hw4⟩ : ∃ w4, w3.setCell ⟨w2.heap.size, 11, none⟩ (.slice none 0 0) = w4 := ⟨_, rfl⟩
  rw [hw4] at Y4 X4 B4
  have y10 := Y4.out.cell 10
  have f10 := Y4.out.fz 10
  simp only [cellsP] at y10
  replace y10 : w4.cell? ⟨w2.heap.size, 10, none⟩ = some (.string p.ch) := y10
  have Y5 : Hid (BoxP (w4.setCell ⟨w2.heap.size, 10, none⟩ (.string hw)) w2.heap.size { p with ch := hw, os := [] } none 0) := Y4.out.set 10 _ rfl
  have X5 : Hid (BoxP (w4.setCell ⟨w2.heap.size, 10, none⟩ (.string hw)) w.heap.size p a c) := X4.out.other hne 10 _
  have B5 : Hid (Below w.heap.size w (w4.setCell ⟨w2.heap.size, 10, none⟩ (.string hw))) := B4.out.setCell hle2 _
  obtain ⟨w5, hw5⟩ : ∃ w5, w4.setCell ⟨w2.heap.size, 10, none⟩ (.string hw) = w5 := ⟨_, rfl⟩
  rw [hw5] at Y5 X5 B5
  obtain ⟨d0, d1, d2, d3, d4, d5, d6, d7, d8, d9, d10, d11⟩ := hcell.out _ _ _ _ _ Y5.out
  simp only [List.length_nil] at d11
  clear X3 Y3 B3 X4 Y4 B4
  go_wp2_with fail
  refine (HC1.out _).mono ?_; rintro e w6 ⟨rfl, hb⟩
  have B6 : Hid (Below w.heap.size w w6) := bel_trans B5.out hb
  have X6 : Hid (BoxP w6 w.heap.size p a c) := X5.out.below hb
  have Y6 : Hid (BoxP w6 w2.heap.size { p with ch := hw, os := [] } none 0) := Y5.out.below hb
  clear hb d0 d1 d2 d3 d4 d5 d6 d7 d8 d9 d10 d11 X5 Y5 B5 HC1 c0 c1 c2 c3 c4 c5 c6 c7 c8 c9 c10 c11 y11 f11 y10 f10 hw3 hw4 hw5 X2 B2
  have hlt6 : w2.heap.size < w6.heap.size := Y6.out.lt
  generalize hbq : w2.heap.size = b at *
  have hOp6 := hOp.out w6
  obtain ⟨w7, hw7⟩ : ∃ w7, w6.alloc (.cells #[.int .i64 61, .string id] 39) = w7 := ⟨_, rfl⟩
  rw [hw7] at hOp6
  have hb7 : Below w6.heap.size w6 w7 := by rw [← hw7]; exact (Below.refl _ _).alloc (Nat.le_refl _) _
  have B7 : Hid (Below w.heap.size w w7) := bel_trans B6.out hb7
  have X7 : Hid (BoxP w7 w.heap.size p a c) := X6.out.below hb7
  have Y7 : Hid (BoxP w7 b { p with ch := hw, os := [] } none 0) := Y6.out.below hb7
  have y11 := Y7.out.cell 11
  have f11 := Y7.out.fz 11
  simp only [cellsP] at y11
  replace y11 : w7.cell? ⟨b, 11, none⟩ = some (.slice none 0 0) := y11
  have Y8 : Hid (BoxP (w7.setCell ⟨b, 11, none⟩ (.slice (some ⟨w6.heap.size, 0, none⟩) 1 1)) b { p with ch := hw, os := [(61, bs id)] } (some ⟨w6.heap.size, 0, none⟩) 1) := Y7.out.set 11 _ rfl
  have X8 : Hid (BoxP (w7.setCell ⟨b, 11, none⟩ (.slice (some ⟨w6.heap.size, 0, none⟩) 1 1)) w.heap.size p a c) := X7.out.other hne 11 _
  have B8 : Hid (Below w.heap.size w (w7.setCell ⟨b, 11, none⟩ (.slice (some ⟨w6.heap.size, 0, none⟩) 1 1))) := B7.out.setCell hle2 _
  have L8 : Hid (OpLies (w7.setCell ⟨b, 11, none⟩ (.slice (some ⟨w6.heap.size, 0, none⟩) 1 1)) (some ⟨w6.heap.size, 0, none⟩) [(61, bs id)]) := OpLies.heap hOp6 (fun x hx => by
    cases hx
    exact Below.heap_setCell _ _ _ _ (show w6.heap.size ≠ b by omega))
  obtain ⟨w8, hw8⟩ : ∃ w8, w7.setCell ⟨b, 11, none⟩ (.slice (some ⟨w6.heap.size, 0, none⟩) 1 1) = w8 := ⟨_, rfl⟩
  rw [hw8] at Y8 X8 B8 L8
  obtain ⟨d0, d1, d2, d3, d4, d5, d6, d7, d8, d9, d10, d11⟩ := hcell.out _ _ _ _ _ Y8.out
  simp only [List.length_nil, List.length_cons] at d11
  clear X7 Y7 B7 X6 Y6 B6 hb7 hOp6 hOp
  go_wp2_with fail
  generalize w6.heap.size = x6 at *
  refine (HC2.out _ _ L8.out).mono ?_; rintro e w9 ⟨rfl, hb⟩
  have B9 : Hid (Below w.heap.size w w9) := bel_trans B8.out hb
  have c1 := (X8.out.below hb).cell 1
  simp only [cellsP] at c1
  replace c1 : w9.cell? ⟨w.heap.size, 1, none⟩ = some (.int .i64 p.ht) := c1
  clear hb d0 d1 d2 d3 d4 d5 d6 d7 d8 d9 d10 d11 X8 Y8 B8 L8 HC2 y11 f11 hw7 hw8 hcell hN1
  have hm8 : p.ht % 256 = p.ht := by omega
  obtain ⟨wa, hwa⟩ : ∃ wa, w9.alloc (.cells #[.int .u8 p.ht] 5) = wa := ⟨_, rfl⟩
  have Ba : Hid (Below w.heap.size w wa) := bel_trans B9.out (by rw [← hwa]; exact (Below.refl _ _).alloc (Nat.le_refl _) _)
  have hcv := conv_new (P := Try.prog) w9 37 9 5 5 1 [p.ht] 1 #[.int .u8 p.ht] rfl rfl Try.underlying37 Try.underlying5 Try.underlying9
  rw [mk_byte, hwa] at hcv
  have hsz : (mk [byteO p.ht]).size = 1 := size_mk _
  generalize mk [byteO p.ht] = H at *
  have hss : H.size + hw.size ≤ 17 := by omega
  by_cases hz1 : hw.size = 0
  · have k1 : decide ((0 : Int) < hw.size) = false := decide_eq_false (by omega)
    have k1b : ((hw.size : Int) == 0) = true := beq_iff_eq.2 (by omega)
    rw [if_pos hz1] at hA1
    obtain ⟨rfl, rfl⟩ := Prod.mk.inj hA1
    by_cases hz2 : id.size = 0
    · have k2 : decide ((0 : Int) < id.size) = false := decide_eq_false (by omega)
      have k2b : ((id.size : Int) == 0) = true := beq_iff_eq.2 (by omega)
      rw [if_pos hz2] at hA2
      obtain ⟨rfl, rfl⟩ := Prod.mk.inj hA2
      clear hA1 hA2 hid hhw hss hsz
      go_wp2_with (go_at_call 12; refine (num_any _ _).mono ?_; rintro e wz ⟨rfl, rfl⟩)
      go_ret
      exact ⟨rfl, B9.out⟩
    · have k2 : decide ((0 : Int) < id.size) = true := decide_eq_true (by omega)
      have k2c : 0 < id.size := by omega
      have k2b : ((id.size : Int) == 0) = false := beq_eq_false_iff_ne.2 (by omega)
      rw [if_neg hz2] at hA2
      obtain ⟨rfl, rfl⟩ := Prod.mk.inj hA2
      clear hA1 hA2 hid hhw hss hsz
      go_wp2_with (go_at_call 12; refine (num_any _ _).mono ?_; rintro e wz ⟨rfl, rfl⟩)
      go_ret
      exact ⟨rfl, B9.out⟩
  · have k1 : decide ((0 : Int) < hw.size) = true := decide_eq_true (by omega)
    have k1c : 0 < hw.size := by omega
    have k1b : ((hw.size : Int) == 0) = false := beq_eq_false_iff_ne.2 (by omega)
    rw [if_neg hz1] at hA1
    obtain ⟨rfl, rfl⟩ := Prod.mk.inj hA1
    by_cases hz2 : id.size = 0
    · have k2 : decide ((0 : Int) < id.size) = false := decide_eq_false (by omega)
      have k2b : ((id.size : Int) == 0) = true := beq_iff_eq.2 (by omega)
      rw [if_pos hz2] at hA2
      obtain ⟨rfl, rfl⟩ := Prod.mk.inj hA2
      clear hA1 hA2 hid hhw
      go_wp2_with (go_at_call 12; refine (num_any _ _).mono ?_; rintro e wz ⟨rfl, rfl⟩)
      go_ret
      exact ⟨rfl, Ba.out⟩
    · have k2 : decide ((0 : Int) < id.size) = true := decide_eq_true (by omega)
      have k2c : 0 < id.size := by omega
      have k2b : ((id.size : Int) == 0) = false := beq_eq_false_iff_ne.2 (by omega)
      rw [if_neg hz2] at hA2
      obtain ⟨rfl, rfl⟩ := Prod.mk.inj hA2
      clear hA1 hA2 hid hhw
      go_wp2_with (go_at_call 12; refine (num_any _ _).mono ?_; rintro e wz ⟨rfl, rfl⟩)
      go_ret
      exact ⟨rfl, Ba.out⟩

theorem walk (id hw : ByteArray) (p : Pk) (a : Option Addr) (c : Nat) (w : World) (hid : id.size ≤ 140737488351232) (hhw : hw.size ≤ 140737488351232) (hL : OpLies w a p.os) (hch : p.ch.size ≤ maxLen) (_ho : ∀ o ∈ p.os, o.2.length ≤ maxLen) (hl : p.os.length * 24 ≤ 140737488351232) :
    Calls Try.prog 5 #[.string id, .string hw, pv p a c] w fun e w' => e = .returned (.bool true) ∧ Below w.heap.size w w' := by
  by_cases h : mayP p = true ∧ id.size ≤ 16 ∧ hw.size ≤ 15
  · exact walk_yes id hw p a c w hL hch h.1 h.2.1 h.2.2
  · refine walk_no id hw p a c w hL hch hl hid hhw ?_
    cases hm : mayP p with
    | false => exact .inl rfl
    | true =>
      by_cases h1 : id.size ≤ 16
      · exact .inr (.inr (by have : ¬ hw.size ≤ 15 := fun h2 => h ⟨hm, h1, h2⟩; omega))
      · exact .inr (.inl (by omega))

theorem own : ownKnob Try.prog.godebug = none := by kernel_rfl
theorem laidOut : laidOutB Try.prog = true := by kernel_rfl

/-! ### The row's step -/
set_option maxRecDepth 100000 in
theorem lifted (os : Os) (started : os.Started) (H : Type) (enc : TypeId × Value → H) :
    ReturnsInHanded {} Try.checked os 5 .any (Rows.identSameSpec.pre6 enc Try.prog Try.f5 Rows.identSameRow.domain false) (Rows.identSameSpec.post enc Try.prog Try.f5 false true false false) := by
  refine returnsInHanded_of_change_sized (C := Try.checked) own started (by kernel_rfl) Try.func5
    (ChangeSpec.witness6 (enc := enc) (C := Try.checked) false ⟨#[], #[.string ByteArray.empty, .string ByteArray.empty, .agg #[.int .i64 0, .int .i64 0, .int .i64 0, .int .i64 0, .int .i64 0, .int .i64 0, .int .i64 0, .int .i64 0, .int .i64 0, .int .i64 0, .string ByteArray.empty, .slice none 0 0]], []⟩ 8 (by kernel_rfl) (by kernel_rfl) (by kernel_rfl) (by kernel_rfl)) ?_
  intro W base args ds gs before hval0 hW _ hsz0 _
  have hval : ∀ (j : Nat) t v, Try.f5.params[j]? = some t → args[j]? = some v → Value.okWide Try.prog W .any base t v := hval0
  have hsz : (DataW.weightsEach Try.prog (Try.f5.params.toList ++ Rows.identSameSpec.plain.varTypes Try.prog) (ds ++ gs)).all (· ≤ reachBytes) = true := hsz0
  have hW' := hW
  obtain ⟨p, q, hA0, hV, rfl, _, _⟩ := hW
  have hA : DataW.TrodAll enc Try.prog W 0 (fun _ => true) true Try.f5.params.toList args.toList ds p := hA0
  rw [Try.params5] at hA hval hsz
  obtain ⟨v0, vs0, d0, ds0, p0, q0, hargs, rfl, rfl, h0, r0⟩ := trodAll_cons hA
  obtain ⟨v1, vs1, d1, ds1, p1, q1, rfl, rfl, rfl, h1, r1⟩ := trodAll_cons r0
  obtain ⟨v2, vs2, d2, ds2, p2, q2, rfl, rfl, rfl, h2, r2⟩ := trodAll_cons r1
  obtain ⟨rfl, rfl, rfl⟩ := trodAll_nil r2
  obtain rfl : args = #[v0, v1, v2] := by cases args; simp_all
  obtain ⟨rfl, rfl⟩ := trodVars_none hV
  obtain ⟨a0, rfl, rfl, rfl, w0⟩ := open_string Try.underlying9 (hval 0 9 v0 rfl rfl) h0
  have s0 : a0.size ≤ 140737488351232 := by have := sized_string hsz (j := 0) (t := 9) rfl rfl; simpa [reachBytes] using this
  obtain ⟨a1, rfl, rfl, rfl, w1⟩ := open_string Try.underlying9 (hval 1 9 v1 rfl rfl) h1
  have s1 : a1.size ≤ 140737488351232 := by have := sized_string hsz (j := 1) (t := 9) rfl rfl; simpa [reachBytes] using this
  have k2 := h2
  have lt2 : ∀ x ∈ p2, x.block < W.heap.size := by obtain ⟨m, hm⟩ := k2; exact DataW.trod_lt m _ _ _ hm
  obtain ⟨a2, A2, C2, rfl, w2, f2, g2, u2⟩ := open_pk (hval 2 24 v2 rfl rfl) h2
  have b2 : a2.os.length * 24 ≤ 140737488351232 := u2 (fun n hn => by have := List.all_eq_true.1 hsz n (DataW.weights_mem_each (j := 2) (t := 24) (d := d2) rfl rfl n hn); simpa using this)
  clear hA0 hval0 hsz0
  refine (walk a0 a1 a2 A2 C2 W s0 s1 w2 f2 g2 b2).mono fun e W' ⟨he, bel⟩ => ?_
  subst he
  exact ⟨_, rfl, _, _, _, [], _, [], hW', trodAll_mk1 (shut_bool Try.underlying4 _), (trodAll_cons_mk (shut_string Try.underlying9 w0) (trodAll_cons_mk (shut_string Try.underlying9 w1) (trodAll_cons_mk (Below.trod laidOut (by kernel_rfl) (of_decide_eq_true (by kernel_rfl)) k2 bel lt2) trodAll_mk0))), rfl, bel.frame _, fun h => by cases h⟩

theorem over : Rows.identSameRow.holds Try.pinned (OpenSpec.ofChange Rows.identSameSpec) :=
  OpenClaim.holds_of_wide 5 Try.f5 rfl rfl rfl rfl rfl rfl rfl ⟨rfl, rfl, rfl, rfl, rfl⟩ rfl rfl rfl rfl rfl (by kernel_rfl) Try.func5 (by kernel_rfl)
    (of_decide_eq_true (by kernel_rfl)) (by unfold Func.isWrapper; first | (rw [if_pos (by decide +kernel)]; kernel_rfl) | (rw [if_neg (by decide +kernel)]; exact ⟨rfl, rfl⟩))
    (fun os started H enc _ => lifted os started H enc)

/-- The given statement. -/
theorem proved : Rows.IdentSameSaid := over

end identSame
theorem identSame_proved : Rows.IdentSameSaid := identSame.proved
#print axioms identSame_proved
end Go.Proofs.Ytkohojifnmklmaa

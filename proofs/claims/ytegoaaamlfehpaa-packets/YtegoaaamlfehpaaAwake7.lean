/-
  The contract of the laws' own 'awake' of layer 7: it answers true.
-/
import Derived.Test.YtegoaaamlfehpaaPackAwk
import Derived.Test.YtegoaaamlfehpaaPackGet
import Derived.Test.YtegoaaamlfehpaaPackSame
import Derived.Test.YtegoaaamlfehpaaAwake6
namespace Go.Proofs.Ytegoaaamlfehpaa
open Go.ChangeShapes Go.WideShapes Go.ChangeAt Go.RowKit Go.Pin Go.PlainAid

set_option maxRecDepth 100000 in
set_option maxHeartbeats 4000000 in
theorem awake7_yes (w : World) : Calls Try.prog 19 #[] w fun e w' => e = .returned (.bool true) ∧ Below w.heap.size w w' := by
  have HP : Hid (∀ (a : Option Addr) (c : Nat) (w : World), OpLies w a pkA.os → _) := fun a c w h => pPut_is pkA a c textA 0 w h (by unfold maxLen; decide) pkA_put
  have HG : Hid (∀ w, _) := fun w => pGet_yes textA pkA w (by rw [textA_size]; omega) pkA_get
  have hso : textO.size ≤ 1000 := by unfold textO; simp only [ByteArray.size_append, ByteArray.size_extract]; decide
  have HO : Hid (∀ w, _) := fun w => pGet_yes textO pkO w (by omega) textO_get
  have HN : Hid (∀ w, _) := fun w => pGet_no (textA.extract 0 239) w (by simp only [ByteArray.size_extract]; omega) textA_short
  have HL : Hid (∀ w, _) := fun w => pPut_is pkL none 0 ⟨#[]⟩ 700 w (.inl rfl) (by unfold maxLen; decide) pkL_put
  have HM : Hid (∀ (a : Option Addr) (c : Nat) (w : World), OpLies w a pkA.os → _) := fun a c w h => pMay_c pkA a c w h (by unfold maxLen; decide)
  rw [pkA_may] at HM
  have HS : Hid (∀ (a a2 : Option Addr) (c c2 : Nat) (w : World), OpLies w a pkA.os → OpLies w a2 pkA.os → _) := fun a a2 c c2 w h1 h2 => samePk_c pkA a a2 c c2 w (by decide) h1 h2
  have HQ : Hid (∀ (a a2 : Option Addr) (c c2 : Nat) (w : World), OpLies w a [(12, [122, 121])] → OpLies w a2 [(12, [122, 121])] → _) := fun a a2 c c2 w h1 h2 => sameOp_c a a2 1 1 c c2 [(12, [122, 121])] w rfl rfl (by decide) h1 h2
  have hA : textA.size = 244 := textA_size
  have k1 := textA_8
  have k2 := textA_28
  have k3 := textA_236
  have hO : textO = textA.extract 0 44 ++ ⟨#[12, 1, 121, 255]⟩ ++ textA.extract 48 108 ++ ⟨#[12, 1, 122, 255]⟩ ++ textA.extract 112 240 ++ ⟨#[52, 1, 3, 255]⟩ := rfl
  rw [hO] at HO
  generalize textA = S at *
  clear hso hO
  simp only [pv, cellsP, pkA, pkO, pkL, List.length_cons, List.length_nil] at HP HG HO HN HL HM HS
  go_enter Try.func19, Try.ntmps19
  have hb0 : Below w.heap.size w ((w.alloc (.cells #[.int .i64 53, .string ⟨#[1]⟩] 25)).alloc (.cells #[.int .i64 1, .int .i64 1, .int .i64 0, .int .i64 258, .int .i64 0, .int .i64 0, .int .i64 0, .int .i64 0, .int .i64 0, .int .i64 0, .string ⟨#[97, 98, 99, 100, 101, 102]⟩, .slice (some ⟨w.heap.size, 0, none⟩) 1 1] 40)) := ((Below.refl _ _).alloc (Nat.le_refl _) _).alloc (by simp) _
  have L1 : Hid (OpLies ((w.alloc (.cells #[.int .i64 53, .string ⟨#[1]⟩] 25)).alloc (.cells #[.int .i64 1, .int .i64 1, .int .i64 0, .int .i64 258, .int .i64 0, .int .i64 0, .int .i64 0, .int .i64 0, .int .i64 0, .int .i64 0, .string ⟨#[97, 98, 99, 100, 101, 102]⟩, .slice (some ⟨w.heap.size, 0, none⟩) 1 1] 40)) (some ⟨w.heap.size, 0, none⟩) [(53, [1])]) := OpLies.below (op_new w 53 ⟨#[1]⟩ 25) ((Below.refl _ _).alloc (Nat.le_refl _) _)
  have X1 : Hid (BoxP ((w.alloc (.cells #[.int .i64 53, .string ⟨#[1]⟩] 25)).alloc (.cells #[.int .i64 1, .int .i64 1, .int .i64 0, .int .i64 258, .int .i64 0, .int .i64 0, .int .i64 0, .int .i64 0, .int .i64 0, .int .i64 0, .string ⟨#[97, 98, 99, 100, 101, 102]⟩, .slice (some ⟨w.heap.size, 0, none⟩) 1 1] 40)) (w.heap.size + 1) pkA (some ⟨w.heap.size, 0, none⟩) 1) := by
    have := BoxP.new (w.alloc (.cells #[.int .i64 53, .string ⟨#[1]⟩] 25)) pkA (some ⟨w.heap.size, 0, none⟩) 1
    rw [show (w.alloc (.cells #[.int .i64 53, .string ⟨#[1]⟩] 25)).heap.size = w.heap.size + 1 by simp] at this
    exact this
  have B1 : Hid (Below w.heap.size w ((w.alloc (.cells #[.int .i64 53, .string ⟨#[1]⟩] 25)).alloc (.cells #[.int .i64 1, .int .i64 1, .int .i64 0, .int .i64 258, .int .i64 0, .int .i64 0, .int .i64 0, .int .i64 0, .int .i64 0, .int .i64 0, .string ⟨#[97, 98, 99, 100, 101, 102]⟩, .slice (some ⟨w.heap.size, 0, none⟩) 1 1] 40))) := hb0
  clear hb0
  go_wp2_with fail
  generalize ((w.alloc (.cells #[.int .i64 53, .string ⟨#[1]⟩] 25)).alloc (.cells #[.int .i64 1, .int .i64 1, .int .i64 0, .int .i64 258, .int .i64 0, .int .i64 0, .int .i64 0, .int .i64 0, .int .i64 0, .int .i64 0, .string ⟨#[97, 98, 99, 100, 101, 102]⟩, .slice (some ⟨w.heap.size, 0, none⟩) 1 1] 40)) = w1 at *
  refine (HP.out _ _ _ L1.out).mono ?_; rintro e w2 ⟨rfl, hb⟩
  have L2 : Hid (OpLies w2 (some ⟨w.heap.size, 0, none⟩) [(53, [1])]) := L1.out.below hb
  have X2 : Hid (BoxP w2 (w.heap.size + 1) pkA (some ⟨w.heap.size, 0, none⟩) 1) := X1.out.below hb
  have B2 : Hid (Below w.heap.size w w2) := bel_trans B1.out hb
  clear hb L1 X1 B1 HP
  go_wp2_with fail
  refine (HG.out _).mono ?_; rintro e w3 ⟨⟨a3, c3, rfl, hO3⟩, hb⟩
  have hA3 : Below w3.heap.size w3 (w3.alloc (.cells #[.int .i64 1, .int .i64 1, .int .i64 0, .int .i64 258, .int .i64 0, .int .i64 0, .int .i64 0, .int .i64 0, .int .i64 0, .int .i64 0, .string ⟨#[97, 98, 99, 100, 101, 102]⟩, .slice a3 1 c3] 40)) := (Below.refl _ _).alloc (Nat.le_refl _) _
  have L4 : Hid (OpLies (w3.alloc (.cells #[.int .i64 1, .int .i64 1, .int .i64 0, .int .i64 258, .int .i64 0, .int .i64 0, .int .i64 0, .int .i64 0, .int .i64 0, .int .i64 0, .string ⟨#[97, 98, 99, 100, 101, 102]⟩, .slice a3 1 c3] 40)) (some ⟨w.heap.size, 0, none⟩) [(53, [1])]) := (L2.out.below hb).below hA3
  have X4 : Hid (BoxP (w3.alloc (.cells #[.int .i64 1, .int .i64 1, .int .i64 0, .int .i64 258, .int .i64 0, .int .i64 0, .int .i64 0, .int .i64 0, .int .i64 0, .int .i64 0, .string ⟨#[97, 98, 99, 100, 101, 102]⟩, .slice a3 1 c3] 40)) (w.heap.size + 1) pkA (some ⟨w.heap.size, 0, none⟩) 1) := (X2.out.below hb).below hA3
  have M4 : Hid (OpLies (w3.alloc (.cells #[.int .i64 1, .int .i64 1, .int .i64 0, .int .i64 258, .int .i64 0, .int .i64 0, .int .i64 0, .int .i64 0, .int .i64 0, .int .i64 0, .string ⟨#[97, 98, 99, 100, 101, 102]⟩, .slice a3 1 c3] 40)) a3 [(53, [1])]) := hO3.rowlies.lies.below hA3
  have Y4 : Hid (BoxP (w3.alloc (.cells #[.int .i64 1, .int .i64 1, .int .i64 0, .int .i64 258, .int .i64 0, .int .i64 0, .int .i64 0, .int .i64 0, .int .i64 0, .int .i64 0, .string ⟨#[97, 98, 99, 100, 101, 102]⟩, .slice a3 1 c3] 40)) w3.heap.size pkA a3 c3) := BoxP.new w3 pkA a3 c3
  have B4 : Hid (Below w.heap.size w (w3.alloc (.cells #[.int .i64 1, .int .i64 1, .int .i64 0, .int .i64 258, .int .i64 0, .int .i64 0, .int .i64 0, .int .i64 0, .int .i64 0, .int .i64 0, .string ⟨#[97, 98, 99, 100, 101, 102]⟩, .slice a3 1 c3] 40))) := bel_trans (bel_trans B2.out hb) hA3
  clear hb hA3 hO3 L2 X2 B2 HG
  go_wp2_with fail
  generalize w3.alloc (.cells #[.int .i64 1, .int .i64 1, .int .i64 0, .int .i64 258, .int .i64 0, .int .i64 0, .int .i64 0, .int .i64 0, .int .i64 0, .int .i64 0, .string ⟨#[97, 98, 99, 100, 101, 102]⟩, .slice a3 1 c3] 40) = w4 at *
  generalize w3.heap.size = p4 at *
  have z1 : (S.extract 0 44).size = 44 := by rw [ByteArray.size_extract]; omega
  have z2 : (S.extract 48 108).size = 60 := by rw [ByteArray.size_extract]; omega
  have z3 : (S.extract 112 240).size = 128 := by rw [ByteArray.size_extract]; omega
  go_quiet (fail)
  have hd : Below w4.heap.size w4 (w4.drewN nq) := below_drewN (Below.refl _ _) nq
  have L5 : Hid (OpLies (w4.drewN nq) (some ⟨w.heap.size, 0, none⟩) [(53, [1])]) := L4.out.below hd
  have X5 : Hid (BoxP (w4.drewN nq) (w.heap.size + 1) pkA (some ⟨w.heap.size, 0, none⟩) 1) := X4.out.below hd
  have M5 : Hid (OpLies (w4.drewN nq) a3 [(53, [1])]) := M4.out.below hd
  have Y5 : Hid (BoxP (w4.drewN nq) p4 pkA a3 c3) := Y4.out.below hd
  have B5 : Hid (Below w.heap.size w (w4.drewN nq)) := bel_trans B4.out hd
  clear hd L4 X4 M4 Y4 B4 z1 z2 z3
  go_wp2_with fail
  generalize w4.drewN nq = w5 at *
  refine (HO.out _).mono ?_; rintro e w6 ⟨⟨a6, c6, rfl, hO6⟩, hb⟩
  have hA6 : Below w6.heap.size w6 (w6.alloc (.cells #[.int .i64 1, .int .i64 1, .int .i64 0, .int .i64 258, .int .i64 0, .int .i64 0, .int .i64 0, .int .i64 0, .int .i64 0, .int .i64 0, .string ⟨#[97, 98, 99, 100, 101, 102]⟩, .slice a6 1 c6] 40)) := (Below.refl _ _).alloc (Nat.le_refl _) _
  have hb7 := bel_trans hb hA6
  have L7 : Hid (OpLies (w6.alloc (.cells #[.int .i64 1, .int .i64 1, .int .i64 0, .int .i64 258, .int .i64 0, .int .i64 0, .int .i64 0, .int .i64 0, .int .i64 0, .int .i64 0, .string ⟨#[97, 98, 99, 100, 101, 102]⟩, .slice a6 1 c6] 40)) (some ⟨w.heap.size, 0, none⟩) [(53, [1])]) := L5.out.below hb7
  have X7 : Hid (BoxP (w6.alloc (.cells #[.int .i64 1, .int .i64 1, .int .i64 0, .int .i64 258, .int .i64 0, .int .i64 0, .int .i64 0, .int .i64 0, .int .i64 0, .int .i64 0, .string ⟨#[97, 98, 99, 100, 101, 102]⟩, .slice a6 1 c6] 40)) (w.heap.size + 1) pkA (some ⟨w.heap.size, 0, none⟩) 1) := X5.out.below hb7
  have M7 : Hid (OpLies (w6.alloc (.cells #[.int .i64 1, .int .i64 1, .int .i64 0, .int .i64 258, .int .i64 0, .int .i64 0, .int .i64 0, .int .i64 0, .int .i64 0, .int .i64 0, .string ⟨#[97, 98, 99, 100, 101, 102]⟩, .slice a6 1 c6] 40)) a3 [(53, [1])]) := M5.out.below hb7
  have Y7 : Hid (BoxP (w6.alloc (.cells #[.int .i64 1, .int .i64 1, .int .i64 0, .int .i64 258, .int .i64 0, .int .i64 0, .int .i64 0, .int .i64 0, .int .i64 0, .int .i64 0, .string ⟨#[97, 98, 99, 100, 101, 102]⟩, .slice a6 1 c6] 40)) p4 pkA a3 c3) := Y5.out.below hb7
  have B7 : Hid (Below w.heap.size w (w6.alloc (.cells #[.int .i64 1, .int .i64 1, .int .i64 0, .int .i64 258, .int .i64 0, .int .i64 0, .int .i64 0, .int .i64 0, .int .i64 0, .int .i64 0, .string ⟨#[97, 98, 99, 100, 101, 102]⟩, .slice a6 1 c6] 40))) := bel_trans B5.out hb7
  have N7 : Hid (OpLies (w6.alloc (.cells #[.int .i64 1, .int .i64 1, .int .i64 0, .int .i64 258, .int .i64 0, .int .i64 0, .int .i64 0, .int .i64 0, .int .i64 0, .int .i64 0, .string ⟨#[97, 98, 99, 100, 101, 102]⟩, .slice a6 1 c6] 40)) a6 [(12, [122, 121])]) := hO6.rowlies.lies.below hA6
  have Q7 : Hid (BoxP (w6.alloc (.cells #[.int .i64 1, .int .i64 1, .int .i64 0, .int .i64 258, .int .i64 0, .int .i64 0, .int .i64 0, .int .i64 0, .int .i64 0, .int .i64 0, .string ⟨#[97, 98, 99, 100, 101, 102]⟩, .slice a6 1 c6] 40)) w6.heap.size pkO a6 c6) := BoxP.new w6 pkO a6 c6
  clear hb7 hA6 hb hO6 L5 X5 M5 Y5 B5 HO
  go_wp2_with fail
  generalize w6.alloc (.cells #[.int .i64 1, .int .i64 1, .int .i64 0, .int .i64 258, .int .i64 0, .int .i64 0, .int .i64 0, .int .i64 0, .int .i64 0, .int .i64 0, .string ⟨#[97, 98, 99, 100, 101, 102]⟩, .slice a6 1 c6] 40) = w7 at *
  generalize w6.heap.size = p6 at *
  refine (HN.out _).mono ?_; rintro e w8 ⟨rfl, hb⟩
  have hA8 : Below w8.heap.size w8 (w8.alloc (.cells #[.int .i64 0, .int .i64 0, .int .i64 0, .int .i64 0, .int .i64 0, .int .i64 0, .int .i64 0, .int .i64 0, .int .i64 0, .int .i64 0, .string ⟨#[]⟩, .slice none 0 0] 40)) := (Below.refl _ _).alloc (Nat.le_refl _) _
  have hb9 := bel_trans hb hA8
  have L9 : Hid (OpLies (w8.alloc (.cells #[.int .i64 0, .int .i64 0, .int .i64 0, .int .i64 0, .int .i64 0, .int .i64 0, .int .i64 0, .int .i64 0, .int .i64 0, .int .i64 0, .string ⟨#[]⟩, .slice none 0 0] 40)) (some ⟨w.heap.size, 0, none⟩) [(53, [1])]) := L7.out.below hb9
  have X9 : Hid (BoxP (w8.alloc (.cells #[.int .i64 0, .int .i64 0, .int .i64 0, .int .i64 0, .int .i64 0, .int .i64 0, .int .i64 0, .int .i64 0, .int .i64 0, .int .i64 0, .string ⟨#[]⟩, .slice none 0 0] 40)) (w.heap.size + 1) pkA (some ⟨w.heap.size, 0, none⟩) 1) := X7.out.below hb9
  have M9 : Hid (OpLies (w8.alloc (.cells #[.int .i64 0, .int .i64 0, .int .i64 0, .int .i64 0, .int .i64 0, .int .i64 0, .int .i64 0, .int .i64 0, .int .i64 0, .int .i64 0, .string ⟨#[]⟩, .slice none 0 0] 40)) a3 [(53, [1])]) := M7.out.below hb9
  have Y9 : Hid (BoxP (w8.alloc (.cells #[.int .i64 0, .int .i64 0, .int .i64 0, .int .i64 0, .int .i64 0, .int .i64 0, .int .i64 0, .int .i64 0, .int .i64 0, .int .i64 0, .string ⟨#[]⟩, .slice none 0 0] 40)) p4 pkA a3 c3) := Y7.out.below hb9
  have B9 : Hid (Below w.heap.size w (w8.alloc (.cells #[.int .i64 0, .int .i64 0, .int .i64 0, .int .i64 0, .int .i64 0, .int .i64 0, .int .i64 0, .int .i64 0, .int .i64 0, .int .i64 0, .string ⟨#[]⟩, .slice none 0 0] 40))) := bel_trans B7.out hb9
  have N9 : Hid (OpLies (w8.alloc (.cells #[.int .i64 0, .int .i64 0, .int .i64 0, .int .i64 0, .int .i64 0, .int .i64 0, .int .i64 0, .int .i64 0, .int .i64 0, .int .i64 0, .string ⟨#[]⟩, .slice none 0 0] 40)) a6 [(12, [122, 121])]) := N7.out.below hb9
  have Q9 : Hid (BoxP (w8.alloc (.cells #[.int .i64 0, .int .i64 0, .int .i64 0, .int .i64 0, .int .i64 0, .int .i64 0, .int .i64 0, .int .i64 0, .int .i64 0, .int .i64 0, .string ⟨#[]⟩, .slice none 0 0] 40)) p6 pkO a6 c6) := Q7.out.below hb9
  clear hb9 hA8 hb L7 X7 M7 Y7 B7 N7 Q7 HN
  simp only [zeroP, List.length_nil]
  go_wp2_with fail
  generalize w8.alloc (.cells #[.int .i64 0, .int .i64 0, .int .i64 0, .int .i64 0, .int .i64 0, .int .i64 0, .int .i64 0, .int .i64 0, .int .i64 0, .int .i64 0, .string ⟨#[]⟩, .slice none 0 0] 40) = w9 at *
  refine (HL.out _).mono ?_; rintro e w10 ⟨rfl, hb⟩
  have L10 : Hid (OpLies w10 (some ⟨w.heap.size, 0, none⟩) [(53, [1])]) := L9.out.below hb
  have X10 : Hid (BoxP w10 (w.heap.size + 1) pkA (some ⟨w.heap.size, 0, none⟩) 1) := X9.out.below hb
  have M10 : Hid (OpLies w10 a3 [(53, [1])]) := M9.out.below hb
  have Y10 : Hid (BoxP w10 p4 pkA a3 c3) := Y9.out.below hb
  have B10 : Hid (Below w.heap.size w w10) := bel_trans B9.out hb
  have N10 : Hid (OpLies w10 a6 [(12, [122, 121])]) := N9.out.below hb
  have Q10 : Hid (BoxP w10 p6 pkO a6 c6) := Q9.out.below hb
  clear hb L9 X9 M9 Y9 B9 N9 Q9 HL
  obtain ⟨c0, c1, c2, c4, c5, c6', c7, c8, c9, c10, c11, c12⟩ := X10.out.all
  obtain ⟨d0, d1, d2, d4, d5, d6, d7, d8, d9, d10, d11, d12⟩ := Y10.out.all
  have q12 : w10.cell? ⟨p6, 11, none⟩ = some (.slice a6 1 c6) := Q10.out.cell 11
  simp only [pkA, List.length_cons, List.length_nil] at c0 c1 c2 c4 c5 c6' c7 c8 c9 c10 c11 c12 d0 d1 d2 d4 d5 d6 d7 d8 d9 d10 d11 d12
  go_wp2_with (go_at_call 9; refine (num_any _ _).mono ?_; rintro e w11 ⟨rfl, rfl⟩)
  refine (HS.out _ _ _ _ _ M10.out L10.out).mono ?_; rintro e w12 ⟨rfl, hb⟩
  have hA : Below w12.heap.size w12 (w12.alloc (.cells #[.int .i64 12, .string ⟨#[122, 121]⟩] 25)) := (Below.refl _ _).alloc (Nat.le_refl _) _
  have hb2 := bel_trans hb hA
  have L12 : Hid (OpLies (w12.alloc (.cells #[.int .i64 12, .string ⟨#[122, 121]⟩] 25)) (some ⟨w.heap.size, 0, none⟩) [(53, [1])]) := L10.out.below hb2
  have X12 : Hid (BoxP (w12.alloc (.cells #[.int .i64 12, .string ⟨#[122, 121]⟩] 25)) (w.heap.size + 1) pkA (some ⟨w.heap.size, 0, none⟩) 1) := X10.out.below hb2
  have N12 : Hid (OpLies (w12.alloc (.cells #[.int .i64 12, .string ⟨#[122, 121]⟩] 25)) a6 [(12, [122, 121])]) := N10.out.below hb2
  have B12 : Hid (Below w.heap.size w (w12.alloc (.cells #[.int .i64 12, .string ⟨#[122, 121]⟩] 25))) := bel_trans B10.out hb2
  have O12 : Hid (OpLies (w12.alloc (.cells #[.int .i64 12, .string ⟨#[122, 121]⟩] 25)) (some ⟨w12.heap.size, 0, none⟩) [(12, [122, 121])]) := op_new w12 12 ⟨#[122, 121]⟩ 25
  have q13 : w12.cell? ⟨p6, 11, none⟩ = some (.slice a6 1 c6) := (Q10.out.below hb).cell 11
  clear hb2 hA hb L10 X10 M10 Y10 B10 N10 Q10 HS c0 c1 c2 c4 c5 c6' c7 c8 c9 c10 c11 c12 d0 d1 d2 d4 d5 d6 d7 d8 d9 d10 d11 d12 q12
  go_wp2_with (go_at_call 9; refine (num_any _ _).mono ?_; rintro e w13 ⟨rfl, rfl⟩)
  refine (HQ.out _ _ _ _ _ N12.out O12.out).mono ?_; rintro e w14 ⟨rfl, hb⟩
  have L14 : Hid (OpLies w14 (some ⟨w.heap.size, 0, none⟩) [(53, [1])]) := L12.out.below hb
  have B14 : Hid (Below w.heap.size w w14) := bel_trans B12.out hb
  obtain ⟨c0, c1, c2, c4, c5, c6', c7, c8, c9, c10, c11, c12⟩ := (X12.out.below hb).all
  simp only [pkA, List.length_cons, List.length_nil] at c0 c1 c2 c4 c5 c6' c7 c8 c9 c10 c11 c12
  clear hb L12 X12 N12 B12 O12 q13 HQ
  go_wp2_with (go_at_call 9; refine (num_any _ _).mono ?_; rintro e w15 ⟨rfl, rfl⟩)
  refine (HM.out _ _ _ L14.out).mono ?_; rintro e w16 ⟨rfl, hb⟩
  go_wp2
  go_ret
  exact ⟨rfl, bel_trans B14.out hb⟩
end Go.Proofs.Ytegoaaamlfehpaa

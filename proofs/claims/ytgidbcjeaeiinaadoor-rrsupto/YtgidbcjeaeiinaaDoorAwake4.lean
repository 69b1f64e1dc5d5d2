/-
  The contract of the laws' own 'awake' of layer 4: it answers true.
-/
import Derived.Test.YtgidbcjeaeiinaaDoorBRis
namespace Go.Proofs.YtgidbcjeaeiinaaDoor
set_option maxRecDepth 100000
open Go.ChangeShapes Go.WideShapes Go.ChangeAt Go.RowKit Go.Pin Go.PlainAid

def awA : Rec := ⟨⟨#[97, 46, 108, 97, 110]⟩, 1, 60, 167772162, ⟨#[]⟩, ⟨#[]⟩, 0⟩
def awB : Rec := ⟨⟨#[98, 46, 108, 97, 110]⟩, 5, 0, 0, ⟨#[97, 46, 108, 97, 110]⟩, ⟨#[]⟩, 0⟩
def awS : ByteArray := ⟨#[1, 97, 3, 108, 97, 110, 0, 0, 1, 0, 1, 0, 0, 0, 60, 0, 4, 10, 0, 0, 2]⟩
def awT : ByteArray := ⟨#[1, 98, 192, 2, 0, 5, 0, 1, 0, 0, 0, 0, 0, 2, 192, 0]⟩
def awK : List Kn := [([97, 46, 108, 97, 110], 0), ([108, 97, 110], 2)]
theorem awA_may : mayR awA = true := mayR_is rfl (by decide)
theorem awB_may : mayR awB = true := mayR_is rfl (by decide)
theorem awA_put : putL 0 [] awA = some (bs awS, awK) := by unfold putL; rw [awA_may]; decide
theorem awB_put : putL 21 awK awB = some (bs awT, awK ++ [([98, 46, 108, 97, 110], 21)]) := by unfold putL; rw [awB_may]; decide
theorem awA_get : getRec awS 0 = some (awA, 21) ∧ Go.Pin.Good (bs awS) awK := by
  have := put_get (A := []) good_nil awA_put []
  simp only [List.nil_append, List.append_nil, mk_bs] at this
  exact this
theorem awB_get : getRec (awS ++ awT) 21 = some (awB, 37) := by
  have := (put_get (A := bs awS) awA_get.2 (show putL (((bs awS).length : Nat) : Int) awK awB = _ from awB_put) []).1
  rw [List.append_nil, ← bs_app, mk_bs] at this
  exact this
theorem awC_may : mayR ⟨⟨#[97]⟩, 1, 0, 0, ⟨#[]⟩, ⟨#[120]⟩, 0⟩ = false := mayR_not (.inl (by intro h; simp [namedR] at h))

set_option maxHeartbeats 2000000 in
theorem awake_yes (w : World) (hL : Laid w) : Calls Tryd.prog 19 #[] w fun e w' => e = .returned (.bool true) ∧ Below w.heap.size w w' := by
  have HL : Hid (Laid w) := hL
  clear hL
  go_enter Tryd.func19, Tryd.ntmps19
  go_wp2_with fail
  have B0 : Below w.heap.size w (w.alloc (.cells #[.string ⟨#[97, 46, 108, 97, 110]⟩, .int .i64 1, .int .i64 60, .int .i64 167772162, .string ⟨#[]⟩, .string ⟨#[]⟩, .int .i64 0] 24)) := (Below.refl _ _).alloc (Nat.le_refl _) _
  have X0 : Boxed (w.alloc (.cells #[.string ⟨#[97, 46, 108, 97, 110]⟩, .int .i64 1, .int .i64 60, .int .i64 167772162, .string ⟨#[]⟩, .string ⟨#[]⟩, .int .i64 0] 24)) w.heap.size awA := Boxed.new w awA
  refine (rrPut_nil 0 0 awK awA awS _ (by decide) (by decide) (by decide) (HL.out.below B0) awA_put).mono ?_; rintro e w1 ⟨⟨v1, rfl, k1⟩, hb⟩
  obtain ⟨a1, c1, rfl, l1⟩ := k1.lies
  have X1 : Hid (Boxed w1 w.heap.size awA) := X0.below hb
  have B1 : Hid (Below w.heap.size w w1) := bel_trans B0 hb
  have L1 : Hid (KnLies w1 a1 awK) := l1
  clear k1 l1 hb B0 X0
  go_wp2_with fail
  refine (rrGet_yes awS 0 awA 21 _ (by decide) (HL.out.below B1.out) (by decide) awA_get.1).mono ?_; rintro e w2 ⟨rfl, hb⟩
  have X2 : Hid (Boxed w2 w.heap.size awA) := X1.out.below hb
  have B2 : Hid (Below w.heap.size w w2) := bel_trans B1.out hb
  have L2 : Hid (KnLies w2 a1 awK) := L1.out.below hb
  clear hb X1 B1 L1
  simp only [rv, awA]
  go_wp2_with fail
  have A3 : Below w2.heap.size w2 (w2.alloc (.cells #[.string ⟨#[97, 46, 108, 97, 110]⟩, .int .i64 1, .int .i64 60, .int .i64 167772162, .string ⟨#[]⟩, .string ⟨#[]⟩, .int .i64 0] 24)) := (Below.refl _ _).alloc (Nat.le_refl _) _
  have Y3 : Boxed (w2.alloc (.cells #[.string ⟨#[97, 46, 108, 97, 110]⟩, .int .i64 1, .int .i64 60, .int .i64 167772162, .string ⟨#[]⟩, .string ⟨#[]⟩, .int .i64 0] 24)) w2.heap.size awA := Boxed.new w2 awA
  refine (rrPut_yes 21 a1 2 c1 awK (awK ++ [([98, 46, 108, 97, 110], 21)]) awB awT _ rfl (by decide) (by decide) (by decide) (by decide) (by decide) (L2.out.below A3) ((HL.out.below B2.out).below A3) awB_put).mono ?_; rintro e w3 ⟨⟨v3, rfl, k3⟩, hb⟩
  have hb' := bel_trans A3 hb
  have X3 : Hid (Boxed w3 w.heap.size awA) := X2.out.below hb'
  have Y3' : Hid (Boxed w3 w2.heap.size awA) := Y3.below hb
  have B3 : Hid (Below w.heap.size w w3) := bel_trans B2.out hb'
  clear hb hb' X2 B2 L2 A3 Y3 k3
  go_wp2_with fail
  refine (rrGet_yes (awS ++ awT) 21 awB 37 _ (by decide) (HL.out.below B3.out) (by decide) awB_get).mono ?_; rintro e w4 ⟨rfl, hb⟩
  have X4 : Hid (Boxed w4 w.heap.size awA) := X3.out.below hb
  have Y4 : Hid (Boxed w4 w2.heap.size awA) := Y3'.out.below hb
  have B4 : Hid (Below w.heap.size w w4) := bel_trans B3.out hb
  clear hb X3 Y3' B3
  simp only [rv, awB]
  go_wp2_with fail
  have A4 : Below w4.heap.size w4 (w4.alloc (.cells #[.string ⟨#[98, 46, 108, 97, 110]⟩, .int .i64 5, .int .i64 0, .int .i64 0, .string ⟨#[97, 46, 108, 97, 110]⟩, .string ⟨#[]⟩, .int .i64 0] 24)) := (Below.refl _ _).alloc (Nat.le_refl _) _
  have V4 : Boxed (w4.alloc (.cells #[.string ⟨#[98, 46, 108, 97, 110]⟩, .int .i64 5, .int .i64 0, .int .i64 0, .string ⟨#[97, 46, 108, 97, 110]⟩, .string ⟨#[]⟩, .int .i64 0] 24)) w4.heap.size awB := Boxed.new w4 awB
  refine (rrGet_no ⟨#[]⟩ 0 _ (by decide) ((HL.out.below B4.out).below A4) (by decide) get_empty).mono ?_; rintro e w5 ⟨rfl, hb⟩
  have hb' := bel_trans A4 hb
  have X5 : Hid (Boxed w5 w.heap.size awA) := X4.out.below hb'
  have Y5 : Hid (Boxed w5 w2.heap.size awA) := Y4.out.below hb'
  have V5 : Hid (Boxed w5 w4.heap.size awB) := V4.below hb
  have B5 : Hid (Below w.heap.size w w5) := bel_trans B4.out hb'
  clear hb hb' X4 Y4 V4 A4 B4
  simp only [rv, zeroR]
  go_wp2_with fail
  have A5 : Below w5.heap.size w5 (w5.alloc (.cells #[.string ⟨#[]⟩, .int .i64 0, .int .i64 0, .int .i64 0, .string ⟨#[]⟩, .string ⟨#[]⟩, .int .i64 0] 24)) := (Below.refl _ _).alloc (Nat.le_refl _) _
  refine (rrPut_nilno 0 0 ⟨⟨#[97]⟩, 1, 0, 0, ⟨#[]⟩, ⟨#[120]⟩, 0⟩ _ (by decide) (by decide) (by decide) ((HL.out.below B5.out).below A5) (putL_not awC_may)).mono ?_; rintro e w6 ⟨rfl, hb⟩
  have hb' := bel_trans A5 hb
  have X6 : Boxed w6 w.heap.size awA := X5.out.below hb'
  have Y6 : Boxed w6 w2.heap.size awA := Y5.out.below hb'
  have V6 : Boxed w6 w4.heap.size awB := V5.out.below hb'
  have B6 : Hid (Below w.heap.size w w6) := bel_trans B5.out hb'
  have hS : awS.toList = [1, 97, 3, 108, 97, 110, 0, 0, 1, 0, 1, 0, 0, 0, 60, 0, 4, 10, 0, 0, 2] := by rw [ByteArray.toList_eq]; rfl
  have hT : awT.toList = [1, 98, 192, 2, 0, 5, 0, 1, 0, 0, 0, 0, 0, 2, 192, 0] := by rw [ByteArray.toList_eq]; rfl
  have hz : awS.size = 21 := rfl
  have x0 := X6.cell 0
  have x1 := X6.cell 1
  have x2 := X6.cell 2
  have x3 := X6.cell 3
  have x4 := X6.cell 4
  have x5 := X6.cell 5
  have x6 := X6.cell 6
  have y0 := Y6.cell 0
  have y1 := Y6.cell 1
  have y2 := Y6.cell 2
  have y3 := Y6.cell 3
  have y4 := Y6.cell 4
  have y5 := Y6.cell 5
  have y6 := Y6.cell 6
  have z4 := V6.cell 4
  simp [awA, awB] at x0 x1 x2 x3 x4 x5 x6 y0 y1 y2 y3 y4 y5 y6 z4
  clear hb hb' X5 Y5 V5 A5 B5 X6 Y6 V6
  go_wp2_with (go_at_call 14; refine (num_any _ _).mono ?_; rintro e w7 ⟨rfl, rfl⟩)
  refine (rrMay_is awA true _ (by decide) (by decide) awA_may).mono ?_; rintro e w8 ⟨rfl, hb⟩
  have B8 := bel_trans B6.out hb
  clear hb
  go_wp2
  go_ret
  exact ⟨rfl, B8⟩

end Go.Proofs.YtgidbcjeaeiinaaDoor

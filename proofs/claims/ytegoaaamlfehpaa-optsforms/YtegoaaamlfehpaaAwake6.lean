/-
  The contract of the laws' own 'awake' of layer 6: it answers true.
-/
import Derived.Test.YtegoaaamlfehpaaNum
import Derived.Test.YtegoaaamlfehpaaOptGot
namespace Go.Proofs.Ytegoaaamlfehpaa
open Go.ChangeShapes Go.WideShapes Go.ChangeAt Go.RowKit Go.Pin Go.PlainAid

/-- Options written out. -/
theorem op_lit (w : World) (cs : Array Value) (t : TypeId) (ks : List Opn) (h : cs = (opCells ks).toArray) : OpLies (w.alloc (.cells cs t)) (some ⟨w.heap.size, 0, none⟩) ks := by
  subst h
  refine .inr ⟨_, rfl, fun j hj => ?_⟩
  obtain ⟨h1, h2⟩ := opCells_at ks j hj
  rw [addr_add, Nat.zero_add]
  exact ⟨new_cell w _ _ _ _ (by simpa using h1), new_cell w _ _ _ _ (by simpa using h2)⟩
theorem oPut_is (a : Option Addr) (n cap : Nat) (os : List Opn) (S : ByteArray) (E : Int) (w : World) (hn : n = os.length) (h : OpLies w a os) (hA : putA os = (bs S, E)) :
    Calls Try.prog 6 #[.slice a n cap] w fun e w' => e = .returned (.tuple #[.string S, .int .i64 E]) ∧ Below w.heap.size w w' := by
  have := oPut_c a cap os w h
  rw [hA, mk_bs] at this
  subst hn
  exact this
theorem may_two : MayO [(53, [1]), (12, [])] := by decide
theorem put_two : putO [(53, [1]), (12, [])] = [53, 1, 1, 12, 0, 255] := by
  simp [putO, bodyO, parts_short, byteO]
theorem putA_two : putA [(53, [1]), (12, [])] = (bs ⟨#[53, 1, 1, 12, 0, 255]⟩, 0) := by
  unfold putA
  rw [if_pos (by decide), put_two]
  rfl
theorem putA_bad : putA [(255, [])] = (bs ⟨#[]⟩, 600) := by
  unfold putA
  rw [if_neg (by decide)]
  rfl
theorem get_two : getO (bs (⟨#[0, 53, 1, 1, 12, 0, 255, 106, 117, 110, 107]⟩ : ByteArray)) [] = some [(53, [1]), (12, [])] := by
  have := get_put may_two [106, 117, 110, 107]
  rw [put_two] at this
  show getO (0 :: [53, 1, 1, 12, 0, 255, 106, 117, 110, 107]) [] = _
  rw [getO_pad]
  exact this
theorem get_two_cat : getO (bs ((⟨#[0]⟩ : ByteArray) ++ ⟨#[53, 1, 1, 12, 0, 255]⟩ ++ ⟨#[106, 117, 110, 107]⟩)) [] = some [(53, [1]), (12, [])] := get_two
theorem get_joined : getO (bs (⟨#[53, 1, 97, 12, 0, 53, 1, 98]⟩ : ByteArray)) [] = some [(53, [97, 98]), (12, [])] := by
  show getO [53, 1, 97, 12, 0, 53, 1, 98] [] = _
  rw [getO_part (by decide) (by decide) (by decide), if_pos (by decide)]
  show getO [12, 0, 53, 1, 98] [(53, [97])] = _
  rw [getO_part (by decide) (by decide) (by decide), if_pos (by decide)]
  show getO [53, 1, 98] [(53, [97]), (12, [])] = _
  rw [getO_part (by decide) (by decide) (by decide), if_pos (by decide)]
  show getO [] [(53, [97, 98]), (12, [])] = _
  exact getO_nil _
theorem get_cut : getO (bs (⟨#[53]⟩ : ByteArray)) [] = none := getO_one (by decide) (by decide) _

set_option maxRecDepth 100000 in
theorem awake6_yes (w : World) : Calls Try.prog 5 #[] w fun e w' => e = .returned (.bool true) ∧ Below w.heap.size w w' := by
  go_enter Try.func5, Try.ntmps5
  go_wp2_with fail
  refine (oPut_is (some ⟨w.heap.size, 0, none⟩) 2 2 [(53, [1]), (12, [])] ⟨#[53, 1, 1, 12, 0, 255]⟩ 0 _ rfl (op_lit _ _ _ _ rfl) putA_two).mono ?_; rintro e w1 ⟨rfl, hb⟩
  have B : Hid (Below w.heap.size w w1) := bel_trans ((Below.refl w.heap.size w).alloc (Nat.le_refl _) _) hb
  have L0 : Hid (OpLies w1 (some ⟨w.heap.size, 0, none⟩) [(53, [1]), (12, [])]) := (op_lit _ _ _ _ rfl).below hb
  clear hb
  go_wp2_with fail
  refine (oGet_yes _ _ _ (by decide) get_two_cat).mono ?_; rintro e w2 ⟨⟨v1, rfl, k1⟩, hb⟩
  obtain ⟨a1, c1, rfl, l1⟩ := k1.lies
  have L1 : Hid (OpLies w2 a1 [(53, [1]), (12, [])]) := l1
  replace L0 : Hid (OpLies w2 (some ⟨w.heap.size, 0, none⟩) [(53, [1]), (12, [])]) := L0.out.below hb
  replace B : Hid (Below w.heap.size w w2) := bel_trans B.out hb
  clear k1 l1 hb
  go_wp2_with fail
  refine (oGet_yes _ _ _ (by decide) get_joined).mono ?_; rintro e w3 ⟨⟨v2, rfl, k2⟩, hb⟩
  obtain ⟨a2, c2, rfl, l2⟩ := k2.lies
  have L2 : Hid (OpLies w3 a2 [(53, [97, 98]), (12, [])]) := l2
  replace L0 : Hid (OpLies w3 (some ⟨w.heap.size, 0, none⟩) [(53, [1]), (12, [])]) := L0.out.below hb
  replace L1 : Hid (OpLies w3 a1 [(53, [1]), (12, [])]) := L1.out.below hb
  replace B : Hid (Below w.heap.size w w3) := bel_trans B.out hb
  clear k2 l2 hb
  go_wp2_with fail
  refine (oGet_no _ _ (by decide) get_cut).mono ?_; rintro e w4 ⟨rfl, hb⟩
  replace L0 : Hid (OpLies w4 (some ⟨w.heap.size, 0, none⟩) [(53, [1]), (12, [])]) := L0.out.below hb
  replace L1 : Hid (OpLies w4 a1 [(53, [1]), (12, [])]) := L1.out.below hb
  replace L2 : Hid (OpLies w4 a2 [(53, [97, 98]), (12, [])]) := L2.out.below hb
  replace B : Hid (Below w.heap.size w w4) := bel_trans B.out hb
  clear hb
  go_wp2_with fail
  refine (oPut_is (some ⟨w4.heap.size, 0, none⟩) 1 1 [(255, [])] ⟨#[]⟩ 600 _ rfl (op_lit _ _ _ _ rfl) putA_bad).mono ?_; rintro e w5 ⟨rfl, hb⟩
  replace hb := bel_trans ((Below.refl w4.heap.size w4).alloc (Nat.le_refl _) _) hb
  replace L0 : Hid (OpLies w5 (some ⟨w.heap.size, 0, none⟩) [(53, [1]), (12, [])]) := L0.out.below hb
  replace L1 : Hid (OpLies w5 a1 [(53, [1]), (12, [])]) := L1.out.below hb
  replace L2 : Hid (OpLies w5 a2 [(53, [97, 98]), (12, [])]) := L2.out.below hb
  replace B : Hid (Below w.heap.size w w5) := bel_trans B.out hb
  clear hb
  have HFI : Hid (∀ w, OpLies w a2 [(53, [97, 98]), (12, [])] → Calls Try.prog 8 #[.slice a2 2 c2, .int .i64 53] w fun e w' => e = .returned (.tuple #[.string ⟨#[97, 98]⟩, .bool true]) ∧ Below w.heap.size w w') := fun w h => oFind_c a2 c2 [(53, [97, 98]), (12, [])] 53 w (by decide) h
  go_wp2_with fail
  refine (HFI.out _ L2.out).mono ?_; rintro e w6 ⟨rfl, hb⟩
  replace L0 : Hid (OpLies w6 (some ⟨w.heap.size, 0, none⟩) [(53, [1]), (12, [])]) := L0.out.below hb
  replace L1 : Hid (OpLies w6 a1 [(53, [1]), (12, [])]) := L1.out.below hb
  replace L2 : Hid (OpLies w6 a2 [(53, [97, 98]), (12, [])]) := L2.out.below hb
  replace B : Hid (Below w.heap.size w w6) := bel_trans B.out hb
  clear hb HFI
  go_wp2_with (go_at_call 9; refine (num_any _ _).mono ?_; rintro e w10 ⟨rfl, rfl⟩)
  refine (sameOp_c a1 (some ⟨w.heap.size, 0, none⟩) 2 2 c1 2 [(53, [1]), (12, [])] _ rfl rfl (by decide) L1.out L0.out).mono ?_; rintro e w7 ⟨rfl, hb⟩
  replace L2 := L2.out.below hb
  have L3 : Hid (OpLies _ a2 [(53, [97, 98]), (12, [])]) := L2
  replace B : Hid (Below w.heap.size w w7) := bel_trans B.out hb
  clear hb L0 L1 L2
  go_wp2_with (go_at_call 9; refine (num_any _ _).mono ?_; rintro e w11 ⟨rfl, rfl⟩)
  refine (sameOp_c a2 (some ⟨w11.heap.size, 0, none⟩) 2 2 c2 2 [(53, [97, 98]), (12, [])] _ rfl rfl (by decide) (L3.out.below ((Below.refl _ _).alloc (Nat.le_refl _) _)) (op_lit _ _ _ _ rfl)).mono ?_; rintro e w8 ⟨rfl, hb⟩
  replace B : Hid (Below w.heap.size w w8) := bel_trans (bel_trans B.out ((Below.refl _ _).alloc (Nat.le_refl _) _)) hb
  clear hb L3
  go_wp2_with (go_at_call 9; refine (num_any _ _).mono ?_; rintro e w12 ⟨rfl, rfl⟩)
  go_ret
  exact ⟨rfl, B.out⟩
end Go.Proofs.Ytegoaaamlfehpaa

/-
  The contract of the laws' own 'awake' of layer 3: it answers true.
-/
import Derived.Test.YtiohmjimlehnpaaNum
import Derived.Test.YtiohmjimlehnpaaWireGet
import Derived.Test.YtiohmjimlehnpaaWirePut
namespace Go.Proofs.Ytiohmjimlehnpaa
open Go.ChangeShapes Go.WideShapes Go.ChangeAt Go.RowKit Go.Pin Go.PlainAid

/-- Known names written out. -/
theorem kn_lit (w : World) (cs : Array Value) (t : TypeId) (ks : List Kn) (h : cs = (knCells ks).toArray) : KnLies (w.alloc (.cells cs t)) (some ⟨w.heap.size, 0, none⟩) ks := by
  subst h
  refine .inr ⟨_, rfl, fun j hj => ?_⟩
  obtain ⟨h1, h2⟩ := knCells_at ks j hj
  rw [addr_add, Nat.zero_add]
  exact ⟨new_cell w _ _ _ _ (by simpa using h1), new_cell w _ _ _ _ (by simpa using h2)⟩

set_option maxRecDepth 100000 in
theorem awake_yes (w : World) : Calls Try.prog 19 #[] w fun e w' => e = .returned (.bool true) ∧ Below w.heap.size w w' := by
  go_enter Try.func19, Try.ntmps19
  go_wp2_with fail
  refine (wput_nil 12 0 [([97, 46, 108, 97, 110], 12), ([108, 97, 110], 14)] ⟨#[97, 46, 108, 97, 110]⟩ ⟨#[1, 97, 3, 108, 97, 110, 0]⟩ _ (by decide) (by decide) (by decide) (by decide)).mono ?_; rintro e w1 ⟨⟨v1, rfl, k1⟩, B⟩
  obtain ⟨a1, c1, rfl, l1⟩ := k1.lies
  clear k1
  have L1 : Hid (KnLies w1 a1 [([97, 46, 108, 97, 110], 12), ([108, 97, 110], 14)]) := l1
  clear l1
  go_wp2_with fail
  refine (wput_is 30 a1 2 c1 [([97, 46, 108, 97, 110], 12), ([108, 97, 110], 14)] [([97, 46, 108, 97, 110], 12), ([108, 97, 110], 14), ([98, 46, 108, 97, 110], 30)] ⟨#[98, 46, 108, 97, 110]⟩ ⟨#[1, 98, 192, 14]⟩ _ rfl (by decide) (by decide) (by decide) L1.out (by decide) (by decide) (by decide)).mono ?_; rintro e w2 ⟨⟨v2, rfl, k2⟩, hb⟩
  obtain ⟨a2, c2, rfl, l2⟩ := k2.lies
  clear k2
  replace L1 : Hid (KnLies w2 a1 [([97, 46, 108, 97, 110], 12), ([108, 97, 110], 14)]) := L1.out.below hb
  have L2 : Hid (KnLies w2 a2 [([97, 46, 108, 97, 110], 12), ([108, 97, 110], 14), ([98, 46, 108, 97, 110], 30)]) := l2
  replace B := bel_trans B hb
  clear l2 hb
  go_wp2_with fail
  refine (get_is ⟨#[3, 76, 65, 78, 0, 1, 98, 192, 0, 122]⟩ 5 ⟨#[98, 46, 108, 97, 110]⟩ 9 0 _ (by decide) (by decide)).mono ?_; rintro e w3 ⟨rfl, hb⟩
  replace L1 : Hid (KnLies w3 a1 [([97, 46, 108, 97, 110], 12), ([108, 97, 110], 14)]) := L1.out.below hb
  replace L2 : Hid (KnLies w3 a2 [([97, 46, 108, 97, 110], 12), ([108, 97, 110], 14), ([98, 46, 108, 97, 110], 30)]) := L2.out.below hb
  replace B := bel_trans B hb
  clear hb
  go_wp2_with fail
  refine (get_is ⟨#[192, 0]⟩ 0 ⟨#[]⟩ 0 300 _ (by decide) (by decide)).mono ?_; rintro e w4 ⟨rfl, hb⟩
  replace L1 : Hid (KnLies w4 a1 [([97, 46, 108, 97, 110], 12), ([108, 97, 110], 14)]) := L1.out.below hb
  replace L2 : Hid (KnLies w4 a2 [([97, 46, 108, 97, 110], 12), ([108, 97, 110], 14), ([98, 46, 108, 97, 110], 30)]) := L2.out.below hb
  replace B := bel_trans B hb
  clear hb
  go_wp2_with fail
  refine (get_is ⟨#[3, 108, 97]⟩ 0 ⟨#[]⟩ 0 301 _ (by decide) (by decide)).mono ?_; rintro e w5 ⟨rfl, hb⟩
  replace L1 : Hid (KnLies w5 a1 [([97, 46, 108, 97, 110], 12), ([108, 97, 110], 14)]) := L1.out.below hb
  replace L2 : Hid (KnLies w5 a2 [([97, 46, 108, 97, 110], 12), ([108, 97, 110], 14), ([98, 46, 108, 97, 110], 30)]) := L2.out.below hb
  replace B := bel_trans B hb
  clear hb
  go_wp2_with fail
  refine (wput_nil_no 0 0 ⟨#[65]⟩ _ (by decide) (by decide)).mono ?_; rintro e w6 ⟨rfl, hb⟩
  replace L1 : Hid (KnLies w6 a1 [([97, 46, 108, 97, 110], 12), ([108, 97, 110], 14)]) := L1.out.below hb
  replace L2 : Hid (KnLies w6 a2 [([97, 46, 108, 97, 110], 12), ([108, 97, 110], 14), ([98, 46, 108, 97, 110], 30)]) := L2.out.below hb
  replace B := bel_trans B hb
  clear hb
  go_wp2_with fail
  refine (sameKn_c a1 (some ⟨w6.heap.size, 0, none⟩) 2 2 c1 2 [([97, 46, 108, 97, 110], 12), ([108, 97, 110], 14)] _ rfl rfl (by decide) (L1.out.below ((Below.refl _ _).alloc (Nat.le_refl _) _)) (kn_lit _ _ _ _ rfl)).mono ?_; rintro e w7 ⟨rfl, hb⟩
  replace hb := bel_trans ((Below.refl w6.heap.size w6).alloc (Nat.le_refl _) _) hb
  replace L2 : Hid (KnLies w7 a2 [([97, 46, 108, 97, 110], 12), ([108, 97, 110], 14), ([98, 46, 108, 97, 110], 30)]) := L2.out.below hb
  replace B := bel_trans B hb
  clear hb L1
  go_wp2_with fail
  refine (num_any _ _).mono ?_; rintro e w8 ⟨rfl, rfl⟩
  go_wp2_with fail
  refine (sameKn_c a2 (some ⟨w8.heap.size, 0, none⟩) 3 3 c2 3 [([97, 46, 108, 97, 110], 12), ([108, 97, 110], 14), ([98, 46, 108, 97, 110], 30)] _ rfl rfl (by decide) (L2.out.below ((Below.refl _ _).alloc (Nat.le_refl _) _)) (kn_lit _ _ _ _ rfl)).mono ?_; rintro e w9 ⟨rfl, hb⟩
  replace B := bel_trans B (bel_trans ((Below.refl w8.heap.size w8).alloc (Nat.le_refl _) _) hb)
  clear hb L2
  go_wp2_with (go_at_call 16; refine (num_any _ _).mono ?_; rintro e w10 ⟨rfl, rfl⟩)
  go_ret
  exact ⟨rfl, B⟩

end Go.Proofs.Ytiohmjimlehnpaa

/-
  The contract of the laws' own 'awake' of layer 2: it answers true.
-/
import Derived.Test.YtcacfllfgbofeaaNameIs
namespace Go.Proofs.Ytcacfllfgbofeaa
open Go.ChangeShapes Go.WideShapes Go.ChangeAt Go.RowKit Go.Pin Go.PlainAid

theorem awake_yes (w : World) : Calls Try.prog 19 #[] w fun e w' => e = .returned (.bool true) ∧ Below w.heap.size w w' := by
  go_enter Try.func19, Try.ntmps19
  go_wp2_with fail
  refine (num_any _ _).mono ?_; rintro e w1 ⟨rfl, rfl⟩
  go_wp2_with fail
  refine (may_is ⟨#[]⟩ true _ (by decide) (by decide)).mono ?_; rintro e w2 ⟨rfl, hb1⟩
  go_wp2_with fail
  refine (may_is ⟨#[97, 45, 49, 46, 108, 97, 110]⟩ true _ (by decide) (by decide)).mono ?_; rintro e w3 ⟨rfl, hb2⟩
  have B := bel_trans hb1 hb2
  clear hb1 hb2
  go_wp2_with fail
  refine (may_is ⟨#[65]⟩ false _ (by decide) (by decide)).mono ?_; rintro e w4 ⟨rfl, hb⟩
  replace B := bel_trans B hb
  clear hb
  go_wp2_with fail
  refine (may_is ⟨#[97, 46, 46, 98]⟩ false _ (by decide) (by decide)).mono ?_; rintro e w5 ⟨rfl, hb⟩
  replace B := bel_trans B hb
  clear hb
  go_wp2_with fail
  refine (may_is ⟨#[110, 105, 110, 101, 99, 104, 97, 114, 115]⟩ false _ (by decide) (by decide)).mono ?_; rintro e w6 ⟨rfl, hb⟩
  replace B := bel_trans B hb
  clear hb
  go_wp2_with fail
  refine (fold_is ⟨#[97, 66, 46, 90, 192]⟩ ⟨#[97, 98, 46, 122, 192]⟩ _ (by decide) (by decide)).mono ?_; rintro e w7 ⟨rfl, hb⟩
  replace B := bel_trans B hb
  clear hb
  go_wp2_with fail
  refine (labels_is ⟨#[97, 46, 98]⟩ [[97], [98]] _ (by decide) (by decide)).mono ?_; rintro e w8 ⟨⟨v, rfl, ho⟩, hb⟩
  replace B := bel_trans B hb
  clear hb
  obtain ⟨a, cap, rfl, hl⟩ := ho.lies
  clear ho
  have HL : Hid (Lies w8 a [[97], [98]]) := hl
  clear hl
  go_wp2_with fail
  refine (same_is a (some ⟨w8.heap.size, 0, none⟩) [[97], [98]] 2 2 cap 2 _ rfl rfl (by decide) (HL.out.alloc _) ?hl).mono ?_
  case hl =>
    refine .inr ⟨w8.heap.size, 0, rfl, fun j hj => ?_⟩
    match j, hj with
    | 0, _ => simp [mk]
    | 1, _ => simp [mk]
  rintro e w9 ⟨rfl, hb⟩
  replace B := bel_trans (B.alloc B.size _) hb
  clear hb HL
  go_wp2_with fail
  refine (under_is ⟨#[97, 46, 108, 97, 110]⟩ ⟨#[108, 97, 110]⟩ true _ (by decide) (by decide) (by decide)).mono ?_; rintro e w10 ⟨rfl, hb⟩
  replace B := bel_trans B hb
  clear hb
  go_wp2_with fail
  refine (under_is ⟨#[108, 97, 110]⟩ ⟨#[]⟩ true _ (by decide) (by decide) (by decide)).mono ?_; rintro e w11 ⟨rfl, hb⟩
  replace B := bel_trans B hb
  clear hb
  go_wp2_with fail
  refine (under_is ⟨#[97, 108, 97, 110]⟩ ⟨#[108, 97, 110]⟩ false _ (by decide) (by decide) (by decide)).mono ?_; rintro e w12 ⟨rfl, hb⟩
  replace B := bel_trans B hb
  clear hb
  go_wp2_with fail
  refine (under_is ⟨#[108, 97, 110]⟩ ⟨#[97, 46, 108, 97, 110]⟩ false _ (by decide) (by decide) (by decide)).mono ?_; rintro e w13 ⟨rfl, hb⟩
  replace B := bel_trans B hb
  clear hb
  go_wp2
  go_ret
  exact ⟨rfl, B⟩
end Go.Proofs.Ytcacfllfgbofeaa

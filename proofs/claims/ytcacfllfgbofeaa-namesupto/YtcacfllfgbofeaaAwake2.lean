/-
  The contract of the laws' own 'awake' of layer 2: it answers true. Beside it the contracts of package name with their answers named.
-/
import Derived.Test.YtcacfllfgbofeaaNameUnd
import Derived.Test.YtcacfllfgbofeaaNameFold
namespace Go.Proofs.Ytcacfllfgbofeaa
open Go.ChangeShapes Go.WideShapes Go.ChangeAt Go.RowKit Go.Pin Go.PlainAid

theorem num_any (n : Int) (w : World) : Calls Try.prog 20 #[.int .i64 n] w fun e w' => e = .returned (.int .i64 n) ∧ w' = w := by
  go_enter Try.func20, Try.ntmps20
  go_wp2
  go_ret
  exact ⟨rfl, rfl⟩

theorem may_is (s : ByteArray) (b : Bool) (w : World) (hs : s.size ≤ maxLen) (h : mayL (bs s) = b) : Calls Try.prog 10 #[.string s] w fun e w' => e = .returned (.bool b) ∧ Below w.heap.size w w' := by
  rw [← h]; exact may_c s w hs
theorem under_is (s z : ByteArray) (b : Bool) (w : World) (hs : s.size ≤ maxLen) (hz : z.size ≤ maxLen) (h : underL (bs s) (bs z) = b) : Calls Try.prog 16 #[.string s, .string z] w fun e w' => e = .returned (.bool b) ∧ Below w.heap.size w w' := by
  rw [← h]; exact under_c s z w hs hz
theorem fold_is (s : ByteArray) (t : ByteArray) (w : World) (hs : s.size ≤ maxLen) (h : mk (foldL (bs s)) = t) : Calls Try.prog 12 #[.string s] w fun e w' => e = .returned (.string t) ∧ Below w.heap.size w w' := by
  rw [← h]; exact fold_c s w hs
theorem labels_is (s : ByteArray) (ls : List (List UInt8)) (w : World) (hs : s.size ≤ maxLen) (h : labsL (bs s) = ls) : Calls Try.prog 9 #[.string s] w fun e w' => (∃ v, e = .returned v ∧ Texts w' w.heap.size v ls) ∧ Below w.heap.size w w' := by
  rw [← h]; exact labels_c s w hs

theorem same_is (a1 a2 : Option Addr) (ls : List (List UInt8)) (n1 n2 c1 c2 : Nat) (w : World) (e1 : n1 = ls.length) (e2 : n2 = ls.length) (h8 : ls.length ≤ 1000000000) (h1 : Lies w a1 ls) (h2 : Lies w a2 ls) :
    Calls Try.prog 14 #[.slice a1 n1 c1, .slice a2 n2 c2] w fun e w' => e = .returned (.bool true) ∧ Below w.heap.size w w' := by
  subst e1 e2
  have := same_c a1 a2 ls ls c1 c2 w rfl h8 h1 h2
  simpa using this

theorem Lies.alloc {w : World} {a : Option Addr} {ls : List (List UInt8)} (h : Lies w a ls) (o : Obj) : Lies (w.alloc o) a ls := by
  rcases h with h | ⟨g, o', rfl, h⟩
  · exact .inl h
  · refine .inr ⟨g, o', rfl, fun j hj => ?_⟩
    have hc := h j hj
    have hlt := World.block_lt_of_cell? w _ hc
    rw [← hc]
    exact Below.cell ((Below.refl _ _).alloc (Nat.le_refl w.heap.size) o) hlt

theorem awake_yes (w : World) : Calls Try.prog 19 #[] w fun e w' => e = .returned (.bool true) ∧ Below w.heap.size w w' := by
  go_enter Try.func19, Try.ntmps19
  go_wp2_with fail
  refine (num_any _ _).mono ?_; rintro e w1 ⟨rfl, rfl⟩
  go_wp2_with fail
  refine (may_is ⟨#[]⟩ true _ (by decide) (by decide)).mono ?_; rintro e w2 ⟨rfl, hb1⟩
  go_wp2_with fail
  refine (may_is ⟨#[97, 45, 49, 46, 108, 97, 110]⟩ true _ (by decide) (by decide)).mono ?_; rintro e w3 ⟨rfl, hb2⟩
  have B := bel_trans hb1 hb2
  clear hb1 hb2
  go_wp2_with fail
  refine (may_is ⟨#[65]⟩ false _ (by decide) (by decide)).mono ?_; rintro e w4 ⟨rfl, hb⟩
  replace B := bel_trans B hb
  clear hb
  go_wp2_with fail
  refine (may_is ⟨#[97, 46, 46, 98]⟩ false _ (by decide) (by decide)).mono ?_; rintro e w5 ⟨rfl, hb⟩
  replace B := bel_trans B hb
  clear hb
  go_wp2_with fail
  refine (may_is ⟨#[110, 105, 110, 101, 99, 104, 97, 114, 115]⟩ false _ (by decide) (by decide)).mono ?_; rintro e w6 ⟨rfl, hb⟩
  replace B := bel_trans B hb
  clear hb
  go_wp2_with fail
  refine (fold_is ⟨#[97, 66, 46, 90, 192]⟩ ⟨#[97, 98, 46, 122, 192]⟩ _ (by decide) (by decide)).mono ?_; rintro e w7 ⟨rfl, hb⟩
  replace B := bel_trans B hb
  clear hb
  go_wp2_with fail
  refine (labels_is ⟨#[97, 46, 98]⟩ [[97], [98]] _ (by decide) (by decide)).mono ?_; rintro e w8 ⟨⟨v, rfl, ho⟩, hb⟩
  replace B := bel_trans B hb
  clear hb
  obtain ⟨a, cap, rfl, hl⟩ := ho.lies
  clear ho
  have HL : Hid (Lies w8 a [[97], [98]]) := hl
  clear hl
  go_wp2_with fail
  refine (same_is a (some ⟨w8.heap.size, 0, none⟩) [[97], [98]] 2 2 cap 2 _ rfl rfl (by decide) (HL.out.alloc _) ?hl).mono ?_
  case hl =>
    refine .inr ⟨w8.heap.size, 0, rfl, fun j hj => ?_⟩
    match j, hj with
    | 0, _ => simp [mk]
    | 1, _ => simp [mk]
  rintro e w9 ⟨rfl, hb⟩
  replace B := bel_trans (B.alloc B.size _) hb
  clear hb HL
  go_wp2_with fail
  refine (under_is ⟨#[97, 46, 108, 97, 110]⟩ ⟨#[108, 97, 110]⟩ true _ (by decide) (by decide) (by decide)).mono ?_; rintro e w10 ⟨rfl, hb⟩
  replace B := bel_trans B hb
  clear hb
  go_wp2_with fail
  refine (under_is ⟨#[108, 97, 110]⟩ ⟨#[]⟩ true _ (by decide) (by decide) (by decide)).mono ?_; rintro e w11 ⟨rfl, hb⟩
  replace B := bel_trans B hb
  clear hb
  go_wp2_with fail
  refine (under_is ⟨#[97, 108, 97, 110]⟩ ⟨#[108, 97, 110]⟩ false _ (by decide) (by decide) (by decide)).mono ?_; rintro e w12 ⟨rfl, hb⟩
  replace B := bel_trans B hb
  clear hb
  go_wp2_with fail
  refine (under_is ⟨#[108, 97, 110]⟩ ⟨#[97, 46, 108, 97, 110]⟩ false _ (by decide) (by decide) (by decide)).mono ?_; rintro e w13 ⟨rfl, hb⟩
  replace B := bel_trans B hb
  clear hb
  go_wp2
  go_ret
  exact ⟨rfl, B⟩
end Go.Proofs.Ytcacfllfgbofeaa

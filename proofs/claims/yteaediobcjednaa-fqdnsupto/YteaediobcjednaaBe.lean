/-
  Contracts of package be, of the references PutBe, GetBe and Num, and of the laws' Num: what each call returns, for every argument of the kind that is named in each theorem.
-/
import Derived.Test.YteaediobcjednaaRows
import Derived.Test.YteaediobcjednaaPlain
import Derived.Test.YteaediobcjednaaNum
import Derived.WalkKit
import Derived.ProofKit
import Derived.WalkSpells
import Derived.PlainAid
import Derived.Handy
namespace Go.Proofs.Yteaediobcjednaa
open Go.ChangeShapes Go.WideShapes Go.ChangeAt Go.RowKit Go.Pin Go.PlainAid

theorem Try.infoU8 : (Try.prog.info? 5).map (fun i => (i.zero, i.size, i.bytes)) = some (some (.int .u8 0), 1, 1) := by kernel_rfl

def widthB (k : Int) : Bool := decide (k = 1 ∨ k = 2 ∨ k = 4)

theorem isWidth_yes (k : Int) (h : k = 1 ∨ k = 2 ∨ k = 4) (w : World) : Calls Try.prog 40 #[.int .i64 k] w fun e w' => e = .returned (.bool true) ∧ w' = w := by
  rcases h with rfl | rfl | rfl <;> (go_enter Try.func40, Try.ntmps40; go_wp2; go_ret; exact ⟨rfl, rfl⟩)

theorem isWidth_no (k : Int) (h : ¬ (k = 1 ∨ k = 2 ∨ k = 4)) (w : World) : Calls Try.prog 40 #[.int .i64 k] w fun e w' => e = .returned (.bool false) ∧ w' = w := by
  have e1 : (k == 1) = false := by simp; omega
  have e2 : (k == 2) = false := by simp; omega
  have e4 : (k == 4) = false := by simp; omega
  clear h
  go_enter Try.func40, Try.ntmps40; go_wp2; go_ret; exact ⟨rfl, rfl⟩

theorem fits_1 (x : Int) (w : World) : Calls Try.prog 41 #[.int .i64 x, .int .i64 1] w fun e w' => e = .returned (.bool (x / 256 == 0)) ∧ w' = w := by
  go_enter Try.func41, Try.ntmps41; go_wp2; go_ret; exact ⟨rfl, rfl⟩
theorem fits_2 (x : Int) (w : World) : Calls Try.prog 41 #[.int .i64 x, .int .i64 2] w fun e w' => e = .returned (.bool (x / 65536 == 0)) ∧ w' = w := by
  go_enter Try.func41, Try.ntmps41; go_wp2; go_ret; exact ⟨rfl, rfl⟩
theorem fits_4 (x : Int) (w : World) : Calls Try.prog 41 #[.int .i64 x, .int .i64 4] w fun e w' => e = .returned (.bool (x / 4294967296 == 0)) ∧ w' = w := by
  go_enter Try.func41, Try.ntmps41; go_wp2; go_ret; exact ⟨rfl, rfl⟩

theorem be_1 (x : Int) (h0 : 0 ≤ x) (h1 : x < 256) : be x 1 = str [x] := by
  have e : top x 1 1 = [x] := by simp [top, byteAt, List.range_succ]; omega
  rw [be, e]
theorem be_2 (x : Int) (h0 : 0 ≤ x) (h1 : x < 65536) : be x 2 = str [x / 256, x % 256] := by
  have e : top x 2 2 = [x / 256, x % 256] := by simp [top, byteAt, List.range_succ]; omega
  rw [be, e]
theorem be_4 (x : Int) (h0 : 0 ≤ x) (h1 : x < 4294967296) : be x 4 = str [x / 16777216, x / 65536 % 256, x / 256 % 256, x % 256] := by
  have e : top x 4 4 = [x / 16777216, x / 65536 % 256, x / 256 % 256, x % 256] := by simp [top, byteAt, List.range_succ]; omega
  rw [be, e]

theorem put_1 (x : Int) (w : World) (h0 : 0 ≤ x) (h1 : x < 256) : Calls Try.prog 28 #[.int .i64 x, .int .i64 1] w fun e w' => e = .returned (.tuple #[.string (be x 1), .int .i64 0]) ∧ Below w.heap.size w w' := by
  have hf : (x / 256 == 0) = true := by simp; omega
  have hmk : ∀ w, (Instr.makeSlice 40 (.int .i64 1) (.int .i64 1)).run Try.prog w = .ok (.slice (some ⟨w.heap.size, 0, none⟩) 1 1) (w.alloc (.cells #[.int .u8 0] 5)) := fun _ => by kernel_rfl
  have hcv : ∀ (w : World) (a : Int), (convert 40 9 (.slice (some ⟨w.heap.size, 0, none⟩) 1 1)).run Try.prog (w.alloc (.cells #[.int .u8 a] 5)) = .ok (.string (str [a])) (w.alloc (.cells #[.int .u8 a] 5)) :=
    fun w a => conv_new w 40 9 5 5 1 [a] 1 _ rfl rfl Try.underlying40 Try.underlying5 Try.underlying9
  have hb := be_1 x h0 h1
  generalize be x 1 = B at hb ⊢
  subst hb
  go_enter Try.func28, Try.ntmps28
  go_wp2_with (first | (go_at_call 40; refine (isWidth_yes _ (by decide) _).mono ?_; rintro e w' ⟨rfl, rfl⟩) | (go_at_call 41; refine (fits_1 _ _).mono ?_; rintro e w' ⟨rfl, rfl⟩))
  go_rounds 2
  go_ret2
  exact ⟨rfl, (Below.refl _ _).alloc (Nat.le_refl _) _⟩

theorem put_2 (x : Int) (w : World) (h0 : 0 ≤ x) (h1 : x < 65536) : Calls Try.prog 28 #[.int .i64 x, .int .i64 2] w fun e w' => e = .returned (.tuple #[.string (be x 2), .int .i64 0]) ∧ Below w.heap.size w w' := by
  have hf : (x / 65536 == 0) = true := by simp; omega
  have hmk : ∀ w, (Instr.makeSlice 40 (.int .i64 2) (.int .i64 2)).run Try.prog w = .ok (.slice (some ⟨w.heap.size, 0, none⟩) 2 2) (w.alloc (.cells #[.int .u8 0, .int .u8 0] 5)) := fun _ => by kernel_rfl
  have hcv : ∀ (w : World) (a b : Int), (convert 40 9 (.slice (some ⟨w.heap.size, 0, none⟩) 2 2)).run Try.prog (w.alloc (.cells #[.int .u8 a, .int .u8 b] 5)) = .ok (.string (str [a, b])) (w.alloc (.cells #[.int .u8 a, .int .u8 b] 5)) :=
    fun w a b => conv_new w 40 9 5 5 2 [a, b] 2 _ rfl rfl Try.underlying40 Try.underlying5 Try.underlying9
  have hb := be_2 x h0 h1
  generalize be x 2 = B at hb ⊢
  subst hb
  go_enter Try.func28, Try.ntmps28
  go_wp2_with (first | (go_at_call 40; refine (isWidth_yes _ (by decide) _).mono ?_; rintro e w' ⟨rfl, rfl⟩) | (go_at_call 41; refine (fits_2 _ _).mono ?_; rintro e w' ⟨rfl, rfl⟩))
  go_rounds 3
  go_ret2
  exact ⟨rfl, (Below.refl _ _).alloc (Nat.le_refl _) _⟩

theorem put_4 (x : Int) (w : World) (h0 : 0 ≤ x) (h1 : x < 4294967296) : Calls Try.prog 28 #[.int .i64 x, .int .i64 4] w fun e w' => e = .returned (.tuple #[.string (be x 4), .int .i64 0]) ∧ Below w.heap.size w w' := by
  have hf : (x / 4294967296 == 0) = true := by simp; omega
  have hmk : ∀ w, (Instr.makeSlice 40 (.int .i64 4) (.int .i64 4)).run Try.prog w = .ok (.slice (some ⟨w.heap.size, 0, none⟩) 4 4) (w.alloc (.cells #[.int .u8 0, .int .u8 0, .int .u8 0, .int .u8 0] 5)) := fun _ => by kernel_rfl
  have hcv : ∀ (w : World) (a b c d : Int), (convert 40 9 (.slice (some ⟨w.heap.size, 0, none⟩) 4 4)).run Try.prog (w.alloc (.cells #[.int .u8 a, .int .u8 b, .int .u8 c, .int .u8 d] 5)) = .ok (.string (str [a, b, c, d])) (w.alloc (.cells #[.int .u8 a, .int .u8 b, .int .u8 c, .int .u8 d] 5)) :=
    fun w a b c d => conv_new w 40 9 5 5 4 [a, b, c, d] 4 _ rfl rfl Try.underlying40 Try.underlying5 Try.underlying9
  have hb := be_4 x h0 h1
  generalize be x 4 = B at hb ⊢
  subst hb
  go_enter Try.func28, Try.ntmps28
  go_wp2_with (first | (go_at_call 40; refine (isWidth_yes _ (by decide) _).mono ?_; rintro e w' ⟨rfl, rfl⟩) | (go_at_call 41; refine (fits_4 _ _).mono ?_; rintro e w' ⟨rfl, rfl⟩))
  go_rounds 5
  go_ret2
  exact ⟨rfl, (Below.refl _ _).alloc (Nat.le_refl _) _⟩

/-- The numbers of k bytes. -/
def inB (x : Int) (k : Int) : Prop := (k = 1 ∧ 0 ≤ x ∧ x < 256) ∨ (k = 2 ∧ 0 ≤ x ∧ x < 65536) ∨ (k = 4 ∧ 0 ≤ x ∧ x < 4294967296)

theorem put_ok (x k : Int) (w : World) (h : inB x k) : Calls Try.prog 28 #[.int .i64 x, .int .i64 k] w fun e w' => e = .returned (.tuple #[.string (be x k.toNat), .int .i64 0]) ∧ Below w.heap.size w w' := by
  rcases h with ⟨rfl, h0, h1⟩ | ⟨rfl, h0, h1⟩ | ⟨rfl, h0, h1⟩
  · exact put_1 x w h0 h1
  · exact put_2 x w h0 h1
  · exact put_4 x w h0 h1

theorem put_no (x k : Int) (w : World) (h : ¬ inB x k) : Calls Try.prog 28 #[.int .i64 x, .int .i64 k] w fun e w' => e = .returned (.tuple #[.string ⟨#[]⟩, .int .i64 100]) ∧ w' = w := by
  unfold inB at h
  by_cases hk : k = 1 ∨ k = 2 ∨ k = 4
  · rcases hk with rfl | rfl | rfl
    · have hf : (x / 256 == 0) = false := by simp; omega
      clear h
      go_enter Try.func28, Try.ntmps28
      go_wp2_with (first | (go_at_call 40; refine (isWidth_yes _ (by decide) _).mono ?_; rintro e w' ⟨rfl, rfl⟩) | (go_at_call 41; refine (fits_1 _ _).mono ?_; rintro e w' ⟨rfl, rfl⟩))
      go_ret2
      exact ⟨rfl, rfl⟩
    · have hf : (x / 65536 == 0) = false := by simp; omega
      clear h
      go_enter Try.func28, Try.ntmps28
      go_wp2_with (first | (go_at_call 40; refine (isWidth_yes _ (by decide) _).mono ?_; rintro e w' ⟨rfl, rfl⟩) | (go_at_call 41; refine (fits_2 _ _).mono ?_; rintro e w' ⟨rfl, rfl⟩))
      go_ret2
      exact ⟨rfl, rfl⟩
    · have hf : (x / 4294967296 == 0) = false := by simp; omega
      clear h
      go_enter Try.func28, Try.ntmps28
      go_wp2_with (first | (go_at_call 40; refine (isWidth_yes _ (by decide) _).mono ?_; rintro e w' ⟨rfl, rfl⟩) | (go_at_call 41; refine (fits_4 _ _).mono ?_; rintro e w' ⟨rfl, rfl⟩))
      go_ret2
      exact ⟨rfl, rfl⟩
  · clear h
    go_enter Try.func28, Try.ntmps28
    go_wp2_with (first | (go_at_call 40; refine (isWidth_no _ hk _).mono ?_; rintro e w' ⟨rfl, rfl⟩))
    go_ret2
    exact ⟨rfl, rfl⟩

/-- The number of the k bytes from place at on, the highest first. -/
def num (s : ByteArray) (at_ : Nat) : Nat → Int
  | 0 => 0
  | k + 1 => num s at_ k * 256 + bt s (at_ + k)

theorem num_bd (s : ByteArray) (at_ : Nat) : ∀ k, 0 ≤ num s at_ k ∧ num s at_ k < 256 ^ k
  | 0 => ⟨Int.le_refl _, by simp [num]⟩
  | k + 1 => by
    have h := num_bd s at_ k
    have h1 := bt_nonneg s (at_ + k)
    have h2 := bt_le s (at_ + k)
    simp only [num, Int.pow_succ]
    omega

theorem num_lt (s : ByteArray) (a j : Nat) (h : j ≤ 4) : 0 ≤ num s a j ∧ num s a j < 1099511627776 := by
  have h1 := num_bd s a j
  have hj : j = 0 ∨ j = 1 ∨ j = 2 ∨ j = 3 ∨ j = 4 := by omega
  rcases hj with rfl | rfl | rfl | rfl | rfl <;> omega

theorem ret_int {k : IntKind} {a b : Int} (h : a = b) : Value.int k a = .int k b := by rw [h]

theorem num_step (s : ByteArray) (a j : Nat) (h : j ≤ 4) : bits .or .i64 (wrap64 (num s a j * 256)) (wrap64 (bt s (a + j))) = num s a (j + 1) :=
  or_byte _ _ (num_lt s a j h).1 (num_lt s a j h).2 (bt_nonneg _ _) (bt_le _ _)

theorem get_ok (s : ByteArray) (a k : Nat) (w : World) (hk : k = 1 ∨ k = 2 ∨ k = 4) (hs : s.size ≤ maxLen) (h : a + k ≤ s.size) : Calls Try.prog 49 #[.string s, .int .i64 a, .int .i64 k] w fun e w' => e = .returned (.tuple #[.int .i64 (num s a k), .int .i64 0]) ∧ w' = w := by
  unfold maxLen at hs
  have hk' : (k : Int) = 1 ∨ (k : Int) = 2 ∨ (k : Int) = 4 := by omega
  have hb := get_bt s
  go_enter Try.func49, Try.ntmps49
  go_wp2_with (first | (go_at_call 40; refine (isWidth_yes _ hk' _).mono ?_; rintro e w' ⟨rfl, rfl⟩))
  go_loop [8, 24] (fun x i => ∃ j : Nat, j ≤ k ∧ i = .int .i64 j ∧ x = .int .i64 (num s a j)) (fun _ i => k - (intOf i).toNat)
  case atStart => exact ⟨0, Nat.zero_le _, rfl, rfl⟩
  case round =>
    obtain ⟨j, hj, rfl, rfl⟩ := hrel
    by_cases hlt : j < k
    · go_wp2
      go_round
      case rel => exact ⟨j + 1, by omega, by go_num, ret_int (num_step s a j (by omega))⟩
      case measure => simp [intOf]; omega
    · have e : j = k := by omega
      subst e
      go_wp2
      go_ret2
      exact ⟨rfl, rfl⟩

theorem get_no (s : ByteArray) (a k : Int) (w : World) (h : ¬ (k = 1 ∨ k = 2 ∨ k = 4) ∨ a < 0) : Calls Try.prog 49 #[.string s, .int .i64 a, .int .i64 k] w fun e w' => e = .returned (.tuple #[.int .i64 0, .int .i64 100]) ∧ w' = w := by
  by_cases hk : k = 1 ∨ k = 2 ∨ k = 4
  · have ha : a < 0 := by omega
    go_enter Try.func49, Try.ntmps49
    go_wp2_with (first | (go_at_call 40; refine (isWidth_yes _ hk _).mono ?_; rintro e w' ⟨rfl, rfl⟩))
    go_ret2
    exact ⟨rfl, rfl⟩
  · clear h
    go_enter Try.func49, Try.ntmps49
    go_wp2_with (first | (go_at_call 40; refine (isWidth_no _ hk _).mono ?_; rintro e w' ⟨rfl, rfl⟩))
    go_ret2
    exact ⟨rfl, rfl⟩

theorem get_end (s : ByteArray) (a k : Int) (w : World) (hk : k = 1 ∨ k = 2 ∨ k = 4) (hs : s.size ≤ maxLen) (h0 : 0 ≤ a) (h : (s.size : Int) < a + k) : Calls Try.prog 49 #[.string s, .int .i64 a, .int .i64 k] w fun e w' => e = .returned (.tuple #[.int .i64 0, .int .i64 101]) ∧ w' = w := by
  unfold maxLen at hs
  have hk1 : 1 ≤ k := by omega
  have hk4 : k ≤ 4 := by omega
  have hl : (s.size : Int) - k < a := by omega
  go_enter Try.func49, Try.ntmps49
  go_wp2_with (first | (go_at_call 40; refine (isWidth_yes _ hk _).mono ?_; rintro e w' ⟨rfl, rfl⟩))
  go_ret2
  exact ⟨rfl, rfl⟩

/-! ### The references -/
theorem rel_snoc (x : Int) (k j : Nat) : top x k (j + 1) = top x k j ++ [x / 2 ^ (8 * (k - 1 - j)) % 256] := by
  simp [top, byteAt, List.range_succ]

set_option maxRecDepth 100000 in
theorem refNum (x : Int) (k : Nat) (w : World) (_h0 : 0 ≤ x) (_hx : x ≤ 9223372036854775807) (hk : k ≤ 4) : Calls Try.prog 21 #[.int .i64 x, .int .i64 k] w fun e w' => e = .returned (.string (be x k)) ∧ Below w.heap.size w w' := by
  obtain ⟨i0, hi, hz0, hz1, hz2⟩ := info_parts Try.infoU8
  go_enter Try.func21, Try.ntmps21
  go_wp2
  go_loopw [5, 6] (fun v i wr => ∃ j : Nat, j ≤ k ∧ i = .int .i64 ((k : Int) - 1 - j) ∧ wr.ownsRow w.heap.size 5 1 v j ((top x k j).map (Value.int .u8)) ∧ Below w.heap.size w wr) (fun _ i _ => (intOf i + 1).toNat)
  case atStart => exact ⟨0, Nat.zero_le _, by simp, World.ownsRow_nil _ _ _ _, Below.refl _ _⟩
  case round =>
    obtain ⟨j, hj, rfl, hown, hnx⟩ := hrel
    have hsz := hnx.size
    by_cases hlt : j < k
    · go_wp2_with (first
        | (at_builtin; refine wpList_append_own _ rfl _ _ 40 rfl w.heap.size 5 i0 (.int .u8 0) 1 1 Try.underlying40 hi hz0 hz1 hz2 rfl (by decide) _ _ _ rfl (hown.alloc _) ⟨wr.heap.size, 0, none⟩ 1 1 [.int .u8 (x / 2 ^ (8 * (k - 1 - j)) % 256)] rfl rfl ?c1 ?c2 ?c3 ?c4 ?c5 ?_)
        | go_in)
      case c1 =>
        intro j u hj
        match j, hj with
        | 0, hj => simp at hj; subst hj; simp [Addr.add]
      case c2 => intro u hu; simp at hu; subst hu; rfl
      case c3 => unfold maxLen; omega
      case c4 => omega
      case c5 => simp; omega
      · intro v' w1 hown' hgrow _
        have R : w1.ownsRow w.heap.size 5 1 v' (j + 1) ((top x k (j + 1)).map (Value.int .u8)) := by rw [rel_snoc]; simpa using hown'
        have B : Below w.heap.size w w1 := (hnx.alloc hsz _).grown hgrow (by simp; omega) (fun k hk => (hown.lt k hk).1)
        clear hown' hgrow hown
        go_wp2
        go_roundw
        case rel => exact ⟨j + 1, by omega, by go_num, R, B⟩
        case measure => simp [intOf]; omega
    · have e : j = k := by omega
      subst e
      have hcv := conv_owned (P := Try.prog) 40 9 Try.underlying40 Try.underlying5 Try.underlying9 hown
      go_wp2
      go_ret
      exact ⟨rfl, hnx⟩



end Go.Proofs.Yteaediobcjednaa

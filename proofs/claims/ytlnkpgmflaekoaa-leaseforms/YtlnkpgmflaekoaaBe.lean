/-
  Contracts of package be, of the references PutBe, GetBe and Num, and of the laws' Num: what each call returns, for every argument of the kind that is named in each theorem.
-/
import Derived.Test.YtlnkpgmflaekoaaRows
import Derived.Test.YtlnkpgmflaekoaaPlain
import Derived.Test.YtlnkpgmflaekoaaNum
import Derived.WalkKit
import Derived.ProofKit
import Derived.WalkSpells
import Derived.PlainAid
import Derived.Handy
namespace Go.Proofs.Ytlnkpgmflaekoaa
open Go.ChangeShapes Go.WideShapes Go.ChangeAt Go.RowKit Go.Pin Go.PlainAid

theorem Try.infoU8 : (Try.prog.info? 5).map (fun i => (i.zero, i.size, i.bytes)) = some (some (.int .u8 0), 1, 1) := by kernel_rfl

def widthB (k : Int) : Bool := decide (k = 1 ∨ k = 2 ∨ k = 4)

theorem be_1 (x : Int) (h0 : 0 ≤ x) (h1 : x < 256) : be x 1 = str [x] := by
  have e : top x 1 1 = [x] := by simp [top, byteAt, List.range_succ]; omega
  rw [be, e]
theorem be_2 (x : Int) (h0 : 0 ≤ x) (h1 : x < 65536) : be x 2 = str [x / 256, x % 256] := by
  have e : top x 2 2 = [x / 256, x % 256] := by simp [top, byteAt, List.range_succ]; omega
  rw [be, e]
theorem be_4 (x : Int) (h0 : 0 ≤ x) (h1 : x < 4294967296) : be x 4 = str [x / 16777216, x / 65536 % 256, x / 256 % 256, x % 256] := by
  have e : top x 4 4 = [x / 16777216, x / 65536 % 256, x / 256 % 256, x % 256] := by simp [top, byteAt, List.range_succ]; omega
  rw [be, e]

/-- The numbers of k bytes. -/
def inB (x : Int) (k : Int) : Prop := (k = 1 ∧ 0 ≤ x ∧ x < 256) ∨ (k = 2 ∧ 0 ≤ x ∧ x < 65536) ∨ (k = 4 ∧ 0 ≤ x ∧ x < 4294967296)

/-- The number of the k bytes from place at on, the highest first. -/
def num (s : ByteArray) (at_ : Nat) : Nat → Int
  | 0 => 0
  | k + 1 => num s at_ k * 256 + bt s (at_ + k)

theorem num_bd (s : ByteArray) (at_ : Nat) : ∀ k, 0 ≤ num s at_ k ∧ num s at_ k < 256 ^ k
  | 0 => ⟨Int.le_refl _, by simp [num]⟩
  | k + 1 => by
    have h := num_bd s at_ k
    have h1 := bt_nonneg s (at_ + k)
    have h2 := bt_le s (at_ + k)
    simp only [num, Int.pow_succ]
    omega

theorem num_lt (s : ByteArray) (a j : Nat) (h : j ≤ 4) : 0 ≤ num s a j ∧ num s a j < 1099511627776 := by
  have h1 := num_bd s a j
  have hj : j = 0 ∨ j = 1 ∨ j = 2 ∨ j = 3 ∨ j = 4 := by omega
  rcases hj with rfl | rfl | rfl | rfl | rfl <;> omega

theorem ret_int {k : IntKind} {a b : Int} (h : a = b) : Value.int k a = .int k b := by rw [h]

theorem num_step (s : ByteArray) (a j : Nat) (h : j ≤ 4) : bits .or .i64 (wrap64 (num s a j * 256)) (wrap64 (bt s (a + j))) = num s a (j + 1) :=
  or_byte _ _ (num_lt s a j h).1 (num_lt s a j h).2 (bt_nonneg _ _) (bt_le _ _)

/-! ### The references -/
theorem rel_snoc (x : Int) (k j : Nat) : top x k (j + 1) = top x k j ++ [x / 2 ^ (8 * (k - 1 - j)) % 256] := by
  simp [top, byteAt, List.range_succ]

end Go.Proofs.Ytlnkpgmflaekoaa

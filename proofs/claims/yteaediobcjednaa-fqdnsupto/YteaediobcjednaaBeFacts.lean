/-
  Plain facts on the bytes of numbers: what stands within a text is told again; lesser numbers are lesser texts.
-/
import Derived.Test.YteaediobcjednaaBe
namespace Go.Proofs.Yteaediobcjednaa
open Go.RowKit Go.Pin Go.PlainAid

theorem bt_list (s : ByteArray) (k : Nat) : bt s k = ((s.data.toList.map fun c => (c.toNat : Int))[k]?).getD 0 := by
  unfold bt
  split
  · rename_i h
    have h' : k < s.data.toList.length := by simpa using h
    rw [List.getElem?_map, List.getElem?_eq_getElem h']
    simp [ByteArray.getElem_eq_getElem_data]
  · rename_i h
    have h' : s.data.toList.length ≤ k := by simpa using h
    rw [List.getElem?_map, List.getElem?_eq_none h']
    rfl

theorem bt_mid (X M Y : ByteArray) (j : Nat) (h : j < M.size) : bt (X ++ M ++ Y) (X.size + j) = bt M j := by
  rw [bt_list, bt_list]
  have h1 : X.data.toList.length = X.size := by simp
  have h2 : M.data.toList.length = M.size := by simp
  simp only [ByteArray.data_append, Array.toList_append, List.map_append]
  rw [List.getElem?_append_left (by simp; omega), List.getElem?_append_right (by simp)]
  simp

theorem num_mid (X M Y : ByteArray) : ∀ k, k ≤ M.size → num (X ++ M ++ Y) X.size k = num M 0 k
  | 0, _ => rfl
  | k + 1, h => by
    rw [num, num, num_mid X M Y k (by omega), bt_mid X M Y k (by omega)]
    simp

theorem bt_str (ns : List Int) (j : Nat) (h : ∀ n ∈ ns, 0 ≤ n ∧ n < 256) : bt (str ns) j = ns.getD j 0 := by
  rw [bt_list]
  simp only [str, List.map_map, List.getElem?_map]
  by_cases hj : j < ns.length
  · rw [List.getElem?_eq_getElem hj]
    have := h _ (List.getElem_mem hj)
    simp [List.getD, List.getElem?_eq_getElem hj]
    omega
  · rw [List.getElem?_eq_none (by omega)]
    simp [List.getD, List.getElem?_eq_none (Nat.le_of_not_lt hj)]

theorem num_be_1 (A : Int) (h0 : 0 ≤ A) (h1 : A < 256) : num (be A 1) 0 1 = A := by
  rw [be_1 A h0 h1]
  simp only [num]
  rw [bt_str _ _ (by intro n hn; simp at hn; omega)]
  simp
theorem num_be_2 (A : Int) (h0 : 0 ≤ A) (h1 : A < 65536) : num (be A 2) 0 2 = A := by
  rw [be_2 A h0 h1]
  simp only [num]
  rw [bt_str _ _ (by intro n hn; simp at hn; omega), bt_str _ _ (by intro n hn; simp at hn; omega)]
  simp; omega
theorem num_be_4 (A : Int) (h0 : 0 ≤ A) (h1 : A < 4294967296) : num (be A 4) 0 4 = A := by
  rw [be_4 A h0 h1]
  simp only [num]
  rw [bt_str _ _ (by intro n hn; simp at hn; omega), bt_str _ _ (by intro n hn; simp at hn; omega), bt_str _ _ (by intro n hn; simp at hn; omega), bt_str _ _ (by intro n hn; simp at hn; omega)]
  simp; omega

theorem num_be (A : Int) (k : Nat) (h : inB A k) : num (be A k) 0 k = A := by
  rcases h with ⟨hk, h0, h1⟩ | ⟨hk, h0, h1⟩ | ⟨hk, h0, h1⟩
  · obtain rfl : k = 1 := by omega
    exact num_be_1 A h0 h1
  · obtain rfl : k = 2 := by omega
    exact num_be_2 A h0 h1
  · obtain rfl : k = 4 := by omega
    exact num_be_4 A h0 h1

/-- A number that stands in a text is told again. -/
theorem get_mid (X Y : ByteArray) (A : Int) (k : Nat) (w : World) (h : inB A k) (hs : X.size + 4 + Y.size ≤ maxLen) :
    Calls Try.prog 49 #[.string (X ++ be A k ++ Y), .int .i64 X.size, .int .i64 k] w fun e w' => e = .returned (.tuple #[.int .i64 A, .int .i64 0]) ∧ w' = w := by
  have hk : k = 1 ∨ k = 2 ∨ k = 4 := by unfold inB at h; omega
  have hsz : (X ++ be A k ++ Y).size = X.size + k + Y.size := by simp [size_be]
  have := get_ok (X ++ be A k ++ Y) X.size k w hk (by omega) (by omega)
  rw [num_mid X (be A k) Y k (by rw [size_be]; exact Nat.le_refl _), num_be A k h] at this
  exact this

theorem toNat_byte (n : Int) (_h0 : 0 ≤ n) (h1 : n < 256) : (UInt8.ofNat n.toNat).toNat = n.toNat := by simp; omega

theorem less_byte (a b : Int) (a0 : 0 ≤ a) (a1 : a < 256) (b0 : 0 ≤ b) (b1 : b < 256) : (UInt8.ofNat a.toNat < UInt8.ofNat b.toNat ↔ a < b) ∧ (UInt8.ofNat a.toNat = UInt8.ofNat b.toNat ↔ a = b) := by
  have ha := toNat_byte a a0 a1
  have hb := toNat_byte b b0 b1
  constructor
  · rw [UInt8.lt_iff_toNat_lt, ha, hb]; omega
  · rw [← UInt8.toNat_inj, ha, hb]; omega

theorem less_be (A B : Int) (a0 : 0 ≤ A) (a1 : A < 4294967296) (b0 : 0 ≤ B) (b1 : B < 4294967296) : Op.bytesLess (be A 4).toList (be B 4).toList = decide (A < B) := by
  rw [be_4 A a0 a1, be_4 B b0 b1, str, str, ByteArray.toList_eq, ByteArray.toList_eq]
  have l1 := less_byte (A / 16777216) (B / 16777216) (by omega) (by omega) (by omega) (by omega)
  have l2 := less_byte (A / 65536 % 256) (B / 65536 % 256) (by omega) (by omega) (by omega) (by omega)
  have l3 := less_byte (A / 256 % 256) (B / 256 % 256) (by omega) (by omega) (by omega) (by omega)
  have l4 := less_byte (A % 256) (B % 256) (by omega) (by omega) (by omega) (by omega)
  simp only [List.map_cons, List.map_nil, Op.bytesLess]
  rw [Bool.eq_iff_iff]
  simp only [Bool.or_eq_true, Bool.and_eq_true, decide_eq_true_eq, beq_iff_eq, l1.1, l1.2, l2.1, l2.2, l3.1, l3.2, l4.1, l4.2]
  simp only [Bool.false_eq_true, and_false, or_false]
  omega
end Go.Proofs.Yteaediobcjednaa

/-
  Plain lemmas that speak of no program: bytes of numbers, string(b) of a slice of bytes, and, or, masks on int.
-/
import Derived.WalkKit
import Derived.ProofKit
namespace Go.Pin
open Go.RowKit

/-- The bytes of numbers. -/
def str (ns : List Int) : ByteArray := ⟨(ns.map fun n => UInt8.ofNat n.toNat).toArray⟩
def byteAt (x : Int) (i : Nat) : Int := x / 2 ^ (8 * i) % 256
/-- The first j of the k bytes of x, the highest first. -/
def top (x : Int) (k j : Nat) : List Int := (List.range j).map fun m => byteAt x (k - 1 - m)
def be (x : Int) (k : Nat) : ByteArray := str (top x k k)

theorem foldl_push (ns : List Int) : ∀ s : ByteArray, ns.foldl (fun r n => r.push (UInt8.ofNat n.toNat)) s = ⟨s.data ++ (ns.map fun n => UInt8.ofNat n.toNat).toArray⟩ := by
  induction ns with
  | nil => intro s; simp
  | cons n ns ih =>
    intro s
    rw [List.foldl_cons, ih]
    simp [ByteArray.push]

theorem str_foldl (ns : List Int) : ns.foldl (fun r n => r.push (UInt8.ofNat n.toNat)) ByteArray.empty = str ns := by
  rw [foldl_push]
  simp [str, ByteArray.empty, ByteArray.emptyWithCapacity]
  rfl

theorem addr_add (b off j : Nat) : (⟨b, off, none⟩ : Addr).add j = ⟨b, off + j, none⟩ := by unfold Addr.add; split <;> simp_all

section
variable {P : Program}
/-- string(b) of a slice whose cells are known. -/
theorem conv_cells (w : World) (src dst e : TypeId) (a : Addr) (cap : Nat) (ns : List Int) (hs : P.underlying src = some (.slice e)) (he : P.underlying e = some (.int .u8)) (hd : P.underlying dst = some .string)
    (hc : ∀ j v, (ns.map (Value.int .u8))[j]? = some v → w.cell? (a.add j) = some v) :
    (convert src dst (.slice (some a) ns.length cap)).run P w = .ok (.string (str ns)) w := by
  rw [run_convert_bytes_string w src dst e (some a) ns.length cap hs he hd]
  have hl := run_loadCells_list (P := P) w a (ns.map (Value.int .u8)) hc
  rw [List.length_map] at hl
  rw [run_bytesToString w a ns.length cap ns hl, str_foldl]

theorem conv_nil (w : World) (src dst e : TypeId) (l c : Nat) (hs : P.underlying src = some (.slice e)) (he : P.underlying e = some (.int .u8)) (hd : P.underlying dst = some .string) :
    (convert src dst (.slice none l c)).run P w = .ok (.string (str [])) w := by
  rw [run_convert_bytes_string w src dst e none l c hs he hd]
  simp [Conv.bytesToString, str, ByteArray.empty, ByteArray.emptyWithCapacity]
  rfl

/-- string(b) of a slice of bytes that the call itself made. -/
theorem conv_owned {w : World} {base : Nat} {e : TypeId} {v : Value} {n : Nat} {ns : List Int} (src dst : TypeId) (hs : P.underlying src = some (.slice e)) (he : P.underlying e = some (.int .u8)) (hd : P.underlying dst = some .string)
    (h : w.ownsRow base e 1 v n (ns.map (Value.int .u8))) : (convert src dst v).run P w = .ok (.string (str ns)) w := by
  obtain ⟨hlen, h⟩ := h
  simp only [List.length_map] at hlen
  rcases h with ⟨rfl, rfl⟩ | ⟨g, cap, cur, rfl, hb, hh, hn, hm, hz, ht⟩
  · have : ns = [] := by cases ns <;> simp_all
    subst this
    exact conv_nil w src dst e 0 0 hs he hd
  · have e1 : n = ns.length := by omega
    subst e1
    refine conv_cells w src dst e _ cap ns hs he hd ?_
    intro j u hj
    have hjl : j < ns.length := by
      have := (List.getElem?_eq_some_iff.1 hj).1
      simpa using this
    rw [← ht] at hj
    rw [List.getElem?_take] at hj
    rw [if_pos (by omega)] at hj
    rw [addr_add]
    simp only [World.cell?, hh]
    simpa using hj

/-- string(b) of a block just made. -/
theorem conv_new (w : World) (src dst e t : TypeId) (cap : Nat) (ns : List Int) (n : Nat) (cs : Array Value) (hn : n = ns.length) (hcs : cs = (ns.map (Value.int .u8)).toArray) (hs : P.underlying src = some (.slice e)) (he : P.underlying e = some (.int .u8)) (hd : P.underlying dst = some .string) :
    (convert src dst (.slice (some ⟨w.heap.size, 0, none⟩) n cap)).run P (w.alloc (.cells cs t)) = .ok (.string (str ns)) (w.alloc (.cells cs t)) := by
  subst hn hcs
  refine conv_cells _ src dst e _ cap ns hs he hd ?_
  intro j u hj
  have hh : (w.alloc (.cells (ns.map (Value.int .u8)).toArray t)).heap[w.heap.size]? = some (.cells (ns.map (Value.int .u8)).toArray t) := heap_alloc_new w _
  rw [addr_add]
  simp only [World.cell?, hh]
  simpa using hj
end

/-- What is below stays below, call behind call. -/
theorem bel_trans {a b c : World} (h1 : Below a.heap.size a b) (h2 : Below b.heap.size b c) : Below a.heap.size a c := h1.trans (h2.mono h1.size)

theorem size_str (ns : List Int) : (str ns).size = ns.length := by simp [str, ByteArray.size]
theorem size_be (x : Int) (k : Nat) : (be x k).size = k := by simp [be, size_str, top]

/-! ### bits -/
theorem i64_or_nat (a b : Nat) (ha : a < 9223372036854775808) (hb : b < 9223372036854775808) : bits .or .i64 (a : Int) (b : Int) = ((a ||| b : Nat) : Int) := by
  have h1 : (BitVec.ofInt 64 (a : Int)).toNat = a := ofInt_u64 a (by omega)
  have h2 : (BitVec.ofInt 64 (b : Int)).toNat = b := ofInt_u64 b (by omega)
  have h3 : a ||| b < 2 ^ 63 := Nat.or_lt_two_pow (by omega) (by omega)
  show IntKind.i64.wrap ((BitVec.ofInt 64 (a : Int) ||| BitVec.ofInt 64 (b : Int)).toNat : Int) = _
  rw [BitVec.toNat_or, h1, h2, IntKind.wrap_i64]
  omega
theorem i64_and_nat (a b : Nat) (ha : a < 9223372036854775808) (hb : b < 9223372036854775808) : bits .and .i64 (a : Int) (b : Int) = ((a &&& b : Nat) : Int) := by
  have h1 : (BitVec.ofInt 64 (a : Int)).toNat = a := ofInt_u64 a (by omega)
  have h2 : (BitVec.ofInt 64 (b : Int)).toNat = b := ofInt_u64 b (by omega)
  have h3 : a &&& b ≤ a := Nat.and_le_left
  show IntKind.i64.wrap ((BitVec.ofInt 64 (a : Int) &&& BitVec.ofInt 64 (b : Int)).toNat : Int) = _
  rw [BitVec.toNat_and, h1, h2, IntKind.wrap_i64]
  omega
/-- x & (2^k - 1), x of either sign. -/
theorem i64_mask (k : Nat) (x : Int) (hk : k ≤ 62) : bits .and .i64 x (2 ^ k - 1) = x % 2 ^ k := by
  have h2 : (BitVec.ofInt 64 ((2 : Int) ^ k - 1)).toNat = 2 ^ k - 1 := by
    have hp : 2 ^ k ≤ 2 ^ 62 := Nat.pow_le_pow_right (by decide) hk
    have hp0 : 0 < 2 ^ k := Nat.two_pow_pos _
    have e : ((2 : Int) ^ k - 1) = ((2 ^ k - 1 : Nat) : Int) := by
      rw [Int.natCast_sub (by omega)]; simp
    rw [e]; exact ofInt_u64 _ (by omega)
  have hp : (2 : Nat) ^ k ≤ 2 ^ 62 := Nat.pow_le_pow_right (by decide) hk
  have hp0 : 0 < 2 ^ k := Nat.two_pow_pos k
  show IntKind.i64.wrap ((BitVec.ofInt 64 x &&& BitVec.ofInt 64 ((2 : Int) ^ k - 1)).toNat : Int) = _
  rw [BitVec.toNat_and, h2, Nat.and_two_pow_sub_one_eq_mod, BitVec.toNat_ofInt, IntKind.wrap_i64]
  have e1 : ((x % (2 ^ 64 : Nat)).toNat % 2 ^ k : Nat) = ((x % 2 ^ k).toNat : Nat) := by
    have e2 : (((x % ((2 ^ 64 : Nat) : Int)).toNat % 2 ^ k : Nat) : Int) = x % 2 ^ k := by
      rw [Int.natCast_emod, Int.toNat_of_nonneg (Int.emod_nonneg _ (by decide))]
      have : (((2 ^ k : Nat) : Int)) = (2 : Int) ^ k := by simp
      rw [this]
      rw [Int.emod_emod_of_dvd]
      have : ((2 ^ 64 : Nat) : Int) = 2 ^ k * 2 ^ (64 - k) := by rw [← Int.pow_add, show k + (64 - k) = 64 by omega]; rfl
      rw [this]; exact Int.dvd_mul_right _ _
    omega
  rw [e1]
  have h4 : 0 ≤ x % 2 ^ k := Int.emod_nonneg _ (by have := Int.pow_pos (n := 2) (m := k) (by decide); omega)
  have h5 : x % 2 ^ k < 2 ^ k := Int.emod_lt_of_pos _ (Int.pow_pos (by decide))
  have h6 : (2 : Int) ^ k ≤ 2 ^ 62 := by exact_mod_cast hp
  omega

/-- int(uint(a) % uint(n)), n above 0: a place below n. -/
theorem pick_mod (a n : Int) (h : 0 < n) (hn : n ≤ 4611686018427387904) : ∃ I : Nat, wrap64 ((IntKind.u64.wrap a).tmod n) = (I : Int) ∧ (I : Int) < n := by
  rw [IntKind.wrap_u64, tmod_of_emod]
  have h1 := Int.emod_nonneg (a % 18446744073709551616) (b := n) (by omega)
  have h2 := Int.emod_lt_of_pos (a % 18446744073709551616) h
  refine ⟨(a % 18446744073709551616 % n).toNat, ?_, by omega⟩
  unfold wrap64; omega

/-- x << 8 | b. -/
theorem or_byte (n b : Int) (h0 : 0 ≤ n) (h1 : n < 1099511627776) (h2 : 0 ≤ b) (h3 : b ≤ 255) : bits .or .i64 (wrap64 (n * 256)) (wrap64 b) = n * 256 + b := by
  have e1 : wrap64 (n * 256) = n * 256 := by unfold wrap64; omega
  have e2 : wrap64 b = b := by unfold wrap64; omega
  rw [e1, e2]
  obtain ⟨m, rfl⟩ := Int.eq_ofNat_of_zero_le h0
  obtain ⟨c, rfl⟩ := Int.eq_ofNat_of_zero_le h2
  have := i64_or_nat (m * 256) c (by omega) (by omega)
  have h := nat_join 8 (m * 256) c (by omega) (by omega)
  rw [h] at this
  simpa using this
end Go.Pin

/-
  Plain: who a packet's client is; the word that ties a name to a client. It speaks of no program.
-/
import Derived.Test.YtkohojifnmklmaaPackPure
import Derived.Laws.BitsAllLaws
namespace Go.Proofs.Ytkohojifnmklmaa
open Go.RowKit Go.Pin Go.PlainAid

/-- What a packet tells of its client; empty: nothing. -/
def toldI (p : Pk) : List UInt8 := match findO p.os 61 with
  | some d => d
  | none => if p.ch.size = 0 then [] else byteO p.ht :: bs p.ch
/-- May this be a client? -/
def okI (l : List UInt8) : Bool := decide (1 ≤ l.length) && decide (l.length ≤ 16)
/-- Client's answer. -/
def clientA (p : Pk) : ByteArray × Int := if mayP p && okI (toldI p) then (mk (toldI p), 0) else (⟨#[]⟩, 900)

/-- One byte more in the sum. -/
def fnvS (x : Nat) (c : UInt8) : Nat := (x ^^^ c.toNat) * 16777619 % 4294967296
def fnv (x : Nat) (l : List UInt8) : Nat := l.foldl fnvS x
theorem fnv_nil (x : Nat) : fnv x [] = x := rfl
theorem fnv_cons (x : Nat) (c : UInt8) (l : List UInt8) : fnv x (c :: l) = fnv (fnvS x c) l := rfl
theorem fnv_append (x : Nat) (a b : List UInt8) : fnv x (a ++ b) = fnv (fnv x a) b := List.foldl_append
theorem fnv_snoc (x : Nat) (a : List UInt8) (c : UInt8) : fnv x (a ++ [c]) = fnvS (fnv x a) c := by rw [fnv_append, fnv_cons, fnv_nil]
theorem fnvS_lt (x : Nat) (c : UInt8) : fnvS x c < 4294967296 := by unfold fnvS; exact Nat.mod_lt _ (by decide)
theorem fnv_lt {x : Nat} (hx : x < 4294967296) (l : List UInt8) : fnv x l < 4294967296 := by
  induction l generalizing x with
  | nil => exact hx
  | cons c l ih => exact ih (fnvS_lt x c)
theorem odd_key (x : Nat) (hx : x < 4294967296) : x * 16777619 % 4294967296 * 899433627 % 4294967296 = x := by omega
theorem odd_back {a b : Nat} (ha : a < 4294967296) (hb : b < 4294967296) (h : a * 16777619 % 4294967296 = b * 16777619 % 4294967296) : a = b := by
  have h1 := odd_key a ha
  rw [h, odd_key b hb] at h1
  exact h1.symm
theorem xor_lt {x : Nat} (hx : x < 4294967296) (c : UInt8) : x ^^^ c.toNat < 4294967296 := Nat.xor_lt_two_pow (n := 32) hx (by have := c.toNat_lt; omega)
theorem xor_back {x y c : Nat} (h : x ^^^ c = y ^^^ c) : x = y := by
  have := congrArg (· ^^^ c) h
  simpa [Nat.xor_assoc] using this
theorem fnvS_state {x y : Nat} {c : UInt8} (hx : x < 4294967296) (hy : y < 4294967296) (h : fnvS x c = fnvS y c) : x = y := by
  unfold fnvS at h
  exact xor_back (odd_back (xor_lt hx c) (xor_lt hy c) h)
theorem fnvS_byte {x : Nat} {c d : UInt8} (hx : x < 4294967296) (h : fnvS x c = fnvS x d) : c = d := by
  unfold fnvS at h
  have h1 := odd_back (xor_lt hx c) (xor_lt hx d) h
  rw [Nat.xor_comm x, Nat.xor_comm x] at h1
  exact UInt8.toNat_inj.1 (xor_back h1)
theorem fnv_state {x y : Nat} (hx : x < 4294967296) (hy : y < 4294967296) {l : List UInt8} (h : fnv x l = fnv y l) : x = y := by
  induction l generalizing x y with
  | nil => exact h
  | cons c l ih => exact fnvS_state hx hy (ih (fnvS_lt x c) (fnvS_lt y c) h)
/-- One byte turned is told. -/
theorem fnv_one {x : Nat} (hx : x < 4294967296) {a b : List UInt8} {c d : UInt8} (h : fnv x (a ++ c :: b) = fnv x (a ++ d :: b)) : c = d := by
  rw [fnv_append, fnv_append, fnv_cons, fnv_cons] at h
  have hy := fnv_lt hx a
  exact fnvS_byte hy (fnv_state (fnvS_lt _ c) (fnvS_lt _ d) h)
/-- The bytes that the sum goes over. -/
def overI (c n : List UInt8) : List UInt8 := c ++ 0 :: n
def sumI (c n : List UInt8) : Nat := fnv 2166136261 (overI c n)
theorem sumI_lt (c n : List UInt8) : sumI c n < 4294967296 := fnv_lt (by decide) _
/-- Dhcid's bytes. -/
def dhcL (c n : List UInt8) : List UInt8 := [0, 1, 1] ++ bs (be (sumI c n : Nat) 4)
/-- Dhcid's answer. -/
def dhcA (c n : List UInt8) : ByteArray × Int := if okI c && mayL n then (mk (dhcL c n), 0) else (⟨#[]⟩, 900)
theorem dhcL_len (c n : List UInt8) : (dhcL c n).length = 7 := by simp [dhcL, length_bs, size_be]
theorem sum_xor {x b : Int} (h0 : 0 ≤ x) (h1 : x < 4294967296) (h2 : 0 ≤ b) (h3 : b < 256) : bits .xor .u32 x b = ((x.toNat ^^^ b.toNat : Nat) : Int) := u32_xor x b h0 h1 h2 (by omega)
theorem be_same {x y : Nat} (hx : x < 4294967296) (hy : y < 4294967296) (h : be (x : Int) 4 = be (y : Int) 4) : x = y := by
  have h1 := num_be_4 x (by omega) (by omega)
  rw [h, num_be_4 y (by omega) (by omega)] at h1
  omega
/-- A client that differs in one byte has another word. -/
theorem dhc_one {a b n : List UInt8} {c d : UInt8} (h : dhcL (a ++ c :: b) n = dhcL (a ++ d :: b) n) : c = d := by
  unfold dhcL at h
  have h1 := bs_inj (List.append_cancel_left h)
  have h2 := be_same (sumI_lt _ _) (sumI_lt _ _) h1
  unfold sumI overI at h2
  rw [List.append_assoc, List.append_assoc, List.cons_append, List.cons_append] at h2
  exact fnv_one (by decide) h2
end Go.Proofs.Ytkohojifnmklmaa

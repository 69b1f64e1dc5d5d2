/-
  Plain: DHCP packets, their bytes, what bytes tell of them.
-/
import Derived.Test.YtkohojifnmklmaaOptPure
import Derived.Test.YtkohojifnmklmaaBBe
namespace Go.Proofs.Ytkohojifnmklmaa
open Go.RowKit Go.Pin Go.PlainAid

instance (x k : Int) : Decidable (inB x k) := by unfold inB; infer_instance
/-- A packet. -/
structure Pk where
  op : Int
  ht : Int
  ho : Int
  xid : Int
  sc : Int
  fl : Int
  ci : Int
  yi : Int
  si : Int
  gi : Int
  ch : ByteArray
  os : List Opn
/-- Numbers, each in k bytes. -/
def nums (k : Nat) (ns : List Int) : List UInt8 := ns.flatMap fun v => bs (be v k)
theorem nums_nil (k : Nat) : nums k [] = [] := rfl
theorem nums_cons (k : Nat) (v : Int) (ns : List Int) : nums k (v :: ns) = bs (be v k) ++ nums k ns := rfl
theorem nums_snoc (k : Nat) (ns : List Int) (v : Int) : nums k (ns ++ [v]) = nums k ns ++ bs (be v k) := by simp [nums]
theorem nums_len (k : Nat) (ns : List Int) : (nums k ns).length = k * ns.length := by
  induction ns with
  | nil => rfl
  | cons v ns ih => rw [nums_cons, List.length_append, ih, length_bs, size_be, List.length_cons, Nat.mul_succ]; omega
/-- What stands ahead of the options. -/
def headP (p : Pk) : List UInt8 :=
  nums 1 [p.op, p.ht, p.ch.size, p.ho] ++ nums 4 [p.xid] ++ nums 2 [p.sc, p.fl] ++ nums 4 [p.ci, p.yi, p.si, p.gi] ++ bs p.ch ++ List.replicate (208 - p.ch.size) 0 ++ nums 4 [1669485411]
/-- May each of them be put in k bytes? -/
def allB (k : Int) (ns : List Int) : Bool := ns.all fun v => decide (inB v k)
/-- May a packet be? -/
def mayP (p : Pk) : Bool := allB 1 [p.op, p.ht, p.ho] && allB 2 [p.sc, p.fl] && allB 4 [p.xid, p.ci, p.yi, p.si, p.gi] && decide (p.ch.size ≤ 16) && mayO p.os
/-- Put's answer. -/
def putP (p : Pk) : List UInt8 × Int := if mayP p && decide ((putA p.os).2 = 0) then (headP p ++ putO p.os, 0) else ([], 700)
theorem headP_len (p : Pk) (h : p.ch.size ≤ 16) : (headP p).length = 240 := by
  simp only [headP, List.length_append, nums_len, List.length_cons, List.length_nil, length_bs, List.length_replicate]
  omega
theorem allB_iff (k : Int) (ns : List Int) : allB k ns = true ↔ ∀ v ∈ ns, inB v k := by simp [allB]
theorem mayP_iff (p : Pk) : mayP p = true ↔ (∀ v ∈ [p.op, p.ht, p.ho], inB v 1) ∧ (∀ v ∈ [p.sc, p.fl], inB v 2) ∧ (∀ v ∈ [p.xid, p.ci, p.yi, p.si, p.gi], inB v 4) ∧ p.ch.size ≤ 16 ∧ MayO p.os := by
  simp only [mayP, Bool.and_eq_true, allB_iff, decide_eq_true_eq, mayO, and_assoc]
theorem putA_cases (os : List Opn) : ((putA os).2 = 600 ↔ mayO os = false) ∧ ((putA os).2 = 0 ↔ (mayO os = true ∧ (putO os).length ≤ 1200)) ∧ (mayO os = true → (putO os).length ≤ 1200 → putA os = (putO os, 0)) := by
  unfold putA
  cases h : mayO os with
  | false => simp
  | true => by_cases hl : 1200 < (putO os).length <;> simp [hl] <;> omega

/-! ### what bytes tell -/
/-- The options but the one that tells of the two places, as bytes. -/
def rowsJ (xs : List Opn) : List UInt8 := bodyO (xs.filter fun o => decide (o.1 ≠ 52))
/-- All of them, joined. -/
def joinP (xs : List Opn) : Option (List Opn) := getO (rowsJ xs) []
/-- Which of the two places hold options. -/
def ovr (os : List Opn) : List UInt8 := (findO os 52).getD []
/-- The options of the three parts. -/
def optsP (r boot file : List UInt8) : Option (List Opn) :=
  match getO r [] with
  | none => none
  | some a =>
    if ovr a = [1] then (match getO file [] with | none => none | some b => joinP (a ++ b))
    else if ovr a = [2] then (match getO boot [] with | none => none | some c => joinP (a ++ c))
    else if ovr a = [3] then (match getO file [], getO boot [] with | some b, some c => joinP (a ++ b ++ c) | _, _ => none)
    else some a
/-- A text's bytes from place a on, n of them. -/
def cut (s : ByteArray) (a n : Nat) : List UInt8 := ((bs s).drop a).take n
/-- What a text tells; none: it is no packet. -/
def getP (s : ByteArray) : Option Pk :=
  if 240 ≤ s.size ∧ num s 2 1 ≤ 16 ∧ num s 236 4 = 1669485411 then
    (match optsP ((bs s).drop 240) (cut s 44 64) (cut s 108 128) with
    | none => none
    | some os => some ⟨num s 0 1, num s 1 1, num s 3 1, num s 4 4, num s 8 2, num s 10 2, num s 12 4, num s 16 4, num s 20 4, num s 24 4, mk (cut s 28 (num s 2 1).toNat), os⟩)
  else none
end Go.Proofs.Ytkohojifnmklmaa

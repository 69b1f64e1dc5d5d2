/-
  Contracts of package opts's reader: codes, what is joined.
-/
import Derived.Test.YtkohojifnmklmaaOptPut2
import Derived.Test.YtkohojifnmklmaaTakeMore
import Derived.Deep.AppendLies
import Derived.Laws.OwnMore
namespace Go.Proofs.Ytkohojifnmklmaa
open Go.ChangeShapes Go.WideShapes Go.ChangeAt Go.RowKit Go.Pin Go.PlainAid

/-- What is nothing, and the next code: how many bytes, which; 255, if there is no more. -/
def codeL : List UInt8 → Nat × UInt8
  | [] => (0, 255)
  | c :: r => if c = 0 then ((codeL r).1 + 1, (codeL r).2) else (1, c)
theorem codeL_le (r : List UInt8) : (codeL r).1 ≤ r.length := by
  induction r with
  | nil => simp [codeL]
  | cons c r ih => unfold codeL; split <;> simp <;> omega
theorem codeL_ne (r : List UInt8) : (codeL r).2 ≠ 0 := by
  induction r with
  | nil => simp [codeL]
  | cons c r ih => unfold codeL; split <;> simp_all
theorem getO_code (r : List UInt8) (acc : List Opn) : getO r acc = if (codeL r).2 = 255 then some acc else getO ((codeL r).2 :: r.drop (codeL r).1) acc := by
  induction r with
  | nil => simp [codeL, getO_nil]
  | cons c r ih =>
    unfold codeL
    by_cases h : c = 0
    · subst h
      rw [if_pos rfl, getO_pad, ih]
      simp
    · rw [if_neg h]
      by_cases h1 : c = 255
      · subst h1
        simp [getO_end]
      · simp [h1]
theorem codeL_drop {l : List UInt8} {a : Nat} (h : a < l.length) : codeL (l.drop a) = if l[a] = 0 then ((codeL (l.drop (a + 1))).1 + 1, (codeL (l.drop (a + 1))).2) else (1, l[a]) := by
  rw [List.drop_eq_getElem_cons h]; rfl
theorem num_one {s : ByteArray} {a : Nat} (h : a < (bs s).length) : num s a 1 = (((bs s)[a]).toNat : Int) := by
  have h2 : a < s.size := by rw [← length_bs]; exact h
  have : num s a 1 = bt s a := by simp [num]
  rw [this]
  unfold bt
  rw [dif_pos h2]
  rfl
theorem numT_one {s : ByteArray} {a : Nat} (h : a < (bs s).length) : numT s 1 ⟨a, false⟩ = ((((bs s)[a]).toNat : Int), ⟨(a : Int) + 1, false⟩) := by
  have h2 : a < s.size := by rw [← length_bs]; exact h
  have : getB s a 1 = (num s a 1, 0) := by unfold getB; rw [if_neg (by omega), if_neg (by simp; omega)]; rfl
  unfold numT
  simp only [this, num_one h]
  simp

end Go.Proofs.Ytkohojifnmklmaa

/-
  Contracts of package taker: how many bytes are left; all of them.
-/
import Derived.Test.YtkohojifnmklmaaOBase
import Derived.BigQuiet
namespace Go.Proofs.Ytkohojifnmklmaa
open Go.ChangeShapes Go.WideShapes Go.ChangeAt Go.RowKit Go.Pin Go.PlainAid

/-- How many bytes are left. -/
def restN (s : ByteArray) (x : Tk) : Nat := if x.f then 0 else (s.size - x.at_).toNat
/-- All that is left. -/
def restT (s : ByteArray) (x : Tk) : ByteArray × Tk := textT s (restN s x) x
theorem rest_size (s : ByteArray) (x : Tk) : (restT s x).1.size ≤ s.size := by
  unfold restT textT
  split
  · exact Nat.zero_le _
  · split
    · simp only [ByteArray.size_extract]; omega
    · exact Nat.zero_le _
end Go.Proofs.Ytkohojifnmklmaa

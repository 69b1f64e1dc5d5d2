/-
  Contracts of package packet's head and Put, at every packet.
-/
import Derived.Test.YtkohojifnmklmaaPackMay
namespace Go.Proofs.Ytkohojifnmklmaa
open Go.ChangeShapes Go.WideShapes Go.ChangeAt Go.RowKit Go.Pin Go.PlainAid

theorem textW_rf0 (t : ByteArray) (P : List UInt8) : textW t ⟨P, [], false⟩ = ⟨P ++ bs t, [], false⟩ := by simp [textW]
end Go.Proofs.Ytkohojifnmklmaa

/-
  Contract of package packet's Put, at every packet.
-/
import Derived.Test.YtkohojifnmklmaaPackHead
namespace Go.Proofs.Ytkohojifnmklmaa
open Go.ChangeShapes Go.WideShapes Go.ChangeAt Go.RowKit Go.Pin Go.PlainAid

end Go.Proofs.Ytkohojifnmklmaa

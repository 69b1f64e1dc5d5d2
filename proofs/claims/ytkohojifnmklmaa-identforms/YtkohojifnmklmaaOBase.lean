/-
  Takers and givers of numbers and texts.
-/
import Derived.Test.YtkohojifnmklmaaBName
import Derived.Test.YtkohojifnmklmaaBTake
import Derived.Test.YtkohojifnmklmaaBGive
import Derived.Deep.LoopGhost
import Derived.Deep.RegionWith
import Derived.Deep.QuietTactic
import Derived.BigQuiet
import Derived.WalkSmall
namespace Go.Proofs.Ytkohojifnmklmaa
end Go.Proofs.Ytkohojifnmklmaa

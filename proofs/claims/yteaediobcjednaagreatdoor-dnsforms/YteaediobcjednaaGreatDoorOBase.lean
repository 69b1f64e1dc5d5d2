/-
  Takers and givers of numbers and texts. (Laid by wip/tools/gen_obase.py.)
-/
import Derived.Test.YteaediobcjednaaGreatDoorBTake
import Derived.Test.YteaediobcjednaaGreatDoorBGive
import Derived.Test.YteaediobcjednaaGreatDoorDnsTake2
namespace Go.Proofs.YteaediobcjednaaGreatDoor
set_option maxRecDepth 100000
open Go.ChangeShapes Go.WideShapes Go.ChangeAt Go.RowKit Go.Pin Go.PlainAid
end Go.Proofs.YteaediobcjednaaGreatDoor

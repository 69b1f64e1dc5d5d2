/-
  Takers and givers of numbers and texts. (Laid by wip/tools/gen_obase.py.)
-/
import Derived.Test.YteaediobcjednaaTaker2
import Derived.Test.YteaediobcjednaaGiverBy
namespace Go.Proofs.Yteaediobcjednaa
open Go.ChangeShapes Go.WideShapes Go.ChangeAt Go.RowKit Go.Pin Go.PlainAid
end Go.Proofs.Yteaediobcjednaa

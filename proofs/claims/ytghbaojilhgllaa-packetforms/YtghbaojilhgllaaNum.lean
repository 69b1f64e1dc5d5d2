/-
  The contract of the laws' Num: it answers the number it is given.
-/
import Derived.Test.YtghbaojilhgllaaRows
import Derived.Test.YtghbaojilhgllaaPlain
import Derived.WalkKit
import Derived.ProofKit
import Derived.WalkSpells
import Derived.PlainAid
import Derived.Handy
namespace Go.Proofs.Ytghbaojilhgllaa
open Go.ChangeShapes Go.WideShapes Go.ChangeAt Go.RowKit Go.Pin Go.PlainAid

theorem num_any (n : Int) (w : World) : Calls Try.prog 13 #[.int .i64 n] w fun e w' => e = .returned (.int .i64 n) ∧ w' = w := by
  go_enter Try.func13, Try.ntmps13
  go_wp2
  go_ret
  exact ⟨rfl, rfl⟩
end Go.Proofs.Ytghbaojilhgllaa

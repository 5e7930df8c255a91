/-
  What the walks ask of the listed variables (a table, and an error that is not nil), and that it stays.
-/
import Derived.Test.YtnbfbobpkeeglaaGreatShelf
import Derived.Test.YtnbfbobpkeeglaaGreatFc
import Derived.Lib.Walk
import Derived.BigCall
import Derived.BigGuard
namespace Go.Proofs.YtnbfbobpkeeglaaGreat
open Go.RowKit Ieee Go.Lib

end Go.Proofs.YtnbfbobpkeeglaaGreat

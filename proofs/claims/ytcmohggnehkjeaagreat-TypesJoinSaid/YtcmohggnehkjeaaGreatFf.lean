/-
  What the walks ask of the listed variables (a table, and an error that is not nil), and that it stays.
-/
import Derived.Test.YtcmohggnehkjeaaGreatShelf
import Derived.Test.YtcmohggnehkjeaaGreatFc
import Derived.Lib.Walk
import Derived.BigCall
import Derived.BigGuard
namespace Go.Proofs.YtcmohggnehkjeaaGreat
open Go.RowKit Ieee Go.Lib

end Go.Proofs.YtcmohggnehkjeaaGreat

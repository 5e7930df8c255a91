/-
  No contract of the library's is needed here.
-/
import Derived.Test.YtcmohggnehkjeaaGreatRefFo
import Derived.Lib.TrailingZeros
import Derived.Lib.BitFns
import Derived.Lib.Strings
import Derived.Lib.Bytealg
namespace Go.Proofs.YtcmohggnehkjeaaGreat
end Go.Proofs.YtcmohggnehkjeaaGreat

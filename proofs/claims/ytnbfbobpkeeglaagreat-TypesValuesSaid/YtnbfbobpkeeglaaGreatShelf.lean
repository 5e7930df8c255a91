/-
  No contract of the library's is needed here.
-/
import Derived.Test.YtnbfbobpkeeglaaGreatRefFo
import Derived.Lib.TrailingZeros
import Derived.Lib.BitFns
import Derived.Lib.Strings
import Derived.Lib.Bytealg
namespace Go.Proofs.YtnbfbobpkeeglaaGreat
end Go.Proofs.YtnbfbobpkeeglaaGreat

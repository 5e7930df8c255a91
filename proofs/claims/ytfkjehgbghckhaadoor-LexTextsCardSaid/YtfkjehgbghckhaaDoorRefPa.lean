/-
  Contract of basculeref03.Parse.
-/
import Derived.Test.YtfkjehgbghckhaaDoorFq
namespace Go.Proofs.YtfkjehgbghckhaaDoor
open Go.RowKit Ieee

end Go.Proofs.YtfkjehgbghckhaaDoor

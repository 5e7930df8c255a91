/-
  The document's Next: the walk.
-/
import Derived.Test.YtfkjehgbghckhaaDoorUi
namespace Go.Proofs.YtfkjehgbghckhaaDoor
open Go.RowKit

end Go.Proofs.YtfkjehgbghckhaaDoor

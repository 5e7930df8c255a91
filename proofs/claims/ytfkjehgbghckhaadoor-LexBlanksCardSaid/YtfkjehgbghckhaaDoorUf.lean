/-
  The document's name.
-/
import Derived.Test.YtfkjehgbghckhaaDoorUe
namespace Go.Proofs.YtfkjehgbghckhaaDoor
open Go.RowKit

end Go.Proofs.YtfkjehgbghckhaaDoor

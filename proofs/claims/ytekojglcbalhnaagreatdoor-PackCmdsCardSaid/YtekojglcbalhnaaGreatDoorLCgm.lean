/-
  PackCmds: all closed facts of its row.
-/
import Derived.Test.YtekojglcbalhnaaGreatDoorLCf0m
import Derived.Test.YtekojglcbalhnaaGreatDoorLCf1m
import Derived.Test.YtekojglcbalhnaaGreatDoorLCf2m
import Derived.Test.YtekojglcbalhnaaGreatDoorLCf3m
import Derived.Test.YtekojglcbalhnaaGreatDoorLCf4m
import Derived.JoinedOf
namespace Go.Proofs.YtekojglcbalhnaaGreatDoor.lawPackCmds
set_option maxRecDepth 100000 in
theorem and_true_of {a b : Bool} (h : a = true) (h2 : b = true) : (a && b) = true := by rw [h, h2]; rfl
theorem facts : joinedFacts Tryz.pinned.checked.prog 3 Tryz.f3 Rows.packCmdsSpec Rows.packCmdsRow = true := by
  unfold joinedFacts
  exact (and_true_of (and_true_of (and_true_of (and_true_of (and_true_of (and_true_of (and_true_of (and_true_of (and_true_of (and_true_of (and_true_of (and_true_of (and_true_of (and_true_of (and_true_of (and_true_of (and_true_of (and_true_of (and_true_of (and_true_of (and_true_of (and_true_of (and_true_of (and_true_of (and_true_of (and_true_of (and_true_of (and_true_of (and_true_of (and_true_of (and_true_of fact00 fact01) fact02) fact03) fact04) fact05) fact06) fact07) fact08) fact09) fact10) fact11) fact12) fact13) fact14) fact15) fact16) fact17) fact18) fact19) fact20) fact21) fact22) fact23) fact24) fact25) fact26) fact27) (by kernel_rfl)) fact29) fact30) fact31)
end Go.Proofs.YtekojglcbalhnaaGreatDoor.lawPackCmds

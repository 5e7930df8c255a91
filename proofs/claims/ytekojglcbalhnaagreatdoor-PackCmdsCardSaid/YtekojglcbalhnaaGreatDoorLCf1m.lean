/-
  PackCmds: closed facts of its row, by the kernel.
-/
import Derived.Test.YtekojglcbalhnaaGreatDoorRows
namespace Go.Proofs.YtekojglcbalhnaaGreatDoor.lawPackCmds
theorem fact10 : ((Rows.packCmdsRow.unfollowed == Tryz.pinned.checked.prog.unfollowed 3)) = true := by kernel_rfl
end Go.Proofs.YtekojglcbalhnaaGreatDoor.lawPackCmds

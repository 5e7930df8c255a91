/-
  PackCmds: closed facts of its row, by the kernel.
-/
import Derived.Test.YtekojglcbalhnaaGreatDoorRows
namespace Go.Proofs.YtekojglcbalhnaaGreatDoor.lawPackCmds
theorem fact11 : ((Rows.packCmdsRow.recurses == Tryz.pinned.checked.prog.recurses 3)) = true := by kernel_rfl
end Go.Proofs.YtekojglcbalhnaaGreatDoor.lawPackCmds

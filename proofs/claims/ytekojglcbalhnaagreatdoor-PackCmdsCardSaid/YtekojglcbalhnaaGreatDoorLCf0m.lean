/-
  PackCmds: closed facts of its row, by the kernel.
-/
import Derived.Test.YtekojglcbalhnaaGreatDoorRows
namespace Go.Proofs.YtekojglcbalhnaaGreatDoor.lawPackCmds
theorem fact09 : ((Rows.packCmdsRow.inPlace == Tryz.pinned.checked.prog.inPlace 3)) = true := by kernel_rfl
end Go.Proofs.YtekojglcbalhnaaGreatDoor.lawPackCmds

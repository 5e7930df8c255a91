/-
  PackCmds: closed facts of its row, by the kernel.
-/
import Derived.Test.YtekojglcbalhnaaGreatDoorRows
namespace Go.Proofs.YtekojglcbalhnaaGreatDoor.lawPackCmds
theorem fact12 : ((Rows.packCmdsRow.named == Tryz.pinned.checked.prog.varsNamed 3)) = true := by kernel_rfl
end Go.Proofs.YtekojglcbalhnaaGreatDoor.lawPackCmds

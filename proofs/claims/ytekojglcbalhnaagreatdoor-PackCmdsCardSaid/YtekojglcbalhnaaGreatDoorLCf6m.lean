/-
  PackCmds: closed facts of its card, by the kernel.
-/
import Derived.Test.YtekojglcbalhnaaGreatDoorCards
import Derived.SevenTiedAt
import Derived.JoinedOf
namespace Go.Proofs.YtekojglcbalhnaaGreatDoor.lawPackCmds
theorem card_looks : true = Tryz.pinned.checked.prog.looks [] := by kernel_rfl
theorem card_goes : false = Rows.packCmdsRow.goesBy Tryz.pinned.checked.prog := by kernel_rfl
end Go.Proofs.YtekojglcbalhnaaGreatDoor.lawPackCmds

/-
  PackCmds: closed facts of its card, by the kernel.
-/
import Derived.Test.YtekojglcbalhnaaGreatDoorCards
import Derived.SevenTiedAt
import Derived.JoinedOf
namespace Go.Proofs.YtekojglcbalhnaaGreatDoor.lawPackCmds
theorem card_wf : Rows.packCmdsRow.wfByText (OpenSpec.ofChange Rows.packCmdsSpec) = true := by kernel_rfl
theorem card_main : Tryz.pinned.checked.prog.mainIs = some (true, "15417778900f25d0baf9bfae82c8c05d1e4e8c11a6751cdc78d3343a89b14b71".toList) := by kernel_rfl
theorem inst : Func.isInstance Tryz.pinned.checked.prog Tryz.f3 Rows.packCmdsRow.origin Rows.packCmdsRow.targs := of_decide_eq_true (by kernel_rfl)
theorem wrap : Func.isWrapper Tryz.pinned.checked.prog Tryz.f3 Rows.packCmdsRow.wrapper Rows.packCmdsRow.mainSum := by
  unfold Func.isWrapper; first | (rw [if_pos (by decide +kernel)]; kernel_rfl) | (rw [if_neg (by decide +kernel)]; exact ⟨rfl, rfl⟩)
end Go.Proofs.YtekojglcbalhnaaGreatDoor.lawPackCmds

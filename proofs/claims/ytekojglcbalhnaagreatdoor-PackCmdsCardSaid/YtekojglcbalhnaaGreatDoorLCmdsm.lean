/-
  For every command, every bytes ahead of and behind it and every place the law PackCmds answers true: a command has the bytes that the document says, and is read of them wherever they stand; any bytes are the command that it says, or none. No condition but the row's own: the listed tables of the library hold what the program's text lays in them.
-/
import Derived.Test.YtekojglcbalhnaaGreatDoorLCmm
import Derived.Test.YtekojglcbalhnaaGreatDoorLCgm
import Derived.Test.YtekojglcbalhnaaGreatDoorLCf5m
import Derived.Test.YtekojglcbalhnaaGreatDoorLCf6m
namespace Go.Proofs.YtekojglcbalhnaaGreatDoor
open Go.ChangeShapes Go.WideShapes Go.ChangeAt Go.RowKit

namespace lawPackCmds

theorem over : Rows.PackCmdsSaid :=
  OpenClaim.holds_of_wide 3 Tryz.f3 rfl rfl rfl rfl rfl rfl rfl ⟨rfl, rfl, rfl, rfl, rfl⟩ rfl rfl rfl rfl rfl (by kernel_rfl) Tryz.func3 facts inst wrap
    (fun os started H enc _ => lifted os started H enc)

/-- The tied card. -/
theorem proved : Rows.PackCmdsCardSaid :=
  Claim7.holds_tied_plain_at .later [] [.data, .data, .data, .data, .sentinel, .sentinel, .pinned] true (true, "15417778900f25d0baf9bfae82c8c05d1e4e8c11a6751cdc78d3343a89b14b71") true
    over (fun _ h => by cases h) card_wf (fun _ h => by cases h) packCmds_row_tie rfl ⟨rfl, rfl⟩ card_main rfl
    (fun f fn hf hfn => by
      obtain rfl : f = 3 := Option.some.inj ((show Tryz.prog.funcNamed "bascule/basculelaw13.PackCmds" = some 3 by kernel_rfl).symm.trans hf) |>.symm
      obtain rfl : fn = Tryz.f3 := (Option.some.inj (Tryz.func3.symm.trans hfn)).symm
      exact ⟨card_looks, fun j t ht => by
        rw [Tryz.params3] at ht
        have hm : t ∈ [30, 9, 9, 3] := by simpa using Array.mem_of_getElem? ht
        have hall : ([30, 9, 9, 3].all fun u => !Tryz.prog.wantsStandIn u) = true := by kernel_rfl
        exact (show Tryz.prog.wantsStandIn t = false by simpa using List.all_eq_true.1 hall t hm)⟩)
    card_goes
end lawPackCmds
end Go.Proofs.YtekojglcbalhnaaGreatDoor

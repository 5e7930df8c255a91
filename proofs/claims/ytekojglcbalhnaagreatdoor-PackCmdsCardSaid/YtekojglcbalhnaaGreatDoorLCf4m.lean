/-
  PackCmds: closed facts of its row, by the kernel.
-/
import Derived.Test.YtekojglcbalhnaaGreatDoorRows
namespace Go.Proofs.YtekojglcbalhnaaGreatDoor.lawPackCmds
theorem fact00 : (Rows.packCmdsRow.wf (OpenSpec.ofChange Rows.packCmdsSpec)) = true := by kernel_rfl
theorem fact01 : (laidOutB Tryz.pinned.checked.prog) = true := by kernel_rfl
theorem fact02 : (mapsRowed Tryz.pinned.checked.prog) = true := by kernel_rfl
theorem fact03 : (Tryz.f3.params.all (Tryz.pinned.checked.prog.readableRec ·)) = true := by kernel_rfl
theorem fact04 : (namedTie Tryz.pinned.checked.prog Rows.packCmdsRow.named Rows.packCmdsSpec.vars) = true := by kernel_rfl
theorem fact05 : ((Rows.packCmdsRow.stops == [])) = true := by kernel_rfl
theorem fact06 : ((Tryz.pinned.checked.prog.stops == [])) = true := by kernel_rfl
theorem fact07 : ((Rows.packCmdsRow.knobs == [])) = true := by kernel_rfl
theorem fact08 : ((Tryz.pinned.checked.prog.stopKnobs == [])) = true := by kernel_rfl
theorem fact13 : ((Rows.packCmdsRow.maps == (Tryz.f3.params.toList ++ Rows.packCmdsSpec.plain.varTypes Tryz.pinned.checked.prog).any (Tryz.pinned.checked.prog.mapsRec ·))) = true := by kernel_rfl
theorem fact14 : ((Rows.packCmdsRow.ifaces == (Tryz.f3.params.toList ++ Rows.packCmdsSpec.plain.varTypes Tryz.pinned.checked.prog).any (Tryz.pinned.checked.prog.ifacesRec ·))) = true := by kernel_rfl
theorem fact15 : ((Rows.packCmdsRow.mapsOut == Tryz.pinned.checked.prog.mapsAmong Tryz.f3.resultTypes.toList)) = true := by kernel_rfl
theorem fact16 : ((Rows.packCmdsRow.loops == (Tryz.f3.params.toList ++ Rows.packCmdsSpec.plain.varTypes Tryz.pinned.checked.prog).any (Tryz.pinned.checked.prog.loopsFrom ·))) = true := by kernel_rfl
theorem fact17 : ((Rows.packCmdsRow.wideKeys == (Tryz.f3.params.toList ++ Rows.packCmdsSpec.plain.varTypes Tryz.pinned.checked.prog ++ Tryz.f3.resultTypes.toList).any (Tryz.pinned.checked.prog.wideKeysFrom ·))) = true := by kernel_rfl
theorem fact18 : (Rows.packCmdsSpec.vars.all (Tryz.pinned.checked.prog.varReadable ·)) = true := by kernel_rfl
theorem fact19 : (Tryz.f3.resultTypes.all (fun t => Tryz.pinned.checked.prog.readableRec t && decide (t < Tryz.pinned.checked.prog.types.size))) = true := by kernel_rfl
theorem fact20 : ((Rows.packCmdsRow.ifacesOut == Tryz.f3.resultTypes.toList.any (Tryz.pinned.checked.prog.ifacesRec ·))) = true := by kernel_rfl
theorem fact21 : ((Rows.packCmdsRow.loopsOut == Tryz.f3.resultTypes.toList.any (Tryz.pinned.checked.prog.loopsFrom ·))) = true := by kernel_rfl
theorem fact22 : ((Rows.packCmdsRow.plainKeys == Tryz.pinned.checked.prog.plainKeys)) = true := by kernel_rfl
theorem fact23 : (Rows.packCmdsRow.shortTexts.isNone) = true := by kernel_rfl
theorem fact24 : (Tryz.pinned.checked.prog.stopsHeard) = true := by kernel_rfl
theorem fact25 : (Tryz.pinned.checked.prog.mayEnter) = true := by kernel_rfl
theorem fact26 : ((Rows.packCmdsRow.lifted == Tryz.pinned.checked.prog.liftsFinal)) = true := by kernel_rfl
theorem fact27 : ((Tryz.pinned.checked.prog.make == some Rows.packCmdsRow.make)) = true := by kernel_rfl
theorem fact28 : ((Rows.packCmdsRow.kinds == (if Rows.packCmdsRow.domain.isEmpty then [] else Tryz.f3.params.toList.map fun t => match Tryz.pinned.checked.prog.underlying t with | some (.int k) => some k | _ => none))) = true := by kernel_rfl
theorem fact29 : ((Rows.packCmdsRow.pinned == Rows.packCmdsRow.pinnedBy)) = true := by kernel_rfl
theorem fact30 : ((Rows.packCmdsRow.veiled == (Tryz.f3.params.toList ++ Rows.packCmdsSpec.plain.varTypes Tryz.pinned.checked.prog ++ Tryz.f3.resultTypes.toList).any (Tryz.pinned.checked.prog.veiledRec ·))) = true := by kernel_rfl
theorem fact31 : (Rows.packCmdsRow.veiledFits Tryz.pinned.checked.prog Tryz.f3.params.toList (Tryz.f3.params.toList ++ Rows.packCmdsSpec.plain.varTypes Tryz.pinned.checked.prog ++ Tryz.f3.resultTypes.toList)) = true := by kernel_rfl
end Go.Proofs.YtekojglcbalhnaaGreatDoor.lawPackCmds

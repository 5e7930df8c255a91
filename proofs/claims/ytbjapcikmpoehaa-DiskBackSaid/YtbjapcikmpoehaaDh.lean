/-
  Steps through a region that draws its order, taken by hand; new memory is nothing to a disk.
-/
import Derived.Test.YtbjapcikmpoehaaDk
import Derived.Deep.RegionHeld3
namespace Go.Proofs.Ytbjapcikmpoehaa
open Go.RowKit

section
variable {md : Region.Mode} {ops : Array Oper} {Q : Exit → Act → World → Prop} {S : World → Prop} {fuel i : Nat} {o : Oper} {listed : Array Bool} {a : Act} {w : World}
/-- An operation that yields a value in whatever world meets the condition, taken first. -/
theorem takeG (d : Option Tmp) (v : Value) (ho : ops[i]? = some o) (hd : o.dst = d) (hs : Region.noSelect ops = true) (hf : Region.free md ops listed i = true) (hr : (Region.ready md ops listed).contains i = true)
    (hQ : ∀ c a w, Q (.panic c) (a.put d v) w → Q (.panic c) a w) (hS : S w) (hw : Region.wanted o (yielded ops a.tmps) = true) (hy : ∀ w, S w → (execOp a.eval o).run Try.prog w = .ok (.value v) w)
    (h : wpAnyH Try.prog md ops Q S fuel (listed.setIfInBounds i true) (a.put d v) w) : wpAnyH Try.prog md ops Q S (fuel + 1) listed a w :=
  wpAnyH_take ho hs hf hr (by rw [hd]; exact hQ) (Or.inl ⟨hw, hy⟩) hS (by rw [hd]; exact h)
/-- One operation of those that may come up, run in the world at hand. -/
theorem branchG {K : Act → World → Prop} (d : Option Tmp) (v : Value) (w' : World) (hd : o.dst = d) (hw : Region.wanted o (yielded ops a.tmps) = true)
    (hrun : (execOp a.eval o).run Try.prog w = .ok (.value v) w') (h : K (a.put d v) w') : if Region.wanted o (yielded ops a.tmps) = true then Oper.wp Try.prog o a w K Q else K (a.put o.dst undef) w := by
  rw [if_pos hw]
  unfold Oper.wp
  rw [hrun, ← hd] at *
  exact h
theorem branchS {K : Act → World → Prop} (w' : World) (hd : o.dst = none) (hw : Region.wanted o (yielded ops a.tmps) = true)
    (hrun : (execOp a.eval o).run Try.prog w = .ok .skip w') (h : K (a.put none undef) w') : if Region.wanted o (yielded ops a.tmps) = true then Oper.wp Try.prog o a w K Q else K (a.put o.dst undef) w := by
  rw [if_pos hw]
  unfold Oper.wp
  rw [hrun, ← hd] at *
  exact h
/-- One operation of those that may come up is a call. -/
theorem branchC {K : Act → World → Prop} (f : FuncId) (args : Array Value) (d : Option Tmp) (hd : o.dst = d) (hw : Region.wanted o (yielded ops a.tmps) = true)
    (hrun : (execOp a.eval o).run Try.prog w = .ok (.enter f args) w) (hc : Calls Try.prog f args w fun e w' => ∃ v, e = .returned v ∧ K (a.put d v) w') : if Region.wanted o (yielded ops a.tmps) = true then Oper.wp Try.prog o a w K Q else K (a.put o.dst undef) w := by
  rw [if_pos hw]
  unfold Oper.wp
  rw [hrun, Oper.upon_enter]
  refine hc.mono ?_
  rintro e w' ⟨v, rfl, h⟩
  rw [hd]
  exact h
end
theorem DAt.lt {w : World} {g n : Nat} {L : Nat → ByteArray} (h : DAt w g n L) : g < w.heap.size := by
  have := h.blk
  rw [Array.getElem?_eq_some_iff] at this
  exact this.1
theorem DAt.clone {w w' : World} {g n : Nat} {L : Nat → ByteArray} (h : DAt w g n L) (hb : Below w.heap.size w w') : DAt w' g n L :=
  ⟨by rw [hb.block g h.lt]; exact h.blk, h.n8, h.sz⟩
theorem DAt.clone1 {w w' : World} {g n : Nat} {L : Nat → ByteArray} (h : DAt w g n L) (hb : Below w.drew.heap.size w.drew w') : DAt w' g n L :=
  ⟨by rw [hb.block g h.lt]; exact h.blk, h.n8, h.sz⟩
end Go.Proofs.Ytbjapcikmpoehaa

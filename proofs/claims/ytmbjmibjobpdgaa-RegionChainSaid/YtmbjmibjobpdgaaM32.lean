/-
  The landed walk in depth.
-/
import Derived.Test.YtmbjmibjobpdgaaM27
import Derived.Deep.RegionHeld3
namespace Go.Proofs.Ytmbjmibjobpdgaa
open Go.RowKit

/-- The world amid a walk: the box bx of the walk itself, what was met in block gm, the ways in block go. -/
structure Fr (w wr : World) (lim bx gm go n cm co : Nat) (d : Ds) (lf : List Nat) (lv sv : Value) : Prop where
  bu : Bu bx gm go w wr
  box : wr.heap[bx]? = some (.cells #[.slice (some ⟨gm, 0, none⟩) n cm, .slice (some ⟨go, 0, none⟩) n co] 82 (0, 0))
  met : MetAt wr gm n d.met
  opn : OpnAt wr lim go n d.opn
  ol : OwnI wr (bx + 1) lv (ofNs lf)
  os : OwnI wr (bx + 1) sv (ofNs d.stk.reverse)
  ap : lv.ownBlock = none ∨ lv.ownBlock ≠ sv.ownBlock
section
variable {w wr w2 : World} {lim bx gm go n cm co : Nat} {d : Ds} {lf : List Nat} {lv sv : Value}
theorem Fr.pa (h : Fr w wr lim bx gm go n cm co d lf lv sv) : sv.ownBlock = none ∨ sv.ownBlock ≠ lv.ownBlock := by
  cases e : sv.ownBlock with
  | none => exact .inl rfl
  | some k =>
    right
    rcases h.ap with a | a
    · rw [a]; intro e2; cases e2
    · rw [← e]; exact Ne.symm a
theorem Fr.lt (h : Fr w wr lim bx gm go n cm co d lf lv sv) : bx < wr.heap.size := row_lt h.box
theorem Fr.alloc (h : Fr w wr lim bx gm go n cm co d lf lv sv) (hlim : lim ≤ bx) (o : Obj) : Fr w (wr.alloc o) lim bx gm go n cm co d lf lv sv := by
  have hb : Below wr.heap.size wr (wr.alloc o) := (Below.refl _ _).alloc (Nat.le_refl _) _
  have hl := h.lt
  refine ⟨h.bu.step hb (by omega), (hb.block bx hl).trans h.box, h.met.keep hb, ?_, h.ol.below hb, h.os.below hb, h.ap⟩
  have ho := h.opn
  obtain ⟨us, hc, _⟩ := id ho
  exact ho.keep (hb.block go hc.lt) (hb.mono (by omega))
/-- A row of its own grew. -/
theorem Fr.kept (h : Fr w wr lim bx gm go n cm co d lf lv sv) (hlim : lim ≤ bx) (hgm : gm < bx) (hgo : go < bx) {row : Option Nat} (hg : wr.grownBy w2 row) (hrow : ∀ k, row = some k → bx + 1 ≤ k) : Bu bx gm go w w2 ∧ w2.heap[bx]? = some (.cells #[.slice (some ⟨gm, 0, none⟩) n cm, .slice (some ⟨go, 0, none⟩) n co] 82 (0, 0)) ∧ MetAt w2 gm n d.met ∧ OpnAt w2 lim go n d.opn := by
  have hl := h.lt
  have hne : ∀ k, k ≤ bx → some k ≠ row := fun k hk e => by have := hrow k e.symm; omega
  refine ⟨h.bu.grown hg (by omega) (fun k e => by have := hrow k e; omega), (hg.block bx hl (hne bx (Nat.le_refl _))).trans h.box, h.met.block (hg.block gm (by omega) (hne gm (by omega))), ?_⟩
  exact h.opn.keep (hg.block go (by omega) (hne go (by omega))) ⟨hg.os, hg.tape, hg.output, hg.size, fun k hk => hg.block k (by omega) (hne k (by omega))⟩
theorem Fr.pushL (h : Fr w wr lim bx gm go n cm co d lf lv sv) (hlim : lim ≤ bx) (hgm : gm < bx) (hgo : go < bx) {x : Nat} {v' : Value} (ho : OwnI w2 (bx + 1) v' (ofNs lf ++ [(x : Int)])) (hg : wr.grownBy w2 lv.ownBlock) (hat : v'.ownBlock = lv.ownBlock ∨ v'.ownBlock = some wr.heap.size) :
    Fr w w2 lim bx gm go n cm co d (lf ++ [x]) v' sv := by
  obtain ⟨h1, h2, h3, h4⟩ := h.kept hlim hgm hgo hg (fun k e => (World.ownsRow.lt h.ol k e).1)
  refine ⟨h1, h2, h3, h4, by rw [ofNs_app]; exact ho, World.ownsRow.kept h.os hg h.pa, ?_⟩
  rcases hat with a | a
  · rw [a]; exact h.ap
  · right
    intro e
    rw [a] at e
    have := (World.ownsRow.lt h.os _ e.symm).2
    omega
theorem Fr.pushS (h : Fr w wr lim bx gm go n cm co d lf lv sv) (hlim : lim ≤ bx) (hgm : gm < bx) (hgo : go < bx) {y : Nat} {d' : Ds} (hm : d'.met = d.met) (hop : d'.opn = d.opn) (hst : d'.stk = y :: d.stk) {v' : Value} (ho : OwnI w2 (bx + 1) v' (ofNs d.stk.reverse ++ [(y : Int)])) (hg : wr.grownBy w2 sv.ownBlock) (hat : v'.ownBlock = sv.ownBlock ∨ v'.ownBlock = some wr.heap.size) :
    Fr w w2 lim bx gm go n cm co d' lf lv v' := by
  obtain ⟨h1, h2, h3, h4⟩ := h.kept hlim hgm hgo hg (fun k e => (World.ownsRow.lt h.os k e).1)
  refine ⟨h1, h2, by rw [hm]; exact h3, by rw [hop]; exact h4, World.ownsRow.kept h.ol hg h.ap, by rw [hst, List.reverse_cons, ofNs_app]; exact ho, ?_⟩
  rcases hat with a | a
  · rw [a]; exact h.ap
  · cases e : lv.ownBlock with
    | none => exact .inl rfl
    | some k =>
      right
      rw [a]
      intro e2
      injection e2 with e2
      have := (World.ownsRow.lt h.ol k e).2
      omega
theorem Fr.popS (h : Fr w wr lim bx gm go n cm co d lf lv sv) {x : Nat} {s : List Nat} (hst : d.stk = x :: s) {d' : Ds} (hm : d'.met = d.met) (hop : d'.opn = d.opn) (hst' : d'.stk = s) : ∃ g cap, sv = .slice (some ⟨g, 0, none⟩) (s.length + 1) cap ∧ wr.cell? ⟨g, s.length, none⟩ = some (.int .i64 (x : Int)) ∧ s.length + 1 ≤ cap ∧ Fr w wr lim bx gm go n cm co d' lf lv (.slice (some ⟨g, 0, none⟩) s.length cap) := by
  have ho := h.os
  rw [hst, List.reverse_cons, ofNs_app] at ho
  obtain ⟨g, cap, e, hat, ho2, hc⟩ := ho.pop
  have hl : (ofNs s.reverse).length = s.length := by simp [ofNs]
  rw [hl] at e hat ho2 hc
  refine ⟨g, cap, e, hat, hc, h.bu, h.box, by rw [hm]; exact h.met, by rw [hop]; exact h.opn, h.ol, by rw [hst']; exact ho2, ?_⟩
  have := h.ap
  rw [e] at this
  exact this
theorem Fr.setO (h : Fr w wr lim bx gm go n cm co d lf lv sv) (hlim : lim ≤ go) (hgo : go < bx) {x : Nat} {r : List Nat} {A : Option Addr} {c : Nat} (hc : r.length ≤ c) (hl : LieI wr lim A (ofNs r)) : Fr w (wr.setCell ⟨go, x, none⟩ (.slice A r.length c)) lim bx gm go n cm co (d.go x r) lf lv sv := by
  obtain ⟨us, hcb, _⟩ := h.opn
  refine ⟨h.bu.set2 _ _, (Below.heap_setCell _ ⟨go, x, none⟩ _ _ (show bx ≠ go by omega)).trans h.box, ?_, h.opn.set hlim hc hl, ?_, ?_, h.ap⟩
  · exact h.met.block (Below.heap_setCell _ ⟨go, x, none⟩ _ _ (show gm ≠ go from h.met.ne hcb (by decide)))
  · obtain ⟨cs, hcs, _⟩ := id hcb
    exact h.ol.kept hcs (by decide) (grown_set wr go x _)
  · obtain ⟨cs, hcs, _⟩ := id hcb
    exact h.os.kept hcs (by decide) (grown_set wr go x _)
theorem Fr.setM (h : Fr w wr lim bx gm go n cm co d lf lv sv) (hlim : lim ≤ gm) (hgm : gm < bx) {y : Nat} {d' : Ds} (hm : d'.met = fup d.met y true) (hop : d'.opn = d.opn) (hst : d'.stk = d.stk) : Fr w (wr.setCell ⟨gm, y, none⟩ (.bool true)) lim bx gm go n cm co d' lf lv sv := by
  obtain ⟨us, hcb, _⟩ := id h.opn
  obtain ⟨cs, hcs, _⟩ := id h.met
  have hne : gm ≠ go := h.met.ne hcb (by decide)
  refine ⟨h.bu.set1 _ _, (Below.heap_setCell _ ⟨gm, y, none⟩ _ _ (show bx ≠ gm by omega)).trans h.box, by rw [hm]; exact h.met.set y, ?_, h.ol.kept hcs (by decide) (grown_set wr gm y _), by rw [hst]; exact h.os.kept hcs (by decide) (grown_set wr gm y _), h.ap⟩
  rw [hop]
  exact h.opn.keep (Below.heap_setCell _ ⟨gm, y, none⟩ _ _ (show go ≠ gm by omega)) ⟨rfl, rfl, rfl, by simp, fun k hk => Below.heap_setCell _ ⟨gm, y, none⟩ _ _ (show k ≠ gm by omega)⟩
end
end Go.Proofs.Ytmbjmibjobpdgaa

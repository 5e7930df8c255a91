/-
  More steps under a condition: single cells.
-/
import Derived.Test.YtmnbalmihehodaaHeld
namespace Go.Proofs.Ytmnbalmihehodaa
open Go.RowKit

section
variable {md : Region.Mode} {ops : Array Oper} {Q : Exit → Act → World → Prop} {S : World → Prop} {fuel i j : Nat} {o o' : Oper} {listed : Array Bool} {a : Act} {w : World}

theorem run_ld3 (x : Operand) (hop : o.op = .load 3 x) (ad : Addr) (hx : a.eval x = .pointer (some ad)) (z : Int) (hc : w.cell? ad = some (.int .i64 z)) :
    (execOp a.eval o).run Try.prog w = .ok (.value (.int .i64 z)) w := by
  unfold execOp
  simp only [hop, hx]
  go_simp
theorem run_idx (x y : Operand) (hop : o.op = .indexAddr 23 x y) (g m cap k : Nat) (hx : a.eval x = .slice (some ⟨g, 0, none⟩) m cap) (hy : a.eval y = .int .i64 (k : Int)) (hk : k < m) :
    (execOp a.eval o).run Try.prog w = .ok (.value (.pointer (some ⟨g, k, none⟩))) w := by
  have hk0 : (0 : Int) ≤ (k : Int) := by omega
  have hk1 : (k : Int) < (m : Int) := by omega
  unfold execOp
  simp only [hop, hx, hy]
  go_simp
theorem op_st3 {K : Act → World → Prop} (x y : Operand) (hop : o.op = .store 3 x y) (ad : Addr) (hx : a.eval x = .pointer (some ad)) (z old : Int) (hy : a.eval y = .int .i64 z) (hc : w.cell? ad = some (.int .i64 old)) (hf : w.frozen? ad = false)
    (h : K (a.put o.dst undef) (w.setCell ad (.int .i64 z))) : o.wp Try.prog a w K Q := by
  unfold Oper.wp execOp
  simp only [hop, hx, hy]
  go_simp
  exact h

/-- The one operation that may come up stores an int. -/
theorem storeH (x y : Operand) (d : Option Tmp) (ho : ops[i]? = some o) (hw : Region.wanted o (yielded ops a.tmps) = true) (hd : o.dst = d) (hr : Region.ready md ops listed = [i]) (hop : o.op = .store 3 x y) (ad : Addr) (z old : Int)
    (hx : a.eval x = .pointer (some ad)) (hy : a.eval y = .int .i64 z) (hc : w.cell? ad = some (.int .i64 old)) (hf : w.frozen? ad = false) (hS : S (w.setCell ad (.int .i64 z)))
    (h : wpAnyH Try.prog md ops Q S fuel (listed.setIfInBounds i true) (a.put d undef) (w.setCell ad (.int .i64 z))) : wpAnyH Try.prog md ops Q S (fuel + 1) listed a w :=
  oneH ho hw hr (fun K' hK => op_st3 x y hop ad hx z old hy hc hf (by rw [hd]; exact hK _ _ hS h))

/-- Two operations that yield values in the world at hand, in either order. -/
theorem pairH (d d' : Tmp) (hne : d ≠ d') (v v' : Value) (ho : ops[i]? = some o) (ho' : ops[j]? = some o') (hd : o.dst = some d) (hd' : o'.dst = some d')
    (hr : Region.ready md ops listed = [i, j]) (hri : Region.ready md ops (listed.setIfInBounds i true) = [j]) (hrj : Region.ready md ops (listed.setIfInBounds j true) = [i])
    (hset : (listed.setIfInBounds j true).setIfInBounds i true = (listed.setIfInBounds i true).setIfInBounds j true) (hS : S w)
    (hw : Region.wanted o (yielded ops a.tmps) = true) (hrun : (execOp a.eval o).run Try.prog w = .ok (.value v) w)
    (hw' : Region.wanted o' (yielded ops a.tmps) = true) (hrun' : (execOp a.eval o').run Try.prog w = .ok (.value v') w)
    (hw2 : Region.wanted o (yielded ops (a.put (some d') v').tmps) = true) (hrun2 : (execOp (a.put (some d') v').eval o).run Try.prog w = .ok (.value v) w)
    (hw2' : Region.wanted o' (yielded ops (a.put (some d) v).tmps) = true) (hrun2' : (execOp (a.put (some d) v).eval o').run Try.prog w = .ok (.value v') w)
    (h : wpAnyH Try.prog md ops Q S fuel ((listed.setIfInBounds i true).setIfInBounds j true) ((a.put (some d) v).put (some d') v') w) : wpAnyH Try.prog md ops Q S (fuel + 2) listed a w := by
  refine wpAnyH_ready hr (by simp) (AllReadyH.cons ho (fun K' hK => ?_) (AllReadyH.cons ho' (fun K' hK => ?_) AllReadyH.nil))
  · rw [if_pos hw]
    unfold Oper.wp
    rw [hrun, Oper.upon_value, hd]
    exact hK.out _ _ hS (fun _ => valH v' w (some d') ho' hw2' hd' hri hrun2' hS h)
  · rw [if_pos hw']
    unfold Oper.wp
    rw [hrun', Oper.upon_value, hd']
    refine hK.out _ _ hS (fun _ => valH v w (some d) ho hw2 hd hrj hrun2 hS ?_)
    rw [hset, Act.put_comm a v' v (x := some d') (y := some d) (fun t ht => by cases ht; simpa using fun e : d = d' => hne e)]
    exact h
end
end Go.Proofs.Ytmnbalmihehodaa

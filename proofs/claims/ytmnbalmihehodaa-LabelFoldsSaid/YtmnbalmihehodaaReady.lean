/-
  Steps through a region that draws its order, one operation after another.
-/
import Derived.Test.YtmnbalmihehodaaBoth
namespace Go.Proofs.Ytmnbalmihehodaa
open Go.RowKit

section
variable {md : Region.Mode} {ops : Array Oper} {Q : Exit → Act → World → Prop} {fuel i j : Nat} {o o' : Oper} {listed : Array Bool} {a : Act} {w : World}

/-- The one operation that may come up is a call. -/
theorem ready_call (f : FuncId) (args : Array Value) (d : Option Tmp) (ho : ops[i]? = some o) (hw : Region.wanted o (yielded ops a.tmps) = true) (hd : o.dst = d) (hr : Region.ready md ops listed = [i])
    (hrun : (execOp a.eval o).run Try.prog w = .ok (.enter f args) w)
    (hc : Calls Try.prog f args w fun e w' => ∃ v, e = .returned v ∧ wpAny Try.prog md ops Q fuel (listed.setIfInBounds i true) (a.put d v) w') : wpAny Try.prog md ops Q (fuel + 1) listed a w :=
  wpAny_ready hr (by simp) (AllReady.cons ho (fun K hK => by
    rw [if_pos hw]
    unfold Oper.wp
    rw [hrun, Oper.upon_enter]
    refine hc.mono ?_
    rintro e w' ⟨v, rfl, h⟩
    rw [hd]
    exact hK _ _ h) AllReady.nil)

/-- It is a whole load, guarded or not. -/
theorem ready_ldg (x : Operand) (d : Option Tmp) (ho : ops[i]? = some o) (hw : Region.wanted o (yielded ops a.tmps) = true) (hop : o.op = .load 28 x) (hd : o.dst = d) (hr : Region.ready md ops listed = [i])
    (g : Nat) (hx : a.eval x = .pointer (some ⟨g, 0, none⟩)) (cs : Array Value) (hb : w.heap[g]? = some (.cells cs 28 (0, 0))) (hs : cs.size = 65)
    (h : wpAny Try.prog md ops Q fuel (listed.setIfInBounds i true) (a.put d (.agg cs)) w) : wpAny Try.prog md ops Q (fuel + 1) listed a w :=
  wpAny_ready hr (by simp) (AllReady.cons ho (fun K hK => by
    rw [if_pos hw]
    exact wp_load_row 28 x hop g hx 28 cs (0, 0) _ hb Try.underlying28 rfl (by rw [info31, hs]) (by rw [hd]; exact hK _ _ h)) AllReady.nil)

/-- A call that leaves the world alone, and a whole load, in either order. -/
theorem ready_both (f : FuncId) (args : Array Value) (x : Operand) (d d' : Tmp) (hne : d ≠ d')
    (ho : ops[i]? = some o) (ho' : ops[j]? = some o') (hd : o.dst = some d) (hd' : o'.dst = some d') (hop : o'.op = .load 28 x)
    (hr : Region.ready md ops listed = [i, j]) (hri : Region.ready md ops (listed.setIfInBounds i true) = [j]) (hrj : Region.ready md ops (listed.setIfInBounds j true) = [i])
    (hset : (listed.setIfInBounds j true).setIfInBounds i true = (listed.setIfInBounds i true).setIfInBounds j true)
    (g : Nat) (cs : Array Value) (v : Value)
    (hw : Region.wanted o (yielded ops a.tmps) = true) (hrun : (execOp a.eval o).run Try.prog w = .ok (.enter f args) w)
    (hw2 : Region.wanted o (yielded ops (a.put (some d') (.agg cs)).tmps) = true) (hrun2 : (execOp (a.put (some d') (.agg cs)).eval o).run Try.prog w = .ok (.enter f args) w)
    (hv : Region.wanted o' (yielded ops a.tmps) = true) (hx : a.eval x = .pointer (some ⟨g, 0, none⟩))
    (hv2 : Region.wanted o' (yielded ops (a.put (some d) v).tmps) = true) (hx2 : (a.put (some d) v).eval x = .pointer (some ⟨g, 0, none⟩))
    (hb : w.heap[g]? = some (.cells cs 28 (0, 0))) (hs : cs.size = 65)
    (hc : Calls Try.prog f args w fun e w' => e = .returned v ∧ w = w')
    (h : wpAny Try.prog md ops Q fuel ((listed.setIfInBounds i true).setIfInBounds j true) ((a.put (some d) v).put (some d') (.agg cs)) w) : wpAny Try.prog md ops Q (fuel + 2) listed a w := by
  refine wpAny_ready hr (by simp) (AllReady.cons ho (fun K hK => ?_) (AllReady.cons ho' (fun K hK => ?_) AllReady.nil))
  · rw [if_pos hw]
    unfold Oper.wp
    rw [hrun, Oper.upon_enter]
    refine hc.mono ?_
    rintro e w' ⟨rfl, rfl⟩
    rw [hd]
    exact hK _ _ (ready_ldg x (some d') ho' hv2 hop hd' hri g hx2 cs hb hs h)
  · rw [if_pos hv]
    refine wp_load_row 28 x hop g hx 28 cs (0, 0) _ hb Try.underlying28 rfl (by rw [info31, hs]) ?_
    rw [hd']
    refine hK _ _ (ready_call f args (some d) ho hw2 hd hrj hrun2 (hc.mono ?_))
    rintro e w' ⟨rfl, rfl⟩
    refine ⟨v, rfl, ?_⟩
    rw [hset, Act.put_comm a (.agg cs) v (x := some d') (y := some d) (fun t ht => by cases ht; simpa using fun e : d = d' => hne e)]
    exact h

/-- A call that leaves a block alone, and a whole load of that block, in either order. -/
theorem ready_both2 (f : FuncId) (args : Array Value) (x : Operand) (d d' : Tmp) (hne : d ≠ d')
    (ho : ops[i]? = some o) (ho' : ops[j]? = some o') (hd : o.dst = some d) (hd' : o'.dst = some d') (hop : o'.op = .load 28 x)
    (hr : Region.ready md ops listed = [i, j]) (hri : Region.ready md ops (listed.setIfInBounds i true) = [j]) (hrj : Region.ready md ops (listed.setIfInBounds j true) = [i])
    (hset : (listed.setIfInBounds j true).setIfInBounds i true = (listed.setIfInBounds i true).setIfInBounds j true)
    (g : Nat) (cs : Array Value)
    (hw : Region.wanted o (yielded ops a.tmps) = true) (hrun : (execOp a.eval o).run Try.prog w = .ok (.enter f args) w)
    (hw2 : Region.wanted o (yielded ops (a.put (some d') (.agg cs)).tmps) = true) (hrun2 : (execOp (a.put (some d') (.agg cs)).eval o).run Try.prog w = .ok (.enter f args) w)
    (hv : Region.wanted o' (yielded ops a.tmps) = true) (hx : a.eval x = .pointer (some ⟨g, 0, none⟩))
    (hv2 : ∀ v : Value, Region.wanted o' (yielded ops (a.put (some d) v).tmps) = true) (hx2 : ∀ v : Value, (a.put (some d) v).eval x = .pointer (some ⟨g, 0, none⟩))
    (hb : w.heap[g]? = some (.cells cs 28 (0, 0))) (hs : cs.size = 65)
    (hc : Calls Try.prog f args w fun e w' => ∃ v, e = .returned v ∧ w'.heap[g]? = some (.cells cs 28 (0, 0)) ∧
      wpAny Try.prog md ops Q fuel ((listed.setIfInBounds i true).setIfInBounds j true) ((a.put (some d) v).put (some d') (.agg cs)) w') : wpAny Try.prog md ops Q (fuel + 2) listed a w := by
  refine wpAny_ready hr (by simp) (AllReady.cons ho (fun K hK => ?_) (AllReady.cons ho' (fun K hK => ?_) AllReady.nil))
  · rw [if_pos hw]
    unfold Oper.wp
    rw [hrun, Oper.upon_enter]
    refine hc.mono ?_
    rintro e w' ⟨v, rfl, hb', h⟩
    rw [hd]
    exact hK _ _ (ready_ldg x (some d') ho' (hv2 v) hop hd' hri g (hx2 v) cs hb' hs h)
  · rw [if_pos hv]
    refine wp_load_row 28 x hop g hx 28 cs (0, 0) _ hb Try.underlying28 rfl (by rw [info31, hs]) ?_
    rw [hd']
    refine hK _ _ (ready_call f args (some d) ho hw2 hd hrj hrun2 (hc.mono ?_))
    rintro e w' ⟨v, rfl, _, h⟩
    refine ⟨v, rfl, ?_⟩
    rw [hset, Act.put_comm a (.agg cs) v (x := some d') (y := some d) (fun t ht => by cases ht; simpa using fun e : d = d' => hne e)]
    exact h

/-- An operation that yields a value whatever the world, taken first; guarded or not. -/
theorem take_g (d : Option Tmp) (v : Value) (ho : ops[i]? = some o) (hd : o.dst = d) (hs : Region.noSelect ops = true) (hf : Region.free md ops listed i = true) (hr : (Region.ready md ops listed).contains i = true)
    (hQ : ∀ c a w, Q (.panic c) (a.put d v) w → Q (.panic c) a w) (hw : Region.wanted o (yielded ops a.tmps) = true) (hy : ∀ w, (execOp a.eval o).run Try.prog w = .ok (.value v) w)
    (h : wpAny Try.prog md ops Q fuel (listed.setIfInBounds i true) (a.put d v) w) : wpAny Try.prog md ops Q (fuel + 1) listed a w :=
  wpAny_take ho hs hf hr (by rw [hd]; exact hQ) (Or.inl ⟨hw, hy⟩) (by rw [hd]; exact h)

/-- Two values held against each other. -/
theorem eq_vals {x y : Operand} {t t' : TypeId} {u v : Value} {r : Value} (hop : o.op = .binOp .eql t x y t') (hx : a.eval x = u) (hy : a.eval y = v)
    (hg : ∀ w, (eqGuard .eql t x y u v).run Try.prog w = .ok () w) (ht : ∀ w, (binOp .eql t u v).run Try.prog w = .ok r w) :
    ∀ w, (execOp a.eval o).run Try.prog w = .ok (.value r) w := by
  intro w
  unfold execOp
  simp only [hop, hx, hy, Sem.run_bind, Sem.run_pure, hg, ht, Result.andThen_ok]
end

theorem guard_int (x y : Operand) (k : IntKind) (u v : Int) : ∀ w, (eqGuard .eql 3 x y (.int k u) (.int k v)).run Try.prog w = .ok () w := by
  intro w
  go_simp
theorem guard_bool (x y : Operand) (u v : Bool) : ∀ w, (eqGuard .eql 4 x y (.bool u) (.bool v)).run Try.prog w = .ok () w := by
  intro w
  go_simp
theorem same_int (u : Int) : ∀ w, (binOp .eql 3 (.int .i64 u) (.int .i64 u)).run Try.prog w = .ok (.bool true) w := by
  intro w
  go_simp
theorem same_bool (u : Bool) : ∀ w, (binOp .eql 4 (.bool u) (.bool u)).run Try.prog w = .ok (.bool true) w := by
  intro w
  cases u <;> go_simp
end Go.Proofs.Ytmnbalmihehodaa

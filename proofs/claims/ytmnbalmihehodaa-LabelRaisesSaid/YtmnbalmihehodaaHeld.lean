/-
  Steps through a region that draws its order, under a condition on the world that all of its operations keep.
-/
import Derived.Test.YtmnbalmihehodaaRefB
import Derived.Test.YtmnbalmihehodaaInts
import Derived.OrdersHeld
import Derived.Deep.RegionHeld
namespace Go.Proofs.Ytmnbalmihehodaa
open Go.RowKit

section
variable {md : Region.Mode} {ops : Array Oper} {Q : Exit → Act → World → Prop} {S : World → Prop} {fuel i : Nat} {o : Oper} {listed : Array Bool} {a : Act} {w : World}

/-- An operation that yields a value in whatever world meets the condition, taken first; guarded or not. -/
theorem takeH (d : Option Tmp) (v : Value) (ho : ops[i]? = some o) (hd : o.dst = d) (hs : Region.noSelect ops = true) (hf : Region.free md ops listed i = true) (hr : (Region.ready md ops listed).contains i = true)
    (hQ : ∀ c a w, Q (.panic c) (a.put d v) w → Q (.panic c) a w) (hS : S w) (hw : Region.wanted o (yielded ops a.tmps) = true) (hy : ∀ w, S w → (execOp a.eval o).run Try.prog w = .ok (.value v) w)
    (h : wpAnyH Try.prog md ops Q S fuel (listed.setIfInBounds i true) (a.put d v) w) : wpAnyH Try.prog md ops Q S (fuel + 1) listed a w :=
  wpAnyH_take ho hs hf hr (by rw [hd]; exact hQ) (Or.inl ⟨hw, hy⟩) hS (by rw [hd]; exact h)

theorem run_ld31 (x : Operand) (hop : o.op = .load 28 x) (g : Nat) (hx : a.eval x = .pointer (some ⟨g, 0, none⟩)) (cs : Array Value) (hg : w.heap[g]? = some (.cells cs 28 (0, 0))) (hs : cs.size = 65) :
    (execOp a.eval o).run Try.prog w = .ok (.value (.agg cs)) w := by
  unfold execOp
  simp only [hop, hx, Instr.loadAt, Instr.sureAddr, Sem.run_bind, Sem.run_pure, Result.andThen_ok, run_loadVar_row w g 28 28 cs (0, 0) _ hg Try.underlying28 rfl (by rw [info31, hs])]

/-- A whole load of a block that stays. -/
theorem loadH (x : Operand) (d : Option Tmp) (g : Nat) (cs : Array Value) (ho : ops[i]? = some o) (hd : o.dst = d) (hs : Region.noSelect ops = true) (hf : Region.free md ops listed i = true) (hr : (Region.ready md ops listed).contains i = true)
    (hQ : ∀ c a w, Q (.panic c) (a.put d (.agg cs)) w → Q (.panic c) a w) (hS : S w) (hw : Region.wanted o (yielded ops a.tmps) = true) (hop : o.op = .load 28 x) (hx : a.eval x = .pointer (some ⟨g, 0, none⟩)) (hsz : cs.size = 65)
    (hk : ∀ w, S w → w.heap[g]? = some (.cells cs 28 (0, 0)))
    (h : wpAnyH Try.prog md ops Q S fuel (listed.setIfInBounds i true) (a.put d (.agg cs)) w) : wpAnyH Try.prog md ops Q S (fuel + 1) listed a w :=
  takeH d (.agg cs) ho hd hs hf hr hQ hS hw (fun w hw' => run_ld31 x hop g hx cs (hk w hw') hsz) h

/-- The one operation that may come up is a call. -/
theorem callH (f : FuncId) (args : Array Value) (d : Option Tmp) (ho : ops[i]? = some o) (hw : Region.wanted o (yielded ops a.tmps) = true) (hd : o.dst = d) (hr : Region.ready md ops listed = [i])
    (hrun : (execOp a.eval o).run Try.prog w = .ok (.enter f args) w)
    (hc : Calls Try.prog f args w fun e w' => ∃ v, e = .returned v ∧ S w' ∧ wpAnyH Try.prog md ops Q S fuel (listed.setIfInBounds i true) (a.put d v) w') : wpAnyH Try.prog md ops Q S (fuel + 1) listed a w :=
  wpAnyH_ready hr (by simp) (AllReadyH.cons ho (fun K' hK => by
    rw [if_pos hw]
    unfold Oper.wp
    rw [hrun, Oper.upon_enter]
    refine hc.mono ?_
    rintro e w' ⟨v, rfl, hS, h⟩
    rw [hd]
    exact hK.out _ _ hS (fun _ => h)) AllReadyH.nil)

/-- It yields a value, and turns the world. -/
theorem valH (v : Value) (w' : World) (d : Option Tmp) (ho : ops[i]? = some o) (hw : Region.wanted o (yielded ops a.tmps) = true) (hd : o.dst = d) (hr : Region.ready md ops listed = [i])
    (hrun : (execOp a.eval o).run Try.prog w = .ok (.value v) w') (hS : S w')
    (h : wpAnyH Try.prog md ops Q S fuel (listed.setIfInBounds i true) (a.put d v) w') : wpAnyH Try.prog md ops Q S (fuel + 1) listed a w :=
  wpAnyH_ready hr (by simp) (AllReadyH.cons ho (fun K' hK => by
    rw [if_pos hw]
    unfold Oper.wp
    rw [hrun]
    rw [Oper.upon_value, hd]
    exact hK.out _ _ hS (fun _ => h)) AllReadyH.nil)

/-- It is whatever operation. -/
theorem oneH (ho : ops[i]? = some o) (hw : Region.wanted o (yielded ops a.tmps) = true) (hr : Region.ready md ops listed = [i])
    (h : ∀ K' : Act → World → Prop, (∀ a w, S w → wpAnyH Try.prog md ops Q S fuel (listed.setIfInBounds i true) a w → K' a w) → o.wp Try.prog a w K' Q) : wpAnyH Try.prog md ops Q S (fuel + 1) listed a w :=
  wpAnyH_ready hr (by simp) (AllReadyH.cons ho (fun K' hK => by
    rw [if_pos hw]
    exact h K' (fun a w hS hW => hK.out a w hS (fun _ => hW))) AllReadyH.nil)
end

/-- 'append([]int{}, xs...)', as one operation. -/
theorem op_appI {o : Oper} {a : Act} {w : World} {K : Act → World → Prop} {Q : Exit → Act → World → Prop} (s x : Operand)
    (ho : o.op = .call { callee := .builtin .append, args := #[s, x], argTypes := #[23, 23] }) (g0 : Nat) (hs : a.eval s = .slice (some ⟨g0, 0, none⟩) 0 0) (hblk : w.heap[g0]? = some (.cells #[] 3 (0, 0)))
    (A : Option Addr) (len cap B : Nat) (f : Nat → Int) (hx : a.eval x = .slice A len cap) (hp : Rd w B A len f) (hA : A = none → cap = 0) (hlen : len ≤ 1000)
    (h : ∀ g cap' w', g0 ≤ g → IB w' g len f → Below g0 w w' → K (a.put o.dst (.slice (some ⟨g, 0, none⟩) len cap')) w') : o.wp Try.prog a w K Q := by
  obtain ⟨i0, hi, hz0, hz1, hz2⟩ := info_parts Try.info3
  have hlt := (Array.getElem?_eq_some_iff.1 hblk).1
  have hown : w.ownsRow g0 3 1 (.slice (some ⟨g0, 0, none⟩) 0 0) 0 [] := ⟨rfl, .inr ⟨g0, 0, #[], rfl, Nat.le_refl _, hblk, Nat.le_refl _, by unfold maxLen; omega, rfl, rfl⟩⟩
  cases A with
  | none =>
    have hl0 : len = 0 := by
      rcases Nat.eq_zero_or_pos len with h0 | h0
      · exact h0
      · obtain ⟨_, _, e, _⟩ := hp h0
        cases e
    subst hl0
    have hc0 := hA rfl
    subst hc0
    have hrun := run_append_owned_none (P := Try.prog) (w := w) g0 23 o.type 3 i0 1 Try.underlying23 hi _ 0 [] hown
    unfold Oper.wp
    simp [execOp, ho, resolve, invoke, builtin, hs, hx, hrun, Result.andThen]
    exact h g0 0 w (Nat.le_refl _) ⟨_, hblk, Nat.zero_le _, fun i hi => absurd hi (Nat.not_lt_zero _)⟩ (Below.refl _ _)
  | some ad =>
    refine wp_append_own w s x 23 ho g0 3 i0 _ 1 8 Try.underlying23 hi hz0 hz1 hz2 rfl (by omega) _ 0 [] hs hown ad len cap (ics len f) hx (by rw [ics_len, Nat.mul_one]) ?_ ?_ (by unfold maxLen; omega) (by omega) (Nat.le_of_lt hlt) ?_
    · intro j u hu
      have hj : j < len := by
        have := (List.getElem?_eq_some_iff.1 hu).1
        rwa [ics_len] at this
      rw [ics_at len f j hj] at hu
      obtain ⟨g, off, e, _, hc⟩ := hp (by omega)
      cases e
      rw [← Option.some.inj hu, WideShapes.add_plain]
      exact hc j hj
    · intro u hu
      simp only [ics, List.mem_map] at hu
      obtain ⟨j, _, rfl⟩ := hu
      rfl
    · intro v' w' ho' hg' hnil
      rw [Nat.zero_add, List.nil_append] at ho'
      have hv' : v' ≠ .slice none 0 0 := by
        intro e
        have := hnil
        simp [e] at this
      obtain ⟨g, cap', rfl, hge, hI⟩ := ib_of_own ho' hv'
      exact h g cap' w' hge hI ((Below.refl _ _).grown hg' (Nat.le_of_lt hlt) (fun k hk => by simp [Value.ownBlock] at hk; omega))
end Go.Proofs.Ytmnbalmihehodaa

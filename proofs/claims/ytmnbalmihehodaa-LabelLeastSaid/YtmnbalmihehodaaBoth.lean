/-
  The contract of basculelaw01.both.
-/
import Derived.Test.YtmnbalmihehodaaMath3
import Derived.RegionTactic
import Derived.StillTailTactics
import Derived.Laws.AppendOwnNone
namespace Go.Proofs.Ytmnbalmihehodaa
open Go.RowKit

theorem Try.info52 : (Try.prog.info? 51).map (fun i => (i.zero, i.size, i.bytes)) = some (some (.agg #[.int .i64 0, .int .i64 0]), 2, 16) := by kernel_rfl

/-- The cells of a list of pairs. -/
def prCells (len : Nat) (p q : Nat → Int) : List Value := (List.range (len * 2)).map fun j => if j % 2 = 0 then .int .i64 (p (j / 2)) else .int .i64 (q (j / 2))
theorem prCells_len (len : Nat) (p q : Nat → Int) : (prCells len p q).length = len * 2 := by simp [prCells]
theorem prCells_at (len : Nat) (p q : Nat → Int) (j : Nat) (hj : j < len * 2) : (prCells len p q)[j]? = some (if j % 2 = 0 then .int .i64 (p (j / 2)) else .int .i64 (q (j / 2))) := by
  unfold prCells
  rw [List.getElem?_map, List.getElem?_range hj]
  rfl

theorem prs_of_own {w : World} {base : Nat} {v : Value} {len : Nat} {p q : Nat → Int} (h : w.ownsRow base 51 2 v len (prCells len p q)) : ∃ A cap, v = .slice A len cap ∧ Prs w w.heap.size A len p q := by
  rcases h.2 with ⟨rfl, h0⟩ | ⟨g, cap, cur, rfl, _, hb, h1, h2, h3, h4⟩
  · exact ⟨none, 0, by rw [h0], fun hl => by omega⟩
  · have hat : ∀ j, j < len * 2 → w.cell? ⟨g, j, none⟩ = some (if j % 2 = 0 then .int .i64 (p (j / 2)) else .int .i64 (q (j / 2))) := by
      intro j hj
      have e : (cur.toList.take (len * 2))[j]? = (prCells len p q)[j]? := by rw [h4]
      rw [List.getElem?_take, if_pos hj, prCells_at len p q j hj] at e
      rw [cell_of_heap hb j, ← Array.getElem?_toList, e]
    refine ⟨_, cap, rfl, fun hl => ⟨g, 0, rfl, (Array.getElem?_eq_some_iff.1 hb).1, fun i hi => ⟨?_, ?_⟩⟩⟩
    · rw [Nat.zero_add, hat _ (by omega), if_pos (by omega), show i * 2 / 2 = i by omega]
    · rw [Nat.zero_add, hat _ (by omega), if_neg (by omega), show (i * 2 + 1) / 2 = i by omega]

theorem wp_app {ops : Array Oper} {rest : List Oper} {o : Oper} {a : Act} {w : World} {Q : Exit → Act → World → Prop} (hgd : o.guard = none) (s x : Operand)
    (ho : o.op = .call { callee := .builtin .append, args := #[s, x], argTypes := #[22, 22] }) (g0 : Nat) (hs : a.eval s = .slice (some ⟨g0, 0, none⟩) 0 0) (hblk : w.heap[g0]? = some (.cells #[] 51 (0, 0)))
    (A : Option Addr) (len cap B : Nat) (p q : Nat → Int) (hx : a.eval x = .slice A len cap) (hp : Prs w B A len p q) (hA : A = none → cap = 0) (hlen : len ≤ 200)
    (h : ∀ A' cap' w', Prs w' w'.heap.size A' len p q → Below g0 w w' → wpList Try.prog ops Q rest (a.put o.dst (.slice A' len cap')) w') : wpList Try.prog ops Q (o :: rest) a w := by
  obtain ⟨i0, hi, hz0, hz1, hz2⟩ := info_parts Try.info52
  have hlt := (Array.getElem?_eq_some_iff.1 hblk).1
  have hown : w.ownsRow g0 51 2 (.slice (some ⟨g0, 0, none⟩) 0 0) 0 [] := ⟨rfl, .inr ⟨g0, 0, #[], rfl, Nat.le_refl _, hblk, Nat.le_refl _, by unfold maxLen; omega, rfl, rfl⟩⟩
  have hfin : ∀ v' w', w'.ownsRow g0 51 2 v' (0 + len) ([] ++ prCells len p q) → w.grownBy w' (Value.slice (some ⟨g0, 0, none⟩) 0 0).ownBlock → wpList Try.prog ops Q rest (a.put o.dst v') w' := by
    intro v' w' ho' hg'
    rw [Nat.zero_add, List.nil_append] at ho'
    obtain ⟨A', cap', rfl, hP⟩ := prs_of_own ho'
    exact h A' cap' w' hP ((Below.refl _ _).grown hg' (Nat.le_of_lt hlt) (fun k hk => by simp [Value.ownBlock] at hk; omega))
  cases A with
  | none =>
    have hl0 : len = 0 := by
      rcases Nat.eq_zero_or_pos len with h0 | h0
      · exact h0
      · obtain ⟨_, _, e, _⟩ := hp h0
        cases e
    subst hl0
    have hc0 := hA rfl
    subst hc0
    refine wpList_append_own_none hgd s x 22 ho g0 51 i0 2 Try.underlying22 hi _ 0 [] hs hown hx ?_
    exact h _ _ w (fun hl => absurd hl (Nat.lt_irrefl 0)) (Below.refl _ _)
  | some ad =>
    refine wpList_append_own w hgd s x 22 ho g0 51 i0 _ 2 16 Try.underlying22 hi hz0 hz1 hz2 rfl (by omega) _ 0 [] hs hown ad len cap (prCells len p q) hx (prCells_len _ _ _) ?_ ?_ (by unfold maxLen; omega) (by omega) (Nat.le_of_lt hlt) (fun v' w' h1 h2 _ => hfin v' w' h1 h2)
    · intro j u hu
      have hj : j < len * 2 := by
        have := (List.getElem?_eq_some_iff.1 hu).1
        rwa [prCells_len] at this
      rw [prCells_at len p q j hj] at hu
      obtain ⟨g, off, e, _, hc⟩ := hp (by omega)
      cases e
      have c := hc (j / 2) (by omega)
      rw [← Option.some.inj hu, WideShapes.add_plain]
      by_cases hm : j % 2 = 0
      · rw [if_pos hm, ← c.1, show off + j / 2 * 2 = off + j by omega]
      · rw [if_neg hm, ← c.2, show off + j / 2 * 2 + 1 = off + j by omega]
    · intro u hu
      simp only [prCells, List.mem_map] at hu
      obtain ⟨j, _, rfl⟩ := hu
      split <;> rfl

/-- A whole load of the document's lattice, in a region that draws its order. -/
theorem still_ld31 {ops : Array Oper} {rest : List Oper} {o : Oper} {a : Act} {w : World} {Q : Act → Prop} (hw : Region.wanted o (yielded ops a.tmps) = true) (x : Operand) (ho : o.op = .load 28 x)
    (g : Nat) (hx : a.eval x = .pointer (some ⟨g, 0, none⟩)) (cs : Array Value) (hg : w.heap[g]? = some (.cells cs 28 (0, 0))) (hs : cs.size = 65)
    (h : wpStill Try.prog ops w Q rest (a.put o.dst (.agg cs))) : wpStill Try.prog ops w Q (o :: rest) a := by
  refine wpStill_step fun K hK => ?_
  rw [if_pos hw]
  have hr : (execOp a.eval o).run Try.prog w = .ok (.value (.agg cs)) w := by
    unfold execOp
    simp only [ho, hx, Instr.loadAt, Instr.sureAddr, Sem.run_bind, Sem.run_pure, Result.andThen_ok, run_loadVar_row w g 28 28 cs (0, 0) _ hg Try.underlying28 rfl (by rw [info31, hs])]
  unfold Oper.still
  rw [hr, Oper.stillUpon_value]
  exact hK _ h

section
variable {md : Region.Mode} {ops : Array Oper} {Q : Exit → Act → World → Prop} {fuel i : Nat} {o : Oper} {listed : Array Bool} {a : Act} {w : World}
/-- The one operation that may come up. -/
theorem ready_one (ho : ops[i]? = some o) (hg : o.guard = none) (hr : Region.ready md ops listed = [i])
    (h : o.wp Try.prog a w (wpAny Try.prog md ops Q fuel (listed.setIfInBounds i true)) Q) : wpAny Try.prog md ops Q (fuel + 1) listed a w :=
  wpAny_ready hr (by simp) (AllReady.cons ho (fun K hK => by
    rw [if_pos (by simp [Region.wanted, hg])]
    exact Oper.wp_mono hK h) AllReady.nil)
/-- It is a whole load. -/
theorem ready_ld (x : Operand) (d : Option Tmp) (ho : ops[i]? = some o) (hg : o.guard = none) (hop : o.op = .load 28 x) (hd : o.dst = d) (hr : Region.ready md ops listed = [i])
    (g : Nat) (hx : a.eval x = .pointer (some ⟨g, 0, none⟩)) (cs : Array Value) (hb : w.heap[g]? = some (.cells cs 28 (0, 0))) (hs : cs.size = 65)
    (h : wpAny Try.prog md ops Q fuel (listed.setIfInBounds i true) (a.put d (.agg cs)) w) : wpAny Try.prog md ops Q (fuel + 1) listed a w :=
  ready_one ho hg hr (wp_load_row 28 x hop g hx 28 cs (0, 0) _ hb Try.underlying28 rfl (by rw [info31, hs]) (by rw [hd]; exact h))
/-- It is a whole store. -/
theorem ready_st (x y : Operand) (d : Option Tmp) (ho : ops[i]? = some o) (hg : o.guard = none) (hop : o.op = .store 28 x y) (hd : o.dst = d) (hr : Region.ready md ops listed = [i])
    (g : Nat) (hx : a.eval x = .pointer (some ⟨g, 0, none⟩)) (cs : Array Value) (hy : a.eval y = .agg cs) (old : Array Value) (hb : w.heap[g]? = some (.cells old 28 (0, 0))) (hs : cs.size = 65) (hs' : old.size = 65)
    (h1 : cs.all (·.oneCell') = true) (h : wpAny Try.prog md ops Q fuel (listed.setIfInBounds i true) (a.put d undef) (w.setRow g cs)) : wpAny Try.prog md ops Q (fuel + 1) listed a w :=
  ready_one ho hg hr (wp_store_row 28 x y hop g cs hx hy 28 old hb (by rw [info31, hs]) (by rw [hs, hs']) h1 (by rw [hd]; exact h))
/-- An operation that yields a value whatever the world, taken first. -/
theorem take_d (d : Option Tmp) (v : Value) (ho : ops[i]? = some o) (hd : o.dst = d) (hs : Region.noSelect ops = true) (hf : Region.free md ops listed i = true) (hr : (Region.ready md ops listed).contains i = true)
    (hQ : ∀ c a w, Q (.panic c) (a.put d v) w → Q (.panic c) a w) (hy : Yields Try.prog ops o v a)
    (h : wpAny Try.prog md ops Q fuel (listed.setIfInBounds i true) (a.put d v) w) : wpAny Try.prog md ops Q (fuel + 1) listed a w :=
  wpAny_take ho hs hf hr (by rw [hd]; exact hQ) hy (by rw [hd]; exact h)
end

/-- The error code where Make hands nothing out. -/
def mcode (n : Int) (len : Nat) (p q : Nat → Int) : Int := if mbo n len p q then 16 else 2

theorem Make_nil (n : Int) (A : Option Addr) (len cap : Nat) (p q : Nat → Int) (w : World) (hp : Prs w w.heap.size A len p q) (h : (mbo n len p q && mkL n len p q) = false) :
    Calls Try.prog 24 #[.int .i64 n, .slice A len cap] w fun e w' => e = .returned (.tuple #[.pointer none, .int .i64 (mcode n len p q)]) ∧ Below w.heap.size w w' := by
  cases hm : mbo n len p q
  · have e : mcode n len p q = 2 := by simp [mcode, hm]
    rw [e]
    exact Make_arg n A len cap p q w hp hm
  · have e : mcode n len p q = 16 := by simp [mcode, hm]
    rw [e]
    exact Make_lat n A len cap p q w hp hm (by simpa [hm] using h)

/-- Three results, the middle one a struct in a cell. -/
theorem results_tct {fn : Func} {r p t : Tmp} (h : fn.results = #[.tmp r, .cell p 28, .tmp t]) (tmps : Array Value) (w : World) (g : Nat) (cs : Array Value)
    (hp : tmps.getD p undef = .pointer (some ⟨g, 0, none⟩)) (hg : w.heap[g]? = some (.cells cs 28 (0, 0))) (hs : cs.size = 65) :
    (results fn tmps).run Try.prog w = .ok (.tuple #[tmps.getD r undef, .agg cs, tmps.getD t undef]) w := by
  have hp' : tmps[p]?.getD undef = .pointer (some ⟨g, 0, none⟩) := by simpa using hp
  simp [results, h, hp', asAddr, run_loadVar_row w g 28 28 cs (0, 0) _ hg Try.underlying28 rfl (by rw [info31, hs])]

/-- both hands nothing out. -/
def GivesNone (w : World) (e : Ending) (w' : World) : Prop :=
  ∃ cs, e = .returned (.tuple #[.pointer none, .agg cs, .bool false]) ∧ cs.size = 65 ∧ cs.all (·.oneCell') = true ∧ Below w.heap.size w w'


/-- both hands out a lattice and the document's. -/
def GivesBoth (n : Int) (len : Nat) (p q : Nat → Int) (w : World) (e : Ending) (w' : World) : Prop :=
  ∃ g cs, e = .returned (.tuple #[.pointer (some ⟨g, 0, none⟩), .agg cs, .bool true]) ∧ RLat cs n.toNat (rcl n.toNat len p q) ∧ Below w.heap.size w w' ∧ Lat w' g n.toNat (mkA n len p q) (mkB n len p q)


end Go.Proofs.Ytmnbalmihehodaa

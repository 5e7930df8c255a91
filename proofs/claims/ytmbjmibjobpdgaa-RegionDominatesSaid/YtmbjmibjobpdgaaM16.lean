/-
  A slice literal of one node.
-/
import Derived.Test.YtmbjmibjobpdgaaM15
import Derived.Great.BuildSlice
import Derived.Great.FillDense
namespace Go.Proofs.Ytmbjmibjobpdgaa
open Go.RowKit

theorem fill_one {L : List Value} {n : Nat} (hn : 0 < n) (hL : L.length = n) {cells : Array Value} (hc : cells.size = n) :
    Instr.fill (fun i => some (i * n, n)) cells [(0, .agg L.toArray)] = some L.toArray := by
  obtain ⟨r, hr, hsz, hk⟩ := Great.fill_dense hn [.agg L.toArray] 0 cells (fun v hv => by
    rw [List.mem_singleton.1 hv]
    show L.toArray.size = n
    simpa using hL) (by simp [hc])
  have e : Instr.fill (fun i => some (i * n, n)) cells [(0, .agg L.toArray)] = some r := hr
  rw [e]
  congr 1
  apply Array.ext_getElem?
  intro k
  rw [hk k]
  by_cases h : k < n
  · rw [if_pos (by simp; exact h), Nat.div_eq_of_lt h, Nat.mod_eq_of_lt h]
    rfl
  · rw [if_neg (by simp; omega), Array.getElem?_eq_none (by omega), Array.getElem?_eq_none (by simp; omega)]
theorem info58s : ∃ i, Try.prog.info? 58 = some i ∧ i.size = 29 ∧ ∃ z, i.zero = some z := by
  have h : ((Try.prog.info? 58).map fun i => (i.size, i.zero.isSome)) = some (29, true) := by kernel_rfl
  obtain ⟨i, hi, he⟩ := Option.map_eq_some_iff.1 h
  injection he with h1 h2
  exact ⟨i, hi, h1, Option.isSome_iff_exists.1 h2⟩
/-- '[]Node{n}'. -/
theorem bs58 {ops : Array Oper} {rest : List Oper} {o : Oper} {a : Act} {w : World} {Q : Exit → Act → World → Prop} (hg : o.guard = none) (y : Operand) (ho : o.op = .buildSlice 25 1 #[(0, y)])
    (L : List Value) (hy : a.eval y = .agg L.toArray) (hL : L.length = 29)
    (h : wpList Try.prog ops Q rest (a.put o.dst (.slice (some ⟨w.heap.size, 0, none⟩) 1 1)) (w.alloc (.cells L.toArray 58))) : wpList Try.prog ops Q (o :: rest) a w := by
  obtain ⟨i, hi, hs, z, hz⟩ := info58s
  refine wpList_buildSlice hg 25 58 1 _ ho L.toArray i z Try.underlying25 hi hz (by rw [hs]; omega) (by rw [hs]; omega) ?_ h
  rw [hs]
  have e : (Array.map (fun x : Nat × Operand => (x.fst, a.eval x.snd)) #[(0, y)]).toList = [(0, .agg L.toArray)] := by simp [hy]
  refine Eq.trans ?_ (fill_one (by omega) hL (cells := (Array.range (1 * 29)).map (z.cells[· % z.cells.size]!)) (by simp))
  rw [← e]
/-- A node of ways alone. -/
def nodeZ (u : Value) : List Value := [.int .i64 0, .int .i64 0, u, .slice none 0 0, .int .i64 0, .string ⟨#[]⟩, .int .i64 0, .int .i64 0, .float .f64 0, .string ⟨#[]⟩, .slice none 0 0, .slice none 0 0, .slice none 0 0, .slice none 0 0, .int .i64 0, .string ⟨#[]⟩, .int .i64 0, .int .i64 0, .float .f64 0, .string ⟨#[]⟩, .slice none 0 0, .slice none 0 0, .slice none 0 0, .slice none 0 0, .int .i64 0, .int .i64 0, .int .i64 (-1), .int .i64 0, .int .i64 0]
theorem val_zero (w : World) (lim : Nat) : Val w lim #[.int .i64 0, .int .i64 0, .float .f64 0, .string ⟨#[]⟩, .slice none 0 0, .slice none 0 0] (.mk 0 0 0 ⟨#[]⟩ 0 (fun _ => ⟨#[]⟩) 0 (fun _ => .bad)) :=
  .mk 0 0 0 ⟨#[]⟩ none 0 0 none 0 0 (fun _ => ⟨#[]⟩) (fun _ => .bad) (fun _ => #[]) (by omega) (by omega) (by omega) (by show 0 ≤ maxLen; omega) (by unfold maxLen; omega) (by unfold maxLen; omega) (fun h => absurd h (by omega)) (fun h => absurd h (by omega)) (fun i h => absurd h (by omega))
theorem eval_zero (w : World) (lim : Nat) : EVal w lim #[.int .i64 0, .string ⟨#[]⟩, .int .i64 0, .int .i64 0, .float .f64 0, .string ⟨#[]⟩, .slice none 0 0, .slice none 0 0, .slice none 0 0, .slice none 0 0]
    (.mk 0 ⟨#[]⟩ (.mk 0 0 0 ⟨#[]⟩ 0 (fun _ => ⟨#[]⟩) 0 (fun _ => .bad)) 0 (fun _ => ⟨#[]⟩) 0 (fun _ => .bad)) :=
  .mk 0 ⟨#[]⟩ _ _ _ _ _ _ _ none 0 0 none 0 0 (fun _ => ⟨#[]⟩) (fun _ => .bad) (fun _ => #[]) (by omega) (by show 0 ≤ maxLen; omega) (val_zero w lim) (by unfold maxLen; omega) (by unfold maxLen; omega) (fun h => absurd h (by omega)) (fun h => absurd h (by omega)) (fun i h => absurd h (by omega))
theorem flat_at {f : Nat → List Value} (hf : ∀ i, (f i).length = 29) : ∀ {n i j : Nat}, i < n → j < 29 → ((List.range n).flatMap f)[i * 29 + j]? = (f i)[j]? := by
  intro n
  induction n with
  | zero => intro i j h; omega
  | succ n ih =>
    intro i j hi hj
    have hlen : ((List.range n).flatMap f).length = n * 29 := by
      clear ih hi
      induction n with
      | zero => rfl
      | succ n ih => rw [List.range_succ, List.flatMap_append, List.length_append, ih]; simp [hf]; omega
    rw [List.range_succ, List.flatMap_append]
    by_cases h : i < n
    · rw [List.getElem?_append_left (by omega), ih h hj]
    · have : i = n := by omega
      subst this
      rw [List.getElem?_append_right (by omega), hlen]
      simp
theorem withoutL_num {x : NT} {d : Int} (h1 : ∀ j, j < x.c → Num (x.f j)) (h2 : Num x.k) : ∀ z ∈ withoutL x d, Num z := by
  intro z hz
  have := (List.mem_filter.1 hz).1
  unfold nexts at this
  rcases List.mem_append.1 this with h | h
  · obtain ⟨j, hj, rfl⟩ := List.mem_map.1 h
    exact h1 j (List.mem_range.1 hj)
  · split at h
    · simp at h; subst h; exact h2
    · cases h
theorem node_made {w : World} {B : Nat} {u : Value} {x : NT} {d : Int} (h : OwnI w B u (withoutL x d)) (h1 : ∀ j, j < x.c → Num (x.f j)) (h2 : Num x.k) : NodeAt w w.heap.size (nodeZ u).toArray (withoutN x d) := by
  have hca : ∃ A ca, u = .slice A (withoutL x d).length ca ∧ ((withoutL x d).length ≤ ca ∧ ca ≤ maxLen) := by
    rcases h.2 with ⟨e, e0⟩ | ⟨g, cap, cur, e, _, _, k1, k2, _⟩
    · exact ⟨none, 0, by rw [e, e0], by unfold maxLen; omega⟩
    · exact ⟨_, cap, e, k1, k2⟩
  obtain ⟨A, ca, e, hca⟩ := hca
  obtain ⟨A', ca', e', hl⟩ := h.lie
  rw [e] at e'
  injection e' with e1 e2 e3
  subst e1
  subst e
  refine .mk 0 0 A (withoutL x d).length ca none 0 0 _ _ _ _ _ _ _ _ _ _ _ _ _ _ _ _ _ _ _ _ 0 0 (-1) 0 0 (fun j => (withoutL x d).getD j 0) (fun _ => #[]) (fun _ => .bad) _ _ hca (fun h0 => ?_) (fun j hj => ?_) (by unfold maxLen; omega) (fun h => absurd h (by omega)) (fun i h => absurd h (by omega)) (eval_zero w _) (eval_zero w _) (by unfold Num; omega) (by unfold Num; omega)
  · obtain ⟨g, o, ea, hg, hx⟩ := hl h0
    refine ⟨g, o, ea, hg, fun j hj => ?_⟩
    rw [hx j hj]
    simp [List.getD_eq_getElem?_getD, List.getElem?_eq_getElem hj]
  · have : (withoutL x d).getD j 0 ∈ withoutL x d := by
      simp [List.getD_eq_getElem?_getD, List.getElem?_eq_getElem hj]
    exact withoutL_num h1 h2 _ this
theorem model_made {w : World} {B : Nat} {G : GT} {x : Int} {v : Value} {us : Nat → Value} (hO : w.ownsRow B 58 29 v G.n ((List.range G.n).flatMap fun j => nodeZ (us j))) (hus : ∀ j, j < G.n → OwnI w B (us j) (withoutL (G.d j) x))
    (hnum : ∀ i, i < G.n → (∀ j, j < (G.d i).c → Num ((G.d i).f j)) ∧ Num (G.d i).k) : ∃ Av cv, v = .slice Av G.n cv ∧ ModelAt w w.heap.size (modelV 0 none 0 0 none 0 0 none 0 0 none 0 0 Av G.n cv) (withoutG G x) := by
  have hca : ∃ A ca, v = .slice A G.n ca ∧ (G.n ≤ ca ∧ ca ≤ maxLen) ∧ RowAt w w.heap.size 29 A G.n (fun i => (nodeZ (us i)).toArray) := by
    rcases hO.2 with ⟨e, e0⟩ | ⟨g, cap, cur, e, _, hh, k1, k2, k3, k4⟩
    · exact ⟨none, 0, by rw [e, e0], by unfold maxLen; omega, fun h => by omega⟩
    · refine ⟨_, cap, e, ⟨k1, k2⟩, fun _ => ⟨g, 0, rfl, row_lt hh, fun i hi j hj => ?_⟩⟩
      rw [Nat.zero_add, cell_of_row w g _ cur 58 (0, 0) hh, ← Array.getElem?_toList]
      have e : (cur.toList.take (G.n * 29))[i * 29 + j]? = (nodeZ (us i))[j]? := by
        rw [k4]
        exact flat_at (fun _ => rfl) hi hj
      have hlt : i * 29 + j < G.n * 29 := by omega
      rw [List.getElem?_take, if_pos hlt] at e
      rw [e]
      simp
  obtain ⟨A, ca, rfl, hca, hrow⟩ := hca
  refine ⟨A, ca, rfl, .mk 0 none 0 0 none 0 0 none 0 0 none 0 0 A G.n ca (fun _ => #[]) (fun _ => #[]) _ _ (by unfold maxLen; omega) (by unfold maxLen; omega) (by unfold maxLen; omega) (by unfold maxLen; omega) hca (fun h => absurd h (by omega)) (fun i h => absurd h (by omega)) (fun h => absurd h (by omega)) (fun i h => absurd h (by omega)) hrow (fun i hi => ?_)⟩
  exact node_made (hus i hi) (hnum i hi).1 (hnum i hi).2
end Go.Proofs.Ytmbjmibjobpdgaa

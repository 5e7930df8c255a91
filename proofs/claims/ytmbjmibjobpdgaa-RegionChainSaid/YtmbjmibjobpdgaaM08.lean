/-
  Blocks of one-cell values that the call made: bools and ints; ints that are gathered.
-/
import Derived.Test.YtmbjmibjobpdgaaM07
import Derived.WalkSpells
namespace Go.Proofs.Ytmbjmibjobpdgaa
open Go.RowKit

theorem info3' : (Try.prog.info? 3).map (fun i => (i.zero, i.size, i.bytes)) = some (some (.int .i64 0), 1, 8) := by kernel_rfl
theorem info4' : (Try.prog.info? 4).map (fun i => (i.zero, i.size, i.bytes)) = some (some (.bool false), 1, 1) := by kernel_rfl
theorem cell_of_heap {w : World} {g : Nat} {cs : Array Value} {t : TypeId} (h : w.heap[g]? = some (.cells cs t (0, 0))) (i : Nat) : w.cell? ⟨g, i, none⟩ = cs[i]? := cell_of_row w g i cs t (0, 0) h
theorem frozen_of_heap {w : World} {g : Nat} {cs : Array Value} {t : TypeId} (h : w.heap[g]? = some (.cells cs t (0, 0))) (i : Nat) : w.frozen? ⟨g, i, none⟩ = false := by
  simp [World.frozen?, h]
theorem heap_set {w : World} {g : Nat} {cs : Array Value} {t : TypeId} (h : w.heap[g]? = some (.cells cs t (0, 0))) (i : Nat) (u : Value) :
    (w.setCell ⟨g, i, none⟩ u).heap[g]? = some (.cells (cs.setIfInBounds i u) t (0, 0)) := by
  simp [World.setCell, Array.getElem?_modify, h]
/-- Block g begins with these values, of type T. -/
def CB (w : World) (T g m : Nat) (u : Nat → Value) : Prop := ∃ cs, w.heap[g]? = some (.cells cs T (0, 0)) ∧ m ≤ cs.size ∧ ∀ i, i < m → cs[i]? = some (u i)
def upd {α : Type} (f : Nat → α) (i : Nat) (v : α) : Nat → α := fun j => if j = i then v else f j
theorem upd_same {α : Type} (f : Nat → α) (i : Nat) (v : α) : upd f i v i = v := if_pos rfl
theorem upd_far {α : Type} {f : Nat → α} {i j : Nat} {v : α} (h : j ≠ i) : upd f i v j = f j := if_neg h
section
variable {w w' : World} {T g m : Nat} {u : Nat → Value}
theorem CB.lt (h : CB w T g m u) : g < w.heap.size := by
  obtain ⟨cs, hb, _⟩ := h
  exact row_lt hb
theorem CB.cell (h : CB w T g m u) {i : Nat} (hi : i < m) : w.cell? ⟨g, i, none⟩ = some (u i) := by
  obtain ⟨cs, hb, _, hc⟩ := h
  exact (cell_of_heap hb i).trans (hc i hi)
theorem CB.free (h : CB w T g m u) (i : Nat) : w.frozen? ⟨g, i, none⟩ = false := by
  obtain ⟨cs, hb, _⟩ := h
  exact frozen_of_heap hb i
theorem CB.block (h : CB w T g m u) (hb : w'.heap[g]? = w.heap[g]?) : CB w' T g m u := by
  obtain ⟨cs, h1, h2, h3⟩ := h
  exact ⟨cs, hb.trans h1, h2, h3⟩
theorem CB.keep (h : CB w T g m u) (hb : Below w.heap.size w w') : CB w' T g m u := h.block (hb.block g h.lt)
theorem CB.grown (h : CB w T g m u) {row : Option Nat} (hg : w.grownBy w' row) (hne : some g ≠ row) : CB w' T g m u := h.block (hg.block g h.lt hne)
theorem CB.set (h : CB w T g m u) (i : Nat) (v : Value) : CB (w.setCell ⟨g, i, none⟩ v) T g m (upd u i v) := by
  obtain ⟨cs, h1, h2, h3⟩ := h
  refine ⟨_, heap_set h1 i v, by simpa using h2, fun j hj => ?_⟩
  by_cases e : j = i
  · subst e
    rw [upd_same, Array.getElem?_setIfInBounds_self_of_lt (by omega)]
  · rw [upd_far e, Array.getElem?_setIfInBounds_ne (Ne.symm e)]
    exact h3 j hj
theorem CB.congr {u' : Nat → Value} (h : CB w T g m u) (he : ∀ i, i < m → u' i = u i) : CB w T g m u' := by
  obtain ⟨cs, h1, h2, h3⟩ := h
  exact ⟨cs, h1, h2, fun i hi => by rw [he i hi]; exact h3 i hi⟩
theorem CB.ne (h : CB w T g m u) {S k n : Nat} {v : Nat → Value} (hk : CB w S k n v) (hT : T ≠ S) : g ≠ k := by
  obtain ⟨cs, h1, _⟩ := h
  obtain ⟨ds, h2, _⟩ := hk
  intro e
  subst e
  rw [h1] at h2
  injection h2 with h2
  injection h2 with _ h2 _
  exact hT h2
end
/-- One cell is written: all other blocks stay. -/
theorem grown_set (w : World) (g i : Nat) (v : Value) : w.grownBy (w.setCell ⟨g, i, none⟩ v) (some g) :=
  ⟨rfl, rfl, rfl, by simp, fun k hk hne => Below.heap_setCell _ _ _ _ (by intro e; exact hne (by rw [e]))⟩
theorem OwnE.kept {w w' : World} {B : Nat} {v : Value} {E : List Edge} (h : OwnE w B v E) {g : Nat} {cs : Array Value} {T : TypeId} {fr : Nat × Nat} (hb : w.heap[g]? = some (.cells cs T fr)) (hT : T ≠ 44) (hg : w.grownBy w' (some g)) : OwnE w' B v E := by
  refine World.ownsRow.kept h hg ?_
  cases e : v.ownBlock with
  | none => exact .inl rfl
  | some k => exact .inr (fun e' => h.ne hb hT (by rw [e]; exact e'.symm))
section
variable {ops : Array Oper} {rest : List Oper} {o : Oper} {a : Act} {w : World} {Q : Exit → Act → World → Prop}
/-- 'make([]T, n)' of one-cell values. -/
theorem wp_mk {T S : Nat} {z : Value} {b : Nat} (hi0 : (Try.prog.info? T).map (fun i => (i.zero, i.size, i.bytes)) = some (some z, 1, b)) (hb : b ≤ 8) (hS : Try.prog.underlying S = some (.slice T)) (hz : z.oneCell' = true) (hgd : o.guard = none) (l c : Operand) (ho : o.op = .makeSlice S l c)
    (n : Nat) (hl : a.eval l = .int .i64 (n : Int)) (hc : a.eval c = .int .i64 (n : Int)) (hn : n ≤ 1000)
    (h : ∀ w', CB w' T w.heap.size n (fun _ => z) → Below w.heap.size w w' → wpList Try.prog ops Q rest (a.put o.dst (.slice (some ⟨w.heap.size, 0, none⟩) n n)) w') : wpList Try.prog ops Q (o :: rest) a w := by
  obtain ⟨i0, hi, hz0, hz1, hz2⟩ := info_parts hi0
  have hcell : z.cells = #[z] := by cases z <;> first | rfl | cases hz
  refine wpList_make_full w hgd l c S ho w.heap.size T i0 z 1 hS hi hz0 hz1 .i64 .i64 _ _ n hl hc rfl rfl (by rw [hz2]; have := Nat.mul_le_mul hb (show n ≤ 1000 by omega); omega) (by unfold maxLen; omega) (Nat.le_refl _) fun w' h1 h2 => ?_
  rcases h1.2 with ⟨e, _⟩ | ⟨g, cap, cur, e, hg, hh, k1, k2, k3, k4⟩
  · cases e
  · injection e with e1 e2 e3
    injection e1 with e1
    injection e1 with e1
    subst e1
    refine h w' ⟨cur, hh, by omega, fun i hi => ?_⟩ ((Below.refl _ _).grown h2 (Nat.le_refl _) (fun k hk => by cases hk))
    have e : (cur.toList.take (n * 1))[i]? = (madeCells z.cells (n * 1)).toList[i]? := by rw [k4]
    rw [List.getElem?_take, if_pos (by omega), Array.getElem?_toList, Array.getElem?_toList] at e
    rw [e, hcell]
    have hlt : i < (madeCells #[z] (n * 1)).size := by simp [madeCells]; omega
    rw [Array.getElem?_eq_getElem hlt]
    simp [madeCells, Nat.mod_one]
/-- A row of ints of the call's own. -/
def OwnI (w : World) (B : Nat) (v : Value) (L : List Int) : Prop := w.ownsRow B 3 1 v L.length (L.map (Value.int .i64))
theorem OwnI.nil (w : World) (B : Nat) : OwnI w B (.slice none 0 0) [] := World.ownsRow_nil w B 3 1
theorem OwnI.open {w : World} {B : Nat} {v : Value} {L : List Int} (h : OwnI w B v L) : ∃ A c, v = .slice A L.length c := by
  rcases h.2 with ⟨h, h0⟩ | ⟨g, cap, _, h, _⟩
  · exact ⟨none, 0, by rw [h, h0]⟩
  · exact ⟨_, cap, h⟩
theorem OwnI.ne {w : World} {B : Nat} {v : Value} {L : List Int} (h : OwnI w B v L) {b : Nat} {cs : Array Value} {T : TypeId} {fr : Nat × Nat} (hb : w.heap[b]? = some (.cells cs T fr)) (hT : T ≠ 3) : some b ≠ v.ownBlock := by
  intro e
  rcases h.2 with ⟨rfl, _⟩ | ⟨r, cap, cur, rfl, _, hh, _⟩
  · cases e
  · simp [Value.ownBlock] at e
    subst e
    rw [hb] at hh
    injection hh with hh
    injection hh with _ hh _
    exact hT hh
/-- One int behind a row of the call's own. -/
theorem wpl_int (hgd : o.guard = none) (s x : Operand) (ho : o.op = .call { callee := .builtin .append, args := #[s, x], argTypes := #[30, 30] })
    (B : Nat) (v : Value) (L : List Int) (hs : a.eval s = v) (hown : OwnI w B v L) (b : Nat) (y : Int) (hx : a.eval x = .slice (some ⟨b, 0, none⟩) 1 1)
    (h0 : w.cell? ⟨b, 0, none⟩ = some (.int .i64 y)) (hlen : L.length ≤ 10000) (hB : B ≤ w.heap.size)
    (h : ∀ v' w', OwnI w' B v' (L ++ [y]) → w.grownBy w' v.ownBlock → wpList Try.prog ops Q rest (a.put o.dst v') w') : wpList Try.prog ops Q (o :: rest) a w := by
  obtain ⟨i0, hi, hz0, hz1, hz2⟩ := info_parts info3'
  refine wpList_append_own w hgd s x 30 ho B 3 i0 _ 1 8 Try.underlying30 hi hz0 hz1 hz2 rfl (by omega) v L.length _ hs hown ⟨b, 0, none⟩ 1 1 [.int .i64 y] hx rfl ?_ (fun u hu => by simp at hu; subst hu; rfl) (by unfold maxLen; omega) (by omega) hB (fun v' w' h1 h2 _ => h v' w' ?_ h2)
  · intro j u hj
    match j, hj with
    | 0, hj => cases hj; rw [WideShapes.add_plain]; exact h0
  · unfold OwnI
    simpa using h1
end
/-- Ints that may be read at a slice. -/
def LieI (w : World) (lim : Nat) (A : Option Addr) (L : List Int) : Prop :=
  0 < L.length → ∃ g o, A = some ⟨g, o, none⟩ ∧ g < lim ∧ ∀ i (h : i < L.length), w.cell? ⟨g, o + i, none⟩ = some (.int .i64 L[i])
theorem OwnI.lie {w : World} {B : Nat} {v : Value} {L : List Int} (h : OwnI w B v L) : ∃ A c, v = .slice A L.length c ∧ LieI w w.heap.size A L := by
  rcases h.2 with ⟨rfl, h0⟩ | ⟨g, cap, cur, rfl, _, hh, h1, h2, h3, h4⟩
  · exact ⟨none, 0, by rw [h0], fun h => by omega⟩
  · refine ⟨_, cap, rfl, fun _ => ⟨g, 0, rfl, row_lt hh, fun i hi => ?_⟩⟩
    rw [Nat.zero_add, cell_of_row w g i cur 3 (0, 0) hh, ← Array.getElem?_toList]
    have e : (cur.toList.take (L.length * 1))[i]? = (L.map (Value.int .i64))[i]? := by rw [h4]
    rw [List.getElem?_take, if_pos (by omega)] at e
    rw [e]
    simp [List.getElem?_map, List.getElem?_eq_getElem hi]
theorem LieI.keep {w w' : World} {lim : Nat} {A : Option Addr} {L : List Int} (h : LieI w lim A L) (hw : ∀ g o, g < lim → w'.cell? ⟨g, o, none⟩ = w.cell? ⟨g, o, none⟩) : LieI w' lim A L := fun h0 => by
  obtain ⟨g, o, e, hg, hx⟩ := h h0
  exact ⟨g, o, e, hg, fun i hi => (hw _ _ hg).trans (hx i hi)⟩
end Go.Proofs.Ytmbjmibjobpdgaa

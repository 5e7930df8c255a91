/-
  Rows of rows of ints of the call's own; dominators, plainly, as the document's rounds make them.
-/
import Derived.Test.YtmbjmibjobpdgaaM17
import Derived.Maps.AppendAt
namespace Go.Proofs.Ytmbjmibjobpdgaa
open Go.RowKit

/-- All below B, but for block g, is kept. -/
structure Bow (B g : Nat) (w w' : World) : Prop where
  os : w'.os = w.os
  tape : w'.tape = w.tape
  output : w'.output = w.output
  size : w.heap.size ≤ w'.heap.size
  block : ∀ k, k < B → k ≠ g → w'.heap[k]? = w.heap[k]?
section
variable {B g : Nat} {w w' w'' : World}
theorem Bow.refl (B g : Nat) (w : World) : Bow B g w w := ⟨rfl, rfl, rfl, Nat.le_refl _, fun _ _ _ => rfl⟩
theorem Bow.step (h : Bow B g w w') (hb : Below w'.heap.size w' w'') (hB : B ≤ w'.heap.size) : Bow B g w w'' :=
  ⟨hb.os.trans h.os, hb.tape.trans h.tape, hb.output.trans h.output, Nat.le_trans h.size hb.size, fun k hk hne => (hb.block k (by omega)).trans (h.block k hk hne)⟩
theorem Bow.grown {row : Option Nat} (h : Bow B g w w') (hg : w'.grownBy w'' row) (hB : B ≤ w'.heap.size) (hrow : ∀ k, row = some k → B ≤ k ∨ k = g) : Bow B g w w'' :=
  ⟨hg.os.trans h.os, hg.tape.trans h.tape, hg.output.trans h.output, Nat.le_trans h.size hg.size, fun k hk hne => (hg.block k (by omega) (fun e => (hrow k e.symm).elim (by omega) hne)).trans (h.block k hk hne)⟩
theorem Bow.below (h : Bow B g w w') {lim : Nat} (h1 : lim ≤ B) (h2 : lim ≤ g) : Below lim w w' :=
  ⟨h.os, h.tape, h.output, h.size, fun k hk => h.block k (by omega) (by omega)⟩
theorem Bow.own (h : Bow B g w w') {b : Nat} {v : Value} {L : List Int} (ho : OwnI w b v L) (hB : w.heap.size ≤ B) {n : Nat} {u : Nat → Value} (hg : CB w 30 g n u) : OwnI w' b v L := by
  refine ⟨ho.1, ?_⟩
  rcases ho.2 with hn | ⟨k, cap, cur, e, hb, hh, rest⟩
  · exact .inl hn
  · refine .inr ⟨k, cap, cur, e, hb, ?_, rest⟩
    rw [h.block k (Nat.lt_of_lt_of_le (row_lt hh) hB) ?_]
    · exact hh
    · rintro rfl
      obtain ⟨cs, hc, _⟩ := hg
      rw [hh] at hc
      injection hc with hc
      injection hc with _ hc _
      exact absurd hc (by decide)
end
/-- Rows of ints, each a block of its own. -/
def Fam (w : World) (B : Nat) (us : Nat → Value) (Ls : Nat → List Int) (m : Nat) : Prop :=
  (∀ t, t < m → OwnI w B (us t) (Ls t)) ∧ ∀ s t, s < m → t < m → s ≠ t → (us s).ownBlock = none ∨ (us s).ownBlock ≠ (us t).ownBlock
section
variable {w w' : World} {B m : Nat} {us : Nat → Value} {Ls : Nat → List Int}
theorem Fam.congr {Ls' : Nat → List Int} (h : Fam w B us Ls m) (he : ∀ t, t < m → Ls' t = Ls t) : Fam w B us Ls' m := ⟨fun t ht => by rw [he t ht]; exact h.1 t ht, h.2⟩
theorem Fam.drop (h : Fam w B us Ls (m + 1)) : Fam w B us Ls m := ⟨fun t ht => h.1 t (by omega), fun s t hs ht => h.2 s t (by omega) (by omega)⟩
theorem Fam.below (h : Fam w B us Ls m) (hb : Below w.heap.size w w') : Fam w' B us Ls m := ⟨fun t ht => (h.1 t ht).below hb, h.2⟩
theorem Fam.grow (h : Fam w B us Ls m) {t0 : Nat} (ht : t0 < m) {v' : Value} {L' : List Int} (ho : OwnI w' B v' L') (hg : w.grownBy w' (us t0).ownBlock) (hat : v'.ownBlock = (us t0).ownBlock ∨ v'.ownBlock = some w.heap.size) :
    Fam w' B (upd us t0 v') (upd Ls t0 L') m := by
  have hlt : ∀ t, t < m → (us t).ownBlock ≠ some w.heap.size := fun t ht e => by
    have := (World.ownsRow.lt (h.1 t ht) _ e).2
    omega
  refine ⟨fun t htm => ?_, fun s t hs htm hne => ?_⟩
  · by_cases e : t = t0
    · subst e; rw [upd_same, upd_same]; exact ho
    · rw [upd_far e, upd_far e]
      refine World.ownsRow.kept (h.1 t htm) hg (h.2 t t0 htm ht e)
  · by_cases e : s = t0
    · subst e
      rw [upd_same, upd_far (Ne.symm hne)]
      rcases hat with hat | hat
      · rw [hat]; exact h.2 s t hs htm hne
      · rw [hat]; exact .inr (fun e => hlt t htm e.symm)
    · rw [upd_far e]
      by_cases e2 : t = t0
      · subst e2
        rw [upd_same]
        rcases hat with hat | hat
        · rw [hat]; exact h.2 s t hs htm hne
        · rw [hat]; exact .inr (hlt s hs)
      · rw [upd_far e2]; exact h.2 s t hs htm hne
theorem Fam.set (h : Fam w B us Ls m) {g i : Nat} {v : Value} {n : Nat} {cu : Nat → Value} (hg : CB w 30 g n cu) : Fam (w.setCell ⟨g, i, none⟩ v) B us Ls m := by
  obtain ⟨cs, hb, _⟩ := hg
  exact ⟨fun t ht => (h.1 t ht).kept hb (by decide) (grown_set w g i v), h.2⟩
theorem Fam.add (h : Fam w B us Ls m) (hb : Below w.heap.size w w') {B' : Nat} {v : Value} {L : List Int} (ho : OwnI w' B' v L) (h1 : w.heap.size ≤ B') (h2 : B ≤ B') : Fam w' B (upd us m v) (upd Ls m L) (m + 1) := by
  have hlt : ∀ t, t < m → ∀ k, (us t).ownBlock = some k → k < w.heap.size := fun t ht k e => (World.ownsRow.lt (h.1 t ht) _ e).2
  have hge : ∀ k, v.ownBlock = some k → w.heap.size ≤ k := fun k e => Nat.le_trans h1 (World.ownsRow.lt ho _ e).1
  refine ⟨fun t htm => ?_, fun s t hs htm hne => ?_⟩
  · by_cases e : t = m
    · subst e; rw [upd_same, upd_same]; exact ho.low h2
    · rw [upd_far e, upd_far e]
      exact (h.1 t (by omega)).below hb
  · by_cases e : s = m
    · subst e
      rw [upd_same, upd_far (Ne.symm hne)]
      cases hv : v.ownBlock with
      | none => exact .inl rfl
      | some k => exact .inr (fun e => by have := hlt t (by omega) k e.symm; have := hge k hv; omega)
    · rw [upd_far e]
      by_cases e2 : t = m
      · subst e2
        rw [upd_same]
        cases hv : (us s).ownBlock with
        | none => exact .inl rfl
        | some k => exact .inr (fun e3 => by have := hlt s (by omega) k hv; have := hge k e3.symm; omega)
      · rw [upd_far e2]; exact h.2 s t (by omega) (by omega) hne
end
theorem OwnI.lieAt {w : World} {B : Nat} {A : Option Addr} {n c : Nat} {L : List Int} (h : OwnI w B (.slice A n c) L) : n = L.length ∧ LieI w w.heap.size A L := by
  obtain ⟨A', c', e, hl⟩ := h.lie
  injection e with e1 e2 e3
  subst e1
  exact ⟨e2, hl⟩
theorem comeL_len {G : GT} (h : fewB G) (a : Int) : (comeL G a).length ≤ 101 := by
  unfold comeL reachL
  split
  · rw [List.length_append]
    have := pickL_len G.n (reachB G a.toNat)
    have := h.1
    simp only [List.length_singleton]
    omega
  · simp
/-- Does d dominate t, as the document asks? -/
def domB (G : GT) (r : Int) (d t : Nat) : Bool :=
  decide ((d : Int) ∈ comeL G r) && (decide ((t : Int) ∈ comeL G r) && ((d : Int) == r || ((t : Int) == (d : Int) || !decide ((t : Int) ∈ comeL (withoutG G (d : Int)) r))))
def domK (G : GT) (r : Int) (k t : Nat) : List Int := ((List.range k).filter fun d => domB G r d t).map fun d : Nat => (d : Int)
/-- A node's dominators. -/
def domL (G : GT) (r : Int) (t : Nat) : List Int := domK G r G.n t
theorem domK_succ (G : GT) (r : Int) (k t : Nat) : domK G r (k + 1) t = domK G r k t ++ if domB G r k t then [(k : Int)] else [] := by
  unfold domK
  rw [List.range_succ, List.filter_append, List.map_append]
  congr 1
  cases h : domB G r k t <;> simp [h]
theorem domK_len (G : GT) (r : Int) (k t : Nat) : (domK G r k t).length ≤ k := by
  unfold domK
  rw [List.length_map]
  exact Nat.le_trans (List.length_filter_le _ _) (by simp)
theorem info30' : (Try.prog.info? 30).map (fun i => (i.zero, i.size, i.bytes)) = some (some (.slice none 0 0), 1, 24) := by kernel_rfl
section
variable {ops : Array Oper} {rest : List Oper} {o : Oper} {a : Act} {w : World} {Q : Exit → Act → World → Prop}
/-- 'make([][]int, n)'. -/
theorem wp_mkL (hgd : o.guard = none) (l c : Operand) (ho : o.op = .makeSlice 38 l c)
    (n : Nat) (hl : a.eval l = .int .i64 (n : Int)) (hc : a.eval c = .int .i64 (n : Int)) (hn : n ≤ 1000)
    (h : ∀ w', CB w' 30 w.heap.size n (fun _ => .slice none 0 0) → Below w.heap.size w w' → w.heap.size < w'.heap.size → wpList Try.prog ops Q rest (a.put o.dst (.slice (some ⟨w.heap.size, 0, none⟩) n n)) w') : wpList Try.prog ops Q (o :: rest) a w := by
  obtain ⟨i0, hi, hz0, hz1, hz2⟩ := info_parts info30'
  have hcell : (Value.slice none 0 0).cells = #[.slice none 0 0] := rfl
  refine wpList_make_full w hgd l c 38 ho w.heap.size 30 i0 _ 1 Try.underlying38 hi hz0 hz1 .i64 .i64 _ _ n hl hc rfl rfl (by rw [hz2]; omega) (by unfold maxLen; omega) (Nat.le_refl _) fun w' h1 h2 => ?_
  rcases h1.2 with ⟨e, _⟩ | ⟨g, cap, cur, e, hg, hh, k1, k2, k3, k4⟩
  · cases e
  · injection e with e1 e2 e3
    injection e1 with e1
    injection e1 with e1
    subst e1
    refine h w' ⟨cur, hh, by omega, fun i hi => ?_⟩ ((Below.refl _ _).grown h2 (Nat.le_refl _) (fun k hk => by cases hk)) (row_lt hh)
    have e : (cur.toList.take (n * 1))[i]? = (madeCells (Value.slice none 0 0).cells (n * 1)).toList[i]? := by rw [k4]
    rw [List.getElem?_take, if_pos (by omega), Array.getElem?_toList, Array.getElem?_toList] at e
    rw [e, hcell]
    have hlt : i < (madeCells #[Value.slice none 0 0] (n * 1)).size := by simp [madeCells]; omega
    rw [Array.getElem?_eq_getElem hlt]
    simp [madeCells, Nat.mod_one]
/-- One int behind a row of the call's own: where the row lies then. -/
theorem wpl_intAt (hgd : o.guard = none) (s x : Operand) (ho : o.op = .call { callee := .builtin .append, args := #[s, x], argTypes := #[30, 30] })
    (B : Nat) (v : Value) (L : List Int) (hs : a.eval s = v) (hown : OwnI w B v L) (b : Nat) (y : Int) (hx : a.eval x = .slice (some ⟨b, 0, none⟩) 1 1)
    (h0 : w.cell? ⟨b, 0, none⟩ = some (.int .i64 y)) (hlen : L.length ≤ 10000) (hB : B ≤ w.heap.size)
    (h : ∀ v' w', OwnI w' B v' (L ++ [y]) → w.grownBy w' v.ownBlock → (v'.ownBlock = v.ownBlock ∨ v'.ownBlock = some w.heap.size) → wpList Try.prog ops Q rest (a.put o.dst v') w') : wpList Try.prog ops Q (o :: rest) a w := by
  obtain ⟨i0, hi, hz0, hz1, hz2⟩ := info_parts info3'
  refine wpList_append_own_at w hgd s x 30 ho B 3 i0 _ 1 8 Try.underlying30 hi hz0 hz1 hz2 rfl (by omega) v L.length _ hs hown ⟨b, 0, none⟩ 1 1 [.int .i64 y] hx rfl ?_ (fun u hu => by simp at hu; subst hu; rfl) (by unfold maxLen; omega) (by omega) hB (fun v' w' h1 h2 _ h4 => h v' w' ?_ h2 h4)
  · intro j u hj
    match j, hj with
    | 0, hj => cases hj; rw [WideShapes.add_plain]; exact h0
  · unfold OwnI
    simpa using h1
end
end Go.Proofs.Ytmbjmibjobpdgaa

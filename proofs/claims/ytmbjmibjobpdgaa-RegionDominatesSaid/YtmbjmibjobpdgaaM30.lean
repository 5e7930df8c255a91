/-
  Rows of ints that grow one by one: the operation in a region that draws its order; a row of rows amid it.
  The landed newWalk, and the library's Clone of rows; isNode, wait.
  A row of ints behind a row of the call's own; slices.Grow of no slice; slices.Concat.
  A bound on a queue's length: different numbers below n are at most n.
-/
import Derived.Test.YtmbjmibjobpdgaaM27
import Derived.Test.YtmbjmibjobpdgaaM29
import Derived.Deep.RegionLaw
import Derived.Test.YtmbjmibjobpdgaaM20
import Derived.Test.YtmbjmibjobpdgaaM05
import Derived.Laws.AppendOwn
import Derived.Shelf.Spec.SlicesGrow
namespace Go.Proofs.Ytmbjmibjobpdgaa
open Go.RowKit

section
variable {ops : Array Oper} {o : Oper} {a : Act} {w : World} {Q : Exit → Act → World → Prop} {K : Act → World → Prop} {E : Prop}
/-- One int behind a row of the call's own, as a region's operation: where the row lies then. -/
theorem step_intAt (hgd : o.guard = none) (T : Nat) (hT : Try.prog.underlying T = some (.slice 3)) (s x : Operand) (ho : o.op = .call { callee := .builtin .append, args := #[s, x], argTypes := #[T, T] })
    (B : Nat) (v : Value) (L : List Int) (hs : a.eval s = v) (hown : OwnI w B v L) (b : Nat) (y : Int) (hx : a.eval x = .slice (some ⟨b, 0, none⟩) 1 1)
    (h0 : w.cell? ⟨b, 0, none⟩ = some (.int .i64 y)) (hlen : L.length ≤ 10000) (hB : B ≤ w.heap.size)
    (h : ∀ v' w', OwnI w' B v' (L ++ [y]) → w.grownBy w' v.ownBlock → (v'.ownBlock = v.ownBlock ∨ v'.ownBlock = some w.heap.size) → K (a.put o.dst v') w') : if Region.wanted o (yielded ops a.tmps) = true then Oper.wp Try.prog o a w K Q else E := by
  have hw : Region.wanted o (yielded ops a.tmps) = true := by simp [Region.wanted, hgd]
  rw [if_pos hw]
  obtain ⟨i0, hi, hz0, hz1, hz2⟩ := info_parts info3'
  obtain ⟨v', w', hr, h2, h3, h4, h5⟩ := run_append_own_at (P := Try.prog) w B T o.type 3 i0 _ 1 8 hT hi hz0 hz1 hz2 rfl (by omega) v L.length _ hown ⟨b, 0, none⟩ 1 1 [.int .i64 y] rfl (by
    intro j u hj
    match j, hj with
    | 0, hj => cases hj; rw [WideShapes.add_plain]; exact h0) (fun u hu => by simp at hu; subst hu; rfl) (by unfold maxLen; omega) (by omega) hB
  unfold Oper.wp execOp
  simp only [ho, resolve, invoke, builtin, Sem.run_bind, Sem.run_pure, Result.andThen_ok, List.map_toArray, List.map_cons, List.map_nil, hs, hx, hr]
  refine h v' w' ?_ h3 h5
  unfold OwnI
  simpa using h2
end
/-- Rows of ints of the call's own in a block of theirs. -/
def Sr (w2 wr : World) (gS m b2 : Nat) (us : Nat → Value) (Ls : Nat → List Int) : Prop := CB wr 30 gS m us ∧ Fam wr b2 us Ls m ∧ Bow b2 gS w2 wr
section
variable {w2 wr w8 : World} {gS m b2 k : Nat} {us : Nat → Value} {Ls : Nat → List Int}
theorem Sr.drew (h : Sr w2 wr gS m b2 us Ls) : Sr w2 wr.drew gS m b2 us Ls := ⟨h.1, h.2.1, h.2.2.os, h.2.2.tape, h.2.2.output, h.2.2.size, h.2.2.block⟩
theorem Sr.congr {Ls' : Nat → List Int} (h : Sr w2 wr gS m b2 us Ls) (he : ∀ t, t < m → Ls' t = Ls t) : Sr w2 wr gS m b2 us Ls' := ⟨h.1, h.2.1.congr he, h.2.2⟩
theorem Sr.cells (h : Sr w2 wr gS m b2 us Ls) (hk : k < m) : wr.cell? ⟨gS, k, none⟩ = some (us k) ∧ wr.frozen? ⟨gS, k, none⟩ = false := ⟨h.1.cell hk, h.1.free k⟩
theorem Sr.alloc (h : Sr w2 wr gS m b2 us Ls) (hb2 : b2 ≤ wr.heap.size) (o : Obj) : Sr w2 (wr.alloc o) gS m b2 us Ls := by
  have hb : Below wr.heap.size wr (wr.alloc o) := (Below.refl _ _).alloc (Nat.le_refl _) _
  exact ⟨h.1.keep hb, h.2.1.below hb, h.2.2.step hb hb2⟩
/-- One row grew: ahead of the store. -/
theorem Sr.grow (h : Sr w2 wr gS m b2 us Ls) (hb2 : b2 ≤ wr.heap.size) (hk : k < m) {x : Int} {v' : Value} (ho : OwnI w8 b2 v' (Ls k ++ [x])) (hg : wr.grownBy w8 (us k).ownBlock) (hat : v'.ownBlock = (us k).ownBlock ∨ v'.ownBlock = some wr.heap.size) :
    (w8.cell? ⟨gS, k, none⟩ = some (us k) ∧ w8.frozen? ⟨gS, k, none⟩ = false) ∧ Sr w2 (w8.setCell ⟨gS, k, none⟩ v') gS m b2 (upd us k v') (upd Ls k (Ls k ++ [x])) := by
  obtain ⟨hc, hf, hb⟩ := h
  have hown := hf.1 k hk
  have hC8 : CB w8 30 gS m us := hc.block (hg.block gS hc.lt (by
    obtain ⟨cs, hcs, _⟩ := hc
    exact hown.ne hcs (by decide)))
  have hB8 : Bow b2 gS w2 w8 := hb.grown hg hb2 (fun j e => .inl (World.ownsRow.lt hown j e).1)
  have hF8 := hf.grow hk ho hg hat
  exact ⟨⟨hC8.cell hk, hC8.free k⟩, hC8.set k v', hF8.set hC8, hB8.set k v'⟩
end
end Go.Proofs.Ytmbjmibjobpdgaa
namespace Go.Proofs.Ytmbjmibjobpdgaa
open Go.RowKit

theorem qT38 (w : World) (a : Option Addr) (n c n' c' : Nat) : (binOp .eql 38 (.slice a n c) (.slice none n' c')).run Try.prog w = .ok (.bool a.isNone) w := Lib.run_eql_slice_nil w _ _ a n c n' c' Try.underlying38
/-- A row of rows, cell by cell. -/
theorem LieR.us {w : World} {lim n : Nat} {g o : Nat} {Ls : Nat → List Int} (h : ∀ t, t < n → ∃ B c, w.cell? ⟨g, o + t, none⟩ = some (.slice B (Ls t).length c) ∧ LieI w lim B (Ls t)) : ∃ us : Nat → Value, (∀ t, t < n → w.cell? ⟨g, o + t, none⟩ = some (us t)) ∧ ∀ t, t < n → ∃ B c, us t = .slice B (Ls t).length c ∧ LieI w lim B (Ls t) := by
  have key : ∀ t, ∃ u : Value, t < n → w.cell? ⟨g, o + t, none⟩ = some u ∧ ∃ B c, u = .slice B (Ls t).length c ∧ LieI w lim B (Ls t) := fun t => by
    by_cases ht : t < n
    · obtain ⟨B, c, h1, h2⟩ := h t ht
      exact ⟨_, fun _ => ⟨h1, B, c, rfl, h2⟩⟩
    · exact ⟨.bool false, fun h => absurd h ht⟩
  exact ⟨fun t => (key t).choose, fun t ht => ((key t).choose_spec ht).1, fun t ht => ((key t).choose_spec ht).2⟩
/-- Rows of ints that may be read at a slice, none longer than its room. -/
def LieC (w : World) (lim : Nat) (A : Option Addr) (n : Nat) (R : Nat → List Nat) : Prop :=
  0 < n → ∃ g o, A = some ⟨g, o, none⟩ ∧ g < lim ∧ ∀ t, t < n → ∃ B c, w.cell? ⟨g, o + t, none⟩ = some (.slice B (R t).length c) ∧ (R t).length ≤ c ∧ LieI w lim B (ofNs (R t))
theorem LieC.lie {w : World} {lim n : Nat} {A : Option Addr} {R : Nat → List Nat} (h : LieC w lim A n R) : LieR w lim A n (fun t => ofNs (R t)) := fun h0 => by
  obtain ⟨g, o, e, hg, hx⟩ := h h0
  refine ⟨g, o, e, hg, fun t ht => ?_⟩
  obtain ⟨B, c, h1, _, h3⟩ := hx t ht
  exact ⟨B, c, by rw [ofN_len]; exact h1, h3⟩
theorem LieC.keep {w w' : World} {lim n : Nat} {A : Option Addr} {R : Nat → List Nat} (h : LieC w lim A n R) (hb : Below lim w w') : LieC w' lim A n R := fun h0 => by
  obtain ⟨g, o, e, hg, hx⟩ := h h0
  refine ⟨g, o, e, hg, fun t ht => ?_⟩
  obtain ⟨B, c, h1, h2, h3⟩ := hx t ht
  exact ⟨B, c, (hb.cell (p := ⟨g, o + t, none⟩) hg).trans h1, h2, h3.keep fun k j hk => hb.cell (p := ⟨k, j, none⟩) hk⟩
theorem OwnI.openC {w : World} {B : Nat} {v : Value} {L : List Int} (h : OwnI w B v L) : ∃ A c, v = .slice A L.length c ∧ L.length ≤ c ∧ LieI w w.heap.size A L := by
  have hl := h.lie
  rcases id h.2 with ⟨rfl, h0⟩ | ⟨g, cap, cur, rfl, _, hh, h1, h2, h3, h4⟩
  · exact ⟨none, 0, by rw [h0], by omega, fun h => by omega⟩
  · obtain ⟨A, c, e, hl⟩ := hl
    injection e with e1 e2 e3
    subst e1
    exact ⟨_, cap, rfl, h1, hl⟩
theorem own_empty (w : World) : (w.alloc (.cells #[] 30)).ownsRow w.heap.size 30 1 (.slice (some ⟨w.heap.size, 0, none⟩) 0 0) 0 [] :=
  ⟨rfl, .inr ⟨w.heap.size, 0, #[], rfl, Nat.le_refl _, heap_alloc_new w _, Nat.le_refl _, Nat.zero_le _, rfl, rfl⟩⟩
theorem CB.of_row {w : World} {B m : Nat} {v : Value} {us : Nat → Value} (h : w.ownsRow B 30 1 v m ((List.range m).map us)) : ∃ A c, v = .slice A m c ∧ (0 < m → ∃ g, A = some ⟨g, 0, none⟩ ∧ B ≤ g ∧ CB w 30 g m us) := by
  rcases id h.2 with ⟨rfl, rfl⟩ | ⟨g, cap, cur, rfl, hb, hh, h1, h2, h3, h4⟩
  · exact ⟨none, 0, rfl, fun h => by omega⟩
  · refine ⟨some ⟨g, 0, none⟩, cap, rfl, fun _ => ⟨g, rfl, hb, cur, hh, by omega, fun i hi => ?_⟩⟩
    have := congrArg (fun l : List Value => l[i]?) h4
    simp only [Nat.mul_one] at this
    rw [List.getElem?_take, if_pos hi, Array.getElem?_toList, List.getElem?_map, List.getElem?_range hi] at this
    exact this
set_option maxRecDepth 20000 in
set_option maxHeartbeats 1000000 in
theorem clone_any {w : World} {g o m c : Nat} {us : Nat → Value} (hc : ∀ t, t < m → w.cell? ⟨g, o + t, none⟩ = some (us t)) (hone : ∀ t, t < m → (us t).oneCell' = true) (hg : g < w.heap.size) (hm : m ≤ 1000) :
    Calls Try.prog 67 #[.slice (some ⟨g, o, none⟩) m c] w fun e w' => ∃ A co, e = .returned (.slice A m co) ∧ (0 < m → ∃ go, A = some ⟨go, 0, none⟩ ∧ w.heap.size ≤ go ∧ CB w' 30 go m us) ∧ Below w.heap.size w w' := by
  have q := qT38
  obtain ⟨i0, hi, hz0, hz1, hz2⟩ := info_parts info30'
  have HO := Lib.hid (own_empty w)
  have hnews : ∀ j u, ((List.range m).map us)[j]? = some u → (w.alloc (.cells #[] 30)).cell? ((⟨g, o, none⟩ : Addr).add j) = some u := fun j u hj => by
    have hjm : j < m := by have := (List.getElem?_eq_some_iff.1 hj).1; simpa using this
    rw [List.getElem?_map, List.getElem?_range hjm] at hj
    rw [WideShapes.add_plain, ((Below.refl _ w).alloc (Nat.le_refl _) (.cells #[] 30)).cell (p := ⟨g, o + j, none⟩) hg, hc j hjm]
    exact hj
  have HN := Lib.hid hnews
  have H1 : Hid (∀ u ∈ (List.range m).map us, u.oneCell' = true) := Lib.hid fun u hu => by
    obtain ⟨t, ht, rfl⟩ := List.mem_map.1 hu
    exact hone t (List.mem_range.1 ht)
  have hlen : ((List.range m).map us).length = m * 1 := by simp
  clear hc hone hnews
  go_enter Try.func67, Try.ntmps67
  go_wp2_with (refine wpList_append_own_at _ rfl (.tmp 5) (.tmp 6) 38 rfl w.heap.size 30 i0 _ 1 24 Try.underlying38 hi hz0 hz1 hz2 rfl (by omega) _ 0 [] rfl HO.out ⟨g, o, none⟩ m c ((List.range m).map us) rfl hlen HN.out H1.out (by unfold maxLen; omega) (by omega) (by simp) ?_; refine Hid.out ?_)
  refine Lib.hid ?_
  intro v' w8 h1 h2 _ _
  obtain ⟨A, co, rfl, hcb⟩ := CB.of_row h1
  have HF : Hid ((0 < m → ∃ go, A = some ⟨go, 0, none⟩ ∧ w.heap.size ≤ go ∧ CB w8 30 go m us) ∧ Below w.heap.size w w8) := Lib.hid ⟨hcb, ((Below.refl _ w).alloc (Nat.le_refl _) (.cells #[] 30)).grown h2 (by simp) (fun k e => by cases e; exact Nat.le_refl _)⟩
  clear h1 h2 hcb
  go_wp2_with fail
  go_ret
  exact ⟨A, co, rfl, HF.out⟩
end Go.Proofs.Ytmbjmibjobpdgaa
namespace Go.Proofs.Ytmbjmibjobpdgaa
open Go.RowKit

def growI_ren : Go.Shelf.Ren := ⟨fun | 4 => 73 | n => n, fun | 22 => 30 | 25 => 3 | n => n, fun | n => n⟩
theorem growI : Go.Proofs.Lays8.n4 Try.prog growI_ren := {
  mixed := by kernel_rfl
  f4 := ⟨Try.f73.name, by kernel_rfl, Try.func73.trans (congrArg some (by kernel_rfl))⟩
  t0 := Try.underlying0
  a0 := Try.isAgg0
  z0 := Try.sizeOf0
  v0 := Try.zeroValue0
  t3 := Try.underlying3
  a3 := Try.isAgg3
  z3 := Try.sizeOf3
  v3 := Try.zeroValue3
  t4 := Try.underlying4
  a4 := Try.isAgg4
  z4 := Try.sizeOf4
  v4 := Try.zeroValue4
  t9 := Try.underlying9
  a9 := Try.isAgg9
  z9 := Try.sizeOf9
  v9 := Try.zeroValue9
  t20 := Try.underlying20
  a20 := Try.isAgg20
  z20 := Try.sizeOf20
  v20 := Try.zeroValue20
  t22 := Try.underlying30
  a22 := Try.isAgg30
  z22 := Try.sizeOf30
  v22 := Try.zeroValue30 }
/-- Grow of no slice: room for so many. -/
theorem grow_any (n : Nat) (hn : n ≤ 100000) (w : World) : Calls Try.prog 73 #[.slice none 0 0, .int .i64 (n : Int)] w fun e w' => ∃ v, e = .returned v ∧ OwnI w' w.heap.size v [] ∧ Below w.heap.size w w' := by
  by_cases h0 : n = 0
  · subst h0
    refine (Any8.slices_Grow_room growI none 0 0 0 w (Nat.le_refl _) (by omega) (by omega) (by omega)).mono ?_
    rintro e w' ⟨rfl, rfl⟩
    exact ⟨_, rfl, OwnI.nil _ _, Below.refl _ _⟩
  · obtain ⟨i0, hi, hz0, hz1, hz2⟩ := info_parts info3'
    refine (Any8.slices_Grow_grow growI i0 _ hi hz0 (by omega) none 0 0 n [] w (Nat.le_refl _) (by omega) (by rw [hz2]; omega) (by omega) (by simp) (fun _ => rfl) (fun a h => by cases h)).mono ?_
    rintro e w' ⟨rfl, rfl⟩
    refine ⟨_, rfl, ?_, ?_⟩
    · have hle := grownCap_le_maxLen w (0 + n) 0 3 (by unfold maxLen; omega)
      have hge := grownCap_ge w (0 + n) 0 3
      refine ⟨rfl, .inr ⟨w.heap.size, _, _, rfl, Nat.le_refl _, heap_alloc_new w.drew _, Nat.zero_le _, hle, ?_, rfl⟩⟩
      have h1 : (Value.int .i64 0).cells.size = 1 := rfl
      have e : growI_ren.t 25 = 3 := rfl
      simp only [Array.size_append, size_zeroCells, h1, e, Array.size_empty]
      omega
    · have hd : Below w.heap.size w w.drew := ⟨rfl, rfl, rfl, Nat.le_refl _, fun _ _ => rfl⟩
      exact hd.alloc (by simp) _
section
variable {ops : Array Oper} {rest : List Oper} {o : Oper} {a : Act} {w : World} {Q : Exit → Act → World → Prop}
/-- A row that may be read, behind a row of the call's own. -/
theorem wpl_row (hgd : o.guard = none) (s x : Operand) (ho : o.op = .call { callee := .builtin .append, args := #[s, x], argTypes := #[30, 30] })
    (B : Nat) (v : Value) (L : List Int) (hs : a.eval s = v) (hown : OwnI w B v L) (A : Option Addr) (M : List Int) (c lim : Nat) (hx : a.eval x = .slice A M.length c) (hl : LieI w lim A M) (hlen : L.length + M.length ≤ 100000) (hB : B ≤ w.heap.size)
    (h : ∀ v' w', OwnI w' B v' (L ++ M) → w.grownBy w' v.ownBlock → (v'.ownBlock = v.ownBlock ∨ v'.ownBlock = some w.heap.size) → wpList Try.prog ops Q rest (a.put o.dst v') w') : wpList Try.prog ops Q (o :: rest) a w := by
  obtain ⟨i0, hi, hz0, hz1, hz2⟩ := info_parts info3'
  cases M with
  | nil =>
    cases A with
    | none =>
      refine Lib.wpList_append_run w hgd s x 30 30 ho v (.slice none 0 c) hs hx v w ?_ (h v w (by rw [List.append_nil]; exact hown) (grown_refl _ _) (.inl rfl))
      rcases hown.2 with ⟨rfl, _⟩ | ⟨g, cap, cur, rfl, _, _, hnc, _⟩
      · simp [Builtin.append_, run_underlying Try.underlying30, sizeOf, typeInfo, hi, Builtin.lenOf, Builtin.firstCells]
      · simp [Builtin.append_, run_underlying Try.underlying30, sizeOf, typeInfo, hi, Builtin.lenOf, Builtin.firstCells, hnc, storeCells]
    | some ad =>
      refine wpList_append_own_at w hgd s x 30 ho B 3 i0 _ 1 8 Try.underlying30 hi hz0 hz1 hz2 rfl (by omega) v L.length _ hs hown ad 0 c [] hx rfl (fun j u hj => by simp at hj) (fun u hu => by simp at hu) (by unfold maxLen; simp at hlen; omega) (by simp at hlen; omega) hB (fun v' w' h1 h2 _ h4 => h v' w' ?_ h2 h4)
      unfold OwnI
      simpa using h1
  | cons y M =>
    obtain ⟨g, oo, rfl, hg, hcs⟩ := hl (by simp)
    refine wpList_append_own_at w hgd s x 30 ho B 3 i0 _ 1 8 Try.underlying30 hi hz0 hz1 hz2 rfl (by omega) v L.length _ hs hown ⟨g, oo, none⟩ (y :: M).length c ((y :: M).map (Value.int .i64)) hx (by simp) ?_ (fun u hu => by obtain ⟨z, _, rfl⟩ := List.mem_map.1 hu; rfl) (by unfold maxLen; omega) (by omega) hB (fun v' w' h1 h2 _ h4 => h v' w' ?_ h2 h4)
    · intro j u hj
      rw [List.getElem?_map] at hj
      obtain ⟨z, hz, rfl⟩ := Option.map_eq_some_iff.1 hj
      obtain ⟨hlt, he⟩ := List.getElem?_eq_some_iff.1 hz
      rw [WideShapes.add_plain, ← he]
      exact hcs j hlt
    · unfold OwnI
      rw [List.length_append, List.map_append]
      exact h1
end
/-- The first k rows, one behind the other. -/
def catL (Ls : Nat → List Int) (k : Nat) : List Int := (List.range k).flatMap Ls
theorem catL_succ (Ls : Nat → List Int) (k : Nat) : catL Ls (k + 1) = catL Ls k ++ Ls k := by simp [catL, List.range_succ]
theorem catL_le (Ls : Nat → List Int) {k m : Nat} (h : k ≤ m) : (catL Ls k).length ≤ (catL Ls m).length := by
  induction m with
  | zero => obtain rfl : k = 0 := by omega
            exact Nat.le_refl _
  | succ m ih =>
    rcases Nat.lt_or_ge k (m + 1) with h1 | h1
    · have := ih (by omega)
      rw [catL_succ, List.length_append]; omega
    · obtain rfl : k = m + 1 := by omega
      exact Nat.le_refl _
set_option maxRecDepth 20000 in
set_option maxHeartbeats 2000000 in
theorem concat_any {w : World} {lim m c : Nat} {A : Option Addr} {Ls : Nat → List Int} (hR : LieR w lim A m Ls) (hlim : lim ≤ w.heap.size) (hm : m ≤ 1000) (hlen : (catL Ls m).length ≤ 100000) :
    Calls Try.prog 44 #[.slice A m c] w fun e w' => ∃ v, e = .returned v ∧ OwnI w' w.heap.size v (catL Ls m) ∧ Below w.heap.size w w' := by
  have HR := Lib.hid hR
  have HL : Hid (∀ k, k ≤ m → (catL Ls k).length ≤ 100000) := Lib.hid fun k hk => Nat.le_trans (catL_le Ls hk) hlen
  clear hR hlen
  go_enter Try.func44, Try.ntmps44
  go_wp2_with fail
  go_loopw [3, 11] (fun sv kv wr => ∃ k : Nat, k ≤ m ∧ kv = .int .i64 k ∧ sv = .int .i64 ((catL Ls k).length : Int) ∧ wr = w) (fun _ kv _ => m - (intOf kv).toNat)
  case atStart => exact ⟨0, Nat.zero_le _, rfl, rfl, rfl⟩
  case round =>
    obtain ⟨k, hk, rfl, rfl, rfl⟩ := hrel
    by_cases hlt : k < m
    · obtain ⟨g, oo, rfl, hg, hrow⟩ := HR.out (by omega)
      obtain ⟨B, cb, y0, _⟩ := hrow k hlt
      have hl1 := HL.out (k + 1) (by omega)
      have hls := catL_succ Ls k
      have hn1 : ((catL Ls (k + 1)).length : Int) = (catL Ls k).length + (Ls k).length := by rw [hls, List.length_append]; omega
      obtain ⟨s1, hs1⟩ : ∃ s1, s1 = (catL Ls (k + 1)).length := ⟨_, rfl⟩
      have HS1 := Lib.hid hs1
      rw [← hs1] at hl1 hn1
      clear hs1 hls
      generalize (catL Ls k).length = s0 at *
      generalize (Ls k).length = r0 at *
      have n0 : ¬ ((s0 : Int) + (r0 : Int) < 0) := by omega
      go_wp2_with fail
      go_roundw
      case rel => exact ⟨k + 1, by omega, by go_num, by rw [← HS1.out, hn1], trivial⟩
      case measure => simp [intOf]; omega
    · obtain rfl : m = k := by omega
      obtain ⟨w0, rfl⟩ : ∃ w0, w0 = wr := ⟨wr, rfl⟩
      have hn := HL.out m (Nat.le_refl _)
      obtain ⟨s0, hs0⟩ : ∃ s0, s0 = (catL Ls m).length := ⟨_, rfl⟩
      rw [← hs0] at hn ⊢
      clear hs0
      go_wp2_with (first
        | (go_at_call 73; refine (grow_any s0 hn _).mono ?_; rintro e w1 ⟨v, rfl, ho, hb⟩; have HO := Lib.hid ho; have HB := Lib.hid hb; clear ho hb)
        | fail)
      have hsz1 : w0.heap.size ≤ w1.heap.size := HB.out.size
      have S0 : Hid (OwnI w1 w0.heap.size v (catL Ls 0) ∧ Below w0.heap.size w0 w1) := Lib.hid ⟨HO.out, HB.out⟩
      obtain ⟨A1, c1, rfl⟩ := HO.out.open
      clear HO
      go_wp2_with fail
      go_loopw [6, 27] (fun vv kv w2 => ∃ k : Nat, k ≤ m ∧ kv = .int .i64 k ∧ Hid (OwnI w2 w0.heap.size vv (catL Ls k) ∧ Below w0.heap.size w0 w2)) (fun _ kv _ => m - (intOf kv).toNat)
      case atStart => exact ⟨0, Nat.zero_le _, rfl, S0⟩
      case round =>
        clear S0
        obtain ⟨k, hk, rfl, hr⟩ := hrel
        obtain ⟨hO, hB⟩ := hr.out
        obtain ⟨A2, c2, rfl⟩ := hO.open
        by_cases hlt : k < m
        · obtain ⟨g, oo, rfl, hg, hrow⟩ := HR.out (by omega)
          obtain ⟨B, cb, y0, hli⟩ := hrow k hlt
          have y1 : wr.cell? ⟨g, oo + k, none⟩ = some (.slice B (Ls k).length cb) := (hB.cell (p := ⟨g, oo + k, none⟩) (show g < _ by omega)).trans y0
          have HLI : Hid (LieI wr lim B (Ls k)) := Lib.hid (hli.keep fun g o hg => hB.cell (p := ⟨g, o, none⟩) (show g < _ by omega))
          have hl1 := HL.out (k + 1) (by omega)
          rw [catL_succ, List.length_append] at hl1
          have HO := Lib.hid hO
          have HLL := Lib.hid hl1
          have hsz : Hid (w0.heap.size ≤ wr.heap.size) := Lib.hid hB.size
          have HST : Hid (∀ v' w3, OwnI w3 w0.heap.size v' (catL Ls k ++ Ls k) → wr.grownBy w3 (Value.slice A2 (catL Ls k).length c2).ownBlock → OwnI w3 w0.heap.size v' (catL Ls (k + 1)) ∧ Below w0.heap.size w0 w3) := Lib.hid fun v' w3 h1 h2 => by
            rw [catL_succ]
            exact ⟨h1, hB.grown h2 hB.size fun j e => (World.ownsRow.lt hO j e).1⟩
          clear hO hB hr hrow y0 hli hl1
          go_wp2_with (refine wpl_row rfl (.tmp 31) (.tmp 32) rfl w0.heap.size _ (catL Ls k) rfl HO.out B (Ls k) cb lim rfl HLI.out HLL.out hsz.out ?_; refine Hid.out ?_)
          refine Lib.hid ?_
          intro v' w3 ho hg3 _
          have HR2 := Lib.hid (HST.out v' w3 ho hg3)
          obtain ⟨A3, c3, rfl⟩ := ho.open
          clear ho hg3 HST HO HLI HLL y1
          go_wp2_with fail
          refine ⟨⟨_, _, _, _, _, _, _, _, _, _, ?rel, rfl⟩, ?measure⟩
          case rel => exact ⟨k + 1, by omega, by go_num, HR2⟩
          case measure => simp [intOf]; omega
        · obtain rfl : m = k := by omega
          have HO := Lib.hid hO
          have HB2 := Lib.hid hB
          clear hO hB hr
          go_wp2_with fail
          go_ret
          exact ⟨_, rfl, HO.out, HB2.out⟩
end Go.Proofs.Ytmbjmibjobpdgaa
namespace Go.Proofs.Ytmbjmibjobpdgaa

theorem nodup_bound : ∀ (n : Nat) (l : List Nat), l.Nodup → (∀ x ∈ l, x < n) → l.length ≤ n
  | 0, l, _, h => by
    cases l with
    | nil => exact Nat.le_refl _
    | cons a l => exact absurd (h a (by simp)) (by omega)
  | n + 1, l, hn, h => by
    have h1 := nodup_bound n (l.filter fun x => decide (x ≠ n)) (hn.filter _) (fun x hx => by
      obtain ⟨a, b⟩ := List.mem_filter.1 hx
      have := h x a
      have : x ≠ n := by simpa using b
      omega)
    have h2 : l.length ≤ (l.filter fun x => decide (x ≠ n)).length + l.count n := by
      have := List.length_eq_countP_add_countP (fun x => decide (x ≠ n)) (l := l)
      rw [List.countP_eq_length_filter] at this
      have e : l.countP (fun a => decide ¬ decide (a ≠ n) = true) = l.count n := by
        unfold List.count
        refine List.countP_congr fun x _ => ?_
        simp
      omega
    have h3 : l.count n ≤ 1 := List.nodup_iff_count.1 hn n
    omega
theorem Numbs.bound {f : Nat → Int} {m n : Nat} {Q : Int → Prop} (h : Numbs f m Q) (hq : ∀ x, Q x → 0 ≤ x ∧ x < (n : Int)) : m ≤ n := by
  have hb : ∀ k, k < m → 0 ≤ f k ∧ f k < (n : Int) := fun k hk => hq _ ((h.1 _).2 ⟨k, hk, rfl⟩)
  have := nodup_bound n ((List.range m).map fun k => (f k).toNat) (by
    refine List.Pairwise.map _ (R := fun a b => a < m ∧ b < m ∧ a ≠ b) (fun a b ⟨ha, hb2, hne⟩ e => hne (h.2 a b ha hb2 (by
      have := hb a ha
      have := hb b hb2
      omega))) ?_
    refine List.Pairwise.imp_of_mem (fun {a b} ha hb2 hne => ⟨List.mem_range.1 ha, List.mem_range.1 hb2, hne⟩) List.nodup_range) (fun x hx => by
    obtain ⟨k, hk, rfl⟩ := List.mem_map.1 hx
    have := hb k (List.mem_range.1 hk)
    omega)
  simpa using this
end Go.Proofs.Ytmbjmibjobpdgaa

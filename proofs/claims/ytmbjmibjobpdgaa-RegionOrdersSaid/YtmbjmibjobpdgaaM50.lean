/-
  What the landed Dominators keeps amid its loop; the library's Reverse of a row of the call's own.
-/
import Derived.Test.YtmbjmibjobpdgaaM47
import Derived.Test.YtmbjmibjobpdgaaM48
import Derived.Test.YtmbjmibjobpdgaaM30
import Derived.Test.YtmbjmibjobpdgaaM49
import Derived.Test.YtmbjmibjobpdgaaM39
namespace Go.Proofs.Ytmbjmibjobpdgaa
open Go.RowKit Go.Shelf

theorem setCells_kept (g : Nat) : ∀ (vs : List Value) (o : Nat) (w : World), (w.setCells g o vs).os = w.os ∧ (w.setCells g o vs).tape = w.tape ∧ (w.setCells g o vs).output = w.output ∧ (w.setCells g o vs).heap.size = w.heap.size ∧ ∀ k, k ≠ g → (w.setCells g o vs).heap[k]? = w.heap[k]?
  | [], _, _ => ⟨rfl, rfl, rfl, rfl, fun _ _ => rfl⟩
  | v :: vs, o, w => by
    obtain ⟨h1, h2, h3, h4, h5⟩ := setCells_kept g vs (o + 1) (w.setCell ⟨g, o, none⟩ v)
    exact ⟨h1, h2, h3, h4.trans (World.size_setCell _ _ _), fun k hk => (h5 k hk).trans (Below.heap_setCell _ ⟨g, o, none⟩ _ _ hk)⟩
theorem rev_own {w : World} {B n c : Nat} {A : Option Addr} {L : List Int} (h : OwnI w B (.slice A n c) L) (hlen : L.length ≤ 100000) (h0 : 0 < L.length) : Calls Try.prog 40 #[.slice A n c] w fun e w' => e = .returned (.tuple #[]) ∧ ∃ g, A = some ⟨g, 0, none⟩ ∧ n = L.length ∧ B ≤ g ∧ g < w'.heap.size ∧ (∀ j (hj : j < L.reverse.length), w'.cell? ⟨g, 0 + j, none⟩ = some (.int .i64 L.reverse[j])) ∧ w.grownBy w' (some g) := by
  obtain ⟨hn, hl⟩ := h.lieAt
  subst hn
  rcases id h.2 with ⟨e1, h2⟩ | ⟨g, cap, cur, e, hB, hh, c1, c2, c3, c4⟩
  · omega
  · injection e with e1 e2 e3
    subst e1 e3
    obtain ⟨g', o', e', _, hx⟩ := hl h0
    injection e' with e'
    injection e' with e1 e2
    subst e1 e2
    refine (lib_slices_Reverse_int_cells g 0 L.length c L w (Nat.le_refl _) (by omega) (fun j hj => ?_) (fun j hj => frozen_of_heap hh _)).mono ?_
    · rw [hx j hj]
      simp [List.getD, List.getElem?_eq_getElem hj]
    · rintro e w' ⟨rfl, q, rfl⟩
      rw [List.take_length]
      obtain ⟨k1, k2, k3, k4, k5⟩ := setCells_kept g (L.reverse.map (Value.int .i64)) 0 (w.drewN q)
      refine ⟨rfl, g, rfl, rfl, hB, by rw [k4]; exact row_lt hh, fun j hj => ?_, ⟨k1, k2, k3, by rw [k4]; exact Nat.le_refl _, fun k _ hk => k5 k (fun e => hk (by rw [e]))⟩⟩
      have hj2 : j < (L.reverse.map (Value.int .i64)).length := by simpa using hj
      rw [World.cell?_setCells_in g (L.reverse.map (Value.int .i64)) 0 (w.drewN q) (fun i hi => ?_) j hj2]
      · simp
      · have hi2 : i < L.length := by simpa using hi
        show (w.cell? ⟨g, 0 + i, none⟩).isSome = true
        rw [hx i hi2]; rfl
/-- A list's slice: nil, or a row at lo or above. -/
def DRow (w : World) (lo : Nat) (u : Value) (L : List Int) : Prop := (L = [] ∧ u = .slice none 0 0) ∨ ∃ g c, u = .slice (some ⟨g, 0, none⟩) L.length c ∧ 0 < L.length ∧ L.length ≤ c ∧ lo ≤ g ∧ g < w.heap.size ∧ ∀ j (hj : j < L.length), w.cell? ⟨g, 0 + j, none⟩ = some (.int .i64 L[j])
theorem OwnI.drow {w : World} {B lo : Nat} {v : Value} {L : List Int} (h : OwnI w B v L) (hlo : lo ≤ B) (h0 : 0 < L.length) : DRow w lo v L := by
  rcases id h.2 with ⟨e1, h2⟩ | ⟨g, cap, cur, e, hB, hh, c1, c2, c3, c4⟩
  · omega
  · subst e
    obtain ⟨_, hl⟩ := h.lieAt
    obtain ⟨g', o', e', _, hx⟩ := hl h0
    injection e' with e'
    injection e' with e1 e2
    subst e1 e2
    exact .inr ⟨g, cap, rfl, h0, c1, by omega, row_lt hh, hx⟩
structure DInv (W wr : World) (gL n : Nat) (us : Nat → Value) (Ls : Nat → List Int) : Prop where
  row : CB wr 30 gL n us
  lie : ∀ i, i < n → DRow wr W.heap.size (us i) (Ls i)
  keep : ∀ k, k < W.heap.size → k ≠ gL → wr.heap[k]? = W.heap[k]?
  os : wr.os = W.os
  tape : wr.tape = W.tape
  out : wr.output = W.output
  size : W.heap.size ≤ wr.heap.size
theorem DRow.step {w w' : World} {lo gL : Nat} {u : Value} {L : List Int} (h : DRow w lo u L) (hg : gL < lo) (hs : w.heap.size ≤ w'.heap.size) (hk : ∀ k, k < w.heap.size → k ≠ gL → w'.heap[k]? = w.heap[k]?) : DRow w' lo u L := by
  rcases h with h | ⟨g, c, e, h0, h1, h2, h3, h4⟩
  · exact .inl h
  · exact .inr ⟨g, c, e, h0, h1, h2, by omega, fun j hj => (World.cell?_of_block (a := ⟨g, 0 + j, none⟩) (hk g h3 (by omega))).trans (h4 j hj)⟩
theorem DInv.step {W wr w1 : World} {gL n : Nat} {us : Nat → Value} {Ls : Nat → List Int} (h : DInv W wr gL n us Ls) (hg : gL < W.heap.size) (hb : Below wr.heap.size wr w1) : DInv W w1 gL n us Ls :=
  ⟨h.row.keep hb, fun i hi => (h.lie i hi).step hg hb.size (fun k hk _ => hb.block k hk), fun k h1 h2 => (hb.block k (by have := h.size; omega)).trans (h.keep k h1 h2), hb.os.trans h.os, hb.tape.trans h.tape, hb.output.trans h.out, Nat.le_trans h.size hb.size⟩
theorem DInv.put {W wr : World} {gL n x : Nat} {us : Nat → Value} {Ls : Nat → List Int} {v : Value} {L : List Int} (h : DInv W wr gL n us Ls) (hg : gL < W.heap.size) (hv : DRow wr W.heap.size v L) :
    DInv W (wr.setCell ⟨gL, x, none⟩ v) gL n (upd us x v) (fun i => if i = x then L else Ls i) := by
  have hk : ∀ k, k ≠ gL → (wr.setCell ⟨gL, x, none⟩ v).heap[k]? = wr.heap[k]? := fun k hk => Below.heap_setCell _ ⟨gL, x, none⟩ _ _ hk
  have hs : wr.heap.size ≤ (wr.setCell ⟨gL, x, none⟩ v).heap.size := by rw [World.size_setCell]; exact Nat.le_refl _
  refine ⟨h.row.set x v, fun i hi => ?_, fun k h1 h2 => (hk k h2).trans (h.keep k h1 h2), h.os, h.tape, h.out, Nat.le_trans h.size hs⟩
  unfold upd
  by_cases e : i = x
  · rw [if_pos e, if_pos e]
    exact hv.step hg hs (fun k _ => hk k)
  · rw [if_neg e, if_neg e]
    exact (h.lie i hi).step hg hs (fun k _ => hk k)
theorem DInv.ends {w W wr : World} {gL n : Nat} {us : Nat → Value} {Ls Ms : Nat → List Int} (h : DInv W wr gL n us Ls) (hb : Below w.heap.size w W) (hg : w.heap.size ≤ gL) (he : ∀ i, i < n → Ls i = Ms i) : LieR wr wr.heap.size (some ⟨gL, 0, none⟩) n Ms ∧ Below w.heap.size w wr := by
  refine ⟨fun _ => ⟨gL, 0, rfl, h.row.lt, fun i hi => ?_⟩, ⟨h.os.trans hb.os, h.tape.trans hb.tape, h.out.trans hb.output, Nat.le_trans hb.size h.size, fun k hk => (h.keep k (by have := hb.size; omega) (by omega)).trans (hb.block k hk)⟩⟩
  have hc := h.row.cell hi
  rw [Nat.zero_add, hc, ← he i hi]
  rcases h.lie i hi with ⟨e1, e2⟩ | ⟨g, c, e, h0, h1, h2, h3, h4⟩
  · exact ⟨none, 0, by rw [e1, e2]; rfl, fun h => by rw [e1] at h; simp at h⟩
  · exact ⟨_, c, by rw [e], fun _ => ⟨g, 0, rfl, h3, h4⟩⟩
theorem DInv.start {W : World} {gL n : Nat} {E : Array Value} (h : W.heap[gL]? = some (.cells E 30 (0, 0))) (hE : E = madeCells #[.slice none 0 0] n) : DInv W W gL n (fun _ => .slice none 0 0) (fun _ => []) := by
  subst hE
  refine ⟨⟨_, h, by rw [size_madeCells]; exact Nat.le_refl _, fun i hi => ?_⟩, fun _ _ => .inl ⟨rfl, rfl⟩, fun _ _ _ => rfl, rfl, rfl, rfl, Nat.le_refl _⟩
  have hlt : i < (madeCells #[Value.slice none 0 0] n).size := by rw [size_madeCells]; exact hi
  rw [Array.getElem?_eq_getElem hlt]
  simp [madeCells, Nat.mod_one]
theorem DInv.start2 {W : World} {gL n : Nat} (h : CB W 30 gL n (fun _ => .slice none 0 0)) : DInv W W gL n (fun _ => .slice none 0 0) (fun _ => []) :=
  ⟨h, fun _ _ => .inl ⟨rfl, rfl⟩, fun _ _ _ => rfl, rfl, rfl, rfl, Nat.le_refl _⟩
theorem LieI.mono {w : World} {lim lim' : Nat} {A : Option Addr} {L : List Int} (h : LieI w lim A L) (hl : lim ≤ lim') : LieI w lim' A L := fun h0 => by
  obtain ⟨g, o, e, hg, hx⟩ := h h0
  exact ⟨g, o, e, by omega, hx⟩
theorem LieR.mono {w : World} {lim lim' n : Nat} {A : Option Addr} {Ls : Nat → List Int} (h : LieR w lim A n Ls) (hl : lim ≤ lim') : LieR w lim' A n Ls := fun h0 => by
  obtain ⟨g, o, e, hg, hx⟩ := h h0
  refine ⟨g, o, e, by omega, fun t ht => ?_⟩
  obtain ⟨B, c, h1, h2⟩ := hx t ht
  exact ⟨B, c, h1, h2.mono hl⟩
theorem srcN_few {G : GT} (hf : fewB G) (ord : List Nat) (p : Nat) : (srcN G ord p).length ≤ 10000 := by
  unfold srcN
  split
  · rename_i x _
    have := (rows_few hf x).1
    have h2 := List.length_filter_le (fun y => decide (y ∈ ord)) (inN G x)
    rw [List.length_map]
    omega
  · simp
/-- The lists of the first k nodes of the order. -/
def domT (G : GT) (r : Int) (ord : List Nat) (k : Nat) (i : Nat) : List Int := if i ∈ ord.take k then domL G r i else []
theorem domT_succ {G : GT} {r : Int} {ord : List Nat} {k : Nat} (hk : k < ord.length) (i : Nat) : domT G r ord (k + 1) i = if i = ord[k] then domL G r i else domT G r ord k i := by
  unfold domT
  rw [List.take_add_one, List.getElem?_eq_getElem hk]
  by_cases e : i = ord[k]
  · rw [if_pos e, if_pos (List.mem_append.2 (.inr (by rw [Option.toList, e]; exact List.mem_singleton.2 rfl)))]
  · rw [if_neg e]
    have h : i ∈ ord.take k ++ (some ord[k]).toList ↔ i ∈ ord.take k := by
      rw [List.mem_append, Option.toList, List.mem_singleton]
      exact ⟨fun h => h.resolve_right e, .inl⟩
    simp only [h]
/-- Three rows, one behind the other. -/
def row3 (a b c : List Int) (t : Nat) : List Int := if t = 0 then a else if t = 1 then b else c
theorem catL_row3 (a b c : List Int) : catL (row3 a b c) 3 = a ++ b ++ c := by
  simp [catL, List.range_succ, row3]
theorem lie3 {W : World} {A1 A3 : Option Addr} {c1 c3 : Nat} {L1 L3 : List Int} {x : Int} (h1 : LieI W W.heap.size A1 L1) (h3 : LieI W W.heap.size A3 L3) :
    LieR ((W.alloc (.cells #[.int .i64 x] 3)).alloc (.cells #[.slice A1 L1.length c1, .slice (some ⟨W.heap.size, 0, none⟩) 1 1, .slice A3 L3.length c3] 30)) ((W.alloc (.cells #[.int .i64 x] 3)).alloc (.cells #[.slice A1 L1.length c1, .slice (some ⟨W.heap.size, 0, none⟩) 1 1, .slice A3 L3.length c3] 30)).heap.size (some ⟨W.heap.size + 1, 0, none⟩) 3 (row3 L1 [x] L3) := fun _ => by
  have b1 : Below W.heap.size W (W.alloc (.cells #[.int .i64 x] 3)) := (Below.refl _ _).alloc (Nat.le_refl _) _
  have b2 : Below (W.alloc (.cells #[.int .i64 x] 3)).heap.size (W.alloc (.cells #[.int .i64 x] 3)) ((W.alloc (.cells #[.int .i64 x] 3)).alloc (.cells #[.slice A1 L1.length c1, .slice (some ⟨W.heap.size, 0, none⟩) 1 1, .slice A3 L3.length c3] 30)) := (Below.refl _ _).alloc (Nat.le_refl _) _
  have r1 := heap_alloc_new W (.cells #[.int .i64 x] 3)
  have r2 := heap_alloc_new (W.alloc (.cells #[.int .i64 x] 3)) (.cells #[.slice A1 L1.length c1, .slice (some ⟨W.heap.size, 0, none⟩) 1 1, .slice A3 L3.length c3] 30)
  have s1 : (W.alloc (.cells #[.int .i64 x] 3)).heap.size = W.heap.size + 1 := by simp
  have r12 := (b2.block W.heap.size (by omega)).trans r1
  have b12 := b1.trans (b2.mono b1.size)
  have hz := b2.size
  have k1 := (h1.keep fun g o hg => b12.cell (p := ⟨g, o, none⟩) hg).mono b12.size
  have k3 := (h3.keep fun g o hg => b12.cell (p := ⟨g, o, none⟩) hg).mono b12.size
  rw [s1] at r2
  refine ⟨W.heap.size + 1, 0, rfl, row_lt r2, fun t ht => ?_⟩
  generalize (W.alloc (.cells #[.int .i64 x] 3)).alloc (.cells #[.slice A1 L1.length c1, .slice (some ⟨W.heap.size, 0, none⟩) 1 1, .slice A3 L3.length c3] 30) = W2 at *
  rw [cell_of_row _ _ _ _ _ (0, 0) r2]
  match t, ht with
  | 0, _ => exact ⟨A1, c1, rfl, k1⟩
  | 1, _ => exact ⟨_, 1, rfl, fun _ => ⟨W.heap.size, 0, rfl, by omega, fun i hi => by
      have : i = 0 := by simp [row3] at hi; omega
      subst this
      rw [cell_of_row _ _ _ _ _ (0, 0) r12]; rfl⟩⟩
  | 2, _ => exact ⟨A3, c3, rfl, k3⟩
theorem domL_sorted (G : GT) (r : Int) (t : Nat) : (domL G r t).Pairwise (· ≤ ·) := by
  unfold domL domK
  refine List.pairwise_map.2 (List.Pairwise.filter _ ?_)
  exact List.pairwise_lt_range.imp fun h => by omega
theorem domL_len (G : GT) (r : Int) (t : Nat) : (domL G r t).length ≤ G.n := by
  unfold domL domK
  rw [List.length_map]
  exact Nat.le_trans (List.length_filter_le _ _) (by simp)
section
variable {G : GT} {r : Nat} {ord : List Nat} {o : Nat → Int}
/-- The list of a node of the order, out of its next one's. -/
theorem domL_over (hr : r < G.n) (hR : Rpo G r ord) (hO : Ov (srcN G ord) ord.length o) (hk : AllK ord.length o) (hc : Chk (srcN G ord) ord.length o) {p : Nat} (hp : p < ord.length) (h0 : 0 < p) :
    ∃ y q, q < p ∧ (q : Int) = o p ∧ ord[q]? = some y ∧ domT G r ord p y = domL G r y ∧ (domL G r y).take ((domL G r y).countP (· < (ord[p] : Int))) ++ [(ord[p] : Int)] ++ (domL G r y).drop ((domL G r y).countP (· < (ord[p] : Int))) = domL G r ord[p] := by
  obtain ⟨y, h1, h2, h3, h4⟩ := dom_over hr hR hO hk hc hp h0
  obtain ⟨k1, k2, k3, k4⟩ := hO.known hp (hk p hp)
  have hx : ord[p] < G.n := by
    have := (hR.mem ord[p]).1 (List.getElem_mem hp)
    rcases this with h | h
    · rw [h]; exact hr
    · exact h.lt.2
  refine ⟨y, (o p).toNat, h1, by omega, h2, ?_, put_in hx h3 h4⟩
  unfold domT
  rw [if_pos]
  obtain ⟨hq, e⟩ := List.getElem?_eq_some_iff.1 h2
  rw [← e]
  exact List.mem_take_iff_getElem.2 ⟨(o p).toNat, by omega, rfl⟩
theorem domL_first (hr : r < G.n) (hR : Rpo G r ord) (hO : Ov (srcN G ord) ord.length o) (hk : AllK ord.length o) (h0 : 0 < ord.length) : o 0 = 0 ∧ ord[0] = r ∧ domT G r ord 0 r = [] ∧ domL G r r = [(r : Int)] := by
  obtain ⟨k1, k2, k3, k4⟩ := hO.known h0 (hk 0 h0)
  refine ⟨?_, ?_, by simp [domT], ?_⟩
  · exact hO.zero
  · have := hR.first
    rw [List.getElem?_eq_getElem h0] at this
    injection this
  · have h := put_in (n := G.n) (x := r) (f := fun _ => false) (g := fun d => domB G r d r) hr (fun d => by rw [dom_first hr hR]; simp) rfl
    have hn : (List.range G.n).filter (fun _ => false) = [] := List.filter_eq_nil_iff.2 fun _ _ => by simp
    rw [hn] at h
    unfold domL domK
    exact h.symm
end
end Go.Proofs.Ytmbjmibjobpdgaa

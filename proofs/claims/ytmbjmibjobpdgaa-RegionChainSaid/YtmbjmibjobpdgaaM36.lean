/-
  One int more in a row out, in a row in: what the drawn regions of graphOf need.
  The landed order.
-/
import Derived.Test.YtmbjmibjobpdgaaM35
import Derived.Test.YtmbjmibjobpdgaaM34
namespace Go.Proofs.Ytmbjmibjobpdgaa
open Go.RowKit

section
variable {w2 wr : World} {gO gI n B p : Nat} {us : Nat → Value} {Ls : Nat → List Int} {x : Int}
theorem grow_keeps {W w8 : World} {v v' : Value} {L : List Int} (hown : OwnI W B v L) (hg : W.grownBy w8 v.ownBlock) {g i : Nat} {b : Nat} {cs : Array Value} {T : TypeId} (hb : W.heap[b]? = some (.cells cs T (0, 0))) (hT : T ≠ 3) (hne : b ≠ g) :
    w8.heap[b]? = some (.cells cs T (0, 0)) ∧ (w8.setCell ⟨g, i, none⟩ v').heap[b]? = some (.cells cs T (0, 0)) := by
  have h8 : w8.heap[b]? = some (.cells cs T (0, 0)) := by rw [hg.block b (row_lt hb) (hown.ne hb hT)]; exact hb
  exact ⟨h8, (Below.heap_setCell _ ⟨g, i, none⟩ _ _ hne).trans h8⟩
theorem alloc_drew_keeps {W : World} (o : Obj) {b : Nat} {x : Obj} (hb : W.heap[b]? = some x) : (W.alloc o).drew.heap[b]? = some x := by
  show (W.alloc o).heap[b]? = some x
  rw [((Below.refl W.heap.size W).alloc (Nat.le_refl _) o).block b (row_lt hb)]
  exact hb
theorem regO (h : Sg w2 wr gO gI n B us Ls) (hB : B ≤ wr.heap.size) (hp : p < n) :
    OwnI (wr.alloc (.cells #[.int .i64 x] 3)).drew B (us p) (Ls p) ∧ (wr.alloc (.cells #[.int .i64 x] 3)).drew.cell? ⟨wr.heap.size, 0, none⟩ = some (.int .i64 x) ∧ B ≤ (wr.alloc (.cells #[.int .i64 x] 3)).drew.heap.size ∧ (wr.drew.cell? ⟨gO, p, none⟩ = some (us p) ∧ (wr.alloc (.cells #[.int .i64 x] 3)).drew.cell? ⟨gO, p, none⟩ = some (us p)) ∧
    ∀ v' w8, OwnI w8 B v' (Ls p ++ [x]) → (wr.alloc (.cells #[.int .i64 x] 3)).drew.grownBy w8 (us p).ownBlock → (v'.ownBlock = (us p).ownBlock ∨ v'.ownBlock = some (wr.alloc (.cells #[.int .i64 x] 3)).drew.heap.size) →
      (∃ A8 n8 c8, v' = .slice A8 n8 c8) ∧ (w8.cell? ⟨gO, p, none⟩ = some (us p) ∧ w8.frozen? ⟨gO, p, none⟩ = false) ∧ (∀ b cs T, wr.heap[b]? = some (.cells cs T (0, 0)) → T ≠ 3 → b ≠ gO → w8.heap[b]? = some (.cells cs T (0, 0)) ∧ (w8.setCell ⟨gO, p, none⟩ v').heap[b]? = some (.cells cs T (0, 0))) ∧ B ≤ (w8.setCell ⟨gO, p, none⟩ v').heap.size ∧ ∃ us, Sg w2 (w8.setCell ⟨gO, p, none⟩ v') gO gI n B us (upd Ls p (Ls p ++ [x])) := by
  have hA := (h.alloc hB (.cells #[.int .i64 x] 3)).drew
  have hs : B ≤ (wr.alloc (.cells #[.int .i64 x] 3)).drew.heap.size := by
    show B ≤ (wr.alloc (.cells #[.int .i64 x] 3)).heap.size
    simp; omega
  refine ⟨hA.fam.1 p (by omega), ?_, hs, ⟨(h.drew.outCell hp).1, (hA.outCell hp).1⟩, fun v' w8 h1 h2 h3 => ?_⟩
  · simp
  · obtain ⟨a, b⟩ := hA.growO hs hp h1 h2 h3
    obtain ⟨A8, c8, e8⟩ := h1.open
    refine ⟨⟨_, _, _, e8⟩, a, fun b cs T hb hT hne => grow_keeps (hA.fam.1 p (by omega)) h2 (alloc_drew_keeps _ hb) hT hne, ?_, _, b⟩
    have := h2.size
    simp only [World.size_setCell]
    omega
theorem regI (h : Sg w2 wr gO gI n B us Ls) (hB : B ≤ wr.heap.size) (hp : p < n) :
    OwnI (wr.alloc (.cells #[.int .i64 x] 3)).drew B (us (n + p)) (Ls (n + p)) ∧ (wr.alloc (.cells #[.int .i64 x] 3)).drew.cell? ⟨wr.heap.size, 0, none⟩ = some (.int .i64 x) ∧ B ≤ (wr.alloc (.cells #[.int .i64 x] 3)).drew.heap.size ∧ (wr.drew.cell? ⟨gI, p, none⟩ = some (us (n + p)) ∧ (wr.alloc (.cells #[.int .i64 x] 3)).drew.cell? ⟨gI, p, none⟩ = some (us (n + p))) ∧
    ∀ v' w8, OwnI w8 B v' (Ls (n + p) ++ [x]) → (wr.alloc (.cells #[.int .i64 x] 3)).drew.grownBy w8 (us (n + p)).ownBlock → (v'.ownBlock = (us (n + p)).ownBlock ∨ v'.ownBlock = some (wr.alloc (.cells #[.int .i64 x] 3)).drew.heap.size) →
      (∃ A8 n8 c8, v' = .slice A8 n8 c8) ∧ (w8.cell? ⟨gI, p, none⟩ = some (us (n + p)) ∧ w8.frozen? ⟨gI, p, none⟩ = false) ∧ (∀ b cs T, wr.heap[b]? = some (.cells cs T (0, 0)) → T ≠ 3 → b ≠ gI → w8.heap[b]? = some (.cells cs T (0, 0)) ∧ (w8.setCell ⟨gI, p, none⟩ v').heap[b]? = some (.cells cs T (0, 0))) ∧ ∃ us, Sg w2 (w8.setCell ⟨gI, p, none⟩ v') gO gI n B us (upd Ls (n + p) (Ls (n + p) ++ [x])) := by
  have hA := (h.alloc hB (.cells #[.int .i64 x] 3)).drew
  have hs : B ≤ (wr.alloc (.cells #[.int .i64 x] 3)).drew.heap.size := by
    show B ≤ (wr.alloc (.cells #[.int .i64 x] 3)).heap.size
    simp; omega
  refine ⟨hA.fam.1 (n + p) (by omega), ?_, hs, ⟨(h.drew.inCell hp).1, (hA.inCell hp).1⟩, fun v' w8 h1 h2 h3 => ?_⟩
  · simp
  · obtain ⟨a, b⟩ := hA.growI hs hp h1 h2 h3
    obtain ⟨A8, c8, e8⟩ := h1.open
    exact ⟨⟨_, _, _, e8⟩, a, fun b cs T hb hT hne => grow_keeps (hA.fam.1 (n + p) (by omega)) h2 (alloc_drew_keeps _ hb) hT hne, _, b⟩
end
theorem boxS {W : World} {b3 b5 : Nat} {x y p j q : Value} (h3 : W.heap[b3]? = some (.cells #[x, y] 71 (0, 0))) (h5 : W.heap[b5]? = some (.cells #[p, j, q] 44 (0, 0))) :
    W.cell? ⟨b3, 0, none⟩ = some x ∧ W.cell? ⟨b3, 1, none⟩ = some y ∧ W.cell? ⟨b5, 0, none⟩ = some p ∧ W.cell? ⟨b5, 2, none⟩ = some q := by
  refine ⟨?_, ?_, ?_, ?_⟩
  · rw [cell_of_row W b3 0 _ _ (0, 0) h3]; rfl
  · rw [cell_of_row W b3 1 _ _ (0, 0) h3]; rfl
  · rw [cell_of_row W b5 0 _ _ (0, 0) h5]; rfl
  · rw [cell_of_row W b5 2 _ _ (0, 0) h5]; rfl
theorem Fam.setBox {w : World} {B m : Nat} {us : Nat → Value} {Ls : Nat → List Int} (h : Fam w B us Ls m) {b i : Nat} {cs : Array Value} {T : TypeId} (hb : w.heap[b]? = some (.cells cs T (0, 0))) (hT : T ≠ 3) (v : Value) : Fam (w.setCell ⟨b, i, none⟩ v) B us Ls m :=
  ⟨fun t ht => (h.1 t ht).kept hb hT (grown_set w b i v), h.2⟩
/-- The end: the box over both is copied into the answer's own. -/
theorem Sg.ends2 {w w2 wr : World} {gO gI B b2 : Nat} {us : Nat → Value} {G : GT} {x0 y0 : Value} (h : Sg w2 wr gO gI G.n B us (rowsK G (edgesL G G.n).length)) (hw : Below w.heap.size w w2) (h1 : w.heap.size ≤ gO) (h2 : w.heap.size ≤ gI) (hB : w.heap.size ≤ B) (hb2 : wr.heap[b2]? = some (.cells #[x0, y0] 71 (0, 0))) (hle : w.heap.size ≤ b2) (x y : Value) :
    GraphEnds w G (.returned (.agg #[.slice (some ⟨gO, 0, none⟩) G.n G.n, .slice (some ⟨gI, 0, none⟩) G.n G.n])) ((wr.setCell ⟨b2, 0, none⟩ x).setCell ⟨b2, 1, none⟩ y) := by
  have hne : ∀ {g m : Nat} {cu : Nat → Value}, CB wr 30 g m cu → g ≠ b2 := by
    rintro g m cu ⟨cs, hcs, _⟩ rfl
    rw [hb2] at hcs
    injection hcs with hcs
    injection hcs with _ hcs _
    exact absurd hcs (by decide)
  have hco := h.co.set2 (hne h.co) x y
  have hci := h.ci.set2 (hne h.ci) x y
  have hf : Fam ((wr.setCell ⟨b2, 0, none⟩ x).setCell ⟨b2, 1, none⟩ y) B us (rowsK G (edgesL G G.n).length) (G.n + G.n) := (h.fam.setBox hb2 (by decide) x).setBox (heap_set hb2 0 x) (by decide) y
  refine ⟨gO, gI, rfl, h1, h2, hco.lt, hci.lt, fun _ => ⟨gO, 0, rfl, hco.lt, fun t ht => ?_⟩, fun _ => ⟨gI, 0, rfl, hci.lt, fun t ht => ?_⟩, below_set2 (hw.trans (h.bu.below hB h1 h2)) hle _ _, fun t ht g o m c e => ?_⟩
  · obtain ⟨A, c, e, h3, h4⟩ := (hf.1 t (by omega)).openC
    have er : rowsK G (edgesL G G.n).length t = ofNs (outN G t) := by unfold rowsK; rw [if_pos ht, outK_all]
    rw [er] at e h3 h4
    refine ⟨A, c, ?_, by rwa [ofN_len] at h3, h4⟩
    rw [Nat.zero_add, hco.cell ht, e, ofN_len]
  · obtain ⟨A, c, e, h3, h4⟩ := (hf.1 (G.n + t) (by omega)).openC
    have er : rowsK G (edgesL G G.n).length (G.n + t) = ofNs (inN G t) := by unfold rowsK; rw [if_neg (by omega), inK_all, Nat.add_sub_cancel_left]
    rw [er] at e h3 h4
    refine ⟨A, c, ?_, by rwa [ofN_len] at h3, h4⟩
    rw [Nat.zero_add, hci.cell ht, e, ofN_len]
  · rw [hco.cell ht] at e
    injection e with e
    exact Nat.le_trans hB ((hf.1 t (by omega)).fresh e)
end Go.Proofs.Ytmbjmibjobpdgaa
namespace Go.Proofs.Ytmbjmibjobpdgaa
open Go.RowKit

theorem threeA (W : World) (P Q R : Obj) : ((((W.alloc P).alloc Q).alloc R).heap[W.heap.size]? = some P ∧ (((W.alloc P).alloc Q).alloc R).heap[W.heap.size + 1]? = some Q ∧ (((W.alloc P).alloc Q).alloc R).heap[W.heap.size + 2]? = some R) ∧ Below W.heap.size W (((W.alloc P).alloc Q).alloc R) := by
  have s1 : (W.alloc P).heap.size = W.heap.size + 1 := by simp
  have s2 : ((W.alloc P).alloc Q).heap.size = W.heap.size + 2 := by simp
  have b1 : Below (W.alloc P).heap.size (W.alloc P) ((W.alloc P).alloc Q) := (Below.refl _ _).alloc (Nat.le_refl _) _
  have b2 : Below ((W.alloc P).alloc Q).heap.size ((W.alloc P).alloc Q) (((W.alloc P).alloc Q).alloc R) := (Below.refl _ _).alloc (Nat.le_refl _) _
  refine ⟨⟨?_, ?_, ?_⟩, ?_⟩
  · rw [b2.block _ (by omega), b1.block _ (by omega)]; exact heap_alloc_new W P
  · rw [b2.block _ (by omega), ← s1]; exact heap_alloc_new _ Q
  · rw [← s2]; exact heap_alloc_new _ R
  · exact (((Below.refl _ W).alloc (Nat.le_refl _) P).trans (b1.mono (by omega))).trans (b2.mono (by omega))
/-- Those among the first k that no edge that counts leads to. -/
def Q1 (G : GT) (k : Nat) (x : Int) : Prop := ∃ i : Nat, x = i ∧ i < k ∧ inN G i = []
def fl1 (G : GT) (k i : Nat) : Int := if i < k then ((inN G i).length : Int) else 0
/-- Amid the first loop. -/
def L1 (G : GT) (w1 wr : World) (gl b B k : Nat) : Prop := ∃ v m f, Kq w1 wr gl b B G.n (fl1 G k) v m f ∧ HeapOk f m ∧ Numbs f m (Q1 G k) ∧ m ≤ k
theorem fl1_succ (G : GT) (k : Nat) : fup (fl1 G k) k ((inN G k).length : Int) = fl1 G (k + 1) := by
  funext i
  unfold fup fl1
  by_cases e : i = k
  · subst e; rw [if_pos rfl, if_pos (by omega)]
  · rw [if_neg e]
    by_cases h : i < k
    · rw [if_pos h, if_pos (by omega)]
    · rw [if_neg h, if_neg (by omega)]
theorem Numbs.iff {f : Nat → Int} {n : Nat} {Q Q' : Int → Prop} (h : Numbs f n Q) (hq : ∀ x, Q' x ↔ Q x) : Numbs f n Q' := ⟨fun x => (hq x).trans (h.1 x), h.2⟩
theorem Q1_skip {G : GT} {k : Nat} (h : inN G k ≠ []) (x : Int) : Q1 G (k + 1) x ↔ Q1 G k x := by
  constructor
  · rintro ⟨i, e, hi, h0⟩
    refine ⟨i, e, ?_, h0⟩
    rcases Nat.lt_or_ge i k with h1 | h1
    · exact h1
    · obtain rfl : i = k := by omega
      exact absurd h0 h
  · rintro ⟨i, e, hi, h0⟩
    exact ⟨i, e, by omega, h0⟩
theorem Q1_add {G : GT} {k : Nat} (h : inN G k = []) (x : Int) : Q1 G (k + 1) x ↔ (Q1 G k x ∨ x = (k : Int)) := by
  constructor
  · rintro ⟨i, e, hi, h0⟩
    rcases Nat.lt_or_ge i k with h1 | h1
    · exact .inl ⟨i, e, h1, h0⟩
    · exact .inr (by omega)
  · rintro (⟨i, e, hi, h0⟩ | e)
    · exact ⟨i, e, by omega, h0⟩
    · exact ⟨k, e, by omega, h⟩
theorem Q1_new {G : GT} {k : Nat} : ¬ Q1 G k (k : Int) := by
  rintro ⟨i, e, hi, _⟩
  omega
theorem L1.out {G : GT} {w1 wr : World} {gl b : Nat} (h : L1 G w1 wr gl b b G.n) : L2 G w1 wr gl b 0 (.slice none 0 0) := by
  obtain ⟨v, m, f, hK, hH, hN, _⟩ := h
  refine L2.start (hK.congr fun i hi => ?_) hH hN
  unfold fl1
  rw [if_pos hi]
/-- What order answers. -/
def OrdEnds (w : World) (G : GT) (e : Ending) (w' : World) : Prop := Below w.heap.size w w' ∧ ((Acyc G ∧ ∃ v, e = .returned (.tuple #[v, .bool true]) ∧ OwnI w' w.heap.size v (ordI G G.n)) ∨ (¬ Acyc G ∧ e = .returned (.tuple #[.slice none 0 0, .bool false])))
set_option maxRecDepth 20000 in
set_option maxHeartbeats 4000000 in
theorem order_any {w : World} {G : GT} {lim cO cI : Nat} {AO AI : Option Addr} (hO : LieC w lim AO G.n (outN G)) (hI : LieC w lim AI G.n (inN G)) (hlim : lim ≤ w.heap.size) (hn : G.n ≤ 1000) (hlen : ∀ x, x < G.n → (inN G x).length ≤ 9999) (hlen2 : ∀ x, x < G.n → (outN G x).length ≤ 9999) :
    Calls Try.prog 29 #[.agg #[.slice AO G.n cO, .slice AI G.n cI]] w fun e w' => OrdEnds w G e w' := by
  obtain ⟨n, hnd⟩ : ∃ n, n = G.n := ⟨_, rfl⟩
  have hmk : ∀ w : World, (Instr.makeSlice 30 (.int .i64 (n : Int)) (.int .i64 (n : Int))).run Try.prog w = .ok (.slice (some ⟨w.heap.size, 0, none⟩) n n) (w.alloc (.cells (madeCells #[.int .i64 0] n) 3)) := run_mk Try.underlying30 info3' n (by omega) (by omega)
  have c1 : (w.alloc (.cells #[.slice AO n cO, .slice AI n cI] 71)).cell? ⟨w.heap.size, 1, none⟩ = some (.slice AI n cI) := by rw [cell_of_row _ _ 1 _ _ (0, 0) (heap_alloc_new w _)]; rfl
  have HO := Lib.hid hO
  have HI := Lib.hid hI
  rw [← hnd] at hn ⊢
  have HND := Lib.hid hnd
  have HLEN := Lib.hid hlen
  have HLEN2 := Lib.hid hlen2
  clear hO hI hnd hlen hlen2
  go_enter Try.func29, Try.ntmps29
  go_wp2_with fail
  obtain ⟨W1, hW1⟩ : ∃ W1, W1 = ((w.alloc (.cells #[.slice AO n cO, .slice AI n cI] 71)).alloc (.cells (madeCells #[.int .i64 0] n) 3)).alloc (.cells #[.slice none 0 0] 107) := ⟨_, rfl⟩
  obtain ⟨⟨x1, x2, x3⟩, hbw⟩ := threeA w (.cells #[.slice AO n cO, .slice AI n cI] 71) (.cells (madeCells #[.int .i64 0] n) 3) (.cells #[.slice none 0 0] 107)
  have hs1 : W1.heap.size = w.heap.size + 3 := by rw [hW1]; simp
  rw [← hW1] at x1 x2 x3 hbw ⊢
  have HBW := Lib.hid hbw
  have HX1 := Lib.hid x1
  obtain ⟨gl, hgl⟩ : ∃ gl, gl = w.heap.size + 1 := ⟨_, rfl⟩
  obtain ⟨bq, hbq⟩ : ∃ bq, bq = w.heap.size + 1 + 1 := ⟨_, rfl⟩
  have hgb : gl < bq := by omega
  have hwl : w.heap.size < gl := by omega
  have S0 : Hid (L1 G W1 W1 gl bq bq 0) := Lib.hid ⟨.slice none 0 0, 0, fun _ => 0, ⟨⟨_, by rw [hgl]; exact x2, by rw [size_madeCells, HND.out]; exact Nat.le_refl _, fun i hi => by
    have hlt : i < (madeCells #[.int .i64 0] n).size := by rw [size_madeCells, HND.out]; exact hi
    rw [Array.getElem?_eq_getElem hlt]
    simp [madeCells, Nat.mod_one, fl1]⟩, ⟨by rw [hbq]; exact x3, OwnI.nil _ _, Below.refl _ _, Nat.le_refl _⟩, Bow.refl _ _ _, hgb⟩, fun c _ h => by omega, ⟨fun x => ⟨fun ⟨i, _, h, _⟩ => by omega, fun ⟨k, h, _⟩ => by omega⟩, fun i j h => by omega⟩, Nat.le_refl _⟩
  have hbq2 : bq = gl + 1 := by omega
  rw [← hgl, ← hbq2]
  clear hW1 x1 x2 x3 hbw c1 hgl hbq hbq2 hmk
  go_loopw [20] (fun iv wr => ∃ k : Nat, k ≤ n ∧ iv = .int .i64 k ∧ Hid (L1 G W1 wr gl bq bq k)) (fun iv _ => n - (intOf iv).toNat)
  case atStart => exact ⟨0, Nat.zero_le _, rfl, S0⟩
  case round =>
    clear S0
    obtain ⟨k, hk, rfl, hr⟩ := hrel
    by_cases hlt : k < n
    · obtain ⟨gr, orr, rfl, hgr, hx⟩ := HI.out (by have := HND.out; omega)
      obtain ⟨A2, c2, y0, _, _⟩ := hx k (by have := HND.out; omega)
      obtain ⟨v, m, f, hK, hH, hN, hm⟩ := hr.out
      have hkG : k < G.n := by have := HND.out; omega
      have y1 : wr.cell? ⟨gr, orr + k, none⟩ = some (.slice A2 (inN G k).length c2) := by
        rw [hK.bow.cell (by omega) (by omega), HBW.out.cell (p := ⟨gr, orr + k, none⟩) (show gr < w.heap.size by omega)]
        exact y0
      have l0 := hK.left.cell hkG
      have fr : ∀ i, wr.frozen? ⟨gl, i, none⟩ = false := fun i => hK.left.free i
      have HK := Lib.hid (fl1_succ G k ▸ hK.set k ((inN G k).length : Int))
      have HH := Lib.hid hH
      have HN := Lib.hid hN
      have hnl := HLEN.out k hkG
      generalize fl1 G k k = ov at *
      clear hr hx y0 hK hH hN
      by_cases hz : inN G k = []
      · have HA := Lib.hid (Q1_add hz)
        have e0 : (inN G k).length = 0 := by rw [hz]; rfl
        rw [e0] at y1 HK
        clear hz e0 hnl
        go_wp2_with (first
          | (go_at_call 59; (refine (hPush_any HK.out.q HH.out HN.out (k : Int) Q1_new (by omega)).mono ?_); rintro e w6 ⟨rfl, v6, f6, hQ6, hH6, hN6, _⟩; have HR : Hid (L1 G W1 w6 gl bq bq (k + 1)) := Lib.hid ⟨v6, m + 1, f6, HK.out.call hQ6, hH6, hN6.iff HA.out, by omega⟩; clear hQ6 hH6 hN6)
          | fail)
        go_roundw
        case rel => exact ⟨k + 1, by omega, by go_num, HR⟩
        case measure => simp [intOf]; omega
      · have HA := Lib.hid (Q1_skip hz)
        obtain ⟨nl, hnld⟩ : ∃ nl, nl = (inN G k).length := ⟨_, rfl⟩
        have hn0 : 0 < nl := by rw [hnld]; exact List.length_pos_iff.2 hz
        have t0 : ((nl : Int) == 0) = false := by simp; omega
        rw [← hnld] at y1 HK hnl
        have HR : Hid (L1 G W1 (wr.setCell ⟨gl, k, none⟩ (.int .i64 (nl : Int))) gl bq bq (k + 1)) := Lib.hid ⟨v, m, f, HK.out, HH.out, HN.out.iff HA.out, by omega⟩
        clear hz hnld HK HH HN HA
        go_wp2_with fail
        go_roundw
        case rel => exact ⟨k + 1, by omega, by go_num, HR⟩
        case measure => simp [intOf]; omega
    · obtain rfl : n = k := by omega
      have S0 : Hid (L2 G W1 wr gl bq 0 (.slice none 0 0)) := Lib.hid (by have h := hr.out; rw [HND.out] at h; exact h.out)
      clear hr hlt hk
      go_wp2_with fail
      go_loopw [2, 8, 10] (fun lv nv tv wr => ∃ j : Nat, lenV lv = j ∧ j ≤ n ∧ Hid (L2 G W1 wr gl bq j lv)) (fun lv _ _ _ => n - lenV lv)
      case atStart => exact ⟨0, rfl, Nat.zero_le _, S0⟩
      case round =>
        clear S0
        obtain ⟨j, hj, hjn, hr⟩ := hrel
        obtain ⟨v, m, f, hO, hH, hN, hKn, hm⟩ := hr.out
        obtain ⟨AL, cL, rfl⟩ := hO.own.open
        rw [ordI_len] at *
        obtain ⟨AQ, cQ, hvq⟩ := hO.kq.q.own.open
        rw [List.length_map, List.length_range] at hvq
        subst hvq
        have q0 : wr.cell? ⟨bq, 0, none⟩ = some (.slice AQ m cQ) := by rw [cell_of_row _ _ 0 _ _ (0, 0) hO.kq.q.box]; rfl
        have hmn : m ≤ 1000 := by have := HND.out; omega
        cases m with
        | zero =>
          have hst := hKn.stop fun x hx => by
            obtain ⟨k, hk, _⟩ := (hN.1 x).1 hx
            omega
          rw [← HND.out] at hst
          have HFN : Hid (∀ w2, Sm wr w2 → Below w.heap.size w w2 ∧ OwnI w2 w.heap.size (.slice AL j cL) (ordI G j) ∧ w2.cell? ⟨w.heap.size, 1, none⟩ = some (.slice AI n cI)) := Lib.hid fun w2 hs =>
            ⟨(HBW.out.trans (hO.kq.bow.below (by omega) (by omega))).trans (hs.below _), (hO.own.below (hs.below _)).low (by omega), by
              rw [(hs.below (wr.heap.size)).cell (p := ⟨w.heap.size, 1, none⟩) (show w.heap.size < wr.heap.size by have := hO.kq.left.lt; omega), hO.kq.bow.cell (by omega) (by omega), cell_of_row _ _ 1 _ _ (0, 0) HX1.out]; rfl⟩
          clear hr hO hH hN hKn
          by_cases hjl : j < n
          · have hna : ¬ Acyc G := fun ha => by have := hst.2 ha; omega
            have HNA := Lib.hid hna
            clear hst hna
            go_wp2_with (first
              | (go_at_call 60; (with_reducible refine (iLen_any _ _ _ _).mono ?_); rintro e w2 ⟨rfl, hs⟩; obtain ⟨hb2, ho2, c12⟩ := HFN.out _ hs; have HB2 := Lib.hid hb2; clear hb2 ho2 hs)
              | fail)
            go_ret2
            exact ⟨HB2.out, .inr ⟨HNA.out, rfl⟩⟩
          · obtain rfl : n = j := by omega
            have HA := Lib.hid (hst.1 rfl)
            clear hst
            go_wp2_with (first
              | (go_at_call 60; (with_reducible refine (iLen_any _ _ _ _).mono ?_); rintro e w2 ⟨rfl, hs⟩; obtain ⟨hb2, ho2, c12⟩ := HFN.out _ hs; have HB2 := Lib.hid hb2; have HO2 := Lib.hid ho2; clear hb2 ho2 hs)
              | fail)
            go_ret2
            refine ⟨HB2.out, .inl ⟨HA.out, _, rfl, ?_⟩⟩
            rw [← HND.out]
            exact HO2.out
        | succ m =>
          obtain ⟨x, hx0, hx1, hxn, hxd, hxc, hxe, hKs⟩ := L2.next hH hN hKn
          have hmG : m + 1 ≤ n := by have := HND.out; omega
          have HQ0 : Hid (∀ w2, Sm wr w2 → Ok2 W1 w2 gl bq G.n (fun t => (cntD G (dn G j) t : Int)) (.slice AQ (m + 1) cQ) (m + 1) f (.slice AL j cL) (ordI G j)) := Lib.hid fun w2 hs => hO.same hs
          have HH := Lib.hid hH
          have HN := Lib.hid hN
          have HKS := Lib.hid hKs
          have HXE := Lib.hid hxe
          have HKN := Lib.hid hKn
          have HX1' := Lib.hid hx1
          have HX0 := Lib.hid hx0
          have HXD := Lib.hid hxd
          have HXC := Lib.hid hxc
          clear hr hO hH hN hKn hKs hxe hx1 hx0 hxd hxc hm
          go_wp2_with (first
            | (go_at_call 60; (with_reducible refine (iLen_any _ _ _ _).mono ?_); rintro e w2 ⟨rfl, hs⟩; have HO2 := Lib.hid (HQ0.out _ hs); clear hs)
            | (go_at_call 61; (refine (hPop_any HO2.out.kq.q HH.out HN.out (by omega)).mono ?_); rintro e w3 ⟨rfl, v3, f3, hQ3, hH3, hN3, hF3⟩; have HO3 := Lib.hid (HO2.out.call hQ3 hF3); have HH3 := Lib.hid hH3; have HN3 := Lib.hid hN3; rw [HX0.out]; have hta := ta_int w3 (x : Int); clear hQ3 hH3 hN3 hF3; refine Hid.out ?_)
            | fail)
          refine Lib.hid ?_
          have hO4 := HO3.out.alloc (.cells #[.int .i64 (x : Int)] 3)
          have w0 : (w3.alloc (.cells #[.int .i64 (x : Int)] 3)).cell? ⟨w3.heap.size, 0, none⟩ = some (.int .i64 (x : Int)) := by rw [World.cell?_alloc_new]; rfl
          have HOW := Lib.hid hO4.own
          have hll : Hid ((ordI G j).length ≤ 10000) := Lib.hid (by rw [ordI_len]; omega)
          have hsz : Hid (bq + 1 ≤ (w3.alloc (.cells #[.int .i64 (x : Int)] 3)).heap.size) := Lib.hid (by
            have h3 : bq < w3.heap.size := row_lt HO3.out.kq.q.box
            simp; omega)
          have HO4 := Lib.hid hO4
          clear hO4
          go_wp2_with (refine wpl_intAt rfl (.tmp 51) (.tmp 53) rfl (bq + 1) (.slice AL j cL) (ordI G j) rfl HOW.out w3.heap.size (x : Int) rfl w0 hll.out hsz.out ?_; refine Hid.out ?_)
          refine Lib.hid ?_
          intro v' w8 ho8 hg8 hat8
          have hO8 := HO4.out.push ho8 hg8 (by rw [World.size_alloc]; exact hat8)
          rw [HX1'.out, ← ordI_succ] at hO8
          clear HO3 HO4 HOW w0 hll hsz hta q0 hat8 hg8 ho8
          obtain ⟨A8, c8, rfl⟩ := hO8.own.open
          rw [ordI_len] at hO8 ⊢
          have hxn2 : x < n := by have := HND.out; omega
          have S3 : Hid (L3 G W1 w8 gl bq j x 0 (.slice A8 (j + 1) c8)) := Lib.hid ⟨v3, m, f3, hO8.congr fun t _ => by rw [List.take_zero, lfK_nil], HH3.out, by
            have h := HN3.out
            rw [HX0.out] at h
            exact L3.start h, by have := HND.out; omega⟩
          have b0 : w8.cell? ⟨w.heap.size, 0, none⟩ = some (.slice AO n cO) := by
            rw [hO8.kq.bow.cell (by omega) (by omega), cell_of_row _ _ 0 _ _ (0, 0) HX1.out]; rfl
          obtain ⟨gr, orr, rfl, hgr, hx⟩ := HO.out (by have := HND.out; omega)
          obtain ⟨A2, c2, y0, _, hli⟩ := hx x hxn
          have y1 : w8.cell? ⟨gr, orr + x, none⟩ = some (.slice A2 (outN G x).length c2) := by
            rw [hO8.kq.bow.cell (by omega) (by omega), HBW.out.cell (p := ⟨gr, orr + x, none⟩) (show gr < w.heap.size by omega)]
            exact y0
          obtain ⟨nO, hnO⟩ : ∃ nO, nO = (outN G x).length := ⟨_, rfl⟩
          have HNO := Lib.hid hnO
          have hnl := HLEN2.out x hxn
          rw [← hnO] at y1 hnl
          have HLI := Lib.hid hli
          clear hO8 hx y0 hli hnO HH3 HN3
          go_wp2_with fail
          go_loopw [61] (fun iv wr => ∃ i : Nat, i ≤ nO ∧ iv = .int .i64 i ∧ Hid (L3 G W1 wr gl bq j x i (.slice A8 (j + 1) c8))) (fun iv _ => nO - (intOf iv).toNat)
          case atStart => exact ⟨0, Nat.zero_le _, rfl, S3⟩
          case round =>
            clear S3 b0 y1
            obtain ⟨i, hi, rfl, hr⟩ := hrel
            by_cases hit : i < nO
            · have hiL : i < (outN G x).length := by have := HNO.out; omega
              obtain ⟨ga, oa, rfl, hga, hxx⟩ := HLI.out (by rw [ofN_len]; omega)
              obtain ⟨v, m, f, hO, hH, hN, hm⟩ := hr.out
              obtain ⟨c, hc1, hO2, hnr, hiff⟩ := L3.step HKN.out HXD.out HXC.out hiL hO
              have hton : (outN G x)[i] < G.n := (mem_outN.1 (List.getElem_mem hiL)).2.1
              have x0 : wr.cell? ⟨ga, oa + i, none⟩ = some (.int .i64 ((outN G x)[i] : Nat)) := by
                rw [hO.kq.bow.cell (by omega) (by omega), HBW.out.cell (p := ⟨ga, oa + i, none⟩) (show ga < w.heap.size by omega), hxx i (by rw [ofN_len]; exact hiL)]
                simp [ofNs]
              have l0 := hO.kq.left.cell hton
              have hcl : c ≤ 9999 := by
                have h1 : cntD G (dn G j) (outN G x)[i] ≤ (inN G (outN G x)[i]).length := List.countP_le_length
                have h2 := HLEN.out _ hton
                unfold lfK at hc1
                omega
              have l1 : wr.cell? ⟨gl, (outN G x)[i], none⟩ = some (.int .i64 ((c : Int) + 1)) := by
                rw [l0]
                show some (Value.int .i64 ((lfK G (dn G j) ((outN G x).take i) (outN G x)[i] : Nat) : Int)) = _
                rw [hc1]; rfl
              have fr : ∀ k, wr.frozen? ⟨gl, k, none⟩ = false := fun k => hO.kq.left.free k
              have hmn2 : m ≤ 1000 := by have := HND.out; omega
              have HO2 := Lib.hid hO2
              have HH := Lib.hid hH
              have HN := Lib.hid hN
              have HNR := Lib.hid hnr
              have HIFF := Lib.hid hiff
              have hton2 : (outN G x)[i] < n := by have := HND.out; omega
              generalize (outN G x)[i] = to at *
              clear hr hO hO2 hH hN hnr hiff l0 hc1 hton hiL hxx hm
              by_cases hz : c = 0
              · subst hz
                have HQ2 : Hid (∀ y, Rdy G (upd (dn G j) x true) (lfK G (dn G j) ((outN G x).take (i + 1))) y ↔ (Rdy G (upd (dn G j) x true) (lfK G (dn G j) ((outN G x).take i)) y ∨ y = (to : Int))) := Lib.hid fun y => (HIFF.out y).trans ⟨fun h => h.imp_right And.right, fun h => h.imp_right fun e => ⟨rfl, e⟩⟩
                clear HIFF
                go_wp2_with (first
                  | (go_at_call 59; (refine (hPush_any HO2.out.kq.q HH.out HN.out (to : Int) HNR.out (by omega)).mono ?_); rintro e w6 ⟨rfl, v6, f6, hQ6, hH6, hN6, hF6⟩; have HR : Hid (L3 G W1 w6 gl bq j x (i + 1) (.slice A8 (j + 1) c8)) := Lib.hid ⟨v6, m + 1, f6, HO2.out.call hQ6 hF6, hH6, hN6.iff HQ2.out, (hN6.iff HQ2.out).bound Rdy.bound⟩; clear hQ6 hH6 hN6 hF6)
                  | fail)
                go_roundw
                case rel => exact ⟨i + 1, by omega, by go_num, HR⟩
                case measure => simp [intOf]; omega
              · have t0 : ((c : Int) == 0) = false := by simp; omega
                have HQ2 : Hid (∀ y, Rdy G (upd (dn G j) x true) (lfK G (dn G j) ((outN G x).take (i + 1))) y ↔ Rdy G (upd (dn G j) x true) (lfK G (dn G j) ((outN G x).take i)) y) := Lib.hid fun y => (HIFF.out y).trans ⟨fun h => h.resolve_right fun e => hz e.1, .inl⟩
                have HR : Hid (L3 G W1 (wr.setCell ⟨gl, to, none⟩ (.int .i64 (c : Int))) gl bq j x (i + 1) (.slice A8 (j + 1) c8)) := Lib.hid ⟨v, m, f, HO2.out, HH.out, HN.out.iff HQ2.out, HN.out.bound Rdy.bound⟩
                clear HIFF HQ2 HO2 HH HN HNR
                go_wp2_with fail
                go_roundw
                case rel => exact ⟨i + 1, by omega, by go_num, HR⟩
                case measure => simp [intOf]; omega
            · obtain rfl : nO = i := by omega
              have HR : Hid (L2 G W1 wr gl bq (j + 1) (.slice A8 (j + 1) c8)) := Lib.hid (by
                have h := hr.out
                rw [HNO.out] at h
                exact L3.done HXD.out HXE.out HKS.out h)
              have hj2 : j + 1 ≤ n := by have := HKS.out.le; have := HND.out; omega
              clear hr
              go_wp2_with fail
              go_roundw
              case rel => exact ⟨j + 1, rfl, hj2, HR⟩
              case measure => show n - (j + 1) < n - j; omega
end Go.Proofs.Ytmbjmibjobpdgaa

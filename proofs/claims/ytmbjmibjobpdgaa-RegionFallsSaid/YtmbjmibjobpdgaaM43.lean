/-
  New walks in their boxes.
-/
import Derived.Test.YtmbjmibjobpdgaaM28
import Derived.Test.YtmbjmibjobpdgaaM30
import Derived.Test.YtmbjmibjobpdgaaM42
import Derived.Test.YtmbjmibjobpdgaaM35
namespace Go.Proofs.Ytmbjmibjobpdgaa
open Go.RowKit Go.Shelf

def Bx0 (W : World) (b : Nat) : Prop := W.heap[b]? = some (.cells #[.slice none 0 0, .slice none 0 0] 82 (0, 0))
theorem Bx0.lt {W : World} {b : Nat} (h : Bx0 W b) : b < W.heap.size := row_lt h
theorem Bx0.keep {W W' : World} {b : Nat} (h : Bx0 W b) (hb : Below W.heap.size W W') : Bx0 W' b := (hb.block b (row_lt h)).trans h
/-- A new walk: nothing was met, all ways are open. -/
structure Nw (W : World) (base lim n : Nat) (R : Nat → List Nat) (gm : Nat) (A : Option Addr) : Prop where
  ge : base ≤ gm
  met : MetAt W gm n (fun _ => false)
  opn : 0 < n → ∃ go, A = some ⟨go, 0, none⟩ ∧ base ≤ go ∧ OpnAt W lim go n R
section
variable {W W' : World} {base lim n gm gm2 : Nat} {R Q : Nat → List Nat} {A A2 : Option Addr}
theorem OpnAt.lt {g : Nat} (h : OpnAt W lim g n R) : g < W.heap.size := by obtain ⟨us, hc, _⟩ := h; exact hc.lt
theorem Nw.keep (h : Nw W base lim n R gm A) (hb : Below W.heap.size W W') (hl : lim ≤ W.heap.size) : Nw W' base lim n R gm A :=
  ⟨h.ge, CB.keep h.met hb, fun h0 => by
    obtain ⟨go, e, h1, h2⟩ := h.opn h0
    exact ⟨go, e, h1, h2.keep (hb.block go h2.lt) (hb.mono hl)⟩⟩
def Apt (n gm1 gm2 : Nat) (A1 A2 : Option Addr) : Prop := gm1 ≠ gm2 ∧ (0 < n → ∀ g1 g2, A1 = some ⟨g1, 0, none⟩ → A2 = some ⟨g2, 0, none⟩ → g1 ≠ g2)
theorem Nw.apt {w' : World} (h : Nw W base lim n R gm A) (hg : W.heap.size ≤ gm2) (ho : 0 < n → ∃ go, A2 = some ⟨go, 0, none⟩ ∧ W.heap.size ≤ go ∧ OpnAt w' lim go n Q) : Apt n gm gm2 A A2 := by
  refine ⟨by have := h.met.lt; omega, fun h0 g1 g2 e1 e2 => ?_⟩
  obtain ⟨go, e, _, h2⟩ := h.opn h0
  obtain ⟨go2, e', h3, _⟩ := ho h0
  rw [e1] at e
  rw [e2] at e'
  injection e with e; injection e with e _
  injection e' with e'; injection e' with e' _
  have := h2.lt
  omega
theorem boxG {bx : Nat} {x y : Value} (hb : Below W.heap.size W W') (hz : bx + 1 ≤ W.heap.size) (hs : W.cell? ⟨bx, 0, none⟩ = some x ∧ W.cell? ⟨bx, 1, none⟩ = some y) : W'.cell? ⟨bx, 0, none⟩ = some x ∧ W'.cell? ⟨bx, 1, none⟩ = some y :=
  ⟨(hb.cell (p := ⟨bx, 0, none⟩) (show bx < _ by omega)).trans hs.1, (hb.cell (p := ⟨bx, 1, none⟩) (show bx < _ by omega)).trans hs.2⟩
theorem CB.ne_row {T S g m b : Nat} {us : Nat → Value} {cs : Array Value} (h : CB W T g m us) (hb : W.heap[b]? = some (.cells cs S (0, 0))) (hT : T ≠ S) : g ≠ b := by
  rintro rfl
  obtain ⟨cs', hcs, _⟩ := h
  rw [hb] at hcs
  injection hcs with hcs
  injection hcs with _ hcs _
  exact hT hcs.symm
theorem Nw.set2 (h : Nw W base lim n R gm A) {b : Nat} {cs : Array Value} (hb : W.heap[b]? = some (.cells cs 82 (0, 0))) (hl : lim ≤ b) (x y : Value) : Nw ((W.setCell ⟨b, 0, none⟩ x).setCell ⟨b, 1, none⟩ y) base lim n R gm A :=
  ⟨h.ge, CB.set2 h.met (h.met.ne_row hb (by decide)) x y, fun h0 => by
    obtain ⟨go, e, h1, h2⟩ := h.opn h0
    refine ⟨go, e, h1, h2.keep ?_ (below_set2 (Below.refl _ _) hl x y)⟩
    obtain ⟨us, hc, _⟩ := h2
    have hne := hc.ne_row hb (by decide)
    exact (Below.heap_setCell _ ⟨b, 1, none⟩ _ _ hne).trans (Below.heap_setCell _ ⟨b, 0, none⟩ _ _ hne)⟩
end
/-- Both walks stand in their boxes. -/
structure Pz (w W : World) (lim n : Nat) (R Q : Nat → List Nat) (b4 b5 gm1 gm2 : Nat) (A1 A2 : Option Addr) (co1 co2 : Nat) : Prop where
  r4 : W.heap[b4]? = some (.cells #[.slice (some ⟨gm1, 0, none⟩) n n, .slice A1 n co1] 82 (0, 0))
  r5 : W.heap[b5]? = some (.cells #[.slice (some ⟨gm2, 0, none⟩) n n, .slice A2 n co2] 82 (0, 0))
  n1 : Nw W (w.heap.size + 1) lim n R gm1 A1
  n2 : Nw W (w.heap.size + 1) lim n Q gm2 A2
  ne : b4 ≠ b5
  apt : Apt n gm1 gm2 A1 A2
  ge4 : w.heap.size + 1 ≤ b4
  ge5 : w.heap.size + 1 ≤ b5
  bel : Below w.heap.size w W
  box : ∃ gO cO, W.cell? ⟨w.heap.size, 0, none⟩ = some (.slice (some ⟨gO, 0, none⟩) n cO)
theorem Pz.made {w W : World} {lim n gO cO gI cI b4 b5 gm1 gm2 co1 co2 base1 base2 : Nat} {R Q : Nat → List Nat} {A1 A2 : Option Addr} (hlim : lim ≤ w.heap.size) (f4 : Bx0 W b4) (f5 : Bx0 W b5) (hne : b4 ≠ b5) (n1 : Nw W base1 lim n R gm1 A1) (n2 : Nw W base2 lim n Q gm2 A2) (hd : Apt n gm1 gm2 A1 A2) (hb : Below w.heap.size w W)
    (hs : W.cell? ⟨w.heap.size, 0, none⟩ = some (.slice (some ⟨gO, 0, none⟩) n cO) ∧ W.cell? ⟨w.heap.size, 1, none⟩ = some (.slice (some ⟨gI, 0, none⟩) n cI)) (hz : w.heap.size + 1 ≤ b4 ∧ w.heap.size + 1 ≤ b5 ∧ w.heap.size + 1 ≤ base1 ∧ w.heap.size + 1 ≤ base2) :
    (W.cell? ⟨b4, 0, none⟩ = some (.slice none 0 0) ∧ W.cell? ⟨b4, 1, none⟩ = some (.slice none 0 0)) ∧ W.frozen? ⟨b4, 0, none⟩ = false ∧ W.frozen? ⟨b4, 1, none⟩ = false ∧
    ((W.setCell ⟨b4, 0, none⟩ (.slice (some ⟨gm1, 0, none⟩) n n)).setCell ⟨b4, 1, none⟩ (.slice A1 n co1)).cell? ⟨b5, 0, none⟩ = some (.slice none 0 0) ∧ ((W.setCell ⟨b4, 0, none⟩ (.slice (some ⟨gm1, 0, none⟩) n n)).setCell ⟨b4, 1, none⟩ (.slice A1 n co1)).cell? ⟨b5, 1, none⟩ = some (.slice none 0 0) ∧
    ((W.setCell ⟨b4, 0, none⟩ (.slice (some ⟨gm1, 0, none⟩) n n)).setCell ⟨b4, 1, none⟩ (.slice A1 n co1)).frozen? ⟨b5, 0, none⟩ = false ∧ ((W.setCell ⟨b4, 0, none⟩ (.slice (some ⟨gm1, 0, none⟩) n n)).setCell ⟨b4, 1, none⟩ (.slice A1 n co1)).frozen? ⟨b5, 1, none⟩ = false ∧
    (((W.setCell ⟨b4, 0, none⟩ (.slice (some ⟨gm1, 0, none⟩) n n)).setCell ⟨b4, 1, none⟩ (.slice A1 n co1)).cell? ⟨w.heap.size, 0, none⟩ = some (.slice (some ⟨gO, 0, none⟩) n cO) ∧ ((W.setCell ⟨b4, 0, none⟩ (.slice (some ⟨gm1, 0, none⟩) n n)).setCell ⟨b4, 1, none⟩ (.slice A1 n co1)).cell? ⟨w.heap.size, 1, none⟩ = some (.slice (some ⟨gI, 0, none⟩) n cI)) ∧
    (((((W.setCell ⟨b4, 0, none⟩ (.slice (some ⟨gm1, 0, none⟩) n n)).setCell ⟨b4, 1, none⟩ (.slice A1 n co1)).setCell ⟨b5, 0, none⟩ (.slice (some ⟨gm2, 0, none⟩) n n)).setCell ⟨b5, 1, none⟩ (.slice A2 n co2)).cell? ⟨w.heap.size, 0, none⟩ = some (.slice (some ⟨gO, 0, none⟩) n cO) ∧ ((((W.setCell ⟨b4, 0, none⟩ (.slice (some ⟨gm1, 0, none⟩) n n)).setCell ⟨b4, 1, none⟩ (.slice A1 n co1)).setCell ⟨b5, 0, none⟩ (.slice (some ⟨gm2, 0, none⟩) n n)).setCell ⟨b5, 1, none⟩ (.slice A2 n co2)).cell? ⟨w.heap.size, 1, none⟩ = some (.slice (some ⟨gI, 0, none⟩) n cI)) ∧
    Pz w ((((W.setCell ⟨b4, 0, none⟩ (.slice (some ⟨gm1, 0, none⟩) n n)).setCell ⟨b4, 1, none⟩ (.slice A1 n co1)).setCell ⟨b5, 0, none⟩ (.slice (some ⟨gm2, 0, none⟩) n n)).setCell ⟨b5, 1, none⟩ (.slice A2 n co2)) lim n R Q b4 b5 gm1 gm2 A1 A2 co1 co2 := by
  obtain ⟨z1, z2, z3, z4⟩ := hz
  have hfar : ∀ (X : World) (b k : Nat) (x y : Value), k ≠ b → ((X.setCell ⟨b, 0, none⟩ x).setCell ⟨b, 1, none⟩ y).heap[k]? = X.heap[k]? := fun X b k x y h => (Below.heap_setCell _ ⟨b, 1, none⟩ _ _ h).trans (Below.heap_setCell _ ⟨b, 0, none⟩ _ _ h)
  have f5' : Bx0 ((W.setCell ⟨b4, 0, none⟩ (.slice (some ⟨gm1, 0, none⟩) n n)).setCell ⟨b4, 1, none⟩ (.slice A1 n co1)) b5 := (hfar _ b4 b5 _ _ (Ne.symm hne)).trans f5
  have r4 := row_set2 f4 (.slice (some ⟨gm1, 0, none⟩) n n) (.slice A1 n co1)
  have r4' := (hfar ((W.setCell ⟨b4, 0, none⟩ (.slice (some ⟨gm1, 0, none⟩) n n)).setCell ⟨b4, 1, none⟩ (.slice A1 n co1)) b5 b4 (.slice (some ⟨gm2, 0, none⟩) n n) (.slice A2 n co2) hne).trans r4
  have r5' := row_set2 f5' (.slice (some ⟨gm2, 0, none⟩) n n) (.slice A2 n co2)
  have s4 : ((W.setCell ⟨b4, 0, none⟩ (.slice (some ⟨gm1, 0, none⟩) n n)).setCell ⟨b4, 1, none⟩ (.slice A1 n co1)).cell? ⟨w.heap.size, 0, none⟩ = some (.slice (some ⟨gO, 0, none⟩) n cO) ∧ ((W.setCell ⟨b4, 0, none⟩ (.slice (some ⟨gm1, 0, none⟩) n n)).setCell ⟨b4, 1, none⟩ (.slice A1 n co1)).cell? ⟨w.heap.size, 1, none⟩ = some (.slice (some ⟨gI, 0, none⟩) n cI) :=
    ⟨(cell_of_same (hfar W b4 w.heap.size _ _ (by omega)) 0).trans hs.1, (cell_of_same (hfar W b4 w.heap.size _ _ (by omega)) 1).trans hs.2⟩
  have s5 : ((((W.setCell ⟨b4, 0, none⟩ (.slice (some ⟨gm1, 0, none⟩) n n)).setCell ⟨b4, 1, none⟩ (.slice A1 n co1)).setCell ⟨b5, 0, none⟩ (.slice (some ⟨gm2, 0, none⟩) n n)).setCell ⟨b5, 1, none⟩ (.slice A2 n co2)).cell? ⟨w.heap.size, 0, none⟩ = some (.slice (some ⟨gO, 0, none⟩) n cO) ∧ ((((W.setCell ⟨b4, 0, none⟩ (.slice (some ⟨gm1, 0, none⟩) n n)).setCell ⟨b4, 1, none⟩ (.slice A1 n co1)).setCell ⟨b5, 0, none⟩ (.slice (some ⟨gm2, 0, none⟩) n n)).setCell ⟨b5, 1, none⟩ (.slice A2 n co2)).cell? ⟨w.heap.size, 1, none⟩ = some (.slice (some ⟨gI, 0, none⟩) n cI) :=
    ⟨(cell_of_same (hfar _ b5 w.heap.size _ _ (by omega)) 0).trans s4.1, (cell_of_same (hfar _ b5 w.heap.size _ _ (by omega)) 1).trans s4.2⟩
  have hf4 : ∀ i, W.frozen? ⟨b4, i, none⟩ = false := fun i => frozen_of_heap f4 i
  have hf5 : ∀ i, ((W.setCell ⟨b4, 0, none⟩ (.slice (some ⟨gm1, 0, none⟩) n n)).setCell ⟨b4, 1, none⟩ (.slice A1 n co1)).frozen? ⟨b5, i, none⟩ = false := fun i => frozen_of_heap f5' i
  refine ⟨⟨by rw [cell_of_row _ _ 0 _ _ (0, 0) f4]; rfl, by rw [cell_of_row _ _ 1 _ _ (0, 0) f4]; rfl⟩, hf4 0, hf4 1, by rw [cell_of_row _ _ 0 _ _ (0, 0) f5']; rfl, by rw [cell_of_row _ _ 1 _ _ (0, 0) f5']; rfl, hf5 0, hf5 1, s4, s5, r4', r5', ?_, ?_, hne, hd, z1, z2, below_set2 (below_set2 hb (by omega) _ _) (by omega) _ _, gO, cO, s5.1⟩
  · have h := (n1.set2 f4 (by omega) (.slice (some ⟨gm1, 0, none⟩) n n) (.slice A1 n co1)).set2 f5' (by omega) (.slice (some ⟨gm2, 0, none⟩) n n) (.slice A2 n co2)
    exact ⟨Nat.le_trans z3 h.ge, h.met, fun h0 => by obtain ⟨go, e, h1, h2⟩ := h.opn h0; exact ⟨go, e, Nat.le_trans z3 h1, h2⟩⟩
  · have h := (n2.set2 f4 (by omega) (.slice (some ⟨gm1, 0, none⟩) n n) (.slice A1 n co1)).set2 f5' (by omega) (.slice (some ⟨gm2, 0, none⟩) n n) (.slice A2 n co2)
    exact ⟨Nat.le_trans z4 h.ge, h.met, fun h0 => by obtain ⟨go, e, h1, h2⟩ := h.opn h0; exact ⟨go, e, Nat.le_trans z4 h1, h2⟩⟩
theorem opnSum_rows (key : Edge → Int) (g : Edge → Nat) : ∀ (E : List Edge) (n : Nat), opnSum (fun i => (E.filter fun e => key e == (i : Int)).map g) n ≤ E.length
  | [], n => by
    have : ∀ n, opnSum (fun i => (([] : List Edge).filter fun e => key e == (i : Int)).map g) n = 0 := fun n => by
      induction n with
      | zero => rfl
      | succ n ih => show opnSum _ n + _ = 0; rw [ih]; rfl
    rw [this n]; exact Nat.zero_le _
  | e :: E, n => by
    have ih := opnSum_rows key g E n
    have key2 : ∀ n, opnSum (fun i => ((e :: E).filter fun e => key e == (i : Int)).map g) n ≤ opnSum (fun i => (E.filter fun e => key e == (i : Int)).map g) n + (if 0 ≤ key e ∧ key e < (n : Int) then 1 else 0) := fun n => by
      induction n with
      | zero => exact Nat.zero_le _
      | succ n ih =>
        show opnSum _ n + (((e :: E).filter fun e => key e == (n : Int)).map g).length ≤ opnSum _ n + ((E.filter fun e => key e == (n : Int)).map g).length + _
        by_cases h : key e = (n : Int)
        · rw [List.filter_cons_of_pos (by simpa using h), if_pos (by omega)]
          rw [if_neg (by omega)] at ih
          simp only [List.length_map, List.length_cons] at ih ⊢
          omega
        · rw [List.filter_cons_of_neg (by simpa using h)]
          by_cases h2 : 0 ≤ key e ∧ key e < (n : Int)
          · rw [if_pos h2] at ih
            rw [if_pos (by omega)]
            omega
          · rw [if_neg h2] at ih
            rw [if_neg (by omega)]
            omega
    have := key2 n
    rw [List.length_cons]
    split at this <;> omega
theorem opnSum_few {G : GT} (hf : fewB G) (n : Nat) : opnSum (outN G) n ≤ 4100 ∧ opnSum (inN G) n ≤ 4100 := by
  have hE : (inE G).length ≤ 4100 := by
    have := edgesL_len hf (Nat.le_refl _)
    have := List.length_filter_le (toN G.n) (edgesL G G.n)
    have := hf.1
    unfold inE
    omega
  exact ⟨Nat.le_trans (opnSum_rows (fun e => e.1) (fun e => e.2.2.toNat) (inE G) n) hE, Nat.le_trans (opnSum_rows (fun e => e.2.2) (fun e => e.1.toNat) (inE G) n) hE⟩
theorem outN_lt {G : GT} (x : Nat) : ∀ y ∈ outN G x, y < G.n := fun _ hy => (mem_outN.1 hy).2.1
theorem inN_lt {G : GT} (x : Nat) : ∀ y ∈ inN G x, y < G.n := fun _ hy => (mem_inN.1 hy).1
theorem Wk1.few {R : Nat → List Nat} {n k : Nat} {d : Ds} (h : Wk1 R n k d) (hR : ∀ x, x < n → ∀ y ∈ R x, y < n) : d.lft.length ≤ n ∧ ∀ x ∈ d.lft, x < n := by
  have hl : ∀ x ∈ d.lft, x < n := fun x hx => h.inv.lt h.stk hR hx
  exact ⟨nodup_bound n d.lft (List.nodup_append.1 h.inv.nodup).1 hl, hl⟩
end Go.Proofs.Ytmbjmibjobpdgaa

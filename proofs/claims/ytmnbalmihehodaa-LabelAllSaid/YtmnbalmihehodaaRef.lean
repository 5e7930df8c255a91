/-
  Contracts of basculeref01: Is, Leq, Join, Meet.
-/
import Derived.Test.YtmnbalmihehodaaSame
namespace Go.Proofs.Ytmnbalmihehodaa
open Go.RowKit

/-- The cells of the document's lattice: how many labels, and its table. -/
structure RLat (cs : Array Value) (n : Nat) (L : Nat → Nat → Bool) : Prop where
  sz : cs.size = 65
  n8 : n ≤ 8
  num : cs[0]? = some (.int .i64 n)
  tab : ∀ a b, a < 8 → b < 8 → cs[1 + a * 8 + b]? = some (.bool (L a b))

theorem info31 : (Try.prog.info? 28).map (·.size) = some 65 := by kernel_rfl

/-- A whole load of the document's lattice, guarded or not. -/
theorem ld31 {ops : Array Oper} {rest : List Oper} {o : Oper} {a : Act} {w : World} {Q : Exit → Act → World → Prop} (hw : Region.wanted o (yielded ops a.tmps) = true) (x : Operand) (ho : o.op = .load 28 x)
    (g : Nat) (hx : a.eval x = .pointer (some ⟨g, 0, none⟩)) (cs : Array Value) (hg : w.heap[g]? = some (.cells cs 28 (0, 0))) (hs : cs.size = 65)
    (h : wpList Try.prog ops Q rest (a.put o.dst (.agg cs)) w) : wpList Try.prog ops Q (o :: rest) a w :=
  BigFrame.wpList_want hw fun _ hK => wp_load_row 28 x ho g hx 28 cs (0, 0) _ hg Try.underlying28 rfl (by rw [info31, hs]) (hK _ _ h)

theorem Is_any {cs : Array Value} {n : Nat} {L : Nat → Nat → Bool} (a : Int) (w : World) (h : RLat cs n L) :
    Calls Try.prog 33 #[.agg cs, .int .i64 a] w fun e w' => e = .returned (.bool (isL n a)) ∧ Below w.heap.size w w' := by
  have hn : (w.alloc (.cells cs 28)).cell? ⟨w.heap.size, 0, none⟩ = some (.int .i64 n) := (cell_of_heap (heap_alloc_new w _) 0).trans h.num
  have hb : Below w.heap.size w (w.alloc (.cells cs 28)) := (Below.refl _ _).alloc (Nat.le_refl _) _
  by_cases h0 : 0 ≤ a
  · go_enter Try.func33, Try.ntmps33
    go_wp2_with fail
    go_ret
    exact ⟨by simp [isL, h0], hb⟩
  · go_enter Try.func33, Try.ntmps33
    go_wp2_with fail
    go_ret
    exact ⟨by simp [isL]; omega, hb⟩

/-- Leq as the document's table tells it. -/
def rleq (n : Nat) (L : Nat → Nat → Bool) (a b : Int) : Bool := isL n a && (isL n b && L a.toNat b.toNat)

theorem rLeq_any {cs : Array Value} {n : Nat} {L : Nat → Nat → Bool} (a b : Int) (w : World) (h : RLat cs n L) :
    Calls Try.prog 36 #[.agg cs, .int .i64 a, .int .i64 b] w fun e w' => e = .returned (.bool (rleq n L a b)) ∧ Below w.heap.size w w' := by
  have hg : (w.alloc (.cells cs 28)).heap[w.heap.size]? = some (.cells cs 28 (0, 0)) := heap_alloc_new w _
  have hb : Below w.heap.size w (w.alloc (.cells cs 28)) := (Below.refl _ _).alloc (Nat.le_refl _) _
  have n8 := h.n8
  have hsz := Lib.hid h.sz
  cases ha : isL n a
  · have Hv : Hid (rleq n L a b = false) := by simp [rleq, ha, Hid]
    have Ha := Lib.hid ha
    clear ha
    go_enter Try.func36, Try.ntmps36
    go_wp2_with (first | (refine ld31 rfl _ rfl _ rfl _ hg hsz.out ?_) | fail)
    refine (Is_any a _ h).mono ?_
    rintro e w1 ⟨rfl, hb1⟩
    have hb2 := hb.trans (hb1.mono hb.size)
    rw [Ha.out]
    clear hg hb1
    go_wp2_with fail
    go_ret
    exact ⟨by rw [Hv.out]; rfl, hb2⟩
  cases hbb : isL n b
  · have Hv : Hid (rleq n L a b = false) := by simp [rleq, hbb, Hid]
    have Ha := Lib.hid ha
    have Hb := Lib.hid hbb
    clear ha hbb
    go_enter Try.func36, Try.ntmps36
    go_wp2_with (first | (refine ld31 rfl _ rfl _ rfl _ hg hsz.out ?_) | fail)
    refine (Is_any a _ h).mono ?_
    rintro e w1 ⟨rfl, hb1⟩
    have hb2 := hb.trans (hb1.mono hb.size)
    have hg1 := (hb1.block _ (by simp)).trans hg
    rw [Ha.out]
    clear hg hb1
    go_wp2_with (first | (refine ld31 rfl _ rfl _ rfl _ hg1 hsz.out ?_) | fail)
    refine (Is_any b _ h).mono ?_
    rintro e w2 ⟨rfl, hb3⟩
    have hb4 := hb2.trans (hb3.mono hb2.size)
    rw [Hb.out]
    go_wp2_with fail
    go_ret
    exact ⟨by rw [Hv.out]; rfl, hb4⟩
  · have Hv : Hid (rleq n L a b = L a.toNat b.toNat) := by simp [rleq, ha, hbb, Hid]
    obtain ⟨a0, a1⟩ := isL_iff.1 ha
    obtain ⟨b0, b1⟩ := isL_iff.1 hbb
    have ht := h.tab a.toNat b.toNat (by omega) (by omega)
    have Ha := Lib.hid ha
    have Hb := Lib.hid hbb
    have Ht := Lib.hid ht
    have a8 : a < 8 := by omega
    have b8 : b < 8 := by omega
    clear ha hbb ht
    go_enter Try.func36, Try.ntmps36
    go_wp2_with (first | (refine ld31 rfl _ rfl _ rfl _ hg hsz.out ?_) | fail)
    refine (Is_any a _ h).mono ?_
    rintro e w1 ⟨rfl, hb1⟩
    have hb2 := hb.trans (hb1.mono hb.size)
    have hg1 := (hb1.block _ (by simp)).trans hg
    rw [Ha.out]
    clear hg hb1
    go_wp2_with (first | (refine ld31 rfl _ rfl _ rfl _ hg1 hsz.out ?_) | fail)
    refine (Is_any b _ h).mono ?_
    rintro e w2 ⟨rfl, hb3⟩
    have hb4 := hb2.trans (hb3.mono hb2.size)
    have hg2 := (hb3.block _ (by have := hb2.size; have := (Array.getElem?_eq_some_iff.1 hg1).1; omega)).trans hg1
    have hc := (cell_of_heap hg2 (1 + a.toNat * 8 + b.toNat)).trans Ht.out
    clear hg1 hg2
    rw [Hb.out]
    go_wp2_with fail
    go_ret
    exact ⟨by rw [Hv.out]; rfl, hb4⟩
end Go.Proofs.Ytmnbalmihehodaa

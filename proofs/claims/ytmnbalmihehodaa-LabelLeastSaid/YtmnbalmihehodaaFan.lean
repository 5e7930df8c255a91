/-
  Contracts of everyThing, slices.Repeat (of one int), fanOut.
-/
import Derived.Test.YtmnbalmihehodaaInts
import Derived.Test.YtmnbalmihehodaaMul
import Derived.Laws.CopyOwn
import Derived.Deep.RegionLaw
import Derived.StillTailTactics
namespace Go.Proofs.Ytmnbalmihehodaa
open Go.RowKit

theorem made_ics (n : Nat) : (madeCells (Value.int .i64 0).cells (n * 1)).toList = ics n fun _ => 0 := by
  apply List.ext_getElem
  · simp [madeCells, ics]
  · intro i h1 h2
    simp [madeCells, ics, Value.cells, Nat.mod_one]

/-- 'make([]int, n)'. -/
theorem wp_mkI {ops : Array Oper} {rest : List Oper} {o : Oper} {a : Act} {w : World} {Q : Exit → Act → World → Prop} (hgd : o.guard = none) (l c : Operand) (ho : o.op = .makeSlice 23 l c)
    (n : Nat) (hl : a.eval l = .int .i64 (n : Int)) (hc : a.eval c = .int .i64 (n : Int)) (hn : n ≤ 1000)
    (h : ∀ w', IB w' w.heap.size n (fun _ => 0) → Below w.heap.size w w' → wpList Try.prog ops Q rest (a.put o.dst (.slice (some ⟨w.heap.size, 0, none⟩) n n)) w') : wpList Try.prog ops Q (o :: rest) a w := by
  obtain ⟨i0, hi, hz0, hz1, hz2⟩ := info_parts Try.info3
  refine wpList_make_full w hgd l c 23 ho w.heap.size 3 i0 (.int .i64 0) 1 Try.underlying23 hi hz0 hz1 .i64 .i64 _ _ n hl hc rfl rfl (by rw [hz2]; omega) (by unfold maxLen; omega) (Nat.le_refl _) fun w' h1 h2 => ?_
  rw [made_ics] at h1
  obtain ⟨g, cap, e, _, hI⟩ := ib_of_own h1 (by intro e; cases e)
  cases e
  exact h w' hI ((Below.refl _ _).grown h2 (Nat.le_refl _) (fun k hk => by cases hk))

/-- The same, as an owned row. -/
theorem wp_mkO {ops : Array Oper} {rest : List Oper} {o : Oper} {a : Act} {w : World} {Q : Exit → Act → World → Prop} (hgd : o.guard = none) (l c : Operand) (ho : o.op = .makeSlice 23 l c)
    (n : Nat) (hl : a.eval l = .int .i64 (n : Int)) (hc : a.eval c = .int .i64 (n : Int)) (hn : n ≤ 1000)
    (h : ∀ w', w'.ownsRow w.heap.size 3 1 (.slice (some ⟨w.heap.size, 0, none⟩) n n) n (ics n fun _ => 0) → Below w.heap.size w w' → wpList Try.prog ops Q rest (a.put o.dst (.slice (some ⟨w.heap.size, 0, none⟩) n n)) w') : wpList Try.prog ops Q (o :: rest) a w := by
  obtain ⟨i0, hi, hz0, hz1, hz2⟩ := info_parts Try.info3
  refine wpList_make_full w hgd l c 23 ho w.heap.size 3 i0 (.int .i64 0) 1 Try.underlying23 hi hz0 hz1 .i64 .i64 _ _ n hl hc rfl rfl (by rw [hz2]; omega) (by unfold maxLen; omega) (Nat.le_refl _) fun w' h1 h2 => ?_
  rw [made_ics] at h1
  exact h w' h1 ((Below.refl _ _).grown h2 (Nat.le_refl _) (fun k hk => by cases hk))

/-- What everyThing has behind k rounds. -/
def evK (k : Nat) : Nat → Int := fun i => if i < k then (i : Int) else 0
theorem ics_set (n k : Nat) : (ics n (evK k)).set k (.int .i64 (k : Int)) = ics n (evK (k + 1)) := by
  apply List.ext_getElem
  · simp [ics]
  · intro i h1 h2
    rw [List.getElem_set]
    by_cases e : k = i
    · subst e
      simp [ics, evK]
    · rw [if_neg e]
      by_cases h3 : i < k
      · simp [ics, evK, h3, show i < k + 1 by omega]
      · simp [ics, evK, h3, show ¬ i < k + 1 by omega]
theorem ics_all (n : Nat) : ics n (evK n) = intsOf (List.range n) := by
  apply List.ext_getElem
  · simp [ics, intsOf]
  · intro i h1 h2
    have h3 : i < n := by simpa [ics] using h1
    simp [ics, intsOf, evK, h3]

set_option maxHeartbeats 400000 in
theorem every_any (n : Nat) (hn : n ≤ 1000) (w : World) :
    Calls Try.prog 53 #[.int .i64 (n : Int)] w fun e w' => ∃ v, e = .returned v ∧ w'.ownsRow w.heap.size 3 1 v (List.range n).length (intsOf (List.range n)) ∧ Below w.heap.size w w' := by
  go_enter Try.func53, Try.ntmps53
  go_wp2_with (first | (at_make; refine wp_mkO rfl _ _ rfl n rfl rfl hn ?_; intro w1 hI hb1) | fail)
  go_loopw [9] (fun i wr => ∃ k : Nat, k ≤ n ∧ i = .int .i64 k ∧ wr.ownsRow w.heap.size 3 1 (.slice (some ⟨w.heap.size, 0, none⟩) n n) n (ics n (evK k)) ∧ Below w.heap.size w wr) (fun i _ => n - (intOf i).toNat)
  case atStart => exact ⟨0, Nat.zero_le _, rfl, hI, hb1⟩
  case round =>
    obtain ⟨k, hk, rfl, hI, hb⟩ := hrel
    by_cases hlt : k < n
    · have hc := (hI.cellAt k (by omega)).trans (ics_at n (evK k) k hlt)
      have hf := hI.frozenAt k
      have hk0 : (0 : Int) ≤ k := by omega
      have hk1 : (k : Int) < n := by omega
      have HS := Lib.hid (hI.stored k (.int .i64 (k : Int))).1
      have HE := Lib.hid (ics_set n k)
      clear hI
      go_wp2_with fail
      go_roundw
      case rel => exact ⟨k + 1, by omega, by go_num, by rw [← HE.out]; exact HS.out, hb.setCell (Nat.le_refl _) _⟩
      case measure => simp [intOf]; omega
    · obtain rfl : k = n := by omega
      have HA := Lib.hid (ics_all k)
      go_wp2_with fail
      go_ret
      exact ⟨_, rfl, by rw [List.length_range, ← HA.out]; exact hI, hb⟩
end Go.Proofs.Ytmnbalmihehodaa

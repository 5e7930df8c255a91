/-
  The contract of awake.
-/
import Derived.Test.YtmnbalmihehodaaSame
namespace Go.Proofs.Ytmnbalmihehodaa
open Go.RowKit

def p0 (i : Nat) : Int := if i = 0 then 0 else if i = 1 then 0 else if i = 2 then 1 else 2
def q0 (i : Nat) : Int := if i = 0 then 1 else if i = 1 then 2 else if i = 2 then 3 else 3

theorem aw_mbo : mbo 4 4 p0 q0 = true := by decide +kernel
theorem aw_mbo3 : mbo 4 3 p0 q0 = true := by decide +kernel
theorem aw_lat : mkL 4 4 p0 q0 = true := by decide +kernel
theorem aw_lat3 : mkL 4 3 p0 q0 = false := by decide +kernel
theorem aw_join : jn 4 (mkA 4 4 p0 q0) 1 2 = 3 := by decide +kernel
theorem aw_meet : jn 4 (mkB 4 4 p0 q0) 1 2 = 0 := by decide +kernel
theorem aw_bot : botK 4 (mkA 4 4 p0 q0) 4 = 0 := by decide +kernel
theorem aw_top : topK 4 (mkA 4 4 p0 q0) 4 = 3 := by decide +kernel
theorem aw_mem : mem (mkB 4 4 p0 q0 1) 8 = [0, 1] := by decide +kernel
theorem aw_leq : leqB 4 (mkA 4 4 p0 q0) 0 3 = true := by decide +kernel
theorem aw_leq2 : leqB 4 (mkA 4 4 p0 q0) 1 2 = false := by decide +kernel

def cs4 : Array Value := #[.int .i64 0, .int .i64 1, .int .i64 0, .int .i64 2, .int .i64 1, .int .i64 3, .int .i64 2, .int .i64 3]
def cs3 : Array Value := #[.int .i64 0, .int .i64 1, .int .i64 0, .int .i64 2, .int .i64 1, .int .i64 3]

theorem nat_cases4 {P : Nat → Prop} (h0 : P 0) (h1 : P 1) (h2 : P 2) (h3 : P 3) : ∀ i, i < 4 → P i := by
  intro i hi
  obtain rfl | rfl | rfl | rfl : i = 0 ∨ i = 1 ∨ i = 2 ∨ i = 3 := by omega
  all_goals assumption
theorem nat_cases2 {P : Nat → Prop} (h0 : P 0) (h1 : P 1) : ∀ i, i < 2 → P i := by
  intro i hi
  obtain rfl | rfl : i = 0 ∨ i = 1 := by omega
  all_goals assumption
theorem nat_cases3 {P : Nat → Prop} (h0 : P 0) (h1 : P 1) (h2 : P 2) : ∀ i, i < 3 → P i := by
  intro i hi
  obtain rfl | rfl | rfl : i = 0 ∨ i = 1 ∨ i = 2 := by omega
  all_goals assumption

theorem prs4 (w : World) (B : Nat) (hB : w.heap.size < B) : Prs (w.alloc (.cells cs4 51)) B (some ⟨w.heap.size, 0, none⟩) 4 p0 q0 := by
  have hc := cell_of_heap (heap_alloc_new w (.cells cs4 51))
  exact fun _ => ⟨w.heap.size, 0, rfl, hB, nat_cases4 ⟨hc 0, hc 1⟩ ⟨hc 2, hc 3⟩ ⟨hc 4, hc 5⟩ ⟨hc 6, hc 7⟩⟩
theorem prs3 (w : World) (B : Nat) (hB : w.heap.size < B) : Prs (w.alloc (.cells cs3 51)) B (some ⟨w.heap.size, 0, none⟩) 3 p0 q0 := by
  have hc := cell_of_heap (heap_alloc_new w (.cells cs3 51))
  exact fun _ => ⟨w.heap.size, 0, rfl, hB, nat_cases3 ⟨hc 0, hc 1⟩ ⟨hc 2, hc 3⟩ ⟨hc 4, hc 5⟩⟩

theorem Below.alloc1 {B : Nat} {a w : World} (h : Below B a w) (hB : B ≤ a.heap.size) (o : Obj) : Below B a (w.alloc o) := h.alloc (Nat.le_trans hB h.size) o

/-- What has been allocated and called since w. -/
theorem after {w w1 w2 : World} (h : Below w.heap.size w w1) (h' : Below w1.heap.size w1 w2) : Below w.heap.size w w2 := h.trans (h'.mono h.size)

end Go.Proofs.Ytmnbalmihehodaa

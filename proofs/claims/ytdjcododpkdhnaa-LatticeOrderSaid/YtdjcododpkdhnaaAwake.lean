/-
  The contract of awake.
-/
import Derived.Test.YtdjcododpkdhnaaSame
namespace Go.Proofs.Ytdjcododpkdhnaa
open Go.RowKit

def p0 (i : Nat) : Int := if i = 0 then 0 else if i = 1 then 0 else if i = 2 then 1 else 2
def q0 (i : Nat) : Int := if i = 0 then 1 else if i = 1 then 2 else if i = 2 then 3 else 3

theorem aw_mbo : mbo 4 4 p0 q0 = true := by decide +kernel
theorem aw_mbo3 : mbo 4 3 p0 q0 = true := by decide +kernel
theorem aw_lat : mkL 4 4 p0 q0 = true := by decide +kernel
theorem aw_lat3 : mkL 4 3 p0 q0 = false := by decide +kernel
theorem aw_join : jn 4 (mkA 4 4 p0 q0) 1 2 = 3 := by decide +kernel
theorem aw_meet : jn 4 (mkB 4 4 p0 q0) 1 2 = 0 := by decide +kernel
theorem aw_bot : botK 4 (mkA 4 4 p0 q0) 4 = 0 := by decide +kernel
theorem aw_top : topK 4 (mkA 4 4 p0 q0) 4 = 3 := by decide +kernel
theorem aw_mem : mem (mkB 4 4 p0 q0 1) 8 = [0, 1] := by decide +kernel
theorem aw_leq : leqB 4 (mkA 4 4 p0 q0) 0 3 = true := by decide +kernel
theorem aw_leq2 : leqB 4 (mkA 4 4 p0 q0) 1 2 = false := by decide +kernel

def cs4 : Array Value := #[.int .i64 0, .int .i64 1, .int .i64 0, .int .i64 2, .int .i64 1, .int .i64 3, .int .i64 2, .int .i64 3]
def cs3 : Array Value := #[.int .i64 0, .int .i64 1, .int .i64 0, .int .i64 2, .int .i64 1, .int .i64 3]

theorem nat_cases4 {P : Nat → Prop} (h0 : P 0) (h1 : P 1) (h2 : P 2) (h3 : P 3) : ∀ i, i < 4 → P i := by
  intro i hi
  obtain rfl | rfl | rfl | rfl : i = 0 ∨ i = 1 ∨ i = 2 ∨ i = 3 := by omega
  all_goals assumption
theorem nat_cases2 {P : Nat → Prop} (h0 : P 0) (h1 : P 1) : ∀ i, i < 2 → P i := by
  intro i hi
  obtain rfl | rfl : i = 0 ∨ i = 1 := by omega
  all_goals assumption
theorem nat_cases3 {P : Nat → Prop} (h0 : P 0) (h1 : P 1) (h2 : P 2) : ∀ i, i < 3 → P i := by
  intro i hi
  obtain rfl | rfl | rfl : i = 0 ∨ i = 1 ∨ i = 2 := by omega
  all_goals assumption

theorem prs4 (w : World) (B : Nat) (hB : w.heap.size < B) : Prs (w.alloc (.cells cs4 52)) B (some ⟨w.heap.size, 0, none⟩) 4 p0 q0 := by
  have hc := cell_of_heap (heap_alloc_new w (.cells cs4 52))
  exact fun _ => ⟨w.heap.size, 0, rfl, hB, nat_cases4 ⟨hc 0, hc 1⟩ ⟨hc 2, hc 3⟩ ⟨hc 4, hc 5⟩ ⟨hc 6, hc 7⟩⟩
theorem prs3 (w : World) (B : Nat) (hB : w.heap.size < B) : Prs (w.alloc (.cells cs3 52)) B (some ⟨w.heap.size, 0, none⟩) 3 p0 q0 := by
  have hc := cell_of_heap (heap_alloc_new w (.cells cs3 52))
  exact fun _ => ⟨w.heap.size, 0, rfl, hB, nat_cases3 ⟨hc 0, hc 1⟩ ⟨hc 2, hc 3⟩ ⟨hc 4, hc 5⟩⟩

theorem Below.alloc1 {B : Nat} {a w : World} (h : Below B a w) (hB : B ≤ a.heap.size) (o : Obj) : Below B a (w.alloc o) := h.alloc (Nat.le_trans hB h.size) o

/-- What has been allocated and called since w. -/
theorem after {w w1 w2 : World} (h : Below w.heap.size w w1) (h' : Below w1.heap.size w1 w2) : Below w.heap.size w w2 := h.trans (h'.mono h.size)

set_option maxHeartbeats 1000000 in
theorem awake_any (w : World) : Calls Try.prog 9 #[] w fun e w' => e = .returned (.bool true) ∧ Below w.heap.size w w' := by
  go_enter Try.func9, Try.ntmps9
  go_wp2_with fail
  refine (Make_ok 4 _ 4 4 p0 q0 _ (prs4 w _ (by simp)) aw_mbo aw_lat).mono ?_
  rintro e w1 ⟨g, rfl, hg, hb1, hL⟩
  have hb : Below w.heap.size w w1 := after ((Below.refl _ _).alloc (Nat.le_refl _) _) hb1
  have hk : (4 : Int).toNat = 4 := rfl
  rw [hk] at hL
  clear hk hg hb1
  go_wp2_with fail
  refine (Make_lat 4 _ 3 3 p0 q0 _ (prs3 w1 _ (by simp)) aw_mbo3 aw_lat3).mono ?_
  rintro e w2 ⟨rfl, hb2⟩
  have hL2 := (hL.alloc _).keep hb2
  have hbb2 : Below w.heap.size w w2 := after (hb.alloc hb.size _) hb2
  clear hL hb hb2
  go_wp2_with fail
  refine (Join_yes 1 2 _ hL2 rfl rfl).mono ?_
  rintro e w3 ⟨rfl, hb3⟩
  have hL3 := hL2.keep hb3
  have hbb3 := after hbb2 hb3
  clear hL2 hbb2 hb3
  rw [show jn 4 (mkA 4 4 p0 q0) (1 : Int).toNat (2 : Int).toNat = 3 from aw_join]
  go_wp2_with fail
  refine (Meet_yes 1 2 _ hL3 rfl rfl).mono ?_
  rintro e w4 ⟨rfl, hb4⟩
  have hL4 := hL3.keep hb4
  have hbb4 := after hbb3 hb4
  clear hL3 hbb3 hb4
  rw [show jn 4 (mkB 4 4 p0 q0) (1 : Int).toNat (2 : Int).toNat = 0 from aw_meet]
  go_wp2_with fail
  refine (Bottom_any _ hL4).mono ?_
  rintro e w' ⟨rfl, rfl⟩
  rw [aw_bot]
  go_wp2_with fail
  refine (Top_any _ hL4).mono ?_
  rintro e w' ⟨rfl, rfl⟩
  rw [aw_top]
  go_wp2_with fail
  refine (Below_yes 1 _ hL4 rfl).mono ?_
  rintro e w5 ⟨v, rfl, hown, hb5⟩
  have hL5 := hL4.keep hb5
  have hbb5 := after hbb4 hb5
  clear hL4 hbb4 hb5
  rw [show mem (mkB 4 4 p0 q0 (1 : Int).toNat) 8 = [0, 1] from aw_mem] at hown
  obtain ⟨A, cap, rfl, hR⟩ := row_read hown
  clear hown
  have hR2 : Rd (w5.alloc (.cells #[.int .i64 0, .int .i64 1] 3)) (w5.heap.size + 1) (some ⟨w5.heap.size, 0, none⟩) 2 (fOf [0, 1]) := by
    have hc := cell_of_heap (heap_alloc_new w5 (.cells #[.int .i64 0, .int .i64 1] 3))
    exact fun _ => ⟨w5.heap.size, 0, rfl, by omega, nat_cases2 (hc 0) (hc 1)⟩
  have hRa : Rd (w5.alloc (.cells #[.int .i64 0, .int .i64 1] 3)) w5.heap.size A 2 (fOf [0, 1]) := hR.keep ((Below.refl _ _).alloc (Nat.le_refl _) _)
  have hL5a := hL5.alloc (.cells #[.int .i64 0, .int .i64 1] 3)
  have hbb5a := hbb5.alloc hbb5.size (.cells #[.int .i64 0, .int .i64 1] 3)
  clear hR hL5 hbb5
  go_wp2_with fail
  refine (same_any A _ 2 cap 2 (fOf [0, 1]) (fOf [0, 1]) _ (by omega) (hRa.mono (by simp)) (hR2.mono (by simp))).mono ?_
  rintro e w6 ⟨rfl, hb6⟩
  have hL6 := hL5a.keep hb6
  have hbb6 := after hbb5a hb6
  rw [show smK (fOf [0, 1]) (fOf [0, 1]) 2 = true by decide]
  clear hR2 hRa hL5a hbb5a hb6
  go_wp2_with fail
  refine (leq_any 0 3 _ hL6).mono ?_
  rintro e w' ⟨rfl, rfl⟩
  rw [aw_leq]
  go_wp2_with fail
  refine (leq_any 1 2 _ hL6).mono ?_
  rintro e w' ⟨rfl, rfl⟩
  rw [aw_leq2]
  go_wp2_with fail
  go_ret
  exact ⟨rfl, hbb6⟩
end Go.Proofs.Ytdjcododpkdhnaa

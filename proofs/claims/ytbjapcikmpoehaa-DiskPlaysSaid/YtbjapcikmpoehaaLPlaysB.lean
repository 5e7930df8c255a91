/-
  The walk of DiskPlays: where nothing is played; the inner loop.
-/
import Derived.Test.YtbjapcikmpoehaaLPlaysA
namespace Go.Proofs.Ytbjapcikmpoehaa.lawDiskPlays
open Go.RowKit

set_option maxRecDepth 100000 in
set_option maxHeartbeats 1000000 in
theorem walk_bad (a0 : Int) {A : Option Addr} {len cap : Nat} (w : World) (h : ¬ (1 ≤ a0 ∧ a0 ≤ 8)) : Calls Try.prog 3 #[.int .i64 a0, .slice A len cap] w (Yes w) := by
  by_cases h1 : 1 ≤ a0
  · have t1 : decide (1 ≤ a0) = true := decide_eq_true h1
    have t2 : decide (a0 ≤ 8) = false := decide_eq_false (by omega)
    have H := Lib.hid h
    clear h h1
    go_enter Try.func3, Try.ntmps3
    go_wp2_with fail
    refine (New_bad a0 _ H.out).mono ?_
    rintro e w' ⟨rfl, rfl⟩
    go_wp2_with fail
    refine (awake_any _).mono ?_
    rintro e w1 ⟨rfl, hb⟩
    replace hb := Lib.hid hb
    go_wp2_with fail
    go_ret
    exact ⟨rfl, hb.out⟩
  · have t1 : decide (1 ≤ a0) = false := decide_eq_false h1
    have H := Lib.hid h
    clear h h1
    go_enter Try.func3, Try.ntmps3
    go_wp2_with fail
    refine (New_bad a0 _ H.out).mono ?_
    rintro e w' ⟨rfl, rfl⟩
    go_wp2_with fail
    refine (awake_any _).mono ?_
    rintro e w1 ⟨rfl, hb⟩
    replace hb := Lib.hid hb
    go_wp2_with fail
    go_ret
    exact ⟨rfl, hb.out⟩

set_option maxRecDepth 100000 in
set_option maxHeartbeats 1000000 in
theorem walk_long (n : Nat) {A : Option Addr} {len cap : Nat} {f : Nat → OpV} (w : World) (h1 : 1 ≤ n) (h8 : n ≤ 8) (hp : OpsAt w w.heap.size A len f) (hl : len ≤ maxLen) (hlong : longB f len = true) :
    Calls Try.prog 3 #[.int .i64 n, .slice A len cap] w (Yes w) := by
  have t1 : decide ((1 : Int) ≤ n) = true := decide_eq_true (by omega)
  have t2 : decide ((n : Int) ≤ 8) = true := decide_eq_true (by omega)
  have HP := Lib.hid hp
  have HL := Lib.hid hl
  have HG := Lib.hid hlong
  clear hp hl hlong
  go_enter Try.func3, Try.ntmps3
  go_wp2_with fail
  refine (New_ok n _ h1 h8).mono ?_
  rintro e w1 ⟨rfl, rfl⟩
  have hb1 := Lib.hid ((Below.refl w.heap.size w).alloc (Nat.le_refl _) (.cells (dcells n emptyL) 52))
  generalize w.alloc (.cells (dcells n emptyL) 52) = w1 at *
  go_wp2_with fail
  refine (awake_any _).mono ?_
  rintro e w2 ⟨rfl, hb⟩
  have hb2 := Lib.hid (hb1.out.trans (hb.mono hb1.out.size))
  clear hb
  go_wp2_with fail
  refine (long_any _ ((HP.out.below hb2.out).more hb2.out.size) HL.out).mono ?_
  rintro e w3 ⟨rfl, hb⟩
  have hb3 := Lib.hid (hb2.out.trans (hb.mono hb2.out.size))
  clear hb
  rw [HG.out]
  go_wp2_with fail
  go_ret
  exact ⟨rfl, hb3.out⟩
end Go.Proofs.Ytbjapcikmpoehaa.lawDiskPlays

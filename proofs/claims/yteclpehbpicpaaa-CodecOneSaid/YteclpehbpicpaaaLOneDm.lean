/-
  The walk of CodecOne where a number and an int are read, no value.
-/
import Derived.Test.YteclpehbpicpaaaLOneAm
namespace Go.Proofs.Yteclpehbpicpaaa.codecOne
open Go.RowKit

set_option maxRecDepth 100000 in
set_option maxHeartbeats 4000000 in
theorem walk_kkee {s : ByteArray} (hs : s.size ≤ 3000) (w : World) (PU : UOk s) (PI : IOk s) (PV : VErr s) (PT : TErr s) :
    Calls Try.prog 7 #[.string s] w fun e w' => e = .returned (.bool true) ∧ Below w.heap.size w w' := by
  have HAW := Lib.hid awake_any
  have t0 : decide (3000 < (s.size : Int)) = false := by simp; omega
  have SF := float_store
  obtain ⟨un, ux, un0, ux0, ue, CU⟩ := PU
  have UI := fun W => Uint_f un0 W
  rw [← ue] at UI
  clear un0
  obtain ⟨im, ix, im0, ix0, ie, CI⟩ := PI
  have II := fun W => Int_f im0 W
  rw [← ie] at II
  clear im0
  unfold VErr zero6 at PV
  obtain ⟨vc, vc0, CV⟩ := PV
  have q3 : ((vc : Int) == 0) = false := by simp; omega
  unfold TErr zero3 at PT
  obtain ⟨tc, tc0, CT⟩ := PT
  have q4 : ((tc : Int) == 0) = false := by simp; omega
  go_enter Try.func7, Try.ntmps7
  go_wp2_with (first
    | (go_at_call 9; refine (HAW.out _).mono ?_; rintro e w1 ⟨rfl, hb⟩; have HC := Lib.hid hb; clear hb)
    | (go_at_call 24; refine (CU _).mono ?_; rintro e w2 ⟨rfl, hb⟩; replace HC := Lib.hid (HC.out.trans (hb.mono HC.out.size)); clear hb))
  go_region_law (go_simp; go_at_call 18; refine (UI _).mono ?_; rintro e w2 ⟨rfl, hb⟩; replace HC := Lib.hid (HC.out.drew.trans (hb.mono HC.out.size)); clear hb)
  all_goals go_wp2_with (first | (go_at_call 25; refine (CI _).mono ?_; rintro e w3 ⟨rfl, hb⟩; replace HC := Lib.hid (HC.out.trans (hb.mono HC.out.size)); clear hb))
  all_goals
  go_region_law (go_simp; go_at_call 20; refine (II _).mono ?_; rintro e w2 ⟨rfl, hb⟩; replace HC := Lib.hid (HC.out.drew.trans (hb.mono HC.out.size)); clear hb)
  all_goals go_wp2_with (first | (go_at_call 31; refine (CV _).mono ?_; rintro e w4 ⟨rfl, hb⟩; replace HC := Lib.hid (HC.out.trans (hb.mono HC.out.size)); clear hb) | (go_at_call 33; refine (CT _).mono ?_; rintro e w6 ⟨rfl, hb⟩; replace HC := Lib.hid ((HC.out.alloc HC.out.size _).trans (hb.mono (Nat.le_trans HC.out.size (by simp)))); clear hb))
  all_goals go_ret
  all_goals exact ⟨rfl, HC.out.alloc HC.out.size _⟩
set_option maxRecDepth 100000 in
set_option maxHeartbeats 4000000 in
theorem walk_kkek {s : ByteArray} (hs : s.size ≤ 3000) (w : World) (PU : UOk s) (PI : IOk s) (PV : VErr s) (PT : TOk s) :
    Calls Try.prog 7 #[.string s] w fun e w' => e = .returned (.bool true) ∧ Below w.heap.size w w' := by
  have HAW := Lib.hid awake_any
  have t0 : decide (3000 < (s.size : Int)) = false := by simp; omega
  have SF := float_store
  obtain ⟨un, ux, un0, ux0, ue, CU⟩ := PU
  have UI := fun W => Uint_f un0 W
  rw [← ue] at UI
  clear un0
  obtain ⟨im, ix, im0, ix0, ie, CI⟩ := PI
  have II := fun W => Int_f im0 W
  rw [← ie] at II
  clear im0
  unfold VErr zero6 at PV
  obtain ⟨vc, vc0, CV⟩ := PV
  have q3 : ((vc : Int) == 0) = false := by simp; omega
  obtain ⟨tt, tx, tx0, rfl, CT⟩ := PT
  go_enter Try.func7, Try.ntmps7
  go_wp2_with (first
    | (go_at_call 9; refine (HAW.out _).mono ?_; rintro e w1 ⟨rfl, hb⟩; have HC := Lib.hid hb; clear hb)
    | (go_at_call 24; refine (CU _).mono ?_; rintro e w2 ⟨rfl, hb⟩; replace HC := Lib.hid (HC.out.trans (hb.mono HC.out.size)); clear hb))
  go_region_law (go_simp; go_at_call 18; refine (UI _).mono ?_; rintro e w2 ⟨rfl, hb⟩; replace HC := Lib.hid (HC.out.drew.trans (hb.mono HC.out.size)); clear hb)
  all_goals go_wp2_with (first | (go_at_call 25; refine (CI _).mono ?_; rintro e w3 ⟨rfl, hb⟩; replace HC := Lib.hid (HC.out.trans (hb.mono HC.out.size)); clear hb))
  all_goals
  go_region_law (go_simp; go_at_call 20; refine (II _).mono ?_; rintro e w2 ⟨rfl, hb⟩; replace HC := Lib.hid (HC.out.drew.trans (hb.mono HC.out.size)); clear hb)
  all_goals go_wp2_with (first | (go_at_call 31; refine (CV _).mono ?_; rintro e w4 ⟨rfl, hb⟩; replace HC := Lib.hid (HC.out.trans (hb.mono HC.out.size)); clear hb) | (go_at_call 33; refine (CT _).mono ?_; rintro e w6 ⟨c0, c1, c2, c3, c4, c5, c6, rfl, hb, CT2⟩; have HP2 := Lib.hid (HC.out.alloc HC.out.size (.cells #[.int .i64 0, .int .i64 0, .float .f64 0, .string ⟨#[]⟩, .slice none 0 0, .slice none 0 0] 27)); replace HC := Lib.hid ((HC.out.alloc HC.out.size _).trans (hb.mono (Nat.le_trans HC.out.size (by simp)))); clear hb) | (go_at_call 13; refine CT2.mono ?_; rintro e w7 ⟨rfl, hb⟩; replace HC := Lib.hid (HP2.out.trans (hb.mono HP2.out.size)); clear hb))
  all_goals go_ret
  all_goals exact ⟨rfl, HC.out⟩
end Go.Proofs.Yteclpehbpicpaaa.codecOne

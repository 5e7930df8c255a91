/-
  The walk of FrameMakes.
-/
import Derived.Test.YtlfeocccjolmpaaGw
namespace Go.Proofs.Ytlfeocccjolmpaa.frameMakes
open Go.RowKit

def Yes (w : World) (e : Ending) (w' : World) : Prop := e = .returned (.bool true) ∧ Below w.heap.size w w'
set_option maxRecDepth 20000 in
set_option maxHeartbeats 1000000 in
theorem walk {p : ByteArray} (hsz : p.size ≤ maxLen) (w : World) : Calls Try.prog 3 #[.string p] w (Yes w) := by
  have HAW := Lib.hid awake_any
  have hm : p.size ≤ 9223372036854775807 := by unfold maxLen at hsz; exact hsz
  clear hsz
  by_cases h5 : 5000 < p.size
  · have t0 : decide ((5000 : Int) < (p.size : Int)) = true := decide_eq_true (by omega)
    go_enter Try.func3, Try.ntmps3
    go_wp2_with (first | (go_at_call 8; refine (HAW.out w).mono ?_; rintro e w1 ⟨rfl, hb⟩; have HC := Lib.hid hb; clear hb) | (go_at_call 8; refine (HAW.out _).mono ?_; rintro e w9 ⟨rfl, hb⟩; replace HC := Lib.hid (HC.out.trans (hb.mono HC.out.size)); clear hb))
    go_ret
    exact ⟨rfl, HC.out⟩
  have t0 : decide ((5000 : Int) < (p.size : Int)) = false := decide_eq_false (by omega)
  have K := Lib.hid (LMake_any (p := p))
  have S := Lib.hid (LSum_any (s := p) hm)
  have R := Lib.hid (Sum_any (s := p) hm)
  have Y := Lib.hid (May_any (p := p))
  have M := Lib.hid (Make_any (p := p) (by omega))
  unfold makeV at K
  generalize sumN p.data.toList = c at *
  generalize strL (frL p.data.toList) = f at *
  clear h5 hm
  cases hm : mayB p with
  | false =>
    rw [hm] at K Y
    rw [if_neg Bool.false_ne_true] at K
    clear hm
    go_enter Try.func3, Try.ntmps3
    go_wp2_with (first
      | (go_at_call 8; refine (HAW.out w).mono ?_; rintro e w1 ⟨rfl, hb⟩; have HC := Lib.hid hb; clear hb)
      | (go_at_call 9; refine (K.out _).mono ?_; rintro e w2 ⟨rfl, hb⟩; replace HC := Lib.hid (HC.out.trans (hb.mono HC.out.size)); clear hb)
      | (go_at_call 10; refine (S.out _).mono ?_; rintro e w3 ⟨rfl, hb⟩; replace HC := Lib.hid (HC.out.trans (hb.mono HC.out.size)); clear hb)
      | (go_at_call 11; refine (R.out _).mono ?_; rintro e w4 ⟨rfl, rfl⟩)
      | (go_at_call 12; refine (Y.out _).mono ?_; rintro e w5 ⟨rfl, rfl⟩))
    go_ret
    exact ⟨rfl, HC.out⟩
  | true =>
    rw [hm] at K Y
    rw [if_pos rfl] at K
    clear hm
    go_enter Try.func3, Try.ntmps3
    go_wp2_with (first
      | (go_at_call 8; refine (HAW.out w).mono ?_; rintro e w1 ⟨rfl, hb⟩; have HC := Lib.hid hb; clear hb)
      | (go_at_call 9; refine (K.out _).mono ?_; rintro e w2 ⟨rfl, hb⟩; replace HC := Lib.hid (HC.out.trans (hb.mono HC.out.size)); clear hb)
      | (go_at_call 10; refine (S.out _).mono ?_; rintro e w3 ⟨rfl, hb⟩; replace HC := Lib.hid (HC.out.trans (hb.mono HC.out.size)); clear hb)
      | (go_at_call 11; refine (R.out _).mono ?_; rintro e w4 ⟨rfl, rfl⟩)
      | (go_at_call 12; refine (Y.out _).mono ?_; rintro e w5 ⟨rfl, rfl⟩)
      | (go_at_call 13; refine (M.out _).mono ?_; rintro e w6 ⟨rfl, hb⟩; replace HC := Lib.hid (HC.out.trans (hb.mono HC.out.size)); clear hb))
    go_ret
    exact ⟨rfl, HC.out⟩
end Go.Proofs.Ytlfeocccjolmpaa.frameMakes

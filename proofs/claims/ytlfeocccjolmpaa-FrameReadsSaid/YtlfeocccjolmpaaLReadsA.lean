/-
  The walk of FrameReads.
-/
import Derived.Test.YtlfeocccjolmpaaGw
namespace Go.Proofs.Ytlfeocccjolmpaa.frameReads
open Go.RowKit

def Yes (w : World) (e : Ending) (w' : World) : Prop := e = .returned (.bool true) ∧ Below w.heap.size w w'
set_option maxRecDepth 20000 in
set_option maxHeartbeats 1000000 in
theorem walk {s : ByteArray} {i : Int} (w : World) : Calls Try.prog 4 #[.string s, .int .i64 i] w (Yes w) := by
  have HAW := Lib.hid awake_any
  by_cases h5 : 5000 < s.size
  · have t0 : decide ((5000 : Int) < (s.size : Int)) = true := decide_eq_true (by omega)
    clear h5
    go_enter Try.func4, Try.ntmps4
    go_wp2_with (first | (go_at_call 8; refine (HAW.out w).mono ?_; rintro e w1 ⟨rfl, hb⟩; have HC := Lib.hid hb; clear hb) | (go_at_call 8; refine (HAW.out _).mono ?_; rintro e w9 ⟨rfl, hb⟩; replace HC := Lib.hid (HC.out.trans (hb.mono HC.out.size)); clear hb))
    go_ret
    exact ⟨rfl, HC.out⟩
  have t0 : decide ((5000 : Int) < (s.size : Int)) = false := decide_eq_false (by omega)
  have X := Lib.hid (LNext_any (s := s) (a := i) (by omega))
  have Y := Lib.hid (Next_any (s := s) (a := i) (by omega))
  have A := Lib.hid (LAll_any (s := s) (by omega))
  have B := Lib.hid (All_any (s := s) (by omega))
  obtain ⟨x, y, z, e⟩ := nextV_three s i
  rw [e] at X Y
  clear e h5
  go_enter Try.func4, Try.ntmps4
  go_wp2_with (first
    | (go_at_call 8; refine (HAW.out w).mono ?_; rintro e w1 ⟨rfl, hb⟩; have HC := Lib.hid hb; clear hb)
    | (go_at_call 14; refine (X.out _).mono ?_; rintro e w2 ⟨rfl, hb⟩; replace HC := Lib.hid (HC.out.trans (hb.mono HC.out.size)); clear hb)
    | (go_at_call 15; refine (Y.out _).mono ?_; rintro e w3 ⟨rfl, hb⟩; replace HC := Lib.hid (HC.out.trans (hb.mono HC.out.size)); clear hb)
    | (go_at_call 16; refine (A.out _).mono ?_; rintro e w4 ⟨N, g, v, hF, rfl, hO, hb⟩; replace HC := Lib.hid (HC.out.trans (hb.mono HC.out.size)); clear hb; have HS := Lib.hid (SAt.of_own hO); have HF := Lib.hid hF; clear hO hF)
    | (go_at_call 17; refine (B.out _).mono ?_; rintro e w5 ⟨N', g', v', hF, rfl, hO, hb⟩; have HS' := Lib.hid (HS.out.stay hb); obtain ⟨rfl, rfl⟩ := HF.out.unique hF; have HT := Lib.hid (SAt.of_own hO); replace HC := Lib.hid (HC.out.trans (hb.mono HC.out.size)); clear hb; clear hO hF)
    | (go_at_call 18; refine (Same_any HS'.out HT.out).mono ?_; rintro e w6 ⟨rfl, hb⟩; replace HC := Lib.hid (HC.out.trans (hb.mono HC.out.size)); clear hb))
  go_ret
  exact ⟨rfl, HC.out⟩
end Go.Proofs.Ytlfeocccjolmpaa.frameReads

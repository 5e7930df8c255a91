/-
  The walk of CodecNumbers.
-/
import Derived.Test.YteclpehbpicpaaaLNumAm
import Derived.BigGuardPart
import Derived.Deep.Cut
namespace Go.Proofs.Yteclpehbpicpaaa.codecNumbers
open Go.RowKit

set_option maxRecDepth 100000 in
set_option maxHeartbeats 1000000 in
theorem walk_range {s : ByteArray} {i m : Int} {w : World} (hs : s.size ≤ 1000) (R : Reads s i m (.tuple #[.int .u64 0, .int .i64 0, .int .i64 3]) (.tuple #[.int .i64 0, .int .i64 0, .int .i64 3]) (.tuple #[.string ⟨#[]⟩, .int .i64 0, .int .i64 3])) (B : Begins w s i 3) : Calls Try.prog 4 #[.string s, .int .i64 i, .int .i64 m] w (Yes w) := by
  have HAW := Lib.hid awake_any
  have t0 : decide (1000 < (s.size : Int)) = false := by simp; omega
  clear hs
  have HR := Lib.hid R
  have HB := Lib.hid B
  clear R B
  go_enter Try.func4, Try.ntmps4
  go_upto_region 10 with (first
    | (go_at_call 9; refine (HAW.out _).mono ?_; rintro e w1 ⟨rfl, hb⟩; have HC := Lib.hid hb; clear hb)
    | (go_at_call 24; refine (HR.out.1 _).mono ?_; rintro e w2 ⟨rfl, hb⟩; replace HC := Lib.hid (HC.out.trans (hb.mono HC.out.size)); clear hb)
    | (go_at_call 25; refine (HR.out.2.1 _).mono ?_; rintro e w3 ⟨rfl, hb⟩; replace HC := Lib.hid (HC.out.trans (hb.mono HC.out.size)); clear hb)
    | (go_at_call 26; refine (HR.out.2.2 _).mono ?_; rintro e w4 ⟨rfl, hb⟩; replace HC := Lib.hid (HC.out.trans (hb.mono HC.out.size)); clear hb)
    | (go_at_call 27; refine (HB.out _ HC.out).mono ?_; rintro e w5 ⟨g, rfl, hg, hr, hb⟩; clear HC; have HC := Lib.hid hb; obtain ⟨d0, d1, d2, d3, df⟩ := hr.cells; have HD := Lib.hid hr; have HG := Lib.hid hg; clear hr hg hb))
  all_goals simp only [List.append]
  all_goals go_big_wp2_with (first
    | (go_at_call 9; refine (HAW.out _).mono ?_; rintro e w1 ⟨rfl, hb⟩; have HC := Lib.hid hb; clear hb)
    | (go_at_call 24; refine (HR.out.1 _).mono ?_; rintro e w2 ⟨rfl, hb⟩; replace HC := Lib.hid (HC.out.trans (hb.mono HC.out.size)); clear hb)
    | (go_at_call 25; refine (HR.out.2.1 _).mono ?_; rintro e w3 ⟨rfl, hb⟩; replace HC := Lib.hid (HC.out.trans (hb.mono HC.out.size)); clear hb)
    | (go_at_call 26; refine (HR.out.2.2 _).mono ?_; rintro e w4 ⟨rfl, hb⟩; replace HC := Lib.hid (HC.out.trans (hb.mono HC.out.size)); clear hb)
    | (go_at_call 27; refine (HB.out _ HC.out).mono ?_; rintro e w5 ⟨g, rfl, hg, hr, hb⟩; clear HC; have HC := Lib.hid hb; obtain ⟨d0, d1, d2, d3, df⟩ := hr.cells; have HD := Lib.hid hr; have HG := Lib.hid hg; clear hr hg hb))
  all_goals go_ret
  all_goals exact ⟨rfl, HC.out⟩
set_option maxRecDepth 100000 in
set_option maxHeartbeats 1000000 in
theorem walk_bad {s : ByteArray} {i m : Int} {w : World} (hs : s.size ≤ 1000) {c : Int} (hc : c ≠ 0) (R : Reads s i m (.tuple #[.int .u64 0, .int .i64 0, .int .i64 c]) (.tuple #[.int .i64 0, .int .i64 0, .int .i64 c]) (.tuple #[.string ⟨#[]⟩, .int .i64 0, .int .i64 c])) (B : Begins w s i 0) (U : Fails w 28 (fun p => #[p]) s i (.int .u64 0) c) (I : Fails w 29 (fun p => #[p]) s i (.int .i64 0) c) (T : Fails w 30 (fun p => #[p, .int .i64 m]) s i (.string ⟨#[]⟩) c) : Calls Try.prog 4 #[.string s, .int .i64 i, .int .i64 m] w (Yes w) := by
  have HAW := Lib.hid awake_any
  have t0 : decide (1000 < (s.size : Int)) = false := by simp; omega
  clear hs
  have HR := Lib.hid R
  have HB := Lib.hid B
  have HU := Lib.hid U
  have HI := Lib.hid I
  have HT := Lib.hid T
  have c1 : (c == 0) = false := by simp; omega
  have c2 : (c != 0) = true := by simp; omega
  clear R B U I T hc
  go_enter Try.func4, Try.ntmps4
  go_upto_region 10 with (first
    | (go_at_call 9; refine (HAW.out _).mono ?_; rintro e w1 ⟨rfl, hb⟩; have HC := Lib.hid hb; clear hb)
    | (go_at_call 24; refine (HR.out.1 _).mono ?_; rintro e w2 ⟨rfl, hb⟩; replace HC := Lib.hid (HC.out.trans (hb.mono HC.out.size)); clear hb)
    | (go_at_call 25; refine (HR.out.2.1 _).mono ?_; rintro e w3 ⟨rfl, hb⟩; replace HC := Lib.hid (HC.out.trans (hb.mono HC.out.size)); clear hb)
    | (go_at_call 26; refine (HR.out.2.2 _).mono ?_; rintro e w4 ⟨rfl, hb⟩; replace HC := Lib.hid (HC.out.trans (hb.mono HC.out.size)); clear hb)
    | (go_at_call 27; refine (HB.out _ HC.out).mono ?_; rintro e w5 ⟨g, rfl, hg, hr, hb⟩; clear HC; have HC := Lib.hid hb; obtain ⟨d0, d1, d2, d3, df⟩ := hr.cells; have HD := Lib.hid hr; have HG := Lib.hid hg; clear hr hg hb)
    | (go_at_call 28; refine (HU.out _ _ HC.out HG.out HD.out).mono ?_; clear d0 d1 d2 d3 df HD HC; rintro e w6 ⟨rfl, ⟨pl, hr⟩, hb⟩; have HC := Lib.hid hb; obtain ⟨d0, d1, d2, d3, df⟩ := hr.cells; have HD := Lib.hid hr; clear hr hb)
    | (go_at_call 29; refine (HI.out _ _ HC.out HG.out HD.out).mono ?_; clear d0 d1 d2 d3 df HD HC; rintro e w6 ⟨rfl, ⟨pl, hr⟩, hb⟩; have HC := Lib.hid hb; obtain ⟨d0, d1, d2, d3, df⟩ := hr.cells; have HD := Lib.hid hr; clear hr hb)
    | (go_at_call 30; refine (HT.out _ _ HC.out HG.out HD.out).mono ?_; clear d0 d1 d2 d3 df HD HC; rintro e w6 ⟨rfl, ⟨pl, hr⟩, hb⟩; have HC := Lib.hid hb; obtain ⟨d0, d1, d2, d3, df⟩ := hr.cells; have HD := Lib.hid hr; clear hr hb))
  all_goals simp only [List.append]
  all_goals go_big_wp2_with (first
    | (go_at_call 9; refine (HAW.out _).mono ?_; rintro e w1 ⟨rfl, hb⟩; have HC := Lib.hid hb; clear hb)
    | (go_at_call 24; refine (HR.out.1 _).mono ?_; rintro e w2 ⟨rfl, hb⟩; replace HC := Lib.hid (HC.out.trans (hb.mono HC.out.size)); clear hb)
    | (go_at_call 25; refine (HR.out.2.1 _).mono ?_; rintro e w3 ⟨rfl, hb⟩; replace HC := Lib.hid (HC.out.trans (hb.mono HC.out.size)); clear hb)
    | (go_at_call 26; refine (HR.out.2.2 _).mono ?_; rintro e w4 ⟨rfl, hb⟩; replace HC := Lib.hid (HC.out.trans (hb.mono HC.out.size)); clear hb)
    | (go_at_call 27; refine (HB.out _ HC.out).mono ?_; rintro e w5 ⟨g, rfl, hg, hr, hb⟩; clear HC; have HC := Lib.hid hb; obtain ⟨d0, d1, d2, d3, df⟩ := hr.cells; have HD := Lib.hid hr; have HG := Lib.hid hg; clear hr hg hb)
    | (go_at_call 28; refine (HU.out _ _ HC.out HG.out HD.out).mono ?_; clear d0 d1 d2 d3 df HD HC; rintro e w6 ⟨rfl, ⟨pl, hr⟩, hb⟩; have HC := Lib.hid hb; obtain ⟨d0, d1, d2, d3, df⟩ := hr.cells; have HD := Lib.hid hr; clear hr hb)
    | (go_at_call 29; refine (HI.out _ _ HC.out HG.out HD.out).mono ?_; clear d0 d1 d2 d3 df HD HC; rintro e w6 ⟨rfl, ⟨pl, hr⟩, hb⟩; have HC := Lib.hid hb; obtain ⟨d0, d1, d2, d3, df⟩ := hr.cells; have HD := Lib.hid hr; clear hr hb)
    | (go_at_call 30; refine (HT.out _ _ HC.out HG.out HD.out).mono ?_; clear d0 d1 d2 d3 df HD HC; rintro e w6 ⟨rfl, ⟨pl, hr⟩, hb⟩; have HC := Lib.hid hb; obtain ⟨d0, d1, d2, d3, df⟩ := hr.cells; have HD := Lib.hid hr; clear hr hb))
  all_goals go_ret
  all_goals exact ⟨rfl, HC.out⟩
set_option maxRecDepth 100000 in
set_option maxHeartbeats 1000000 in
theorem walk_half {s : ByteArray} {i m : Int} {w : World} (hs : s.size ≤ 1000) {c n x nx : Int} (hc : c ≠ 0) (R : Reads s i m (.tuple #[.int .u64 n, .int .i64 nx, .int .i64 0]) (.tuple #[.int .i64 x, .int .i64 nx, .int .i64 0]) (.tuple #[.string ⟨#[]⟩, .int .i64 0, .int .i64 c])) (B : Begins w s i 0) (U : Goes w 28 (fun p => #[p]) s i (.int .u64 n) nx 0) (I : Goes w 29 (fun p => #[p]) s i (.int .i64 x) nx 0) (T : Fails w 30 (fun p => #[p, .int .i64 m]) s i (.string ⟨#[]⟩) c) : Calls Try.prog 4 #[.string s, .int .i64 i, .int .i64 m] w (Yes w) := by
  have HAW := Lib.hid awake_any
  have t0 : decide (1000 < (s.size : Int)) = false := by simp; omega
  clear hs
  have HR := Lib.hid R
  have HB := Lib.hid B
  have HU := Lib.hid U
  have HI := Lib.hid I
  have HT := Lib.hid T
  have c1 : (c == 0) = false := by simp; omega
  have c2 : (c != 0) = true := by simp; omega
  clear R B U I T hc
  go_enter Try.func4, Try.ntmps4
  go_upto_region 10 with (first
    | (go_at_call 9; refine (HAW.out _).mono ?_; rintro e w1 ⟨rfl, hb⟩; have HC := Lib.hid hb; clear hb)
    | (go_at_call 24; refine (HR.out.1 _).mono ?_; rintro e w2 ⟨rfl, hb⟩; replace HC := Lib.hid (HC.out.trans (hb.mono HC.out.size)); clear hb)
    | (go_at_call 25; refine (HR.out.2.1 _).mono ?_; rintro e w3 ⟨rfl, hb⟩; replace HC := Lib.hid (HC.out.trans (hb.mono HC.out.size)); clear hb)
    | (go_at_call 26; refine (HR.out.2.2 _).mono ?_; rintro e w4 ⟨rfl, hb⟩; replace HC := Lib.hid (HC.out.trans (hb.mono HC.out.size)); clear hb)
    | (go_at_call 27; refine (HB.out _ HC.out).mono ?_; rintro e w5 ⟨g, rfl, hg, hr, hb⟩; clear HC; have HC := Lib.hid hb; obtain ⟨d0, d1, d2, d3, df⟩ := hr.cells; have HD := Lib.hid hr; have HG := Lib.hid hg; clear hr hg hb)
    | (go_at_call 28; refine (HU.out _ _ HC.out HG.out HD.out).mono ?_; clear d0 d1 d2 d3 df HD HC; rintro e w6 ⟨rfl, hr, hb⟩; have HC := Lib.hid hb; obtain ⟨d0, d1, d2, d3, df⟩ := hr.cells; have HD := Lib.hid hr; clear hr hb)
    | (go_at_call 29; refine (HI.out _ _ HC.out HG.out HD.out).mono ?_; clear d0 d1 d2 d3 df HD HC; rintro e w6 ⟨rfl, hr, hb⟩; have HC := Lib.hid hb; obtain ⟨d0, d1, d2, d3, df⟩ := hr.cells; have HD := Lib.hid hr; clear hr hb)
    | (go_at_call 30; refine (HT.out _ _ HC.out HG.out HD.out).mono ?_; clear d0 d1 d2 d3 df HD HC; rintro e w6 ⟨rfl, ⟨pl, hr⟩, hb⟩; have HC := Lib.hid hb; obtain ⟨d0, d1, d2, d3, df⟩ := hr.cells; have HD := Lib.hid hr; clear hr hb))
  all_goals simp only [List.append]
  all_goals go_big_wp2_with (first
    | (go_at_call 9; refine (HAW.out _).mono ?_; rintro e w1 ⟨rfl, hb⟩; have HC := Lib.hid hb; clear hb)
    | (go_at_call 24; refine (HR.out.1 _).mono ?_; rintro e w2 ⟨rfl, hb⟩; replace HC := Lib.hid (HC.out.trans (hb.mono HC.out.size)); clear hb)
    | (go_at_call 25; refine (HR.out.2.1 _).mono ?_; rintro e w3 ⟨rfl, hb⟩; replace HC := Lib.hid (HC.out.trans (hb.mono HC.out.size)); clear hb)
    | (go_at_call 26; refine (HR.out.2.2 _).mono ?_; rintro e w4 ⟨rfl, hb⟩; replace HC := Lib.hid (HC.out.trans (hb.mono HC.out.size)); clear hb)
    | (go_at_call 27; refine (HB.out _ HC.out).mono ?_; rintro e w5 ⟨g, rfl, hg, hr, hb⟩; clear HC; have HC := Lib.hid hb; obtain ⟨d0, d1, d2, d3, df⟩ := hr.cells; have HD := Lib.hid hr; have HG := Lib.hid hg; clear hr hg hb)
    | (go_at_call 28; refine (HU.out _ _ HC.out HG.out HD.out).mono ?_; clear d0 d1 d2 d3 df HD HC; rintro e w6 ⟨rfl, hr, hb⟩; have HC := Lib.hid hb; obtain ⟨d0, d1, d2, d3, df⟩ := hr.cells; have HD := Lib.hid hr; clear hr hb)
    | (go_at_call 29; refine (HI.out _ _ HC.out HG.out HD.out).mono ?_; clear d0 d1 d2 d3 df HD HC; rintro e w6 ⟨rfl, hr, hb⟩; have HC := Lib.hid hb; obtain ⟨d0, d1, d2, d3, df⟩ := hr.cells; have HD := Lib.hid hr; clear hr hb)
    | (go_at_call 30; refine (HT.out _ _ HC.out HG.out HD.out).mono ?_; clear d0 d1 d2 d3 df HD HC; rintro e w6 ⟨rfl, ⟨pl, hr⟩, hb⟩; have HC := Lib.hid hb; obtain ⟨d0, d1, d2, d3, df⟩ := hr.cells; have HD := Lib.hid hr; clear hr hb))
  all_goals go_ret
  all_goals exact ⟨rfl, HC.out⟩
set_option maxRecDepth 100000 in
set_option maxHeartbeats 1000000 in
theorem walk_ok {s : ByteArray} {i m : Int} {w : World} (hs : s.size ≤ 1000) {n x nx ny : Int} {t : ByteArray} (R : Reads s i m (.tuple #[.int .u64 n, .int .i64 nx, .int .i64 0]) (.tuple #[.int .i64 x, .int .i64 nx, .int .i64 0]) (.tuple #[.string t, .int .i64 ny, .int .i64 0])) (B : Begins w s i 0) (U : Goes w 28 (fun p => #[p]) s i (.int .u64 n) nx 0) (I : Goes w 29 (fun p => #[p]) s i (.int .i64 x) nx 0) (T : Goes w 30 (fun p => #[p, .int .i64 m]) s i (.string t) ny 0) : Calls Try.prog 4 #[.string s, .int .i64 i, .int .i64 m] w (Yes w) := by
  have HAW := Lib.hid awake_any
  have t0 : decide (1000 < (s.size : Int)) = false := by simp; omega
  clear hs
  have HR := Lib.hid R
  have HB := Lib.hid B
  have HU := Lib.hid U
  have HI := Lib.hid I
  have HT := Lib.hid T
  clear R B U I T
  go_enter Try.func4, Try.ntmps4
  go_upto_region 10 with (first
    | (go_at_call 9; refine (HAW.out _).mono ?_; rintro e w1 ⟨rfl, hb⟩; have HC := Lib.hid hb; clear hb)
    | (go_at_call 24; refine (HR.out.1 _).mono ?_; rintro e w2 ⟨rfl, hb⟩; replace HC := Lib.hid (HC.out.trans (hb.mono HC.out.size)); clear hb)
    | (go_at_call 25; refine (HR.out.2.1 _).mono ?_; rintro e w3 ⟨rfl, hb⟩; replace HC := Lib.hid (HC.out.trans (hb.mono HC.out.size)); clear hb)
    | (go_at_call 26; refine (HR.out.2.2 _).mono ?_; rintro e w4 ⟨rfl, hb⟩; replace HC := Lib.hid (HC.out.trans (hb.mono HC.out.size)); clear hb)
    | (go_at_call 27; refine (HB.out _ HC.out).mono ?_; rintro e w5 ⟨g, rfl, hg, hr, hb⟩; clear HC; have HC := Lib.hid hb; obtain ⟨d0, d1, d2, d3, df⟩ := hr.cells; have HD := Lib.hid hr; have HG := Lib.hid hg; clear hr hg hb)
    | (go_at_call 28; refine (HU.out _ _ HC.out HG.out HD.out).mono ?_; clear d0 d1 d2 d3 df HD HC; rintro e w6 ⟨rfl, hr, hb⟩; have HC := Lib.hid hb; obtain ⟨d0, d1, d2, d3, df⟩ := hr.cells; have HD := Lib.hid hr; clear hr hb)
    | (go_at_call 29; refine (HI.out _ _ HC.out HG.out HD.out).mono ?_; clear d0 d1 d2 d3 df HD HC; rintro e w6 ⟨rfl, hr, hb⟩; have HC := Lib.hid hb; obtain ⟨d0, d1, d2, d3, df⟩ := hr.cells; have HD := Lib.hid hr; clear hr hb)
    | (go_at_call 30; refine (HT.out _ _ HC.out HG.out HD.out).mono ?_; clear d0 d1 d2 d3 df HD HC; rintro e w6 ⟨rfl, hr, hb⟩; have HC := Lib.hid hb; obtain ⟨d0, d1, d2, d3, df⟩ := hr.cells; have HD := Lib.hid hr; clear hr hb))
  all_goals simp only [List.append]
  all_goals go_big_wp2_with (first
    | (go_at_call 9; refine (HAW.out _).mono ?_; rintro e w1 ⟨rfl, hb⟩; have HC := Lib.hid hb; clear hb)
    | (go_at_call 24; refine (HR.out.1 _).mono ?_; rintro e w2 ⟨rfl, hb⟩; replace HC := Lib.hid (HC.out.trans (hb.mono HC.out.size)); clear hb)
    | (go_at_call 25; refine (HR.out.2.1 _).mono ?_; rintro e w3 ⟨rfl, hb⟩; replace HC := Lib.hid (HC.out.trans (hb.mono HC.out.size)); clear hb)
    | (go_at_call 26; refine (HR.out.2.2 _).mono ?_; rintro e w4 ⟨rfl, hb⟩; replace HC := Lib.hid (HC.out.trans (hb.mono HC.out.size)); clear hb)
    | (go_at_call 27; refine (HB.out _ HC.out).mono ?_; rintro e w5 ⟨g, rfl, hg, hr, hb⟩; clear HC; have HC := Lib.hid hb; obtain ⟨d0, d1, d2, d3, df⟩ := hr.cells; have HD := Lib.hid hr; have HG := Lib.hid hg; clear hr hg hb)
    | (go_at_call 28; refine (HU.out _ _ HC.out HG.out HD.out).mono ?_; clear d0 d1 d2 d3 df HD HC; rintro e w6 ⟨rfl, hr, hb⟩; have HC := Lib.hid hb; obtain ⟨d0, d1, d2, d3, df⟩ := hr.cells; have HD := Lib.hid hr; clear hr hb)
    | (go_at_call 29; refine (HI.out _ _ HC.out HG.out HD.out).mono ?_; clear d0 d1 d2 d3 df HD HC; rintro e w6 ⟨rfl, hr, hb⟩; have HC := Lib.hid hb; obtain ⟨d0, d1, d2, d3, df⟩ := hr.cells; have HD := Lib.hid hr; clear hr hb)
    | (go_at_call 30; refine (HT.out _ _ HC.out HG.out HD.out).mono ?_; clear d0 d1 d2 d3 df HD HC; rintro e w6 ⟨rfl, hr, hb⟩; have HC := Lib.hid hb; obtain ⟨d0, d1, d2, d3, df⟩ := hr.cells; have HD := Lib.hid hr; clear hr hb))
  all_goals go_ret
  all_goals exact ⟨rfl, HC.out⟩
end Go.Proofs.Yteclpehbpicpaaa.codecNumbers

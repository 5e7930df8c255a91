/-
  The walk of CodecReads.
-/
import Derived.Test.YteclpehbpicpaaaLReadsAm
namespace Go.Proofs.Yteclpehbpicpaaa.codecReads
open Go.RowKit

set_option maxRecDepth 100000 in
set_option maxHeartbeats 4000000 in
theorem walk_all {s : ByteArray} {i nx c ny d : Int} {t : VT} {u : TT} {w : World} (hs : s.size ≤ 3000) (h1 : Gives 31 s i t nx c) (h2 : Gives 32 s i t nx c) (h3 : GivesT 33 s i u ny d) (h4 : GivesT 34 s i u ny d) :
    Calls Try.prog 5 #[.string s, .int .i64 i] w (Yes w) := by
  have HAW := Lib.hid awake_any
  have t0 : decide (3000 < (s.size : Int)) = false := by simp; omega
  have SF := float_store
  have G1 := Lib.hid h1
  have G2 := Lib.hid h2
  have G3 := Lib.hid h3
  have G4 := Lib.hid h4
  have SV := Lib.hid (same_v (t := t))
  have ST := Lib.hid (same_t (t := u))
  clear hs h1 h2 h3 h4
  go_enter Try.func5, Try.ntmps5
  go_wp2_with (first
    | (go_at_call 9; refine (HAW.out _).mono ?_; rintro e w1 ⟨rfl, hb⟩; have HC := Lib.hid hb; clear hb)
    | (go_at_call 31; refine (G1.out _).mono ?_; rintro e w31 ⟨a0, a1, a2, a3, a4, a5, a6, a7, a8, a9, rfl, ho, hb⟩; replace HC := Lib.hid ((HC.out.trans (hb.mono HC.out.size)).alloc (Nat.le_trans HC.out.size hb.size) (.cells #[.int .i64 a0, .int .i64 a1, .float .f64 a2, .string a3, .slice a4 a5 a6, .slice a7 a8 a9] 27)); have HB1 := Lib.hid (Bx.new w31 #[.int .i64 a0, .int .i64 a1, .float .f64 a2, .string a3, .slice a4 a5 a6, .slice a7 a8 a9]); have HV1 := Lib.hid (ho.alloc (.cells #[.int .i64 a0, .int .i64 a1, .float .f64 a2, .string a3, .slice a4 a5 a6, .slice a7 a8 a9] 27)).val; clear ho hb)
    | (go_at_call 32; refine (G2.out _).mono ?_; rintro e w32 ⟨b0, b1, b2, b3, b4, b5, b6, b7, b8, b9, rfl, ho, hb0⟩; have hb := hb0.alloc hb0.size (.cells #[.int .i64 b0, .int .i64 b1, .float .f64 b2, .string b3, .slice b4 b5 b6, .slice b7 b8 b9] 27); replace HC := Lib.hid (HC.out.trans (hb.mono HC.out.size)); replace HB1 := Lib.hid (HB1.out.below hb HB1.out.lt); replace HV1 := Lib.hid ((HV1.out.stay hb).mono hb.size); have HB2 := Lib.hid (Bx.new w32 #[.int .i64 b0, .int .i64 b1, .float .f64 b2, .string b3, .slice b4 b5 b6, .slice b7 b8 b9]); have HV2 := Lib.hid (ho.alloc (.cells #[.int .i64 b0, .int .i64 b1, .float .f64 b2, .string b3, .slice b4 b5 b6, .slice b7 b8 b9] 27)).val; clear ho hb hb0)
    | (go_at_call 33; refine (G3.out _).mono ?_; rintro e w33 ⟨x0, x1, x2, x3, x4, x5, x6, rfl, ho, hb0⟩; have hb := hb0.alloc hb0.size (.cells #[.int .i64 x0, .slice x1 x2 x3, .slice x4 x5 x6] 30); replace HC := Lib.hid (HC.out.trans (hb.mono HC.out.size)); replace HB1 := Lib.hid (HB1.out.below hb HB1.out.lt); replace HV1 := Lib.hid ((HV1.out.stay hb).mono hb.size); replace HB2 := Lib.hid (HB2.out.below hb HB2.out.lt); replace HV2 := Lib.hid ((HV2.out.stay hb).mono hb.size); have HB3 := Lib.hid (Bt.new w33 #[.int .i64 x0, .slice x1 x2 x3, .slice x4 x5 x6]); have HT1 := Lib.hid (ho.alloc (.cells #[.int .i64 x0, .slice x1 x2 x3, .slice x4 x5 x6] 30)).val; clear ho hb hb0)
    | (go_at_call 34; refine (G4.out _).mono ?_; rintro e w34 ⟨y0, y1, y2, y3, y4, y5, y6, rfl, ho, hb0⟩; have hb := hb0.alloc hb0.size (.cells #[.int .i64 y0, .slice y1 y2 y3, .slice y4 y5 y6] 30); replace HC := Lib.hid (HC.out.trans (hb.mono HC.out.size)); replace HB1 := Lib.hid (HB1.out.below hb HB1.out.lt); replace HV1 := Lib.hid ((HV1.out.stay hb).mono hb.size); replace HB2 := Lib.hid (HB2.out.below hb HB2.out.lt); replace HV2 := Lib.hid ((HV2.out.stay hb).mono hb.size); replace HB3 := Lib.hid (HB3.out.below hb HB3.out.lt); replace HT1 := Lib.hid ((HT1.out.stay hb).mono hb.size); have HB4 := Lib.hid (Bt.new w34 #[.int .i64 y0, .slice y1 y2 y3, .slice y4 y5 y6]); have HT2 := Lib.hid (ho.alloc (.cells #[.int .i64 y0, .slice y1 y2 y3, .slice y4 y5 y6] 30)).val; clear ho hb hb0; obtain ⟨p0, p1, p2, p3, p4, p5, pf, pl⟩ := HB1.out.cells; obtain ⟨q0, q1, q2, q3, q4, q5, qf, ql⟩ := HB2.out.cells)
    | (go_at_call 35; refine (SV.out _ _ _ (by exact HV1.out) (by exact HV2.out)).mono ?_; rintro e w35 ⟨rfl, hb⟩; replace HC := Lib.hid (HC.out.trans (hb.mono HC.out.size)); replace HB3 := Lib.hid (HB3.out.below hb HB3.out.lt); replace HB4 := Lib.hid (HB4.out.below hb HB4.out.lt); replace HT1 := Lib.hid ((HT1.out.stay hb).mono hb.size); replace HT2 := Lib.hid ((HT2.out.stay hb).mono hb.size); obtain ⟨r0, r1, r2, rf, rl⟩ := HB3.out.cells; obtain ⟨z0, z1, z2, zf, zl⟩ := HB4.out.cells; clear hb)
    | (go_at_call 36; refine (ST.out _ _ _ (by exact HT1.out) (by exact HT2.out)).mono ?_; rintro e w36 ⟨rfl, hb⟩; replace HC := Lib.hid (HC.out.trans (hb.mono HC.out.size)); clear hb))
  go_ret
  exact ⟨rfl, HC.out⟩
end Go.Proofs.Yteclpehbpicpaaa.codecReads

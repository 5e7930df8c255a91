/-
  The walk of RegionOrders.
-/
import Derived.Test.YtmbjmibjobpdgaaM52
namespace Go.Proofs.Ytmbjmibjobpdgaa.lawRegionOrders
open Go.RowKit

theorem orderA_len {G : GT} (h : fewB G) : (orderA G).length ≤ 100 := by
  unfold orderA orderL
  split
  · rw [ordL_len]; exact h.1
  · simp
theorem weightsA_len {G : GT} (h : fewB G) : (weightsA G).length ≤ 100 := by
  unfold weightsA
  split
  · simp; exact h.1
  · simp
theorem loopsL_len {G : GT} (h : fewB G) : (loopsL G).length ≤ 100 := by
  unfold loopsL
  have := pickL_len G.n (loopB G)
  have := h.1
  omega
set_option maxRecDepth 100000 in
set_option maxHeartbeats 4000000 in
theorem walk {mv : Array Value} {G : GT} (w : World) (h : ModelAt w w.heap.size mv G) : Calls Try.prog 3 #[.agg mv] w (Yes w) := by
  obtain ⟨ml, hmv, hM, hX, hbx⟩ := model_boxed h
  have hX := Lib.hid hX
  clear h
  generalize ml 0 = m0 at *
  generalize ml 1 = m1 at *
  generalize ml 2 = m2 at *
  generalize ml 3 = m3 at *
  generalize ml 4 = m4 at *
  generalize ml 5 = m5 at *
  subst hmv
  have hB := Lib.hid (show Bx (w.alloc (.cells #[m0, m1, m2, m3, m4, m5] 27)) (w.alloc (.cells #[m0, m1, m2, m3, m4, m5] 27)) w.heap.size #[m0, m1, m2, m3, m4, m5] G from ⟨Below.refl _ _, hbx, hM⟩)
  clear hM hbx
  go_enter Try.func3, Try.ntmps3
  go_upto_region 1 with (fail)
  generalize hbw : w.heap.size = b at *
  have HBW := Lib.hid hbw
  clear hbw
  generalize w.alloc (.cells #[m0, m1, m2, m3, m4, m5] 27) = w1 at *
  go_wp2_with (first
    | (go_at_call 8; refine (awake_any _).mono ?_; rintro e w2 ⟨rfl, hb⟩; refine Hid.out ?_)
    | fail)
  refine Lib.hid ?_
  have hB2 := Lib.hid (hB.out.step hb)
  clear hb
  go_wp2_with (first
    | (refine ldm rfl 27 _ rfl b 0 rfl [m0, m1, m2, m3, m4, m5] _ hB2.out.range Try.underlying27 rfl 6 info27 rfl ?_)
    | (go_at_call 9; refine (MSmall_any _ hB2.out.at_).mono ?_; rintro e w3 ⟨bs, rfl, hfew, hb⟩; refine Hid.out ?_)
    | fail)
  refine Lib.hid ?_
  have hF := Lib.hid hfew
  have hB3 := Lib.hid (hB2.out.step hb)
  clear hb
  clear hfew
  cases bs with
  | false =>
    go_wp2_with (first
      | (go_at_call 8; refine (awake_any _).mono ?_; rintro e w4 ⟨rfl, hb⟩; refine Hid.out ?_)
      | fail)
    refine Lib.hid ?_
    have hB4 := Lib.hid (hB3.out.step hb)
    clear hb
    go_wp2_with fail
    go_ret
    exact ⟨rfl, by rw [HBW.out]; exact hX.out.trans (hB4.out.below.mono (by rw [← HBW.out]; exact hX.out.size))⟩
  | true =>
    have hf := Lib.hid (hF.out rfl)
    have ho := Lib.hid (orderA_len hf.out)
    have hwl := Lib.hid (weightsA_len hf.out)
    have hll := Lib.hid (loopsL_len hf.out)
    go_wp2_with (first
      | (refine ldm rfl 27 _ rfl b 0 rfl [m0, m1, m2, m3, m4, m5] _ hB3.out.range Try.underlying27 rfl 6 info27 rfl ?_)
      | (go_at_call 10; refine (LOrder _ hB3.out.at_ hf.out).mono ?_; rintro e w4 ⟨A1, c1, rfl, hl1, hb⟩; refine Hid.out ?_)
      | fail)
    refine Lib.hid ?_
    have hl1 := Lib.hid hl1
    have hz1 := Lib.hid (Nat.le_refl w4.heap.size)
    have hB4 := Lib.hid (hB3.out.step hb)
    clear hb
    go_wp2_with (first
      | (refine ldm rfl 27 _ rfl b 0 rfl [m0, m1, m2, m3, m4, m5] _ hB4.out.range Try.underlying27 rfl 6 info27 rfl ?_)
      | (go_at_call 11; refine (DOrder _ hB4.out.at_ hf.out).mono ?_; rintro e w5 ⟨A2, c2, rfl, hl2, hb⟩; refine Hid.out ?_)
      | fail)
    refine Lib.hid ?_
    have hl1 := Lib.hid (hl1.out.keep fun g o hg => hb.cell (p := ⟨g, o, none⟩) (Nat.lt_of_lt_of_le hg hz1.out))
    have hz1 := Lib.hid (Nat.le_trans hz1.out hb.size)
    have hl2 := Lib.hid hl2
    have hz2 := Lib.hid (Nat.le_refl w5.heap.size)
    have hB5 := Lib.hid (hB4.out.step hb)
    clear hb
    go_wp2_with (first
      | (refine ldm rfl 27 _ rfl b 0 rfl [m0, m1, m2, m3, m4, m5] _ hB5.out.range Try.underlying27 rfl 6 info27 rfl ?_)
      | (go_at_call 12; refine (LWeights _ hB5.out.at_ hf.out).mono ?_; rintro e w6 ⟨A3, c3, rfl, hl3, hb⟩; refine Hid.out ?_)
      | fail)
    refine Lib.hid ?_
    have hl1 := Lib.hid (hl1.out.keep fun g o hg => hb.cell (p := ⟨g, o, none⟩) (Nat.lt_of_lt_of_le hg hz1.out))
    have hz1 := Lib.hid (Nat.le_trans hz1.out hb.size)
    have hl2 := Lib.hid (hl2.out.keep fun g o hg => hb.cell (p := ⟨g, o, none⟩) (Nat.lt_of_lt_of_le hg hz2.out))
    have hz2 := Lib.hid (Nat.le_trans hz2.out hb.size)
    have hl3 := Lib.hid hl3
    have hz3 := Lib.hid (Nat.le_refl w6.heap.size)
    have hB6 := Lib.hid (hB5.out.step hb)
    clear hb
    go_wp2_with (first
      | (refine ldm rfl 27 _ rfl b 0 rfl [m0, m1, m2, m3, m4, m5] _ hB6.out.range Try.underlying27 rfl 6 info27 rfl ?_)
      | (go_at_call 13; refine (DWeights _ hB6.out.at_ hf.out).mono ?_; rintro e w7 ⟨A4, c4, rfl, hl4, hb⟩; refine Hid.out ?_)
      | fail)
    refine Lib.hid ?_
    have hl1 := Lib.hid (hl1.out.keep fun g o hg => hb.cell (p := ⟨g, o, none⟩) (Nat.lt_of_lt_of_le hg hz1.out))
    have hz1 := Lib.hid (Nat.le_trans hz1.out hb.size)
    have hl2 := Lib.hid (hl2.out.keep fun g o hg => hb.cell (p := ⟨g, o, none⟩) (Nat.lt_of_lt_of_le hg hz2.out))
    have hz2 := Lib.hid (Nat.le_trans hz2.out hb.size)
    have hl3 := Lib.hid (hl3.out.keep fun g o hg => hb.cell (p := ⟨g, o, none⟩) (Nat.lt_of_lt_of_le hg hz3.out))
    have hz3 := Lib.hid (Nat.le_trans hz3.out hb.size)
    have hl4 := Lib.hid hl4
    have hz4 := Lib.hid (Nat.le_refl w7.heap.size)
    have hB7 := Lib.hid (hB6.out.step hb)
    clear hb
    go_wp2_with (first
      | (refine ldm rfl 27 _ rfl b 0 rfl [m0, m1, m2, m3, m4, m5] _ hB7.out.range Try.underlying27 rfl 6 info27 rfl ?_)
      | (go_at_call 14; refine (LLongest _ hB7.out.at_ hf.out).mono ?_; rintro e w8 ⟨rfl, hb⟩; refine Hid.out ?_)
      | fail)
    refine Lib.hid ?_
    have hl1 := Lib.hid (hl1.out.keep fun g o hg => hb.cell (p := ⟨g, o, none⟩) (Nat.lt_of_lt_of_le hg hz1.out))
    have hz1 := Lib.hid (Nat.le_trans hz1.out hb.size)
    have hl2 := Lib.hid (hl2.out.keep fun g o hg => hb.cell (p := ⟨g, o, none⟩) (Nat.lt_of_lt_of_le hg hz2.out))
    have hz2 := Lib.hid (Nat.le_trans hz2.out hb.size)
    have hl3 := Lib.hid (hl3.out.keep fun g o hg => hb.cell (p := ⟨g, o, none⟩) (Nat.lt_of_lt_of_le hg hz3.out))
    have hz3 := Lib.hid (Nat.le_trans hz3.out hb.size)
    have hl4 := Lib.hid (hl4.out.keep fun g o hg => hb.cell (p := ⟨g, o, none⟩) (Nat.lt_of_lt_of_le hg hz4.out))
    have hz4 := Lib.hid (Nat.le_trans hz4.out hb.size)
    have hB8 := Lib.hid (hB7.out.step hb)
    clear hb
    go_wp2_with (first
      | (refine ldm rfl 27 _ rfl b 0 rfl [m0, m1, m2, m3, m4, m5] _ hB8.out.range Try.underlying27 rfl 6 info27 rfl ?_)
      | (go_at_call 15; refine (DLongest _ hB8.out.at_ hf.out).mono ?_; rintro e w9 ⟨rfl, hb⟩; refine Hid.out ?_)
      | fail)
    refine Lib.hid ?_
    have hl1 := Lib.hid (hl1.out.keep fun g o hg => hb.cell (p := ⟨g, o, none⟩) (Nat.lt_of_lt_of_le hg hz1.out))
    have hz1 := Lib.hid (Nat.le_trans hz1.out hb.size)
    have hl2 := Lib.hid (hl2.out.keep fun g o hg => hb.cell (p := ⟨g, o, none⟩) (Nat.lt_of_lt_of_le hg hz2.out))
    have hz2 := Lib.hid (Nat.le_trans hz2.out hb.size)
    have hl3 := Lib.hid (hl3.out.keep fun g o hg => hb.cell (p := ⟨g, o, none⟩) (Nat.lt_of_lt_of_le hg hz3.out))
    have hz3 := Lib.hid (Nat.le_trans hz3.out hb.size)
    have hl4 := Lib.hid (hl4.out.keep fun g o hg => hb.cell (p := ⟨g, o, none⟩) (Nat.lt_of_lt_of_le hg hz4.out))
    have hz4 := Lib.hid (Nat.le_trans hz4.out hb.size)
    have hB9 := Lib.hid (hB8.out.step hb)
    clear hb
    go_upto_region 9 with (fail)
    generalize okG G = ok at *
    generalize longestA G = lg at *
    have hoo : (ok == ok) = true := by simp
    have hgg : (lg == lg) = true := by simp
    have hD := Lib.hid hB9.out.drew
    have hl1 := Lib.hid (show LieI w9.drew w4.heap.size A1 _ from hl1.out)
    have hl2 := Lib.hid (show LieI w9.drew w5.heap.size A2 _ from hl2.out)
    have hl3 := Lib.hid (show LieI w9.drew w6.heap.size A3 _ from hl3.out)
    have hl4 := Lib.hid (show LieI w9.drew w7.heap.size A4 _ from hl4.out)
    have hn1 := Lib.hid (rfl : (orderA G).length = (orderA G).length)
    generalize hq1 : (orderA G).length = q1 at *
    have HQ1 := Lib.hid hq1
    clear hq1 hn1
    generalize hq2 : (weightsA G).length = q2 at *
    have HQ2 := Lib.hid hq2
    clear hq2
    refine wp_region_held_drew (S := fun W => W.heap[b]? = some (.cells #[m0, m1, m2, m3, m4, m5] 27 (0, 0))) (by kernel_rfl) hD.out.row (fun _ => ?_)
    refine takeH (i := 0) (some 53) (.bool ok) rfl rfl (by kernel_rfl) (by kernel_rfl) (by kernel_rfl) (fun _ _ _ h => h) hD.out.row (by kernel_rfl) (fun W hW => by kernel_rfl) ?_
    refine takeH (i := 1) (some 54) (.bool ok) rfl rfl (by kernel_rfl) (by kernel_rfl) (by kernel_rfl) (fun _ _ _ h => h) hD.out.row (by kernel_rfl) (fun W hW => by kernel_rfl) ?_
    refine takeH (i := 2) (some 55) (.bool true) rfl rfl (by kernel_rfl) (by kernel_rfl) (by kernel_rfl) (fun _ _ _ h => h) hD.out.row (by kernel_rfl) (fun W hW => by clear hW; go_simp) ?_
    refine takeH (i := 3) (some 56) (.bool true) rfl rfl (by kernel_rfl) (by kernel_rfl) (by kernel_rfl) (fun _ _ _ h => h) hD.out.row (by kernel_rfl) (fun W hW => by kernel_rfl) ?_
    refine takeH (i := 4) (some 57) (.slice A1 q1 c1) rfl rfl (by kernel_rfl) (by kernel_rfl) (by kernel_rfl) (fun _ _ _ h => h) hD.out.row (by kernel_rfl) (fun W hW => by kernel_rfl) ?_
    refine takeH (i := 5) (some 58) (.slice A2 q1 c2) rfl rfl (by kernel_rfl) (by kernel_rfl) (by kernel_rfl) (fun _ _ _ h => h) hD.out.row (by kernel_rfl) (fun W hW => by kernel_rfl) ?_
    refine callH (i := 6) 16 #[.slice A1 q1 c1, .slice A2 q1 c2] (some 59) rfl (by kernel_rfl) rfl (by kernel_rfl) (by kernel_rfl) ?_
    refine (same_n hl1.out hl2.out hz1.out hz2.out HQ1.out (by have := ho.out; omega)).mono ?_
    rintro e w10 ⟨rfl, hb⟩
    have hB10 := Lib.hid (hD.out.step hb)
    have hl3 := Lib.hid (hl3.out.keep fun g o hg => hb.cell (p := ⟨g, o, none⟩) (Nat.lt_of_lt_of_le hg hz3.out))
    have hz3 := Lib.hid (Nat.le_trans hz3.out hb.size)
    have hl4 := Lib.hid (hl4.out.keep fun g o hg => hb.cell (p := ⟨g, o, none⟩) (Nat.lt_of_lt_of_le hg hz4.out))
    have hz4 := Lib.hid (Nat.le_trans hz4.out hb.size)
    clear hb
    refine ⟨_, rfl, hB10.out.row, ?_⟩
    refine takeH (i := 7) (some 60) (.bool true) rfl rfl (by kernel_rfl) (by kernel_rfl) (by kernel_rfl) (fun _ _ _ h => h) hB10.out.row (by kernel_rfl) (fun W hW => by kernel_rfl) ?_
    refine takeH (i := 8) (some 61) (.bool true) rfl rfl (by kernel_rfl) (by kernel_rfl) (by kernel_rfl) (fun _ _ _ h => h) hB10.out.row (by kernel_rfl) (fun W hW => by kernel_rfl) ?_
    refine takeH (i := 9) (some 62) (.bool ok) rfl rfl (by kernel_rfl) (by kernel_rfl) (by kernel_rfl) (fun _ _ _ h => h) hB10.out.row (by kernel_rfl) (fun W hW => by kernel_rfl) ?_
    refine takeH (i := 10) (some 63) (.bool ok) rfl rfl (by kernel_rfl) (by kernel_rfl) (by kernel_rfl) (fun _ _ _ h => h) hB10.out.row (by kernel_rfl) (fun W hW => by kernel_rfl) ?_
    refine takeH (i := 11) (some 64) (.bool true) rfl rfl (by kernel_rfl) (by kernel_rfl) (by kernel_rfl) (fun _ _ _ h => h) hB10.out.row (by kernel_rfl) (fun W hW => by clear hW; go_simp) ?_
    refine takeH (i := 12) (some 65) (.bool true) rfl rfl (by kernel_rfl) (by kernel_rfl) (by kernel_rfl) (fun _ _ _ h => h) hB10.out.row (by kernel_rfl) (fun W hW => by kernel_rfl) ?_
    refine takeH (i := 13) (some 66) (.bool true) rfl rfl (by kernel_rfl) (by kernel_rfl) (by kernel_rfl) (fun _ _ _ h => h) hB10.out.row (by kernel_rfl) (fun W hW => by kernel_rfl) ?_
    refine takeH (i := 14) (some 67) (.slice A3 q2 c3) rfl rfl (by kernel_rfl) (by kernel_rfl) (by kernel_rfl) (fun _ _ _ h => h) hB10.out.row (by kernel_rfl) (fun W hW => by kernel_rfl) ?_
    refine takeH (i := 15) (some 68) (.slice A4 q2 c4) rfl rfl (by kernel_rfl) (by kernel_rfl) (by kernel_rfl) (fun _ _ _ h => h) hB10.out.row (by kernel_rfl) (fun W hW => by kernel_rfl) ?_
    refine callH (i := 16) 16 #[.slice A3 q2 c3, .slice A4 q2 c4] (some 69) rfl (by kernel_rfl) rfl (by kernel_rfl) (by kernel_rfl) ?_
    refine (same_n hl3.out hl4.out hz3.out hz4.out HQ2.out (by have := hwl.out; omega)).mono ?_
    rintro e w11 ⟨rfl, hb⟩
    have hB11 := Lib.hid (hB10.out.step hb)
    clear hb
    refine ⟨_, rfl, hB11.out.row, ?_⟩
    refine takeH (i := 17) (some 70) (.bool true) rfl rfl (by kernel_rfl) (by kernel_rfl) (by kernel_rfl) (fun _ _ _ h => h) hB11.out.row (by kernel_rfl) (fun W hW => by kernel_rfl) ?_
    refine takeH (i := 18) (some 71) (.bool true) rfl rfl (by kernel_rfl) (by kernel_rfl) (by kernel_rfl) (fun _ _ _ h => h) hB11.out.row (by kernel_rfl) (fun W hW => by kernel_rfl) ?_
    refine takeH (i := 19) (some 72) (.int .i64 lg) rfl rfl (by kernel_rfl) (by kernel_rfl) (by kernel_rfl) (fun _ _ _ h => h) hB11.out.row (by kernel_rfl) (fun W hW => by kernel_rfl) ?_
    refine takeH (i := 20) (some 73) (.int .i64 lg) rfl rfl (by kernel_rfl) (by kernel_rfl) (by kernel_rfl) (fun _ _ _ h => h) hB11.out.row (by kernel_rfl) (fun W hW => by kernel_rfl) ?_
    refine takeH (i := 21) (some 74) (.bool true) rfl rfl (by kernel_rfl) (by kernel_rfl) (by kernel_rfl) (fun _ _ _ h => h) hB11.out.row (by kernel_rfl) (fun W hW => by clear hW; go_simp) ?_
    refine takeH (i := 22) (some 75) (.bool true) rfl rfl (by kernel_rfl) (by kernel_rfl) (by kernel_rfl) (fun _ _ _ h => h) hB11.out.row (by kernel_rfl) (fun W hW => by kernel_rfl) ?_
    refine takeH (i := 23) (some 76) (.bool true) rfl rfl (by kernel_rfl) (by kernel_rfl) (by kernel_rfl) (fun _ _ _ h => h) hB11.out.row (by kernel_rfl) (fun W hW => by kernel_rfl) ?_
    refine takeH (i := 24) (some 77) (.bool ok) rfl rfl (by kernel_rfl) (by kernel_rfl) (by kernel_rfl) (fun _ _ _ h => h) hB11.out.row (by kernel_rfl) (fun W hW => by kernel_rfl) ?_
    refine takeH (i := 25) (some 78) (.bool ok) rfl rfl (by kernel_rfl) (by kernel_rfl) (by kernel_rfl) (fun _ _ _ h => h) hB11.out.row (by kernel_rfl) (fun W hW => by kernel_rfl) ?_
    refine takeH (i := 26) (some 79) (.bool true) rfl rfl (by kernel_rfl) (by kernel_rfl) (by kernel_rfl) (fun _ _ _ h => h) hB11.out.row (by kernel_rfl) (fun W hW => by clear hW; go_simp) ?_
    refine takeH (i := 27) (some 80) (.bool true) rfl rfl (by kernel_rfl) (by kernel_rfl) (by kernel_rfl) (fun _ _ _ h => h) hB11.out.row (by kernel_rfl) (fun W hW => by kernel_rfl) ?_
    refine takeH (i := 28) (some 81) (.bool true) rfl rfl (by kernel_rfl) (by kernel_rfl) (by kernel_rfl) (fun _ _ _ h => h) hB11.out.row (by kernel_rfl) (fun W hW => by kernel_rfl) ?_
    refine loadH (i := 29) (.tmp 1) (some 82) b #[m0, m1, m2, m3, m4, m5] rfl rfl (by kernel_rfl) (by kernel_rfl) (by kernel_rfl) (fun _ _ _ h => h) hB11.out.row (by kernel_rfl) rfl (by kernel_rfl) rfl (fun W hW => hW) ?_
    refine loadH (i := 31) (.tmp 1) (some 84) b #[m0, m1, m2, m3, m4, m5] rfl rfl (by kernel_rfl) (by kernel_rfl) (by kernel_rfl) (fun _ _ _ h => h) hB11.out.row (by kernel_rfl) rfl (by kernel_rfl) rfl (fun W hW => hW) ?_
    refine callH (i := 30) 17 #[.agg #[m0, m1, m2, m3, m4, m5]] (some 83) rfl (by kernel_rfl) rfl (by kernel_rfl) (by kernel_rfl) ?_
    refine (LLoops _ hB11.out.at_ hf.out).mono ?_
    rintro e w12 ⟨A5, c5, rfl, hl5, hb⟩
    have hB12 := Lib.hid (hB11.out.step hb)
    have hl5 := Lib.hid hl5
    clear hb
    refine ⟨_, rfl, hB12.out.row, ?_⟩
    refine callH (i := 32) 18 #[.agg #[m0, m1, m2, m3, m4, m5]] (some 85) rfl (by kernel_rfl) rfl (by kernel_rfl) (by kernel_rfl) ?_
    refine (DLoops _ hB12.out.at_ hf.out).mono ?_
    rintro e w13 ⟨A6, c6, rfl, hl6, hb⟩
    have hB13 := Lib.hid (hB12.out.step hb)
    have hl5 := Lib.hid (hl5.out.keep fun g o hg => hb.cell (p := ⟨g, o, none⟩) hg)
    have hz5 := Lib.hid hb.size
    have hl6 := Lib.hid hl6
    clear hb
    refine ⟨_, rfl, hB13.out.row, ?_⟩
    refine callH (i := 33) 16 #[.slice A5 (loopsL G).length c5, .slice A6 (loopsL G).length c6] (some 86) rfl (by kernel_rfl) rfl (by kernel_rfl) (by kernel_rfl) ?_
    refine (same_n hl5.out hl6.out hz5.out (Nat.le_refl _) rfl (by have := hll.out; omega)).mono ?_
    rintro e w14 ⟨rfl, hb⟩
    have hB14 := Lib.hid (hB13.out.step hb)
    clear hb
    refine ⟨_, rfl, hB14.out.row, ?_⟩
    refine takeH (i := 34) (some 87) (.bool true) rfl rfl (by kernel_rfl) (by kernel_rfl) (by kernel_rfl) (fun _ _ _ h => h) hB14.out.row (by kernel_rfl) (fun W hW => by kernel_rfl) ?_
    refine takeH (i := 35) (some 2) (.bool true) rfl rfl (by kernel_rfl) (by kernel_rfl) (by kernel_rfl) (fun _ _ _ h => h) hB14.out.row (by kernel_rfl) (fun W hW => by kernel_rfl) ?_
    refine wpAnyH_done (by kernel_rfl) ?_ _
    simp only [Act.put, List.setIfInBounds_toArray, List.set_cons_zero, List.set_cons_succ]
    go_wp2_with fail
    go_ret
    exact ⟨rfl, by rw [HBW.out]; exact hX.out.trans (hB14.out.below.mono (by rw [← HBW.out]; exact hX.out.size))⟩
end Go.Proofs.Ytmbjmibjobpdgaa.lawRegionOrders

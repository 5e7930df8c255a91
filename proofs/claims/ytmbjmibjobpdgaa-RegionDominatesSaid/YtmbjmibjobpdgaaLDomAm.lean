/-
  The walk of RegionDominates.
-/
import Derived.Test.YtmbjmibjobpdgaaM52
namespace Go.Proofs.Ytmbjmibjobpdgaa.lawRegionDominates
open Go.RowKit

theorem domL_len (G : GT) (r : Int) (t : Nat) : (domL G r t).length ≤ G.n := domK_len G r G.n t
set_option maxRecDepth 100000 in
set_option maxHeartbeats 4000000 in
theorem walk {mv : Array Value} {G : GT} (r : Int) (w : World) (h : ModelAt w w.heap.size mv G) : Calls Try.prog 4 #[.agg mv, .int .i64 r] w (Yes w) := by
  obtain ⟨ml, hmv, hM, hX, hbx⟩ := model_boxed h
  have hX := Lib.hid hX
  clear h
  generalize ml 0 = m0 at *
  generalize ml 1 = m1 at *
  generalize ml 2 = m2 at *
  generalize ml 3 = m3 at *
  generalize ml 4 = m4 at *
  generalize ml 5 = m5 at *
  subst hmv
  have hB := Lib.hid (show Bx (w.alloc (.cells #[m0, m1, m2, m3, m4, m5] 27)) (w.alloc (.cells #[m0, m1, m2, m3, m4, m5] 27)) w.heap.size #[m0, m1, m2, m3, m4, m5] G from ⟨Below.refl _ _, hbx, hM⟩)
  clear hM hbx
  go_enter Try.func4, Try.ntmps4
  go_upto_region 1 with (fail)
  generalize hbw : w.heap.size = b at *
  have HBW := Lib.hid hbw
  clear hbw
  generalize w.alloc (.cells #[m0, m1, m2, m3, m4, m5] 27) = w1 at *
  have hB1 := Lib.hid hB.out.drew
  refine wp_region_held_drew (S := fun W => W.heap[b]? = some (.cells #[m0, m1, m2, m3, m4, m5] 27 (0, 0))) (by kernel_rfl) hB1.out.row (fun _ => ?_)
  refine callH (i := 0) 8 #[] (some 5) rfl (by kernel_rfl) rfl (by kernel_rfl) (by kernel_rfl) ?_
  refine (awake_any _).mono ?_
  rintro e w2 ⟨rfl, hb⟩
  have hB2 := Lib.hid (hB1.out.step hb)
  clear hb
  refine ⟨_, rfl, hB2.out.row, ?_⟩
  refine takeH (i := 1) (some 6) (.bool true) rfl rfl (by kernel_rfl) (by kernel_rfl) (by kernel_rfl) (fun _ _ _ h => h) hB2.out.row (by kernel_rfl) (fun W hW => by kernel_rfl) ?_
  refine loadH (i := 2) (.tmp 2) (some 7) b #[m0, m1, m2, m3, m4, m5] rfl rfl (by kernel_rfl) (by kernel_rfl) (by kernel_rfl) (fun _ _ _ h => h) hB2.out.row (by kernel_rfl) rfl (by kernel_rfl) rfl (fun W hW => hW) ?_
  refine callH (i := 3) 9 #[.agg #[m0, m1, m2, m3, m4, m5]] (some 8) rfl (by kernel_rfl) rfl (by kernel_rfl) (by kernel_rfl) ?_
  refine (MSmall_any _ hB2.out.at_).mono ?_
  rintro e w3 ⟨bs, rfl, hfew, hb⟩
  have hB3 := Lib.hid (hB2.out.step hb)
  have hF := Lib.hid hfew
  clear hb hfew
  refine ⟨_, rfl, hB3.out.row, ?_⟩
  cases bs with
  | false =>
    refine takeH (i := 4) (some 9) (.bool true) rfl rfl (by kernel_rfl) (by kernel_rfl) (by kernel_rfl) (fun _ _ _ h => h) hB3.out.row (by kernel_rfl) (fun W hW => by kernel_rfl) ?_
    refine takeH (i := 5) (some 10) (.bool true) rfl rfl (by kernel_rfl) (by kernel_rfl) (by kernel_rfl) (fun _ _ _ h => h) hB3.out.row (by kernel_rfl) (fun W hW => by kernel_rfl) ?_
    refine skipH (i := 6) (some 11) rfl rfl (by kernel_rfl) (by kernel_rfl) (by kernel_rfl) (fun _ _ _ h => h) hB3.out.row (by kernel_rfl) ?_
    refine skipH (i := 7) (some 12) rfl rfl (by kernel_rfl) (by kernel_rfl) (by kernel_rfl) (fun _ _ _ h => h) hB3.out.row (by kernel_rfl) ?_
    refine skipH (i := 8) (some 13) rfl rfl (by kernel_rfl) (by kernel_rfl) (by kernel_rfl) (fun _ _ _ h => h) hB3.out.row (by kernel_rfl) ?_
    refine skipH (i := 9) (some 14) rfl rfl (by kernel_rfl) (by kernel_rfl) (by kernel_rfl) (fun _ _ _ h => h) hB3.out.row (by kernel_rfl) ?_
    refine skipH (i := 10) (some 15) rfl rfl (by kernel_rfl) (by kernel_rfl) (by kernel_rfl) (fun _ _ _ h => h) hB3.out.row (by kernel_rfl) ?_
    refine skipH (i := 11) (some 16) rfl rfl (by kernel_rfl) (by kernel_rfl) (by kernel_rfl) (fun _ _ _ h => h) hB3.out.row (by kernel_rfl) ?_
    refine skipH (i := 12) (some 17) rfl rfl (by kernel_rfl) (by kernel_rfl) (by kernel_rfl) (fun _ _ _ h => h) hB3.out.row (by kernel_rfl) ?_
    refine takeH (i := 13) (some 18) (.bool true) rfl rfl (by kernel_rfl) (by kernel_rfl) (by kernel_rfl) (fun _ _ _ h => h) hB3.out.row (by kernel_rfl) (fun W hW => by kernel_rfl) ?_
    refine takeH (i := 14) (some 19) (.bool true) rfl rfl (by kernel_rfl) (by kernel_rfl) (by kernel_rfl) (fun _ _ _ h => h) hB3.out.row (by kernel_rfl) (fun W hW => by kernel_rfl) ?_
    refine takeH (i := 15) (some 4) (.bool true) rfl rfl (by kernel_rfl) (by kernel_rfl) (by kernel_rfl) (fun _ _ _ h => h) hB3.out.row (by kernel_rfl) (fun W hW => by kernel_rfl) ?_
    refine wpAnyH_done (by kernel_rfl) ?_ _
    simp only [Act.put, List.setIfInBounds_toArray, List.set_cons_zero, List.set_cons_succ]
    go_wp2_with fail
    go_ret
    exact ⟨rfl, by rw [HBW.out]; exact hX.out.trans (hB3.out.below.mono (by rw [← HBW.out]; exact hX.out.size))⟩
  | true =>
    have hf := Lib.hid (hF.out rfl)
    refine takeH (i := 4) (some 9) (.bool false) rfl rfl (by kernel_rfl) (by kernel_rfl) (by kernel_rfl) (fun _ _ _ h => h) hB3.out.row (by kernel_rfl) (fun W hW => by kernel_rfl) ?_
    refine takeH (i := 5) (some 10) (.bool false) rfl rfl (by kernel_rfl) (by kernel_rfl) (by kernel_rfl) (fun _ _ _ h => h) hB3.out.row (by kernel_rfl) (fun W hW => by kernel_rfl) ?_
    refine loadH (i := 6) (.tmp 2) (some 11) b #[m0, m1, m2, m3, m4, m5] rfl rfl (by kernel_rfl) (by kernel_rfl) (by kernel_rfl) (fun _ _ _ h => h) hB3.out.row (by kernel_rfl) rfl (by kernel_rfl) rfl (fun W hW => hW) ?_
    refine takeH (i := 7) (some 12) (.int .i64 r) rfl rfl (by kernel_rfl) (by kernel_rfl) (by kernel_rfl) (fun _ _ _ h => h) hB3.out.row (by kernel_rfl) (fun W hW => by kernel_rfl) ?_
    refine loadH (i := 9) (.tmp 2) (some 14) b #[m0, m1, m2, m3, m4, m5] rfl rfl (by kernel_rfl) (by kernel_rfl) (by kernel_rfl) (fun _ _ _ h => h) hB3.out.row (by kernel_rfl) rfl (by kernel_rfl) rfl (fun W hW => hW) ?_
    refine takeH (i := 10) (some 15) (.int .i64 r) rfl rfl (by kernel_rfl) (by kernel_rfl) (by kernel_rfl) (fun _ _ _ h => h) hB3.out.row (by kernel_rfl) (fun W hW => by kernel_rfl) ?_
    refine callH (i := 8) 20 #[.agg #[m0, m1, m2, m3, m4, m5], .int .i64 r] (some 13) rfl (by kernel_rfl) rfl (by kernel_rfl) (by kernel_rfl) ?_
    refine (LDominators _ r hB3.out.at_ hf.out).mono ?_
    rintro e w4 ⟨A1, c1, rfl, hl1, hb⟩
    have hB4 := Lib.hid (hB3.out.step hb)
    have hl1 := Lib.hid hl1
    clear hb
    refine ⟨_, rfl, hB4.out.row, ?_⟩
    refine callH (i := 11) 21 #[.agg #[m0, m1, m2, m3, m4, m5], .int .i64 r] (some 16) rfl (by kernel_rfl) rfl (by kernel_rfl) (by kernel_rfl) ?_
    refine (DDominators _ r hB4.out.at_ hf.out).mono ?_
    rintro e w5 ⟨A2, c2, rfl, hl2, hb⟩
    have hB5 := Lib.hid (hB4.out.step hb)
    have hl2 := Lib.hid hl2
    have hl3 := Lib.hid (hl1.out.keep fun g o hg => hb.cell (p := ⟨g, o, none⟩) hg)
    have hs45 := hb.size
    clear hb
    refine ⟨_, rfl, hB5.out.row, ?_⟩
    refine callH (i := 12) 19 #[.slice A1 G.n c1, .slice A2 G.n c2] (some 17) rfl (by kernel_rfl) rfl (by kernel_rfl) (by kernel_rfl) ?_
    refine (SameR_eq _ hl3.out hl2.out hs45 (Nat.le_refl _) (by have := hf.out.1; omega) (fun t _ => by have := domL_len G r t; have := hf.out.1; omega)).mono ?_
    rintro e w6 ⟨rfl, hb⟩
    have hB6 := Lib.hid (hB5.out.step hb)
    clear hb
    refine ⟨_, rfl, hB6.out.row, ?_⟩
    refine takeH (i := 13) (some 18) (.bool true) rfl rfl (by kernel_rfl) (by kernel_rfl) (by kernel_rfl) (fun _ _ _ h => h) hB6.out.row (by kernel_rfl) (fun W hW => by kernel_rfl) ?_
    refine takeH (i := 14) (some 19) (.bool true) rfl rfl (by kernel_rfl) (by kernel_rfl) (by kernel_rfl) (fun _ _ _ h => h) hB6.out.row (by kernel_rfl) (fun W hW => by kernel_rfl) ?_
    refine takeH (i := 15) (some 4) (.bool true) rfl rfl (by kernel_rfl) (by kernel_rfl) (by kernel_rfl) (fun _ _ _ h => h) hB6.out.row (by kernel_rfl) (fun W hW => by kernel_rfl) ?_
    refine wpAnyH_done (by kernel_rfl) ?_ _
    simp only [Act.put, List.setIfInBounds_toArray, List.set_cons_zero, List.set_cons_succ]
    go_wp2_with fail
    go_ret
    exact ⟨rfl, by rw [HBW.out]; exact hX.out.trans (hB6.out.below.mono (by rw [← HBW.out]; exact hX.out.size))⟩
end Go.Proofs.Ytmbjmibjobpdgaa.lawRegionDominates

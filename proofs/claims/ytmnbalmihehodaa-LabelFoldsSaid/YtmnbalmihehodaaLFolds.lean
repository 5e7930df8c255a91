/-
  For every n, every list of pairs, every list of ints and every level the law LabelFolds answers true and leaves its input as it was. No condition.
-/
import Derived.Test.YtmnbalmihehodaaLAll
import Derived.Test.YtmnbalmihehodaaHeld
namespace Go.Proofs.Ytmnbalmihehodaa
open Go.ChangeShapes Go.WideShapes Go.ChangeAt Go.RowKit

namespace lawFolds

set_option maxRecDepth 100000 in
set_option maxHeartbeats 1000000 in
theorem walk_none (n : Int) (A : Option Addr) (len cap : Nat) (p q : Nat → Int) (v : Value) (lev : Int) (w : World) (hp : Prs w w.heap.size A len p q) (hA : A = none → cap = 0) (h : 200 < len ∨ (len ≤ 200 ∧ (mbo n len p q && mkL n len p q) = false)) :
    Calls Try.prog 3 #[.int .i64 n, .slice A len cap, v, .int .i64 lev] w fun e w' => e = .returned (.bool true) ∧ Below w.heap.size w w' := by
  have hzero := zero31
  have H := Lib.hid h
  clear h
  go_enter Try.func3, Try.ntmps3
  go_wp2_with fail
  refine (both_no n A len cap p q w hp hA H.out).mono ?_
  rintro e w1 ⟨cs, rfl, hcs, hone, hb1⟩
  have hsz := Lib.hid hcs
  have hl1 := heap_alloc_new w1 (.cells z31 28)
  have hb2 := below_setRow (hb1.alloc hb1.size (.cells z31 28)) hb1.size cs
  clear hcs hb1 hp hA H
  go_wp2_with (first | (refine st31 rfl _ _ rfl _ _ rfl rfl _ hl1 hsz.out z31_size hone ?_) | fail)
  clear hl1 hzero hone
  generalize (w1.alloc (.cells z31 28)).setRow w1.heap.size cs = w2 at *
  generalize w1.heap.size = s1 at *
  refine (awake_any _).mono ?_
  rintro e w3 ⟨rfl, hb3⟩
  have hb4 := after hb2 hb3
  go_wp2_with fail
  refine (awake_any _).mono ?_
  rintro e w5 ⟨rfl, hb5⟩
  have hb6 := after hb4 hb5
  go_wp2_with fail
  go_ret
  exact ⟨rfl, hb6⟩

set_option maxRecDepth 100000 in
set_option maxHeartbeats 2000000 in
theorem walk_ok (n : Int) (A : Option Addr) (len cap : Nat) (p q : Nat → Int) (C : Option Addr) (m capl : Nat) (f : Nat → Int) (lev : Int) (w : World) (hp : Prs w w.heap.size A len p q) (hA : A = none → cap = 0) (hC : C = none → capl = 0) (hR : Rd w w.heap.size C m f)
    (hlen : len ≤ 200) (hm : mbo n len p q = true) (hl : mkL n len p q = true) :
    Calls Try.prog 3 #[.int .i64 n, .slice A len cap, .slice C m capl, .int .i64 lev] w fun e w' => e = .returned (.bool true) ∧ Below w.heap.size w w' := by
  have hzero := zero31
  have hG := mk_good hm hl
  have HM := Lib.hid hm
  have HL := Lib.hid hl
  clear hm hl
  go_enter Try.func3, Try.ntmps3
  go_wp2_with fail
  refine (both_ok n A len cap p q w hp hA hlen HM.out HL.out).mono ?_
  rintro e w1 ⟨g, cs, rfl, hRL, hb1, hL1⟩
  have hsz := Lib.hid hRL.sz
  have hone := hRL.one
  have hl1 := heap_alloc_new w1 (.cells z31 28)
  have hw2 := below_setRow (hb1.alloc hb1.size (.cells z31 28)) hb1.size cs
  have hl2 := setRow_heap _ _ _ cs 28 (0, 0) hl1
  have hL2 : Lat ((w1.alloc (.cells z31 28)).setRow w1.heap.size cs) g _ _ _ := ⟨(heap_setRow_far _ _ _ cs (Nat.ne_of_lt hL1.lt)).trans (hL1.alloc (.cells z31 28)).blk, hL1.n8, hL1.a8, hL1.b8⟩
  clear hb1 hp hA HM HL hL1
  go_wp2_with (first | (refine st31 rfl _ _ rfl _ _ rfl rfl _ hl1 hsz.out z31_size hone ?_) | fail)
  clear hl1 hzero hone
  generalize (w1.alloc (.cells z31 28)).setRow w1.heap.size cs = w2 at *
  generalize w1.heap.size = s1 at *
  have HR := Lib.hid hRL
  clear hRL
  generalize mkA n len p q = As at *
  generalize mkB n len p q = Bs at *
  refine (awake_any _).mono ?_
  rintro e w3 ⟨rfl, hb3⟩
  have hw3 := after hw2 hb3
  have hL3 := hL2.keep hb3
  have hs3 := (hb3.block _ (Array.getElem?_eq_some_iff.1 hl2).1).trans hl2
  have hR3 := (hR.keep hw3).mono hw3.size
  clear hw2 hL2 hb3 hR hl2
  by_cases hm300 : 300 < m
  · have hm300' : (300 : Int) < m := by omega
    go_wp2_with fail
    refine (awake_any _).mono ?_
    rintro e w5 ⟨rfl, hb5⟩
    have hb6 := after hw3 hb5
    go_wp2_with fail
    go_ret
    exact ⟨rfl, hb6⟩
  have hm300' : (m : Int) ≤ 300 := by omega
  have hz4 := heap_alloc_new w3 (.cells #[] 3)
  have hbz4 := (Below.refl w3.heap.size w3).alloc (Nat.le_refl _) (.cells #[] 3)
  have hR3z := hR3.keep hbz4
  go_wp2_with (first | (at_builtin; refine wp_appI rfl (.tmp 39) (.tmp 40) rfl _ rfl hz4 _ _ _ _ _ rfl hR3z hC (by omega) ?_; intro g4 cap4 w4 hg4 hI4 hb4) | fail)
  have hb34 := hbz4.trans hb4
  have hL4 := hL3.keep hb34
  have hw4 := after hw3 hb34
  have hR4 := (hR3.keep hb34).mono hb34.size
  have hs4 := (hb34.block _ (Array.getElem?_eq_some_iff.1 hs3).1).trans hs3
  clear hz4 hbz4 hR3z hb4 hb34 hL3 hw3 hR3 hs3
  obtain ⟨a1, b1, hv1⟩ := foldV_cases n.toNat (jn n.toNat As) (botK n.toNat As n.toNat) f m
  obtain ⟨a2, b2, hv2⟩ := foldV_cases n.toNat (jn n.toNat Bs) (topK n.toNat As n.toNat) f m
  have HV1 := Lib.hid hv1
  have HV2 := Lib.hid hv2
  clear hv1 hv2
  refine (JoinAll_any hG _ m cap4 f _ (by omega) hL4 hI4.rd).mono ?_
  rintro e w5 ⟨rfl, hb5⟩
  rw [HV1.out]
  have hL5 := hL4.keep hb5
  have hw5 := after hw4 hb5
  have hR5 := (hR4.keep hb5).mono hb5.size
  have hs5 := (hb5.block _ (Array.getElem?_eq_some_iff.1 hs4).1).trans hs4
  clear hL4 hw4 hR4 hs4 hb5 hI4 hg4
  have hz6 := heap_alloc_new w5 (.cells #[] 3)
  have hbz6 := (Below.refl w5.heap.size w5).alloc (Nat.le_refl _) (.cells #[] 3)
  have hR5z := hR5.keep hbz6
  go_wp2_with (first | (at_builtin; refine wp_appI rfl (.tmp 47) (.tmp 48) rfl _ rfl hz6 _ _ _ _ _ rfl hR5z hC (by omega) ?_; intro g6 cap6 w6 hg6 hI6 hb6) | fail)
  have hb56 := hbz6.trans hb6
  have hL6 := hL5.keep hb56
  have hw6 := after hw5 hb56
  have hR6 := (hR5.keep hb56).mono hb56.size
  have hs6 := (hb56.block _ (Array.getElem?_eq_some_iff.1 hs5).1).trans hs5
  clear hz6 hbz6 hR5z hb6 hb56 hL5 hw5 hR5 hs5
  refine (MeetAll_any hG _ m cap6 f _ (by omega) hL6 hI6.rd).mono ?_
  rintro e w7 ⟨rfl, hb7⟩
  rw [HV2.out]
  have hL7 := hL6.keep hb7
  have hw7 := after hw6 hb7
  have hR7 := (hR6.keep hb7).mono hb7.size
  have hs7 := (hb7.block _ (Array.getElem?_eq_some_iff.1 hs6).1).trans hs6
  clear hL6 hw6 hR6 hs6 hb7 hI6 hg6
  go_wp2_with fail
  have k7 := hL7.drew
  have b7 := hw7.drew
  have r7 : Rd w7.drew w7.drew.heap.size C m f := hR7
  have l7 : w7.drew.heap[s1]? = some (.cells cs 28 (0, 0)) := hs7
  clear hL7 hw7 hR7 hs7
  refine wp_region_held_drew (S := fun W => W.heap[s1]? = some (.cells cs 28 (0, 0))) (by kernel_rfl) l7 (fun _ => ?_)
  refine takeH (i := 1) (some 54) (.slice C m capl) rfl rfl (by kernel_rfl) (by kernel_rfl) (by kernel_rfl) (fun _ _ _ h => h) l7 (by kernel_rfl) (fun _ _ => by kernel_rfl) ?_
  refine takeH (i := 4) (some 57) (.slice C m capl) rfl rfl (by kernel_rfl) (by kernel_rfl) (by kernel_rfl) (fun _ _ _ h => h) l7 (by kernel_rfl) (fun _ _ => by kernel_rfl) ?_
  refine loadH (i := 0) (.tmp 10) (some 53) s1 cs rfl rfl (by kernel_rfl) (by kernel_rfl) (by kernel_rfl) (fun _ _ _ h => h) l7 (by kernel_rfl) rfl (by kernel_rfl) hsz.out (fun _ h => h) ?_
  refine loadH (i := 3) (.tmp 10) (some 56) s1 cs rfl rfl (by kernel_rfl) (by kernel_rfl) (by kernel_rfl) (fun _ _ _ h => h) l7 (by kernel_rfl) rfl (by kernel_rfl) hsz.out (fun _ h => h) ?_
  refine callH (i := 2) 13 #[.agg cs, .slice C m capl, .bool false] (some 55) rfl (by kernel_rfl) rfl (by kernel_rfl) (by kernel_rfl) ?_
  refine (rAll_join hG HR.out C m capl f _ (by omega) r7).mono ?_
  rintro e w8 ⟨rfl, hb8⟩
  have k8 := k7.keep hb8
  have b8 := after b7 hb8
  have r8 := (r7.keep hb8).mono hb8.size
  have l8 := (hb8.block _ (Array.getElem?_eq_some_iff.1 l7).1).trans l7
  refine ⟨_, rfl, l8, ?_⟩
  clear k7 b7 r7 l7 hb8
  refine callH (i := 5) 13 #[.agg cs, .slice C m capl, .bool true] (some 58) rfl (by kernel_rfl) rfl (by kernel_rfl) (by kernel_rfl) ?_
  refine (rAll_meet hG HR.out C m capl f _ (by omega) r8).mono ?_
  rintro e w9 ⟨rfl, hb9⟩
  have k9 := k8.keep hb9
  have b9 := after b8 hb9
  have r9 := (r8.keep hb9).mono hb9.size
  have l9 := (hb9.block _ (Array.getElem?_eq_some_iff.1 l8).1).trans l8
  refine ⟨_, rfl, l9, ?_⟩
  clear k8 b8 r8 l8 hb9
  refine takeH (i := 6) (some 16) (.int .i64 (allV n.toNat (jn n.toNat As) (botK n.toNat As n.toNat) f m)) rfl rfl (by kernel_rfl) (by kernel_rfl) (by kernel_rfl) (fun _ _ _ h => h) l9 (by kernel_rfl) (fun _ _ => by kernel_rfl) ?_
  refine takeH (i := 7) (some 17) (.int .i64 (allV n.toNat (jn n.toNat Bs) (topK n.toNat As n.toNat) f m)) rfl rfl (by kernel_rfl) (by kernel_rfl) (by kernel_rfl) (fun _ _ _ h => h) l9 (by kernel_rfl) (fun _ _ => by kernel_rfl) ?_
  refine wpAnyH_done (by kernel_rfl) ?_ _
  go_simp
  cases hok : okL n.toNat f m
  · have e1 := HV1.out
    have e2 := HV2.out
    rw [foldV, hok] at e1 e2
    simp only [Bool.false_eq_true, if_false, Value.tuple.injEq, Array.mk.injEq, List.cons.injEq, Value.int.injEq, true_and, and_true] at e1 e2
    obtain ⟨rfl, rfl⟩ := e1
    obtain ⟨rfl, rfl⟩ := e2
    rw [show allV n.toNat (jn n.toNat As) (botK n.toNat As n.toNat) f m = -1 by rw [allV, hok]; rfl]
    clear HV1 HV2 hok
    go_wp2_with fail
    go_ret
    exact ⟨rfl, b9⟩
  · have e1 := HV1.out
    have e2 := HV2.out
    rw [foldV, hok] at e1 e2
    simp only [if_true, Value.tuple.injEq, Array.mk.injEq, List.cons.injEq, Value.int.injEq, true_and, and_true] at e1 e2
    obtain ⟨rfl, rfl⟩ := e1
    obtain ⟨rfl, rfl⟩ := e2
    rw [show allV n.toNat (jn n.toNat As) (botK n.toNat As n.toNat) f m = (fo (jn n.toNat As) (botK n.toNat As n.toNat) f m : Nat) by rw [allV, hok]; rfl,
      show allV n.toNat (jn n.toNat Bs) (topK n.toNat As n.toNat) f m = (fo (jn n.toNat Bs) (topK n.toNat As n.toNat) f m : Nat) by rw [allV, hok]; rfl]
    clear HV1 HV2 hok
    generalize fo (jn n.toNat As) (botK n.toNat As n.toNat) f m = z at *
    generalize fo (jn n.toNat Bs) (topK n.toNat As n.toNat) f m = y at *
    have hz0 : (0 : Int) ≤ (z : Int) := by omega
    go_wp2_with fail
    have k9 := k9.drew
    have b9 := b9.drew
    have r9 : Rd w9.drew w9.drew.heap.size C m f := r9
    have l9 : w9.drew.heap[s1]? = some (.cells cs 28 (0, 0)) := l9
    have lnv := Nat.le_trans (pick_le (fun i => leqB n.toNat As (f i) lev) m) (show m ≤ 1000 by omega)
    have lnh := Nat.le_trans (pick_le (fun a => !leqB n.toNat As (a : Int) lev) n.toNat) (show n.toNat ≤ 1000 by have := k9.n8; omega)
    refine wp_region_held_drew (S := fun W => W.heap[s1]? = some (.cells cs 28 (0, 0))) (by kernel_rfl) l9 (fun _ => ?_)
    refine takeH (i := 0) (some 75) (.int .i64 0) rfl rfl (by kernel_rfl) (by kernel_rfl) (by kernel_rfl) (fun _ _ _ h => h) l9 (by kernel_rfl) (fun _ _ => by kernel_rfl) ?_
    refine takeH (i := 1) (some 76) (.bool true) rfl rfl (by kernel_rfl) (by kernel_rfl) (by kernel_rfl) (fun _ _ _ h => h) l9 (by kernel_rfl) (fun _ _ => by kernel_rfl) ?_
    refine takeH (i := 2) (some 77) (.bool true) rfl rfl (by kernel_rfl) (by kernel_rfl) (by kernel_rfl) (fun _ _ _ h => h) l9 (by kernel_rfl) (fun _ _ => by kernel_rfl) ?_
    refine takeH (i := 3) (some 78) (.int .i64 0) rfl rfl (by kernel_rfl) (by kernel_rfl) (by kernel_rfl) (fun _ _ _ h => h) l9 (by kernel_rfl) (fun _ _ => by kernel_rfl) ?_
    refine takeH (i := 4) (some 79) (.bool true) rfl rfl (by kernel_rfl) (by kernel_rfl) (by kernel_rfl) (fun _ _ _ h => h) l9 (by kernel_rfl) (fun _ _ => by kernel_rfl) ?_
    refine takeH (i := 5) (some 80) (.bool true) rfl rfl (by kernel_rfl) (by kernel_rfl) (by kernel_rfl) (fun _ _ _ h => h) l9 (by kernel_rfl) (fun _ _ => by kernel_rfl) ?_
    refine takeH (i := 6) (some 81) (.bool true) rfl rfl (by kernel_rfl) (by kernel_rfl) (by kernel_rfl) (fun _ _ _ h => h) l9 (by kernel_rfl) (fun _ _ => by kernel_rfl) ?_
    refine takeH (i := 7) (some 82) (.int .i64 (z : Int)) rfl rfl (by kernel_rfl) (by kernel_rfl) (by kernel_rfl) (fun _ _ _ h => h) l9 (by kernel_rfl) (fun _ _ => by kernel_rfl) ?_
    refine takeH (i := 8) (some 83) (.int .i64 (z : Int)) rfl rfl (by kernel_rfl) (by kernel_rfl) (by kernel_rfl) (fun _ _ _ h => h) l9 (by kernel_rfl) (fun _ _ => by kernel_rfl) ?_
    refine takeH (i := 9) (some 84) (.bool true) rfl rfl (by kernel_rfl) (by kernel_rfl) (by kernel_rfl) (fun _ _ _ h => h) l9 (by kernel_rfl) (fun W _ => eq_vals (u := .int .i64 (z : Int)) (v := .int .i64 (z : Int)) rfl (by kernel_rfl) (by kernel_rfl) (guard_int _ _ _ _ _) (same_int _) W) ?_
    refine takeH (i := 10) (some 85) (.bool true) rfl rfl (by kernel_rfl) (by kernel_rfl) (by kernel_rfl) (fun _ _ _ h => h) l9 (by kernel_rfl) (fun _ _ => by kernel_rfl) ?_
    refine takeH (i := 11) (some 86) (.bool true) rfl rfl (by kernel_rfl) (by kernel_rfl) (by kernel_rfl) (fun _ _ _ h => h) l9 (by kernel_rfl) (fun _ _ => by kernel_rfl) ?_
    refine takeH (i := 12) (some 87) (.int .i64 (y : Int)) rfl rfl (by kernel_rfl) (by kernel_rfl) (by kernel_rfl) (fun _ _ _ h => h) l9 (by kernel_rfl) (fun _ _ => by kernel_rfl) ?_
    refine takeH (i := 13) (some 88) (.int .i64 (y : Int)) rfl rfl (by kernel_rfl) (by kernel_rfl) (by kernel_rfl) (fun _ _ _ h => h) l9 (by kernel_rfl) (fun _ _ => by kernel_rfl) ?_
    refine takeH (i := 14) (some 89) (.bool true) rfl rfl (by kernel_rfl) (by kernel_rfl) (by kernel_rfl) (fun _ _ _ h => h) l9 (by kernel_rfl) (fun W _ => eq_vals (u := .int .i64 (y : Int)) (v := .int .i64 (y : Int)) rfl (by kernel_rfl) (by kernel_rfl) (guard_int _ _ _ _ _) (same_int _) W) ?_
    refine takeH (i := 15) (some 90) (.bool true) rfl rfl (by kernel_rfl) (by kernel_rfl) (by kernel_rfl) (fun _ _ _ h => h) l9 (by kernel_rfl) (fun _ _ => by kernel_rfl) ?_
    refine takeH (i := 16) (some 91) (.bool true) rfl rfl (by kernel_rfl) (by kernel_rfl) (by kernel_rfl) (fun _ _ _ h => h) l9 (by kernel_rfl) (fun _ _ => by kernel_rfl) ?_
    refine takeH (i := 17) (some 92) (.pointer (some ⟨g, 0, none⟩)) rfl rfl (by kernel_rfl) (by kernel_rfl) (by kernel_rfl) (fun _ _ _ h => h) l9 (by kernel_rfl) (fun _ _ => by kernel_rfl) ?_
    refine takeH (i := 18) (some 93) (.int .i64 lev) rfl rfl (by kernel_rfl) (by kernel_rfl) (by kernel_rfl) (fun _ _ _ h => h) l9 (by kernel_rfl) (fun _ _ => by kernel_rfl) ?_
    refine takeH (i := 20) (some 95) (.slice C m capl) rfl rfl (by kernel_rfl) (by kernel_rfl) (by kernel_rfl) (fun _ _ _ h => h) l9 (by kernel_rfl) (fun _ _ => by kernel_rfl) ?_
    refine loadH (i := 23) (.tmp 10) (some 98) s1 cs rfl rfl (by kernel_rfl) (by kernel_rfl) (by kernel_rfl) (fun _ _ _ h => h) l9 (by kernel_rfl) rfl (by kernel_rfl) hsz.out (fun _ h => h) ?_
    refine takeH (i := 24) (some 99) (.int .i64 lev) rfl rfl (by kernel_rfl) (by kernel_rfl) (by kernel_rfl) (fun _ _ _ h => h) l9 (by kernel_rfl) (fun _ _ => by kernel_rfl) ?_
    refine takeH (i := 25) (some 100) (.slice C m capl) rfl rfl (by kernel_rfl) (by kernel_rfl) (by kernel_rfl) (fun _ _ _ h => h) l9 (by kernel_rfl) (fun _ _ => by kernel_rfl) ?_
    have hz10 := heap_alloc_new w9.drew (.cells #[] 3)
    have hbz10 := (Below.refl w9.drew.heap.size w9.drew).alloc (Nat.le_refl _) (.cells #[] 3)
    have l10 := (hbz10.block _ (Array.getElem?_eq_some_iff.1 l9).1).trans l9
    refine valH (i := 19) (.slice (some ⟨w9.drew.heap.size, 0, none⟩) 0 0) (w9.drew.alloc (.cells #[] 3)) (some 94) rfl (by kernel_rfl) rfl (by kernel_rfl) (by kernel_rfl) l10 ?_
    refine oneH (i := 21) rfl (by kernel_rfl) (by kernel_rfl) (fun K' hK' => op_appI (.tmp 94) (.tmp 95) rfl _ (by kernel_rfl) hz10 C m capl _ f (by kernel_rfl) (r9.keep hbz10) hC (by omega) (fun g11 cap11 w11 hg11 hI11 hb11 => ?_))
    have hb911 := hbz10.trans hb11
    have k11 := k9.keep hb911
    have b11 := after b9 hb911
    have r11 := (r9.keep hb911).mono hb911.size
    have l11 := (hb911.block _ (Array.getElem?_eq_some_iff.1 l9).1).trans l9
    refine hK' _ _ l11 ?_
    clear hz10 hbz10 l10 hb11 hb911 k9 b9 r9 l9 hg11
    refine callH (i := 22) 15 #[.pointer (some ⟨g, 0, none⟩), .int .i64 lev, .slice (some ⟨g11, 0, none⟩) m cap11] (some 97) rfl (by kernel_rfl) rfl (by kernel_rfl) (by kernel_rfl) ?_
    refine (Visible_any lev _ m cap11 f _ (by omega) k11 hI11.rd).mono ?_
    rintro e w12 ⟨v12, rfl, hown12, hb12⟩
    obtain ⟨A12, c12, rfl, hR12⟩ := row_read hown12
    have k12 := k11.keep hb12
    have b12 := after b11 hb12
    have r12 := (r11.keep hb12).mono hb12.size
    have l12 := (hb12.block _ (Array.getElem?_eq_some_iff.1 l11).1).trans l11
    refine ⟨_, rfl, l12, ?_⟩
    clear hown12 hb12 k11 b11 r11 l11 hI11
    refine callH (i := 26) 16 #[.agg cs, .int .i64 lev, .slice C m capl] (some 101) rfl (by kernel_rfl) rfl (by kernel_rfl) (by kernel_rfl) ?_
    refine (rVis_any hG HR.out lev C m capl f _ (by omega) r12).mono ?_
    rintro e w13 ⟨v13, rfl, hown13, hb13⟩
    obtain ⟨A13, c13, rfl, hR13⟩ := row_read hown13
    have k13 := k12.keep hb13
    have b13 := after b12 hb13
    have l13 := (hb13.block _ (Array.getElem?_eq_some_iff.1 l12).1).trans l12
    have hR12' := (hR12.keep hb13).mono hb13.size
    refine ⟨_, rfl, l13, ?_⟩
    clear hown13 hb13 k12 b12 r12 l12 hR12
    refine callH (i := 27) 14 #[.slice A12 (pick (fun i => leqB n.toNat As (f i) lev) m).length c12, .slice A13 (pick (fun i => leqB n.toNat As (f i) lev) m).length c13] (some 102) rfl (by kernel_rfl) rfl (by kernel_rfl) (by kernel_rfl) ?_
    refine (same_any A12 A13 _ c12 c13 _ _ _ lnv hR12' hR13).mono ?_
    rintro e w14 ⟨rfl, hb14⟩
    rw [smK_of (fun _ _ => rfl)]
    have k14 := k13.keep hb14
    have b14 := after b13 hb14
    have l14 := (hb14.block _ (Array.getElem?_eq_some_iff.1 l13).1).trans l13
    refine ⟨_, rfl, l14, ?_⟩
    clear hb14 k13 b13 l13 hR12' hR13
    refine takeH (i := 28) (some 103) (.bool true) rfl rfl (by kernel_rfl) (by kernel_rfl) (by kernel_rfl) (fun _ _ _ h => h) l14 (by kernel_rfl) (fun _ _ => by kernel_rfl) ?_
    refine takeH (i := 29) (some 104) (.bool true) rfl rfl (by kernel_rfl) (by kernel_rfl) (by kernel_rfl) (fun _ _ _ h => h) l14 (by kernel_rfl) (fun _ _ => by kernel_rfl) ?_
    refine takeH (i := 30) (some 105) (.pointer (some ⟨g, 0, none⟩)) rfl rfl (by kernel_rfl) (by kernel_rfl) (by kernel_rfl) (fun _ _ _ h => h) l14 (by kernel_rfl) (fun _ _ => by kernel_rfl) ?_
    refine takeH (i := 31) (some 106) (.int .i64 lev) rfl rfl (by kernel_rfl) (by kernel_rfl) (by kernel_rfl) (fun _ _ _ h => h) l14 (by kernel_rfl) (fun _ _ => by kernel_rfl) ?_
    refine loadH (i := 33) (.tmp 10) (some 108) s1 cs rfl rfl (by kernel_rfl) (by kernel_rfl) (by kernel_rfl) (fun _ _ _ h => h) l14 (by kernel_rfl) rfl (by kernel_rfl) hsz.out (fun _ h => h) ?_
    refine takeH (i := 34) (some 109) (.int .i64 lev) rfl rfl (by kernel_rfl) (by kernel_rfl) (by kernel_rfl) (fun _ _ _ h => h) l14 (by kernel_rfl) (fun _ _ => by kernel_rfl) ?_
    refine callH (i := 32) 17 #[.pointer (some ⟨g, 0, none⟩), .int .i64 lev] (some 107) rfl (by kernel_rfl) rfl (by kernel_rfl) (by kernel_rfl) ?_
    refine (High_any lev _ k14).mono ?_
    rintro e w15 ⟨v15, rfl, hown15, hb15⟩
    obtain ⟨A15, c15, rfl, hR15⟩ := row_read hown15
    have b15 := after b14 hb15
    have l15 := (hb15.block _ (Array.getElem?_eq_some_iff.1 l14).1).trans l14
    refine ⟨_, rfl, l15, ?_⟩
    clear hown15 hb15 k14 b14 l14
    refine callH (i := 35) 18 #[.agg cs, .int .i64 lev] (some 110) rfl (by kernel_rfl) rfl (by kernel_rfl) (by kernel_rfl) ?_
    refine (rHigh_any hG HR.out lev _).mono ?_
    rintro e w16 ⟨v16, rfl, hown16, hb16⟩
    obtain ⟨A16, c16, rfl, hR16⟩ := row_read hown16
    have b16 := after b15 hb16
    have l16 := (hb16.block _ (Array.getElem?_eq_some_iff.1 l15).1).trans l15
    have hR15' := (hR15.keep hb16).mono hb16.size
    refine ⟨_, rfl, l16, ?_⟩
    clear hown16 hb16 b15 l15 hR15
    refine callH (i := 36) 14 #[.slice A15 (pick (fun a => !leqB n.toNat As (a : Int) lev) n.toNat).length c15, .slice A16 (pick (fun a => !leqB n.toNat As (a : Int) lev) n.toNat).length c16] (some 111) rfl (by kernel_rfl) rfl (by kernel_rfl) (by kernel_rfl) ?_
    refine (same_any A15 A16 _ c15 c16 _ _ _ lnh hR15' hR16).mono ?_
    rintro e w17 ⟨rfl, hb17⟩
    rw [smK_of (fun _ _ => rfl)]
    have b17 := after b16 hb17
    have l17 := (hb17.block _ (Array.getElem?_eq_some_iff.1 l16).1).trans l16
    refine ⟨_, rfl, l17, ?_⟩
    clear hb17 b16 l16 hR15' hR16
    refine takeH (i := 37) (some 112) (.bool true) rfl rfl (by kernel_rfl) (by kernel_rfl) (by kernel_rfl) (fun _ _ _ h => h) l17 (by kernel_rfl) (fun _ _ => by kernel_rfl) ?_
    refine takeH (i := 38) (some 8) (.bool true) rfl rfl (by kernel_rfl) (by kernel_rfl) (by kernel_rfl) (fun _ _ _ h => h) l17 (by kernel_rfl) (fun _ _ => by kernel_rfl) ?_
    refine wpAnyH_done (by kernel_rfl) ?_ _
    go_simp
    go_wp2_with fail
    go_ret
    exact ⟨rfl, b17⟩

theorem walk (n : Int) (A : Option Addr) (len cap : Nat) (p q : Nat → Int) (C : Option Addr) (m capl : Nat) (f : Nat → Int) (lev : Int) (w : World) (hp : Prs w w.heap.size A len p q) (hA : A = none → cap = 0) (hC : C = none → capl = 0) (hR : Rd w w.heap.size C m f) :
    Calls Try.prog 3 #[.int .i64 n, .slice A len cap, .slice C m capl, .int .i64 lev] w fun e w' => e = .returned (.bool true) ∧ Below w.heap.size w w' := by
  rcases boths (n := n) (len := len) (p := p) (q := q) with h | ⟨h, hm, hl⟩
  · exact walk_none n A len cap p q _ lev w hp hA h
  · exact walk_ok n A len cap p q C m capl f lev w hp hA hC hR h hm hl

set_option maxRecDepth 100000 in
theorem lifted (os : Os) (started : os.Started) (H : Type) (enc : TypeId × Value → H) :
    ReturnsInHanded {} Try.checked os 3 .any (Rows.labelFoldsSpec.pre6 enc Try.prog Try.f3 Rows.labelFoldsRow.domain false) (Rows.labelFoldsSpec.post enc Try.prog Try.f3 false true false false) := by
  refine returnsInHanded_of_change (C := Try.checked) own started (by kernel_rfl) Try.func3
    (ChangeSpec.witness6 (enc := enc) (C := Try.checked) false ⟨#[], #[.int .i64 0, .slice none 0 0, .slice none 0 0, .int .i64 0], []⟩ 8 (by kernel_rfl) (by kernel_rfl) (by kernel_rfl) (by kernel_rfl)) ?_
  intro W base args ds gs before hval0 hW hcnd _
  have hval : ∀ (j : Nat) t v, Try.f3.params[j]? = some t → args[j]? = some v → Value.okWide Try.prog W .any base t v := hval0
  have hW' := hW
  obtain ⟨p, q, hA0, hV, rfl, hfz, hnd⟩ := hW
  have hA : DataW.TrodAll enc Try.prog W 0 (fun _ => true) true Try.f3.params.toList args.toList ds p := hA0
  rw [Try.params3] at hA hval
  obtain ⟨v0, vs0, d0, ds0, p0, q0, hargs, rfl, rfl, h0, r0⟩ := trodAll_cons hA
  obtain ⟨v1, vs1, d1, ds1, p1, q1, rfl, rfl, rfl, h1, r1⟩ := trodAll_cons r0
  obtain ⟨v2, vs2, d2, ds2, p2, q2, rfl, rfl, rfl, h2, r2⟩ := trodAll_cons r1
  obtain ⟨v3, vs3, d3, ds3, p3, q3, rfl, rfl, rfl, h3, r3⟩ := trodAll_cons r2
  obtain ⟨rfl, rfl, rfl⟩ := trodAll_nil r3
  obtain rfl : args = #[v0, v1, v2, v3] := by cases args; simp_all
  obtain ⟨rfl, rfl⟩ := trodVars_none hV
  obtain ⟨a0, rfl, rfl, rfl, w0⟩ := open_int Try.underlying3 (hval 0 3 v0 rfl rfl) h0
  obtain ⟨a3, rfl, rfl, rfl, w3⟩ := open_int Try.underlying3 (hval 3 3 v3 rfl rfl) h3
  clear hA0 hval0
  simp only [List.append_nil] at hW'
  have hlt1 : ∀ x ∈ p1, x.block < W.heap.size := fun x hx => by simpa using hW'.lt x (by simp [hx])
  have hlt2 : ∀ x ∈ p2, x.block < W.heap.size := fun x hx => by simpa using hW'.lt x (by simp [hx])
  obtain ⟨A, len, cap, pp, qq, rfl, hp, hAn⟩ := open_order (okWide_slice Try.underlying22 (hval 1 22 v1 rfl rfl)) h1 hlt1
  obtain ⟨C, m, capl, f, rfl, hR, hC, _⟩ := open_list (okWide_slice Try.underlying23 (hval 2 23 v2 rfl rfl)) h2 hlt2
  refine (walk a0 A len cap pp qq C m capl f a3 W hp hAn hC hR).mono fun e W' ⟨he, hg⟩ => ?_
  subst he
  exact ⟨_, rfl, _, _, _, [], _, [], hW', trodAll_cons_mk (shut_bool Try.underlying4 _) trodAll_mk0,
    trodAll_cons_mk (shut_int Try.underlying3 w0) (trodAll_cons_mk (stays_order h1 hg hlt1) (trodAll_cons_mk (stays_list h2 hg hlt2) (trodAll_cons_mk (shut_int Try.underlying3 w3) trodAll_mk0))), rfl, hg.frame _, fun h => by cases h⟩

theorem over : Rows.labelFoldsRow.holds Try.pinned (OpenSpec.ofChange Rows.labelFoldsSpec) :=
  OpenClaim.holds_of_wide 3 Try.f3 rfl rfl rfl rfl rfl rfl rfl ⟨rfl, rfl, rfl, rfl, rfl⟩ rfl rfl rfl rfl rfl (by kernel_rfl) Try.func3 (by kernel_rfl)
    (of_decide_eq_true (by kernel_rfl)) (by unfold Func.isWrapper; first | (rw [if_pos (by decide +kernel)]; kernel_rfl) | (rw [if_neg (by decide +kernel)]; exact ⟨rfl, rfl⟩))
    (fun os started H enc _ => lifted os started H enc)

theorem proved : Rows.LabelFoldsSaid := over
end lawFolds
end Go.Proofs.Ytmnbalmihehodaa

/-
  The contract of basculelaw02.both.
-/
import Derived.Test.YtmnbalmihehodaaBoth
namespace Go.Proofs.Ytmnbalmihehodaa
open Go.RowKit

set_option maxRecDepth 100000 in
set_option maxHeartbeats 400000 in
theorem both_none (n : Int) (A : Option Addr) (len cap : Nat) (p q : Nat → Int) (w : World) (hp : Prs w w.heap.size A len p q) (hA : A = none → cap = 0) (hlen : len ≤ 200) (h : (mbo n len p q && mkL n len p q) = false) :
    Calls Try.prog 9 #[.int .i64 n, .slice A len cap] w (GivesNone w) := by
  have hzero := zero31
  have h3 : (len : Int) ≤ 200 := by omega
  have hbz := ((Below.refl _ w).alloc (Nat.le_refl _) (.cells z31 28)).alloc (by simp) (.cells #[] 51)
  have hp1 := hp.keep hbz
  have hres : ((w.alloc (.cells z31 28)).alloc (.cells #[] 51)).heap[w.heap.size]? = some (.cells z31 28 (0, 0)) := by
    rw [Below.heap_alloc _ _ _ (by simp)]; exact heap_alloc_new _ _
  have hg0 : ((w.alloc (.cells z31 28)).alloc (.cells #[] 51)).heap[w.heap.size + 1]? = some (.cells #[] 51 (0, 0)) := by
    have := heap_alloc_new (w.alloc (.cells z31 28)) (.cells #[] 51)
    simpa using this
  have H := Lib.hid h
  clear h
  go_enter Try.func9, Try.ntmps9
  go_wp2_with (first | (at_builtin; refine wp_app rfl _ _ rfl _ rfl hg0 _ _ _ _ _ _ rfl hp1 hA hlen ?_; intro A' cap' w1 hP1 hb1) | fail)
  have hw1 := hbz.trans (hb1.mono (by omega))
  have hr1 := (hb1.block _ (by omega)).trans hres
  refine (Make_nil n A' len cap' p q _ hP1 H.out).mono ?_
  rintro e w2 ⟨rfl, hb2⟩
  have hw2 := hw1.trans (hb2.mono hw1.size)
  have hr2 := (hb2.block _ (Array.getElem?_eq_some_iff.1 hr1).1).trans hr1
  clear hp1 hg0 hres hbz hP1 hb1 hw1 hr1 hb2
  go_wp2_with fail
  refine (rMake_all n A len cap p q w2 ((hp.keep hw2).mono hw2.size)).mono ?_
  rintro e w3 ⟨cs, rfl, hcs, hone, _, hb3⟩
  have hw3 := hw2.trans (hb3.mono hw2.size)
  have hr3 := (hb3.block _ (Array.getElem?_eq_some_iff.1 hr2).1).trans hr2
  have hsz := Lib.hid hcs
  have hr4 := (Below.heap_alloc w3 (.cells z31 28) _ (Array.getElem?_eq_some_iff.1 hr3).1).trans hr3
  have hl4 := heap_alloc_new w3 (.cells z31 28)
  have hw4 := hw3.alloc hw3.size (.cells z31 28)
  have hne : w.heap.size ≠ w3.heap.size := Nat.ne_of_lt (Array.getElem?_eq_some_iff.1 hr3).1
  have hl5 := setRow_heap _ _ _ cs 28 (0, 0) hl4
  have hr5 := (heap_setRow_far (w3.alloc (.cells z31 28)) w3.heap.size _ cs hne).trans hr4
  have hw5 := below_setRow hw4 hw3.size cs
  clear hcs hr2 hr3 hw2 hw3 hb3 hp hA H hr4 hw4 hne
  go_wp2_with (first | (refine st31 rfl _ _ rfl _ _ rfl rfl _ hl4 hsz.out z31_size hone ?_) | fail)
  generalize (w3.alloc (.cells z31 28)).setRow w3.heap.size cs = w5 at *
  generalize w3.heap.size = s3 at *
  have hfin := setRow_heap _ _ _ cs 28 (0, 0) (show w5.drew.heap[w.heap.size]? = some (.cells z31 28 (0, 0)) from hr5)
  have hbf := below_setRow hw5.drew (Nat.le_refl _) cs
  refine wp_region_any (by kernel_rfl) ?_
  change wpAny _ _ _ _ _ _ _ w5.drew
  refine take_d (i := 0) (some 29) (.pointer none) rfl rfl (by kernel_rfl) (by kernel_rfl) (by kernel_rfl) (fun _ _ _ h => h) (Or.inl ⟨by kernel_rfl, fun _ => by kernel_rfl⟩) ?_
  refine take_d (i := 2) (some 31) (.pointer none) rfl rfl (by kernel_rfl) (by kernel_rfl) (by kernel_rfl) (fun _ _ _ h => h) (Or.inl ⟨by kernel_rfl, fun _ => by kernel_rfl⟩) ?_
  refine take_d (i := 3) (some 32) (.bool false) rfl rfl (by kernel_rfl) (by kernel_rfl) (by kernel_rfl) (fun _ _ _ h => h) (Or.inl ⟨by kernel_rfl, ?_⟩) ?_
  · intro W
    go_simp
  refine take_d (i := 4) (some 4) (.pointer none) rfl rfl (by kernel_rfl) (by kernel_rfl) (by kernel_rfl) (fun _ _ _ h => h) (Or.inl ⟨by kernel_rfl, fun _ => by kernel_rfl⟩) ?_
  refine ready_ld (i := 1) (.tmp 9) (some 30) rfl rfl rfl rfl (by kernel_rfl) s3 (by kernel_rfl) cs hl5 hsz.out ?_
  refine ready_st (i := 5) (.tmp 5) (.tmp 30) none rfl rfl rfl rfl (by kernel_rfl) w.heap.size (by kernel_rfl) cs (by kernel_rfl) z31 hr5 hsz.out z31_size hone ?_
  refine take_d (i := 6) (some 6) (.bool false) rfl rfl (by kernel_rfl) (by kernel_rfl) (by kernel_rfl) (fun _ _ _ h => h) (Or.inl ⟨by kernel_rfl, fun _ => by kernel_rfl⟩) ?_
  refine wpAny_done (by kernel_rfl) ?_ _
  go_simp
  go_wp2_with fail
  exact bodyPost_ret (results_tct rfl _ _ _ _ rfl hfin hsz.out) rfl ⟨_, rfl, hsz.out, hone, hbf⟩
set_option maxRecDepth 100000 in
theorem both_long (n : Int) (A : Option Addr) (len cap : Nat) (w : World) (hlen : 200 < len) :
    Calls Try.prog 9 #[.int .i64 n, .slice A len cap] w (GivesNone w) := by
  have hzero := zero31
  have hg : (w.alloc (.cells z31 28)).heap[w.heap.size]? = some (.cells z31 28 (0, 0)) := heap_alloc_new w _
  have hb : Below w.heap.size w (w.alloc (.cells z31 28)) := (Below.refl _ _).alloc (Nat.le_refl _) _
  have hfin := setRow_heap _ _ z31 z31 28 (0, 0) hg
  have hbf := below_setRow hb (Nat.le_refl _) z31
  have h3 : (200 : Int) < len := by omega
  go_enter Try.func9, Try.ntmps9
  go_wp2_with (first | (refine bld31z rfl rfl ?_) | (refine st31 rfl _ _ rfl _ _ rfl rfl _ hg z31_size z31_size z31_one ?_) | fail)
  exact bodyPost_ret (results_tct rfl _ _ _ _ rfl hfin z31_size) rfl ⟨_, rfl, z31_size, z31_one, hbf⟩
set_option maxRecDepth 100000 in
set_option maxHeartbeats 400000 in
theorem both_ok (n : Int) (A : Option Addr) (len cap : Nat) (p q : Nat → Int) (w : World) (hp : Prs w w.heap.size A len p q) (hA : A = none → cap = 0) (hlen : len ≤ 200) (hm : mbo n len p q = true) (hl : mkL n len p q = true) :
    Calls Try.prog 9 #[.int .i64 n, .slice A len cap] w (GivesBoth n len p q w) := by
  have hzero := zero31
  have h3 : (len : Int) ≤ 200 := by omega
  have hbz := ((Below.refl _ w).alloc (Nat.le_refl _) (.cells z31 28)).alloc (by simp) (.cells #[] 51)
  have hp1 := hp.keep hbz
  have hres : ((w.alloc (.cells z31 28)).alloc (.cells #[] 51)).heap[w.heap.size]? = some (.cells z31 28 (0, 0)) := by
    rw [Below.heap_alloc _ _ _ (by simp)]; exact heap_alloc_new _ _
  have hg0 : ((w.alloc (.cells z31 28)).alloc (.cells #[] 51)).heap[w.heap.size + 1]? = some (.cells #[] 51 (0, 0)) := by
    have := heap_alloc_new (w.alloc (.cells z31 28)) (.cells #[] 51)
    simpa using this
  have HM := Lib.hid hm
  have HL := Lib.hid hl
  have HE : Hid (rErr n len p q = 0) := Lib.hid (by rw [rErr, hm, ← mkL_eq hm, hl]; rfl)
  clear hm hl
  go_enter Try.func9, Try.ntmps9
  go_wp2_with (first | (at_builtin; refine wp_app rfl _ _ rfl _ rfl hg0 _ _ _ _ _ _ rfl hp1 hA hlen ?_; intro A' cap' w1 hP1 hb1) | fail)
  have hw1 := hbz.trans (hb1.mono (by omega))
  have hr1 := (hb1.block _ (by omega)).trans hres
  refine (Make_ok n A' len cap' p q _ hP1 HM.out HL.out).mono ?_
  rintro e w2 ⟨g, rfl, hgs, hb2, hL2⟩
  have hw2 := hw1.trans (hb2.mono hw1.size)
  have hgne : g ≠ w.heap.size := by have := (Array.getElem?_eq_some_iff.1 hr1).1; omega
  have hr2 := (hb2.block _ (Array.getElem?_eq_some_iff.1 hr1).1).trans hr1
  clear hp1 hg0 hres hbz hP1 hb1 hw1 hr1 hb2 hgs
  go_wp2_with fail
  refine (rMake_all n A len cap p q w2 ((hp.keep hw2).mono hw2.size)).mono ?_
  rintro e w3 ⟨cs, rfl, hcs, hone, hRL, hb3⟩
  have hRL := hRL HE.out
  have hL3 := hL2.keep hb3
  have hw3 := hw2.trans (hb3.mono hw2.size)
  have hr3 := (hb3.block _ (Array.getElem?_eq_some_iff.1 hr2).1).trans hr2
  have hsz := Lib.hid hcs
  have hr4 := (Below.heap_alloc w3 (.cells z31 28) _ (Array.getElem?_eq_some_iff.1 hr3).1).trans hr3
  have hl4 := heap_alloc_new w3 (.cells z31 28)
  have hw4 := hw3.alloc hw3.size (.cells z31 28)
  have hgne2 : g ≠ w3.heap.size := Nat.ne_of_lt hL3.lt
  have hL5 : Lat ((w3.alloc (.cells z31 28)).setRow w3.heap.size cs) g _ _ _ := ⟨(heap_setRow_far _ _ _ cs hgne2).trans (hL3.alloc (.cells z31 28)).blk, hL3.n8, hL3.a8, hL3.b8⟩
  have hne : w.heap.size ≠ w3.heap.size := Nat.ne_of_lt (Array.getElem?_eq_some_iff.1 hr3).1
  have hl5 := setRow_heap _ _ _ cs 28 (0, 0) hl4
  have hr5 := (heap_setRow_far (w3.alloc (.cells z31 28)) w3.heap.size _ cs hne).trans hr4
  have hw5 := below_setRow hw4 hw3.size cs
  clear hcs hr2 hr3 hw2 hw3 hb3 hp hA HM HL HE hL2 hL3 hgne2 hr4 hw4 hne
  go_wp2_with (first | (refine st31 rfl _ _ rfl _ _ rfl rfl _ hl4 hsz.out z31_size hone ?_) | fail)
  generalize (w3.alloc (.cells z31 28)).setRow w3.heap.size cs = w5 at *
  generalize w3.heap.size = s3 at *
  have hfin := setRow_heap _ _ _ cs 28 (0, 0) (show w5.drew.heap[w.heap.size]? = some (.cells z31 28 (0, 0)) from hr5)
  have hbf := below_setRow hw5.drew (Nat.le_refl _) cs
  refine wp_region_any (by kernel_rfl) ?_
  change wpAny _ _ _ _ _ _ _ w5.drew
  refine take_d (i := 0) (some 29) (.pointer (some ⟨g, 0, none⟩)) rfl rfl (by kernel_rfl) (by kernel_rfl) (by kernel_rfl) (fun _ _ _ h => h) (Or.inl ⟨by kernel_rfl, fun _ => by kernel_rfl⟩) ?_
  refine take_d (i := 2) (some 31) (.pointer (some ⟨g, 0, none⟩)) rfl rfl (by kernel_rfl) (by kernel_rfl) (by kernel_rfl) (fun _ _ _ h => h) (Or.inl ⟨by kernel_rfl, fun _ => by kernel_rfl⟩) ?_
  refine take_d (i := 3) (some 32) (.bool true) rfl rfl (by kernel_rfl) (by kernel_rfl) (by kernel_rfl) (fun _ _ _ h => h) (Or.inl ⟨by kernel_rfl, ?_⟩) ?_
  · intro W
    go_simp
  refine take_d (i := 4) (some 4) (.pointer (some ⟨g, 0, none⟩)) rfl rfl (by kernel_rfl) (by kernel_rfl) (by kernel_rfl) (fun _ _ _ h => h) (Or.inl ⟨by kernel_rfl, fun _ => by kernel_rfl⟩) ?_
  refine ready_ld (i := 1) (.tmp 9) (some 30) rfl rfl rfl rfl (by kernel_rfl) s3 (by kernel_rfl) cs hl5 hsz.out ?_
  refine ready_st (i := 5) (.tmp 5) (.tmp 30) none rfl rfl rfl rfl (by kernel_rfl) w.heap.size (by kernel_rfl) cs (by kernel_rfl) z31 hr5 hsz.out z31_size hone ?_
  refine take_d (i := 6) (some 6) (.bool true) rfl rfl (by kernel_rfl) (by kernel_rfl) (by kernel_rfl) (fun _ _ _ h => h) (Or.inl ⟨by kernel_rfl, fun _ => by kernel_rfl⟩) ?_
  refine wpAny_done (by kernel_rfl) ?_ _
  go_simp
  go_wp2_with fail
  exact bodyPost_ret (results_tct rfl _ _ _ _ rfl hfin hsz.out) rfl ⟨g, _, rfl, hRL, hbf, ⟨(heap_setRow_far _ _ _ cs hgne).trans hL5.blk, hL5.n8, hL5.a8, hL5.b8⟩⟩
end Go.Proofs.Ytmnbalmihehodaa

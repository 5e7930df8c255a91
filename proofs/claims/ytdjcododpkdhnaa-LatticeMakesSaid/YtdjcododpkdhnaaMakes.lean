/-
  For every n, every list of pairs, every a and b the law LatticeMakes answers true and leaves its input as it was. No condition.
-/
import Derived.Test.YtdjcododpkdhnaaBoth
import Derived.Test.YtdjcododpkdhnaaFrame
import Derived.Test.YtdjcododpkdhnaaReady
namespace Go.Proofs.Ytdjcododpkdhnaa
open Go.ChangeShapes Go.WideShapes Go.ChangeAt Go.RowKit

theorem code_eq (n : Int) (len : Nat) (p q : Nat → Int) (h : (mbo n len p q && mkL n len p q) = false) : mcode n len p q = rErr n len p q ∧ rErr n len p q ≠ 0 := by
  cases hm : mbo n len p q
  · simp [mcode, rErr, hm]
  · have hl : mkL n len p q = false := by simpa [hm] using h
    have : rlatK n.toNat (rcl n.toNat len p q) n.toNat = false := by rw [← mkL_eq hm, hl]
    simp [mcode, rErr, hm, this]

theorem rV_jn {n : Nat} {A : Nat → Nat} {L : Nat → Nat → Bool} (h : Rel n A L) (hj : ∀ a b, a < n → b < n → (rJ n L a b).isSome = true) {a b : Nat} (ha : a < n) (hb : b < n) : rV (rJ n L a b) = (jn n A a b : Nat) := by
  unfold jn
  rw [h.fnd_eq ha hb]
  have := hj a b ha hb
  cases hc : rJ n L a b with
  | none => rw [hc] at this; cases this
  | some c => rfl

namespace lawMakes

theorem walk_long (n : Int) (A : Option Addr) (len cap : Nat) (a b : Int) (w : World) (hlen : 200 < len) :
    Calls Try.prog 3 #[.int .i64 n, .slice A len cap, .int .i64 a, .int .i64 b] w fun e w' => e = .returned (.bool true) ∧ Below w.heap.size w w' := by
  have h3 : (200 : Int) < len := by omega
  go_enter Try.func3, Try.ntmps3
  go_wp2_with fail
  refine (awake_any _).mono ?_
  rintro e w1 ⟨rfl, hb1⟩
  go_wp2_with fail
  refine (awake_any _).mono ?_
  rintro e w2 ⟨rfl, hb2⟩
  have hb := after hb1 hb2
  go_wp2_with fail
  go_ret
  exact ⟨rfl, hb⟩

set_option maxRecDepth 100000 in
set_option maxHeartbeats 1000000 in
theorem walk_none (n : Int) (A : Option Addr) (len cap : Nat) (p q : Nat → Int) (a b : Int) (w : World) (hp : Prs w w.heap.size A len p q) (hA : A = none → cap = 0) (hlen : len ≤ 200) (h : (mbo n len p q && mkL n len p q) = false) :
    Calls Try.prog 3 #[.int .i64 n, .slice A len cap, .int .i64 a, .int .i64 b] w fun e w' => e = .returned (.bool true) ∧ Below w.heap.size w w' := by
  have hzero := zero31
  have h3 : (len : Int) ≤ 200 := by omega
  obtain ⟨hc1, hc2⟩ := code_eq n len p q h
  have H := Lib.hid h
  have Hc := Lib.hid hc1
  have hne : (rErr n len p q != 0) = true := by simp [hc2]
  have hee : (rErr n len p q != rErr n len p q) = false := by simp
  clear h hc1 hc2
  go_enter Try.func3, Try.ntmps3
  go_wp2_with fail
  refine (awake_any _).mono ?_
  rintro e w1 ⟨rfl, hb1⟩
  have hp1 : Prs (w1.alloc (.cells #[] 52)) w.heap.size A len p q := hp.keep (hb1.alloc hb1.size (.cells #[] 52))
  have hg0 := heap_alloc_new w1 (.cells #[] 52)
  go_wp2_with (first | (at_builtin; refine wp_app rfl _ _ rfl _ rfl hg0 _ _ _ _ _ _ rfl hp1 hA hlen ?_; intro A' cap' w2 hP2 hb2) | fail)
  have hw2 : Below w.heap.size w w2 := (hb1.alloc hb1.size (.cells #[] 52)).trans (hb2.mono hb1.size)
  clear hp1 hg0 hb1 hb2
  refine (Make_nil n A' len cap' p q _ hP2 H.out).mono ?_
  rintro e w3 ⟨rfl, hb3⟩
  have hw3 := hw2.trans (hb3.mono hw2.size)
  clear hP2 hw2 hb3
  rw [Hc.out]
  go_wp2_with fail
  refine (rMake_all n A len cap p q w3 ((hp.keep hw3).mono hw3.size)).mono ?_
  rintro e w4 ⟨cs, rfl, hcs, hone, _, hb4⟩
  have hw4 := hw3.trans (hb4.mono hw3.size)
  have hsz := Lib.hid hcs
  have hl4 := heap_alloc_new w4 (.cells z31 31)
  have hw5 := below_setRow (hw4.alloc hw4.size (.cells z31 31)) hw4.size cs
  clear hcs hw3 hb4 hw4 hp hA H
  go_wp2_with (first | (refine st31 rfl _ _ rfl _ _ rfl rfl _ hl4 hsz.out z31_size hone ?_) | fail)
  go_ret
  exact ⟨rfl, hw5⟩

set_option maxRecDepth 100000 in
set_option maxHeartbeats 1000000 in
theorem walk_ok (n : Int) (A : Option Addr) (len cap : Nat) (p q : Nat → Int) (a b : Int) (w : World) (hp : Prs w w.heap.size A len p q) (hA : A = none → cap = 0) (hlen : len ≤ 200) (hm : mbo n len p q = true) (hl : mkL n len p q = true) :
    Calls Try.prog 3 #[.int .i64 n, .slice A len cap, .int .i64 a, .int .i64 b] w fun e w' => e = .returned (.bool true) ∧ Below w.heap.size w w' := by
  have hzero := zero31
  have h3 : (len : Int) ≤ 200 := by omega
  have HM := Lib.hid hm
  have HL := Lib.hid hl
  have HE : Hid (rErr n len p q = 0) := Lib.hid (by rw [rErr, hm, ← mkL_eq hm, hl]; rfl)
  clear hm hl
  go_enter Try.func3, Try.ntmps3
  go_wp2_with fail
  refine (awake_any _).mono ?_
  rintro e w1 ⟨rfl, hb1⟩
  have hp1 : Prs (w1.alloc (.cells #[] 52)) w.heap.size A len p q := hp.keep (hb1.alloc hb1.size (.cells #[] 52))
  have hg0 := heap_alloc_new w1 (.cells #[] 52)
  go_wp2_with (first | (at_builtin; refine wp_app rfl _ _ rfl _ rfl hg0 _ _ _ _ _ _ rfl hp1 hA hlen ?_; intro A' cap' w2 hP2 hb2) | fail)
  have hw2 : Below w.heap.size w w2 := (hb1.alloc hb1.size (.cells #[] 52)).trans (hb2.mono hb1.size)
  clear hp1 hg0 hb1 hb2
  refine (Make_ok n A' len cap' p q _ hP2 HM.out HL.out).mono ?_
  rintro e w3 ⟨g, rfl, hgs, hb3, hL3⟩
  have hw3 := hw2.trans (hb3.mono hw2.size)
  clear hP2 hw2 hb3 hgs
  go_wp2_with fail
  refine (rMake_all n A len cap p q w3 ((hp.keep hw3).mono hw3.size)).mono ?_
  rintro e w4 ⟨cs, rfl, hcs, hone, hRL, hb4⟩
  have hRL := hRL HE.out
  rw [HE.out]
  have hw4 := hw3.trans (hb4.mono hw3.size)
  have hL4 := hL3.keep hb4
  have hsz := Lib.hid hcs
  have hl4 := heap_alloc_new w4 (.cells z31 31)
  have hw5 := below_setRow (hw4.alloc hw4.size (.cells z31 31)) hw4.size cs
  have hl5 := setRow_heap _ _ _ cs 31 (0, 0) hl4
  have hL5 : Lat ((w4.alloc (.cells z31 31)).setRow w4.heap.size cs) g _ _ _ := ⟨(heap_setRow_far _ _ _ cs (Nat.ne_of_lt hL4.lt)).trans (hL4.alloc (.cells z31 31)).blk, hL4.n8, hL4.a8, hL4.b8⟩
  clear hcs hw3 hb4 hw4 hp hA hL3 hL4
  go_wp2_with (first | (refine st31 rfl _ _ rfl _ _ rfl rfl _ hl4 hsz.out z31_size hone ?_) | fail)
  clear hl4 hzero
  generalize (w4.alloc (.cells z31 31)).setRow w4.heap.size cs = w5 at *
  generalize w4.heap.size = s4 at *
  obtain ⟨hrA, hrB⟩ := mk_rel HM.out
  have hlat := (mkL_iff HM.out).1 HL.out
  have n8 := hL5.n8
  cases hab : (isL n.toNat a && isL n.toNat b)
  · have Hab := Lib.hid hab
    have Hq : Hid (leqB n.toNat (mkA n len p q) a b = false) := Lib.hid (by
      unfold leqB
      cases h1 : isL n.toNat a
      · rfl
      · have h2 : isL n.toNat b = false := by simpa [h1] using hab
        simp [h2])
    clear hab
    refine (Join_no a b _ hL5 Hab.out).mono ?_
    rintro e w' ⟨rfl, rfl⟩
    go_wp2_with fail
    refine (Meet_no a b _ hL5 Hab.out).mono ?_
    rintro e w' ⟨rfl, rfl⟩
    go_wp2_with (first | (refine ld31 rfl _ rfl _ rfl _ hl5 hsz.out ?_) | fail)
    refine (Is_any a _ hRL).mono ?_
    rintro e w6 ⟨rfl, hb6⟩
    have hw6 := hw5.trans (hb6.mono hw5.size)
    have hL6 := hL5.keep hb6
    have hl6 := (hb6.block _ (Array.getElem?_eq_some_iff.1 hl5).1).trans hl5
    clear hw5 hL5 hl5 hb6
    cases h1 : isL n.toNat a
    · go_wp2_with fail
      refine (leq_any a b _ hL6).mono ?_
      rintro e w' ⟨rfl, rfl⟩
      rw [Hq.out]
      go_wp2_with fail
      go_ret
      exact ⟨rfl, hw6⟩
    · have h2 : isL n.toNat b = false := by have := Hab.out; simpa [h1] using this
      have H2 := Lib.hid h2
      clear h1 h2
      go_wp2_with (first | (refine ld31 rfl _ rfl _ rfl _ hl6 hsz.out ?_) | fail)
      refine (Is_any b _ hRL).mono ?_
      rintro e w7 ⟨rfl, hb7⟩
      have hw7 := hw6.trans (hb7.mono hw6.size)
      have hL7 := hL6.keep hb7
      rw [H2.out]
      clear hw6 hL6 hl6 hb7
      go_wp2_with fail
      refine (leq_any a b _ hL7).mono ?_
      rintro e w' ⟨rfl, rfl⟩
      rw [Hq.out]
      go_wp2_with fail
      go_ret
      exact ⟨rfl, hw7⟩
  · obtain ⟨ha, hb⟩ : isL n.toNat a = true ∧ isL n.toNat b = true := by simpa using hab
    have HAa := Lib.hid ha
    have HBb := Lib.hid hb
    clear hab ha hb
    refine (Join_yes a b _ hL5 HAa.out HBb.out).mono ?_
    rintro e w6 ⟨rfl, hb6⟩
    have hw6 := hw5.trans (hb6.mono hw5.size)
    have hL6 := hL5.keep hb6
    have hl6 := (hb6.block _ (Array.getElem?_eq_some_iff.1 hl5).1).trans hl5
    clear hw5 hL5 hl5 hb6
    go_wp2_with fail
    refine (Meet_yes a b _ hL6 HAa.out HBb.out).mono ?_
    rintro e w7 ⟨rfl, hb7⟩
    have hw7 := hw6.trans (hb7.mono hw6.size)
    have hL7 := hL6.keep hb7
    have hl7 := (hb7.block _ (Array.getElem?_eq_some_iff.1 hl6).1).trans hl6
    clear hw6 hL6 hl6 hb7
    go_wp2_with (first | (refine ld31 rfl _ rfl _ rfl _ hl7 hsz.out ?_) | fail)
    refine (Is_any a _ hRL).mono ?_
    rintro e w8 ⟨rfl, hb8⟩
    have hw8 := hw7.trans (hb8.mono hw7.size)
    have hL8 := hL7.keep hb8
    have hl8 := (hb8.block _ (Array.getElem?_eq_some_iff.1 hl7).1).trans hl7
    clear hw7 hL7 hl7 hb8
    rw [HAa.out]
    go_wp2_with (first | (refine ld31 rfl _ rfl _ rfl _ hl8 hsz.out ?_) | fail)
    refine (Is_any b _ hRL).mono ?_
    rintro e w9 ⟨rfl, hb9⟩
    have hw9 := hw8.trans (hb9.mono hw8.size)
    have hL9 := hL8.keep hb9
    have hl9 := (hb9.block _ (Array.getElem?_eq_some_iff.1 hl8).1).trans hl8
    clear hw8 hL8 hl8 hb9
    rw [HBb.out]
    go_wp2_with fail
    have g1 := isL_iff.1 HAa.out
    have g2 := isL_iff.1 HBb.out
    obtain ⟨x, rfl⟩ := Int.eq_ofNat_of_zero_le g1.1
    obtain ⟨y, rfl⟩ := Int.eq_ofNat_of_zero_le g2.1
    have hx : x < n.toNat := by omega
    have hy : y < n.toNat := by omega
    have hJ : Hid (rV (rJ n.toNat (rcl n.toNat len p q) x y) = (jn n.toNat (mkA n len p q) x y : Nat)) := Lib.hid (rV_jn hrA hlat.join hx hy)
    have hM : Hid (rV (rJ n.toNat (flip (rcl n.toNat len p q)) x y) = (jn n.toNat (mkB n len p q) x y : Nat)) := Lib.hid (rV_jn hrB hlat.meet hx hy)
    have hQ : Hid (leqB n.toNat (mkA n len p q) x y = rleq n.toNat (rcl n.toNat len p q) x y) := Lib.hid (hrA.leq_eq _ _)
    have hn1 : 1 ≤ n.toNat := by omega
    have hB : Hid (botK n.toNat (mkA n len p q) n.toNat = rbF n.toNat (flip (rcl n.toNat len p q)) (n.toNat - 1)) := Lib.hid (botK_eq hrA hlat hn1)
    have hT : Hid (topK n.toNat (mkA n len p q) n.toNat = rbF n.toNat (rcl n.toNat len p q) (n.toNat - 1)) := Lib.hid (topK_eq hrA hlat hn1)
    have hnn : Hid (((n.toNat : Nat) : Int) = n) := Lib.hid (Int.toNat_of_nonneg (by have := mbo_iff HM.out; omega))
    simp only [Int.toNat_natCast]
    clear g1 g2
    have l9 : w9.drew.heap[s4]? = some (.cells cs 31 (0, 0)) := hl9
    clear hl9
    refine wp_region_any (by kernel_rfl) ?_
    change wpAny _ _ _ _ _ _ _ w9.drew
    refine take_g (i := 0) (some 96) (.int .i64 0) rfl rfl (by kernel_rfl) (by kernel_rfl) (by kernel_rfl) (fun _ _ _ h => h) (by kernel_rfl) (fun _ => by kernel_rfl) ?_
    refine take_g (i := 1) (some 97) (.bool true) rfl rfl (by kernel_rfl) (by kernel_rfl) (by kernel_rfl) (fun _ _ _ h => h) (by kernel_rfl) (fun _ => by kernel_rfl) ?_
    refine take_g (i := 2) (some 98) (.bool true) rfl rfl (by kernel_rfl) (by kernel_rfl) (by kernel_rfl) (fun _ _ _ h => h) (by kernel_rfl) (fun _ => by kernel_rfl) ?_
    refine take_g (i := 3) (some 99) (.int .i64 0) rfl rfl (by kernel_rfl) (by kernel_rfl) (by kernel_rfl) (fun _ _ _ h => h) (by kernel_rfl) (fun _ => by kernel_rfl) ?_
    refine take_g (i := 4) (some 100) (.bool true) rfl rfl (by kernel_rfl) (by kernel_rfl) (by kernel_rfl) (fun _ _ _ h => h) (by kernel_rfl) (fun _ => by kernel_rfl) ?_
    refine take_g (i := 5) (some 101) (.bool true) rfl rfl (by kernel_rfl) (by kernel_rfl) (by kernel_rfl) (fun _ _ _ h => h) (by kernel_rfl) (fun _ => by kernel_rfl) ?_
    refine take_g (i := 6) (some 102) (.bool true) rfl rfl (by kernel_rfl) (by kernel_rfl) (by kernel_rfl) (fun _ _ _ h => h) (by kernel_rfl) (fun _ => by kernel_rfl) ?_
    refine take_g (i := 7) (some 103) (.int .i64 (jn n.toNat (mkA n len p q) x y : Nat)) rfl rfl (by kernel_rfl) (by kernel_rfl) (by kernel_rfl) (fun _ _ _ h => h) (by kernel_rfl) (fun _ => by kernel_rfl) ?_
    refine take_g (i := 9) (some 105) (.int .i64 (x : Int)) rfl rfl (by kernel_rfl) (by kernel_rfl) (by kernel_rfl) (fun _ _ _ h => h) (by kernel_rfl) (fun _ => by kernel_rfl) ?_
    refine take_g (i := 10) (some 106) (.int .i64 (y : Int)) rfl rfl (by kernel_rfl) (by kernel_rfl) (by kernel_rfl) (fun _ _ _ h => h) (by kernel_rfl) (fun _ => by kernel_rfl) ?_
    refine ready_ldg (i := 8) (.tmp 11) (some 104) rfl (by kernel_rfl) rfl rfl (by kernel_rfl) s4 (by kernel_rfl) cs l9 hsz.out ?_
    refine ready_call (i := 11) 16 #[.agg cs, .int .i64 (x : Int), .int .i64 (y : Int)] (some 107) rfl (by kernel_rfl) rfl (by kernel_rfl) (by kernel_rfl) ?_
    refine (rJoin_any x y _ hRL hx hy).mono ?_
    rintro e wA ⟨rfl, hbA⟩
    have hLA := hL9.drew.keep hbA
    have lA := (hbA.block _ (Array.getElem?_eq_some_iff.1 l9).1).trans l9
    have hwA := hw9.drew.trans (hbA.mono hw9.size)
    refine ⟨_, rfl, ?_⟩
    rw [hJ.out]
    clear hbA l9 hL9 hw9
    refine take_g (i := 12) (some 108) (.bool true) rfl rfl (by kernel_rfl) (by kernel_rfl) (by kernel_rfl) (fun _ _ _ h => h) (by kernel_rfl) (eq_vals (x := .tmp 103) (y := .tmp 107) (u := .int .i64 (jn n.toNat (mkA n len p q) x y : Nat)) (v := .int .i64 (jn n.toNat (mkA n len p q) x y : Nat)) rfl (by kernel_rfl) (by kernel_rfl) (guard_int _ _ _ _ _) (same_int _)) ?_
    refine take_g (i := 13) (some 109) (.bool true) rfl rfl (by kernel_rfl) (by kernel_rfl) (by kernel_rfl) (fun _ _ _ h => h) (by kernel_rfl) (fun _ => by kernel_rfl) ?_
    refine take_g (i := 14) (some 110) (.bool true) rfl rfl (by kernel_rfl) (by kernel_rfl) (by kernel_rfl) (fun _ _ _ h => h) (by kernel_rfl) (fun _ => by kernel_rfl) ?_
    refine take_g (i := 15) (some 111) (.int .i64 (jn n.toNat (mkB n len p q) x y : Nat)) rfl rfl (by kernel_rfl) (by kernel_rfl) (by kernel_rfl) (fun _ _ _ h => h) (by kernel_rfl) (fun _ => by kernel_rfl) ?_
    refine take_g (i := 17) (some 113) (.int .i64 (x : Int)) rfl rfl (by kernel_rfl) (by kernel_rfl) (by kernel_rfl) (fun _ _ _ h => h) (by kernel_rfl) (fun _ => by kernel_rfl) ?_
    refine take_g (i := 18) (some 114) (.int .i64 (y : Int)) rfl rfl (by kernel_rfl) (by kernel_rfl) (by kernel_rfl) (fun _ _ _ h => h) (by kernel_rfl) (fun _ => by kernel_rfl) ?_
    refine ready_ldg (i := 16) (.tmp 11) (some 112) rfl (by kernel_rfl) rfl rfl (by kernel_rfl) s4 (by kernel_rfl) cs lA hsz.out ?_
    refine ready_call (i := 19) 17 #[.agg cs, .int .i64 (x : Int), .int .i64 (y : Int)] (some 115) rfl (by kernel_rfl) rfl (by kernel_rfl) (by kernel_rfl) ?_
    refine (rMeet_any x y _ hRL hx hy).mono ?_
    rintro e wB ⟨rfl, hbB⟩
    have hLB := hLA.keep hbB
    have lB := (hbB.block _ (Array.getElem?_eq_some_iff.1 lA).1).trans lA
    have hwB := hwA.trans (hbB.mono hwA.size)
    refine ⟨_, rfl, ?_⟩
    rw [hM.out]
    clear hbB lA hLA hwA
    refine take_g (i := 20) (some 116) (.bool true) rfl rfl (by kernel_rfl) (by kernel_rfl) (by kernel_rfl) (fun _ _ _ h => h) (by kernel_rfl) (eq_vals (x := .tmp 111) (y := .tmp 115) (u := .int .i64 (jn n.toNat (mkB n len p q) x y : Nat)) (v := .int .i64 (jn n.toNat (mkB n len p q) x y : Nat)) rfl (by kernel_rfl) (by kernel_rfl) (guard_int _ _ _ _ _) (same_int _)) ?_
    refine take_g (i := 21) (some 117) (.bool true) rfl rfl (by kernel_rfl) (by kernel_rfl) (by kernel_rfl) (fun _ _ _ h => h) (by kernel_rfl) (fun _ => by kernel_rfl) ?_
    refine take_g (i := 22) (some 118) (.bool true) rfl rfl (by kernel_rfl) (by kernel_rfl) (by kernel_rfl) (fun _ _ _ h => h) (by kernel_rfl) (fun _ => by kernel_rfl) ?_
    refine take_g (i := 23) (some 119) (.pointer (some ⟨g, 0, none⟩)) rfl rfl (by kernel_rfl) (by kernel_rfl) (by kernel_rfl) (fun _ _ _ h => h) (by kernel_rfl) (fun _ => by kernel_rfl) ?_
    refine take_g (i := 24) (some 120) (.int .i64 (x : Int)) rfl rfl (by kernel_rfl) (by kernel_rfl) (by kernel_rfl) (fun _ _ _ h => h) (by kernel_rfl) (fun _ => by kernel_rfl) ?_
    refine take_g (i := 25) (some 121) (.int .i64 (y : Int)) rfl rfl (by kernel_rfl) (by kernel_rfl) (by kernel_rfl) (fun _ _ _ h => h) (by kernel_rfl) (fun _ => by kernel_rfl) ?_
    refine take_g (i := 28) (some 124) (.int .i64 (x : Int)) rfl rfl (by kernel_rfl) (by kernel_rfl) (by kernel_rfl) (fun _ _ _ h => h) (by kernel_rfl) (fun _ => by kernel_rfl) ?_
    refine take_g (i := 29) (some 125) (.int .i64 (y : Int)) rfl rfl (by kernel_rfl) (by kernel_rfl) (by kernel_rfl) (fun _ _ _ h => h) (by kernel_rfl) (fun _ => by kernel_rfl) ?_
    refine ready_both (i := 26) (j := 27) 15 #[.pointer (some ⟨g, 0, none⟩), .int .i64 (x : Int), .int .i64 (y : Int)] (.tmp 11) 122 123 (by decide) rfl rfl rfl rfl rfl (by kernel_rfl) (by kernel_rfl) (by kernel_rfl) (by kernel_rfl) s4 cs _ (by kernel_rfl) (by kernel_rfl) (by kernel_rfl) (by kernel_rfl) (by kernel_rfl) (by kernel_rfl) (by kernel_rfl) (by kernel_rfl) lB hsz.out (leq_any _ _ _ hLB) ?_
    rw [hQ.out]
    refine ready_call (i := 30) 18 #[.agg cs, .int .i64 (x : Int), .int .i64 (y : Int)] (some 126) rfl (by kernel_rfl) rfl (by kernel_rfl) (by kernel_rfl) ?_
    refine (rLeq_any _ _ _ hRL).mono ?_
    rintro e wC ⟨rfl, hbC⟩
    have hLC := hLB.keep hbC
    have lC := (hbC.block _ (Array.getElem?_eq_some_iff.1 lB).1).trans lB
    have hwC := hwB.trans (hbC.mono hwB.size)
    refine ⟨_, rfl, ?_⟩
    clear hbC lB hLB hwB
    refine take_g (i := 31) (some 127) (.bool true) rfl rfl (by kernel_rfl) (by kernel_rfl) (by kernel_rfl) (fun _ _ _ h => h) (by kernel_rfl) (eq_vals (x := .tmp 122) (y := .tmp 126) (u := .bool (rleq n.toNat (rcl n.toNat len p q) x y)) (v := .bool (rleq n.toNat (rcl n.toNat len p q) x y)) rfl (by kernel_rfl) (by kernel_rfl) (guard_bool _ _ _ _) (same_bool _)) ?_
    refine take_g (i := 32) (some 128) (.bool true) rfl rfl (by kernel_rfl) (by kernel_rfl) (by kernel_rfl) (fun _ _ _ h => h) (by kernel_rfl) (fun _ => by kernel_rfl) ?_
    refine take_g (i := 33) (some 129) (.bool true) rfl rfl (by kernel_rfl) (by kernel_rfl) (by kernel_rfl) (fun _ _ _ h => h) (by kernel_rfl) (fun _ => by kernel_rfl) ?_
    refine take_g (i := 34) (some 130) (.pointer (some ⟨g, 0, none⟩)) rfl rfl (by kernel_rfl) (by kernel_rfl) (by kernel_rfl) (fun _ _ _ h => h) (by kernel_rfl) (fun _ => by kernel_rfl) ?_
    refine take_g (i := 36) (some 132) (.int .i64 n) rfl rfl (by kernel_rfl) (by kernel_rfl) (by kernel_rfl) (fun _ _ _ h => h) (by kernel_rfl) (fun _ => by kernel_rfl) ?_
    refine ready_call (i := 35) 19 #[.pointer (some ⟨g, 0, none⟩)] (some 131) rfl (by kernel_rfl) rfl (by kernel_rfl) (by kernel_rfl) ?_
    refine (size_any _ hLC).mono ?_
    rintro e w' ⟨rfl, rfl⟩
    refine ⟨_, rfl, ?_⟩
    rw [hnn.out]
    refine take_g (i := 37) (some 133) (.bool true) rfl rfl (by kernel_rfl) (by kernel_rfl) (by kernel_rfl) (fun _ _ _ h => h) (by kernel_rfl) (eq_vals (x := .tmp 131) (y := .tmp 132) (u := .int .i64 n) (v := .int .i64 n) rfl (by kernel_rfl) (by kernel_rfl) (guard_int _ _ _ _ _) (same_int _)) ?_
    refine take_g (i := 38) (some 134) (.bool true) rfl rfl (by kernel_rfl) (by kernel_rfl) (by kernel_rfl) (fun _ _ _ h => h) (by kernel_rfl) (fun _ => by kernel_rfl) ?_
    refine take_g (i := 39) (some 135) (.bool true) rfl rfl (by kernel_rfl) (by kernel_rfl) (by kernel_rfl) (fun _ _ _ h => h) (by kernel_rfl) (fun _ => by kernel_rfl) ?_
    refine take_g (i := 40) (some 136) (.pointer (some ⟨g, 0, none⟩)) rfl rfl (by kernel_rfl) (by kernel_rfl) (by kernel_rfl) (fun _ _ _ h => h) (by kernel_rfl) (fun _ => by kernel_rfl) ?_
    refine ready_both (i := 41) (j := 42) 20 #[.pointer (some ⟨g, 0, none⟩)] (.tmp 11) 137 138 (by decide) rfl rfl rfl rfl rfl (by kernel_rfl) (by kernel_rfl) (by kernel_rfl) (by kernel_rfl) s4 cs _ (by kernel_rfl) (by kernel_rfl) (by kernel_rfl) (by kernel_rfl) (by kernel_rfl) (by kernel_rfl) (by kernel_rfl) (by kernel_rfl) lC hsz.out (Bottom_any _ hLC) ?_
    rw [hB.out]
    refine ready_call (i := 43) 21 #[.agg cs] (some 139) rfl (by kernel_rfl) rfl (by kernel_rfl) (by kernel_rfl) ?_
    refine (rBottom_any _ hRL hn1 hlat.meet).mono ?_
    rintro e wD ⟨rfl, hbD⟩
    have hLD := hLC.keep hbD
    have lD := (hbD.block _ (Array.getElem?_eq_some_iff.1 lC).1).trans lC
    have hwD := hwC.trans (hbD.mono hwC.size)
    refine ⟨_, rfl, ?_⟩
    clear hbD lC hLC hwC
    refine take_g (i := 44) (some 140) (.bool true) rfl rfl (by kernel_rfl) (by kernel_rfl) (by kernel_rfl) (fun _ _ _ h => h) (by kernel_rfl) (eq_vals (x := .tmp 137) (y := .tmp 139) (u := .int .i64 (rbF n.toNat (flip (rcl n.toNat len p q)) (n.toNat - 1) : Nat)) (v := .int .i64 (rbF n.toNat (flip (rcl n.toNat len p q)) (n.toNat - 1) : Nat)) rfl (by kernel_rfl) (by kernel_rfl) (guard_int _ _ _ _ _) (same_int _)) ?_
    refine take_g (i := 45) (some 141) (.bool true) rfl rfl (by kernel_rfl) (by kernel_rfl) (by kernel_rfl) (fun _ _ _ h => h) (by kernel_rfl) (fun _ => by kernel_rfl) ?_
    refine take_g (i := 46) (some 142) (.bool true) rfl rfl (by kernel_rfl) (by kernel_rfl) (by kernel_rfl) (fun _ _ _ h => h) (by kernel_rfl) (fun _ => by kernel_rfl) ?_
    refine take_g (i := 47) (some 143) (.pointer (some ⟨g, 0, none⟩)) rfl rfl (by kernel_rfl) (by kernel_rfl) (by kernel_rfl) (fun _ _ _ h => h) (by kernel_rfl) (fun _ => by kernel_rfl) ?_
    refine ready_both (i := 48) (j := 49) 22 #[.pointer (some ⟨g, 0, none⟩)] (.tmp 11) 144 145 (by decide) rfl rfl rfl rfl rfl (by kernel_rfl) (by kernel_rfl) (by kernel_rfl) (by kernel_rfl) s4 cs _ (by kernel_rfl) (by kernel_rfl) (by kernel_rfl) (by kernel_rfl) (by kernel_rfl) (by kernel_rfl) (by kernel_rfl) (by kernel_rfl) lD hsz.out (Top_any _ hLD) ?_
    rw [hT.out]
    refine ready_call (i := 50) 23 #[.agg cs] (some 146) rfl (by kernel_rfl) rfl (by kernel_rfl) (by kernel_rfl) ?_
    refine (rTop_any _ hRL hn1 hlat.join).mono ?_
    rintro e wE ⟨rfl, hbE⟩
    have hwE := hwD.trans (hbE.mono hwD.size)
    refine ⟨_, rfl, ?_⟩
    clear hbE lD hLD hwD
    refine take_g (i := 51) (some 147) (.bool true) rfl rfl (by kernel_rfl) (by kernel_rfl) (by kernel_rfl) (fun _ _ _ h => h) (by kernel_rfl) (eq_vals (x := .tmp 144) (y := .tmp 146) (u := .int .i64 (rbF n.toNat (rcl n.toNat len p q) (n.toNat - 1) : Nat)) (v := .int .i64 (rbF n.toNat (rcl n.toNat len p q) (n.toNat - 1) : Nat)) rfl (by kernel_rfl) (by kernel_rfl) (guard_int _ _ _ _ _) (same_int _)) ?_
    refine take_g (i := 52) (some 148) (.bool true) rfl rfl (by kernel_rfl) (by kernel_rfl) (by kernel_rfl) (fun _ _ _ h => h) (by kernel_rfl) (fun _ => by kernel_rfl) ?_
    refine take_g (i := 53) (some 8) (.bool true) rfl rfl (by kernel_rfl) (by kernel_rfl) (by kernel_rfl) (fun _ _ _ h => h) (by kernel_rfl) (fun _ => by kernel_rfl) ?_
    refine wpAny_done (by kernel_rfl) ?_ _
    go_simp
    go_wp2_with fail
    go_ret
    exact ⟨rfl, hwE⟩

theorem walk (n : Int) (A : Option Addr) (len cap : Nat) (p q : Nat → Int) (a b : Int) (w : World) (hp : Prs w w.heap.size A len p q) (hA : A = none → cap = 0) :
    Calls Try.prog 3 #[.int .i64 n, .slice A len cap, .int .i64 a, .int .i64 b] w fun e w' => e = .returned (.bool true) ∧ Below w.heap.size w w' := by
  rcases Nat.lt_or_ge 200 len with h | h
  · exact walk_long n A len cap a b w h
  · cases hml : (mbo n len p q && mkL n len p q)
    · exact walk_none n A len cap p q a b w hp hA h hml
    · obtain ⟨hm, hl⟩ : mbo n len p q = true ∧ mkL n len p q = true := by simpa using hml
      exact walk_ok n A len cap p q a b w hp hA h hm hl

set_option maxRecDepth 100000 in
theorem lifted (os : Os) (started : os.Started) (H : Type) (enc : TypeId × Value → H) :
    ReturnsInHanded {} Try.checked os 3 .any (Rows.latticeMakesSpec.pre6 enc Try.prog Try.f3 Rows.latticeMakesRow.domain false) (Rows.latticeMakesSpec.post enc Try.prog Try.f3 false true false false) := by
  refine returnsInHanded_of_change (C := Try.checked) own started (by kernel_rfl) Try.func3
    (ChangeSpec.witness6 (enc := enc) (C := Try.checked) false ⟨#[], #[.int .i64 0, .slice none 0 0, .int .i64 0, .int .i64 0], []⟩ 8 (by kernel_rfl) (by kernel_rfl) (by kernel_rfl) (by kernel_rfl)) ?_
  intro W base args ds gs before hval0 hW hcnd _
  have hval : ∀ (j : Nat) t v, Try.f3.params[j]? = some t → args[j]? = some v → Value.okWide Try.prog W .any base t v := hval0
  have hW' := hW
  obtain ⟨p, q, hA0, hV, rfl, hfz, hnd⟩ := hW
  have hA : DataW.TrodAll enc Try.prog W 0 (fun _ => true) true Try.f3.params.toList args.toList ds p := hA0
  rw [Try.params3] at hA hval
  obtain ⟨v0, vs0, d0, ds0, p0, q0, hargs, rfl, rfl, h0, r0⟩ := trodAll_cons hA
  obtain ⟨v1, vs1, d1, ds1, p1, q1, rfl, rfl, rfl, h1, r1⟩ := trodAll_cons r0
  obtain ⟨v2, vs2, d2, ds2, p2, q2, rfl, rfl, rfl, h2, r2⟩ := trodAll_cons r1
  obtain ⟨v3, vs3, d3, ds3, p3, q3, rfl, rfl, rfl, h3, r3⟩ := trodAll_cons r2
  obtain ⟨rfl, rfl, rfl⟩ := trodAll_nil r3
  obtain rfl : args = #[v0, v1, v2, v3] := by cases args; simp_all
  obtain ⟨rfl, rfl⟩ := trodVars_none hV
  obtain ⟨a0, rfl, rfl, rfl, w0⟩ := open_int Try.underlying3 (hval 0 3 v0 rfl rfl) h0
  obtain ⟨a2, rfl, rfl, rfl, w2⟩ := open_int Try.underlying3 (hval 2 3 v2 rfl rfl) h2
  obtain ⟨a3, rfl, rfl, rfl, w3⟩ := open_int Try.underlying3 (hval 3 3 v3 rfl rfl) h3
  clear hA0 hval0
  simp only [List.append_nil] at hW'
  have hlt : ∀ x ∈ p1, x.block < W.heap.size := fun x hx => by simpa using hW'.lt x (by simpa using hx)
  obtain ⟨A, len, cap, pp, qq, rfl, hp, hAn⟩ := open_order (okWide_slice Try.underlying22 (hval 1 22 v1 rfl rfl)) h1 hlt
  refine (walk a0 A len cap pp qq a2 a3 W hp hAn).mono fun e W' ⟨he, hg⟩ => ?_
  subst he
  exact ⟨_, rfl, _, _, _, [], _, [], hW', trodAll_cons_mk (shut_bool Try.underlying4 _) trodAll_mk0,
    trodAll_cons_mk (shut_int Try.underlying3 w0) (trodAll_cons_mk (stays_order h1 hg hlt) (trodAll_cons_mk (shut_int Try.underlying3 w2) (trodAll_cons_mk (shut_int Try.underlying3 w3) trodAll_mk0))), rfl, hg.frame _, fun h => by cases h⟩

theorem over : Rows.latticeMakesRow.holds Try.pinned (OpenSpec.ofChange Rows.latticeMakesSpec) :=
  OpenClaim.holds_of_wide 3 Try.f3 rfl rfl rfl rfl rfl rfl rfl ⟨rfl, rfl, rfl, rfl, rfl⟩ rfl rfl rfl rfl rfl (by kernel_rfl) Try.func3 (by kernel_rfl)
    (of_decide_eq_true (by kernel_rfl)) (by unfold Func.isWrapper; first | (rw [if_pos (by decide +kernel)]; kernel_rfl) | (rw [if_neg (by decide +kernel)]; exact ⟨rfl, rfl⟩))
    (fun os started H enc _ => lifted os started H enc)

theorem proved : Rows.LatticeMakesSaid := over
end lawMakes
end Go.Proofs.Ytdjcododpkdhnaa

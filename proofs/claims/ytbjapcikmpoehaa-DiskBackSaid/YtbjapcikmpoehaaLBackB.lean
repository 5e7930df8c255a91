/-
  The walk of DiskBack, in its ways.
-/
import Derived.Test.YtbjapcikmpoehaaLBackA
namespace Go.Proofs.Ytbjapcikmpoehaa.lawDiskBack
open Go.RowKit

theorem empty_size : (⟨#[]⟩ : ByteArray).size = 0 := rfl
theorem empty_append (b : ByteArray) : (⟨#[]⟩ : ByteArray) ++ b = b := by ext1; simp
set_option maxRecDepth 100000 in
set_option maxHeartbeats 1000000 in
theorem walk_long (a s : ByteArray) (k : Int) (w : World) (h : ¬ (a.size ≤ 4000 ∧ s.size ≤ 4000)) : Calls Try.prog 6 #[.string a, .string s, .int .i64 k] w (Yes w) := by
  by_cases h1 : 4000 < a.size
  · have t1 : decide ((4000 : Int) < (a.size : Int)) = true := decide_eq_true (by omega)
    clear h h1
    go_enter Try.func6, Try.ntmps6
    go_wp2_with fail
    refine (New_ok 1 _ (by omega) (by omega)).mono ?_
    rintro e w1 ⟨rfl, rfl⟩
    have hm := Lib.hid (made_new w)
    generalize w.heap.size = g at *
    generalize w.alloc (.cells (dcells 1 emptyL) 52) = w1 at *
    go_wp2_with fail
    refine hm.out.awake.mono ?_
    rintro e w2 ⟨rfl, hm2⟩
    replace hm2 := Lib.hid hm2
    go_wp2_with fail
    refine hm2.out.awake.mono ?_
    rintro e w3 ⟨rfl, hm3⟩
    replace hm3 := Lib.hid hm3
    go_wp2_with fail
    go_ret
    exact ⟨rfl, hm3.out.below⟩
  · have t1 : decide ((4000 : Int) < (a.size : Int)) = false := decide_eq_false (by omega)
    have t2 : decide ((4000 : Int) < (s.size : Int)) = true := decide_eq_true (by omega)
    clear h h1
    go_enter Try.func6, Try.ntmps6
    go_wp2_with fail
    refine (New_ok 1 _ (by omega) (by omega)).mono ?_
    rintro e w1 ⟨rfl, rfl⟩
    have hm := Lib.hid (made_new w)
    generalize w.heap.size = g at *
    generalize w.alloc (.cells (dcells 1 emptyL) 52) = w1 at *
    go_wp2_with fail
    refine hm.out.awake.mono ?_
    rintro e w2 ⟨rfl, hm2⟩
    replace hm2 := Lib.hid hm2
    go_wp2_with fail
    refine hm2.out.awake.mono ?_
    rintro e w3 ⟨rfl, hm3⟩
    replace hm3 := Lib.hid hm3
    go_wp2_with fail
    go_ret
    exact ⟨rfl, hm3.out.below⟩

set_option maxRecDepth 100000 in
set_option maxHeartbeats 1000000 in
theorem walk_full (a s : ByteArray) (k : Int) (w : World) (ha : a.size ≤ 4000) (hs : s.size ≤ 4000) (h : ¬ a.size + s.size ≤ 4000) : Calls Try.prog 6 #[.string a, .string s, .int .i64 k] w (Yes w) := by
  have t1 : decide ((4000 : Int) < (a.size : Int)) = false := decide_eq_false (by omega)
  have t2 : decide ((4000 : Int) < (s.size : Int)) = false := decide_eq_false (by omega)
  have HA := Lib.hid ha
  have H := Lib.hid h
  clear h ha hs
  go_enter Try.func6, Try.ntmps6
  go_wp2_with fail
  refine (New_ok 1 _ (by omega) (by omega)).mono ?_
  rintro e w1 ⟨rfl, rfl⟩
  have hm := Lib.hid (made_new w)
  generalize w.heap.size = g at *
  generalize w.alloc (.cells (dcells 1 emptyL) 52) = w1 at *
  go_wp2_with fail
  refine hm.out.awake.mono ?_
  rintro e w2 ⟨rfl, hm2⟩
  replace hm2 := Lib.hid hm2
  go_wp2_with fail
  refine (hm2.out.append (s := a) (by rw [empty_size]; have := HA.out; omega)).mono ?_
  rintro e w3 ⟨rfl, hm3⟩
  rw [empty_append] at hm3
  replace hm3 := Lib.hid hm3
  go_wp2_with fail
  refine (hm3.out.full (s := s) H.out).mono ?_
  rintro e w4 ⟨rfl, hm4⟩
  replace hm4 := Lib.hid hm4
  go_wp2_with fail
  refine hm4.out.read.mono ?_
  rintro e w' ⟨rfl, hm'⟩
  replace hm4 := Lib.hid hm'
  clear hm'
  go_wp2_with fail
  go_ret
  exact ⟨rfl, hm4.out.below⟩

theorem cut_parts (s : ByteArray) (k : Int) : ∃ q : Nat, q ≤ s.size ∧ cutS s k = s.extract 0 q := ⟨min k.toNat s.size, by omega, rfl⟩
theorem sz_parts (a s : ByteArray) (q : Nat) (h : q ≤ s.size) : (a ++ s.extract 0 q).size = a.size + q := by
  rw [ByteArray.size_append, ByteArray.size_extract]; omega
theorem both_parts (a s : ByteArray) (q : Nat) : a ++ s.extract 0 q ++ s.extract q s.size = a ++ s := by
  rw [ByteArray.append_assoc]
  congr 1
  ext1
  simp
theorem first_part (a s : ByteArray) : (a ++ s).extract 0 a.size = a := by
  ext1
  simp

set_option maxRecDepth 100000 in
set_option maxHeartbeats 2000000 in
theorem walk_ok (a s : ByteArray) (k : Int) (w : World) (h : a.size + s.size ≤ 4000) : Calls Try.prog 6 #[.string a, .string s, .int .i64 k] w (Yes w) := by
  have t1 : decide ((4000 : Int) < (a.size : Int)) = false := decide_eq_false (by omega)
  have t2 : decide ((4000 : Int) < (s.size : Int)) = false := decide_eq_false (by omega)
  obtain ⟨q, hq, hcut⟩ := cut_parts s k
  have HT := Lib.hid (sz_parts a s q hq)
  have HB := Lib.hid (both_parts a s q)
  have HF := Lib.hid (first_part a s)
  have HC := Lib.hid hcut
  have H := Lib.hid h
  have HQ := Lib.hid hq
  clear h hcut
  go_enter Try.func6, Try.ntmps6
  go_wp2_with fail
  refine (New_ok 1 _ (by omega) (by omega)).mono ?_
  rintro e w1 ⟨rfl, rfl⟩
  have hm := Lib.hid (made_new w)
  generalize w.heap.size = g at *
  generalize w.alloc (.cells (dcells 1 emptyL) 52) = w1 at *
  go_wp2_with fail
  refine hm.out.awake.mono ?_
  rintro e w2 ⟨rfl, hm2⟩
  replace hm2 := Lib.hid hm2
  go_wp2_with fail
  refine (hm2.out.append (s := a) (by rw [empty_size]; have := H.out; omega)).mono ?_
  rintro e w3 ⟨rfl, hm3⟩
  rw [empty_append] at hm3
  replace hm3 := Lib.hid hm3
  go_wp2_with fail
  refine (hm3.out.tear (s := s) H.out).mono ?_
  rintro e w4 ⟨rfl, hm4⟩
  rw [HC.out] at hm4
  replace hm4 := Lib.hid hm4
  obtain ⟨T, hT⟩ : ∃ T, T = a ++ s.extract 0 q := ⟨_, rfl⟩
  rw [← hT] at hm4 HT HB
  have HTe := Lib.hid hT
  clear hT
  go_wp2_with fail
  refine hm4.out.read.mono ?_
  rintro e w' ⟨rfl, hm'⟩
  replace hm4 := Lib.hid hm'
  clear hm'
  have b1 : (T.size : Int) - (a.size : Int) = (q : Int) := by have := HT.out; omega
  have b2 : T.size ≤ 4000 := by have := HT.out; have := H.out; have := HQ.out; omega
  have b3 : a.size ≤ 4000 := by have := H.out; omega
  go_wp2_with fail
  have c1 : decide ((q : Int) < 0) = false := decide_eq_false (by omega)
  have c2 : decide (s.size < q) = false := decide_eq_false (by omega)
  have c3 : (0 : Int) ≤ q := by omega
  have c4 : (q : Int) ≤ s.size := by omega
  have c5 : a ++ s.extract 0 q = T := HTe.out.symm
  have c6 : (s.size : Int) ≤ 4000 := by have := H.out; omega
  have c7 : a.size + q ≤ 9223372036854775807 := by have := H.out; omega
  have c8 : T.size ≤ 9223372036854775807 := by omega
  have c9 : ¬ 9223372036854775807 < a.size + (s.extract 0 q).size := by rw [ByteArray.size_extract]; omega
  refine wp_region_held_drew (S := fun _ => True) (by kernel_rfl) trivial (fun _ => ?_)
  refine takeG (i := 0) (some 62) (.int .i64 (q : Int)) rfl rfl (by kernel_rfl) (by kernel_rfl) (by kernel_rfl) (fun _ _ _ h => h) trivial (by kernel_rfl) (fun W hW => by go_simp) ?_
  simp only [Act.put, List.setIfInBounds_toArray, List.set_cons_zero, List.set_cons_succ]
  refine takeG (i := 1) (some 63) (.bool false) rfl rfl (by kernel_rfl) (by kernel_rfl) (by kernel_rfl) (fun _ _ _ h => h) trivial (by kernel_rfl) (fun W hW => by go_simp) ?_
  simp only [Act.put, List.setIfInBounds_toArray, List.set_cons_zero, List.set_cons_succ]
  refine takeG (i := 2) (some 64) (.bool false) rfl rfl (by kernel_rfl) (by kernel_rfl) (by kernel_rfl) (fun _ _ _ h => h) trivial (by kernel_rfl) (fun W hW => by go_simp) ?_
  simp only [Act.put, List.setIfInBounds_toArray, List.set_cons_zero, List.set_cons_succ]
  refine takeG (i := 3) (some 65) (.int .i64 (q : Int)) rfl rfl (by kernel_rfl) (by kernel_rfl) (by kernel_rfl) (fun _ _ _ h => h) trivial (by kernel_rfl) (fun W hW => by go_simp) ?_
  simp only [Act.put, List.setIfInBounds_toArray, List.set_cons_zero, List.set_cons_succ]
  refine takeG (i := 4) (some 66) (.string s) rfl rfl (by kernel_rfl) (by kernel_rfl) (by kernel_rfl) (fun _ _ _ h => h) trivial (by kernel_rfl) (fun W hW => by go_simp) ?_
  simp only [Act.put, List.setIfInBounds_toArray, List.set_cons_zero, List.set_cons_succ]
  refine takeG (i := 5) (some 67) (.int .i64 (s.size : Int)) rfl rfl (by kernel_rfl) (by kernel_rfl) (by kernel_rfl) (fun _ _ _ h => h) trivial (by kernel_rfl) (fun W hW => by go_simp) ?_
  simp only [Act.put, List.setIfInBounds_toArray, List.set_cons_zero, List.set_cons_succ]
  refine takeG (i := 6) (some 68) (.bool false) rfl rfl (by kernel_rfl) (by kernel_rfl) (by kernel_rfl) (fun _ _ _ h => h) trivial (by kernel_rfl) (fun W hW => by go_simp) ?_
  simp only [Act.put, List.setIfInBounds_toArray, List.set_cons_zero, List.set_cons_succ]
  refine takeG (i := 7) (some 69) (.bool false) rfl rfl (by kernel_rfl) (by kernel_rfl) (by kernel_rfl) (fun _ _ _ h => h) trivial (by kernel_rfl) (fun W hW => by go_simp) ?_
  simp only [Act.put, List.setIfInBounds_toArray, List.set_cons_zero, List.set_cons_succ]
  refine takeG (i := 8) (some 70) (.bool false) rfl rfl (by kernel_rfl) (by kernel_rfl) (by kernel_rfl) (fun _ _ _ h => h) trivial (by kernel_rfl) (fun W hW => by go_simp) ?_
  simp only [Act.put, List.setIfInBounds_toArray, List.set_cons_zero, List.set_cons_succ]
  refine takeG (i := 9) (some 71) (.pointer (some ⟨g, 0, none⟩)) rfl rfl (by kernel_rfl) (by kernel_rfl) (by kernel_rfl) (fun _ _ _ h => h) trivial (by kernel_rfl) (fun W hW => by go_simp) ?_
  simp only [Act.put, List.setIfInBounds_toArray, List.set_cons_zero, List.set_cons_succ]
  refine takeG (i := 11) (some 73) (.string a) rfl rfl (by kernel_rfl) (by kernel_rfl) (by kernel_rfl) (fun _ _ _ h => h) trivial (by kernel_rfl) (fun W hW => by go_simp) ?_
  simp only [Act.put, List.setIfInBounds_toArray, List.set_cons_zero, List.set_cons_succ]
  refine takeG (i := 12) (some 74) (.string s) rfl rfl (by kernel_rfl) (by kernel_rfl) (by kernel_rfl) (fun _ _ _ h => h) trivial (by kernel_rfl) (fun W hW => by go_simp) ?_
  simp only [Act.put, List.setIfInBounds_toArray, List.set_cons_zero, List.set_cons_succ]
  refine takeG (i := 13) (some 75) (.int .i64 (q : Int)) rfl rfl (by kernel_rfl) (by kernel_rfl) (by kernel_rfl) (fun _ _ _ h => h) trivial (by kernel_rfl) (fun W hW => by go_simp) ?_
  simp only [Act.put, List.setIfInBounds_toArray, List.set_cons_zero, List.set_cons_succ]
  refine takeG (i := 14) (some 76) (.string (s.extract 0 q)) rfl rfl (by kernel_rfl) (by kernel_rfl) (by kernel_rfl) (fun _ _ _ h => h) trivial (by kernel_rfl) (fun W hW => by go_simp) ?_
  simp only [Act.put, List.setIfInBounds_toArray, List.set_cons_zero, List.set_cons_succ]
  refine takeG (i := 15) (some 77) (.string T) rfl rfl (by kernel_rfl) (by kernel_rfl) (by kernel_rfl) (fun _ _ _ h => h) trivial (by kernel_rfl) (fun W hW => by go_simp) ?_
  simp only [Act.put, List.setIfInBounds_toArray, List.set_cons_zero, List.set_cons_succ]
  refine wpAnyH_ready (rs := [10]) (by kernel_rfl) (by simp) (AllReadyH.cons rfl (fun K1 hK1 => ?_) AllReadyH.nil)
  refine branchC 17 #[.pointer (some ⟨g, 0, none⟩), .int .i64 0] (some 72) rfl (by kernel_rfl) (by go_simp) (hm4.out.drew.read.mono ?_)
  rintro e w5 ⟨rfl, hm5'⟩
  have hm5 := Lib.hid hm5'
  clear hm5'
  refine ⟨_, rfl, ?_⟩
  refine hK1.out _ _ trivial (fun _ => ?_)
  simp only [Act.put, List.setIfInBounds_toArray, List.set_cons_zero, List.set_cons_succ]
  refine takeG (i := 16) (some 78) (.bool false) rfl rfl (by kernel_rfl) (by kernel_rfl) (by kernel_rfl) (fun _ _ _ h => h) trivial (by kernel_rfl) (fun W hW => by go_simp) ?_
  simp only [Act.put, List.setIfInBounds_toArray, List.set_cons_zero, List.set_cons_succ]
  refine takeG (i := 17) (some 79) (.bool false) rfl rfl (by kernel_rfl) (by kernel_rfl) (by kernel_rfl) (fun _ _ _ h => h) trivial (by kernel_rfl) (fun W hW => by go_simp) ?_
  simp only [Act.put, List.setIfInBounds_toArray, List.set_cons_zero, List.set_cons_succ]
  refine wpAnyH_done (by kernel_rfl) ?_ _
  clear c5 hm4
  go_wp2_with fail
  refine (hm5.out.append (s := s.extract q s.size) (by rw [ByteArray.size_extract]; have := HT.out; have := H.out; have := HQ.out; omega)).mono ?_
  rintro e w6 ⟨rfl, hm6⟩
  rw [HB.out] at hm6
  replace hm6 := Lib.hid hm6
  go_wp2_with fail
  refine hm6.out.read.mono ?_
  rintro e w' ⟨rfl, hm'⟩
  replace hm6 := Lib.hid hm'
  clear hm'
  go_wp2_with fail
  refine (hm6.out.cut (m := a.size) (by rw [ByteArray.size_append]; omega)).mono ?_
  rintro e w7 ⟨rfl, hm7⟩
  rw [HF.out] at hm7
  replace hm7 := Lib.hid hm7
  go_wp2_with fail
  refine hm7.out.read.mono ?_
  rintro e w' ⟨rfl, hm'⟩
  replace hm7 := Lib.hid hm'
  clear hm'
  go_wp2_with fail
  go_ret
  exact ⟨rfl, hm7.out.below⟩

theorem walk (a s : ByteArray) (k : Int) (w : World) : Calls Try.prog 6 #[.string a, .string s, .int .i64 k] w (Yes w) := by
  by_cases h : a.size ≤ 4000 ∧ s.size ≤ 4000
  · by_cases hf : a.size + s.size ≤ 4000
    · exact walk_ok a s k w hf
    · exact walk_full a s k w h.1 h.2 hf
  · exact walk_long a s k w h
end Go.Proofs.Ytbjapcikmpoehaa.lawDiskBack

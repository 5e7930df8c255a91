/-
  The law's opening look at the disk.
-/
import Derived.Test.YtbjapcikmpoehaaDm
namespace Go.Proofs.Ytbjapcikmpoehaa
open Go.RowKit

def L1 : Nat → ByteArray := tearL 2 emptyL 0 ⟨#[97, 98, 99]⟩ 3
def L2 : Nat → ByteArray := tearL 2 L1 0 ⟨#[100, 101, 102, 103]⟩ 2
def L3 : Nat → ByteArray := cutL 2 L2 0 3
theorem a1 : tearC 2 emptyL 0 ⟨#[97, 98, 99]⟩ = 0 := by decide +kernel
theorem a2 : tearC 2 L1 0 ⟨#[100, 101, 102, 103]⟩ = 0 := by decide +kernel
theorem a3 : L2 0 = ⟨#[97, 98, 99, 100, 101]⟩ := by decide +kernel
theorem a4 : cutC 2 L2 0 3 = 0 := by decide +kernel
theorem a5 : L3 0 = ⟨#[97, 98, 99]⟩ := by decide +kernel
theorem a6 : tearC 2 L3 2 ⟨#[]⟩ = 3 := by decide +kernel
theorem a7 : (4000 : Int) - (L3 0).size = 3997 := by decide +kernel

set_option maxHeartbeats 1000000 in
theorem awake_any (w : World) : Calls Try.prog 8 #[] w fun e w' => e = .returned (.bool true) ∧ Below w.heap.size w w' := by
  have A3 := Lib.hid a3
  have A5 := Lib.hid a5
  have A7 := Lib.hid a7
  go_enter Try.func8, Try.ntmps8
  go_wp2_with fail
  refine (New_ok 2 _ (by omega) (by omega)).mono ?_
  rintro e w1 ⟨rfl, rfl⟩
  have hd := DAt.new w emptyL (n := 2) (by omega) emptyL_size
  have hb := (Below.refl w.heap.size w).alloc (Nat.le_refl _) (.cells (dcells 2 emptyL) 52)
  generalize w.alloc (.cells (dcells 2 emptyL) 52) = w1 at hd hb ⊢
  go_wp2_with fail
  refine (Append_any 0 ⟨#[97, 98, 99]⟩ _ hd).mono ?_
  rintro e w2 ⟨rfl, hg2, hd2⟩
  have hb2 := hb.grown hg2 hb.size (by intro k e; cases e; exact Nat.le_refl _)
  clear hg2 hb hd
  rw [a1]
  change DAt w2 _ 2 L1 at hd2
  go_wp2_with fail
  refine (Tear_any 0 2 ⟨#[100, 101, 102, 103]⟩ _ hd2).mono ?_
  rintro e w3 ⟨rfl, hg3, hd3⟩
  have hb3 := hb2.grown hg3 hb2.size (by intro k e; cases e; exact Nat.le_refl _)
  clear hg3 hb2 hd2
  rw [a2]
  change DAt w3 _ 2 L2 at hd3
  go_wp2_with fail
  refine (Read_ok 0 _ hd3 (by omega)).mono ?_
  rintro e w' ⟨rfl, hr⟩
  rw [A3.out]
  replace hd3 := hd3.clone hr
  replace hb3 := hb3.trans (hr.mono hb3.size)
  clear hr
  go_wp2_with fail
  refine (Cut_any 0 3 _ hd3).mono ?_
  rintro e w4 ⟨rfl, hg4, hd4⟩
  have hb4 := hb3.grown hg4 hb3.size (by intro k e; cases e; exact Nat.le_refl _)
  clear hg4 hb3 hd3
  rw [a4]
  change DAt w4 _ 2 L3 at hd4
  go_wp2_with fail
  refine (Read_ok 0 _ hd4 (by omega)).mono ?_
  rintro e w' ⟨rfl, hr⟩
  rw [A5.out]
  replace hd4 := hd4.clone hr
  replace hb4 := hb4.trans (hr.mono hb4.size)
  clear hr
  go_wp2_with fail
  refine (Room_ok 0 _ hd4 (by omega)).mono ?_
  rintro e w' ⟨rfl, rfl⟩
  rw [A7.out]
  go_wp2_with fail
  refine (Append_any 2 ⟨#[]⟩ _ hd4).mono ?_
  rintro e w5 ⟨rfl, hg5, hd5⟩
  have hb5 := hb4.grown hg5 hb4.size (by intro k e; cases e; exact Nat.le_refl _)
  clear hg5 hb4 hd4
  rw [a6]
  go_wp2_with fail
  go_ret
  exact ⟨rfl, hb5⟩
end Go.Proofs.Ytbjapcikmpoehaa

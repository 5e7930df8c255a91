/-
  Contract of the library's strings.Clone: the same bytes in new memory.
-/
import Derived.Test.YtbjapcikmpoehaaChecked
import Derived.WalkKit
import Derived.BigQuiet
import Derived.Deep.QuietTactic
import Derived.Lib.Hide
import Derived.RegionTactic
import Derived.WalkLawsBesides
import Derived.Below
import Derived.OwnWalk
import Derived.Lib.BufferWrite
import Derived.Lib.UnsafeStr
namespace Go.Proofs.Ytbjapcikmpoehaa
open Go.RowKit

theorem info5 : (Try.prog.info? 5).map (fun i => (i.zero, i.size, i.bytes)) = some (some (.int .u8 0), 1, 1) := by kernel_rfl
theorem info5s : (Try.prog.info? 5).map (·.size) = some 1 := by kernel_rfl
theorem cells5 : Try.prog.cellsOf 5 = 1 := by kernel_rfl
theorem clone_0 (w : World) : Calls Try.prog 24 #[.string ⟨#[]⟩] w fun e w' => e = .returned (.string ⟨#[]⟩) ∧ w = w' := by
  go_enter Try.func24, Try.ntmps24
  go_wp2_with fail
  go_ret
  exact ⟨rfl, rfl⟩
theorem bytes_len (s : ByteArray) : s.data.toList.length = s.size := by rw [Array.length_toList]; rfl
theorem bytes_str (s : ByteArray) : (⟨s.data.toList.toArray⟩ : ByteArray) = s := by cases s; simp
set_option maxRecDepth 20000 in
set_option maxHeartbeats 1000000 in
theorem clone_any {s : ByteArray} (h : s.size ≤ 1000000000) (w : World) : Calls Try.prog 24 #[.string s] w fun e w' => e = .returned (.string s) ∧ Below w.heap.size w w' := by
  by_cases h0 : s.size = 0
  · have e : s = ⟨#[]⟩ := by
      apply ByteArray.ext
      exact Array.eq_empty_of_size_eq_zero h0
    subst e
    exact (clone_0 w).mono fun e w' ⟨h1, h2⟩ => ⟨h1, h2 ▸ Below.refl _ _⟩
  · have t0 : ((s.size : Int) == 0) = false := by rw [beq_eq_false_iff_ne]; omega
    obtain ⟨i0, hi, hz0, hz1, hz2⟩ := info_parts info5
    have H0 := Lib.hid h0
    clear h0
    go_enter Try.func24, Try.ntmps24
    go_wp2_with (at_make; refine wpList_make_full _ rfl (.tmp 8) (.tmp 8) 56 rfl w.heap.size 5 i0 (.int .u8 0) 1 Try.underlying56 hi hz0 hz1 .i64 .i64 _ _ s.size rfl rfl rfl rfl (by rw [hz2]; omega) (by unfold maxLen; omega) (Nat.le_refl _) ?_; intro w1 hown hgrow; refine Hid.out ?_)
    refine Lib.hid ?_
    have hb1 : Below w.heap.size w w1 := (Below.refl _ _).grown hgrow (Nat.le_refl _) (fun k h => by cases h)
    have hpos : 0 < s.size := by have := H0.out; omega
    obtain ⟨cur, hg, hcur⟩ : ∃ cur, w1.heap[w.heap.size]? = some (.cells cur 5 (0, 0)) ∧ cur.size = s.size := by
      rcases hown.2 with ⟨hv, _⟩ | ⟨g, cap, cur, hv, _, hh, _, _, hs, _⟩
      · cases hv
      · injection hv with h1 h2 h3
        injection h1 with h1
        injection h1 with h1
        subst h1 h3
        exact ⟨cur, hh, by omega⟩
    have hcp := fun ty => Lib.run_copy_row_string (P := Try.prog) w1 56 9 ty 5 w.heap.size 0 s.size s.size s cur 5 Try.underlying56 info5s hg (Nat.le_refl _) (by omega)
    have hrow : (cur.toList.take 0 ++ Lib.byteCells s.data.toList ++ cur.toList.drop (0 + s.size)).toArray = (Lib.byteCells s.data.toList).toArray := by
      rw [List.drop_of_length_le (by rw [Array.length_toList]; omega)]; simp
    rw [hrow] at hcp
    obtain ⟨w2, hw2⟩ : ∃ w2, w2 = w1.setRow w.heap.size (Lib.byteCells s.data.toList).toArray := ⟨_, rfl⟩
    rw [← hw2] at hcp
    have hh2 : w2.heap[w.heap.size]? = some (.cells (Lib.byteCells s.data.toList).toArray 5 (0, 0)) := by rw [hw2]; exact setRow_heap w1 _ cur _ 5 _ hg
    have hb2 : Below w.heap.size w w2 := by rw [hw2]; exact hb1.trans ⟨rfl, rfl, rfl, by simp [World.setRow], fun k hk => setRow_other w1 _ k _ (by omega)⟩
    have hsh : w2.shape? w.heap.size = some (5, s.size) := by simp [World.shape?, hh2, Lib.byteCells_length]
    have hun := fun ty => Lib.run_unsafeString_row (P := Try.prog) w2 57 3 ty 5 Try.underlying57 cells5 w.heap.size s.size hsh s.data.toList (by intro e; have := bytes_len s; rw [e] at this; simp at this; omega) (by rw [bytes_len]; exact Nat.le_refl _) (by rw [bytes_len]; omega) (fun j x hx => by
      rw [Addr.add_lit, Nat.zero_add]
      have : (Lib.byteCells s.data.toList)[j]? = some (.int .u8 x.toNat) := by simp [Lib.byteCells, hx]
      simp [World.cell?, hh2, this])
    rw [bytes_len, bytes_str] at hun
    have HB2 := Lib.hid (Lib.below_freeze hb2 (p := ⟨w.heap.size, 0, none⟩) (Nat.le_refl _) s.size)
    clear hown hgrow hg hcur hrow hh2 hw2 hb1 hb2 hsh
    go_wp2_with fail
    go_ret
    exact ⟨rfl, HB2.out⟩
theorem Clone_any {s : ByteArray} (h : s.size ≤ 1000000000) (w : World) : Calls Try.prog 22 #[.string s] w fun e w' => e = .returned (.string s) ∧ Below w.heap.size w w' := by
  have C := clone_any h
  go_enter Try.func22, Try.ntmps22
  go_wp2_with (go_at_call 24; refine (C _).mono ?_; rintro e w1 ⟨rfl, hb1⟩)
  go_ret
  exact ⟨rfl, hb1⟩
end Go.Proofs.Ytbjapcikmpoehaa

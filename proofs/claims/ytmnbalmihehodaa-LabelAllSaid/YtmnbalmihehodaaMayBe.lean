/-
  Contracts of within and mayBeRaised.
-/
import Derived.Test.YtmnbalmihehodaaFold
import Derived.Test.YtmnbalmihehodaaInts
namespace Go.Proofs.Ytmnbalmihehodaa
open Go.RowKit

theorem within_any (n : Nat) (a : Int) (w : World) : Calls Try.prog 51 #[.int .i64 a, .int .i64 (n : Int)] w fun e w' => e = .returned (.bool (isL n a)) ∧ w = w' := by
  by_cases h0 : 0 ≤ a <;> by_cases h1 : a < n
  all_goals
    go_enter Try.func51, Try.ntmps51
    go_wp2
    go_ret
    exact ⟨by simp [isL, h0, h1], rfl⟩

theorem okK_isL (m : Nat) (p q : Nat → Int) (k : Nat) : okK (m : Int) p q (k + 1) = (okK (m : Int) p q k && (isL m (p k) && isL m (q k))) := okK_succ _ _ _ _

set_option maxHeartbeats 1000000 in
theorem mayBeR_any {g n : Nat} {A B : Nat → Nat} (D : Option Addr) (len cap : Nat) (p q : Nat → Int) (C : Option Addr) (m capl : Nat) (f : Nat → Int) (w : World) (hm : m ≤ 1000) (hlen : len ≤ 1000)
    (h : Lat w g n A B) (hp : Prs w w.heap.size D len p q) (hR : Rd w w.heap.size C m f) :
    Calls Try.prog 40 #[.pointer (some ⟨g, 0, none⟩), .slice D len cap, .slice C m capl] w fun e w' => e = .returned (.bool (okL n f m && okK (m : Int) p q len)) ∧ Below w.heap.size w w' := by
  have n8 := h.n8
  go_enter Try.func40, Try.ntmps40
  go_wp2_with fail
  go_loop [13] (fun i => ∃ k : Nat, k ≤ m ∧ i = .int .i64 k ∧ Hid (okL n f k = true)) (fun i => m - (intOf i).toNat)
  case atStart => exact ⟨0, Nat.zero_le _, rfl, rfl⟩
  case round =>
    obtain ⟨k, hk, rfl, hok⟩ := hrel
    by_cases hlt : k < m
    · obtain ⟨g1, o1, rfl, hg1, hc1⟩ := hR (by omega)
      have d1 := hc1 k hlt
      clear hR hc1
      cases hx : isL n (f k)
      · have HV : Hid ((okL n f m && okK (m : Int) p q len) = false) := Lib.hid (by
          rw [okL_mono (k := k + 1) (by rw [okL_succ, hok.out, hx]; rfl) (by omega)]; rfl)
        have Hx := Lib.hid hx
        clear hx
        go_wp2_with fail
        refine (size_any _ h).mono ?_
        rintro e w' ⟨rfl, rfl⟩
        go_wp2_with fail
        refine (within_any _ _ _).mono ?_
        rintro e w' ⟨rfl, rfl⟩
        rw [Hx.out]
        go_wp2_with fail
        go_ret
        exact ⟨by rw [HV.out]; rfl, Below.refl _ _⟩
      · have HO : Hid (okL n f (k + 1) = true) := Lib.hid (by rw [okL_succ, hok.out, hx]; rfl)
        have Hx := Lib.hid hx
        clear hx
        go_wp2_with fail
        refine (size_any _ h).mono ?_
        rintro e w' ⟨rfl, rfl⟩
        go_wp2_with fail
        refine (within_any _ _ _).mono ?_
        rintro e w' ⟨rfl, rfl⟩
        rw [Hx.out]
        go_wp2_with fail
        go_round
        case rel => exact ⟨k + 1, by omega, by go_num, HO⟩
        case measure => simp [intOf]; omega
    · obtain rfl : k = m := by omega
      clear hlt hk
      go_wp2_with fail
      go_loopw [25] (fun i wr => ∃ j : Nat, j ≤ len ∧ i = .int .i64 j ∧ Hid (okK (k : Int) p q j = true) ∧ Below w.heap.size w wr) (fun i _ => len - (intOf i).toNat)
      case atStart => exact ⟨0, Nat.zero_le _, rfl, rfl, Below.refl _ _⟩
      case round =>
        obtain ⟨j, hj, rfl, hoK, hb⟩ := hrel
        by_cases hlt : j < len
        · obtain ⟨g1, o1, rfl, hg1, hc1⟩ := hp (by omega)
          obtain ⟨c0, c1⟩ := hc1 j hlt
          have d0 := (hb.cell (p := ⟨g1, o1 + j * 2, none⟩) hg1).trans c0
          have d1 := (hb.cell (p := ⟨g1, o1 + j * 2 + 1, none⟩) hg1).trans c1
          have e0 : (wr.alloc (.cells #[.int .i64 (p j), .int .i64 (q j)] 51)).cell? ⟨wr.heap.size, 0, none⟩ = some (.int .i64 (p j)) := cell_of_heap (heap_alloc_new _ _) 0
          have e1 : (wr.alloc (.cells #[.int .i64 (p j), .int .i64 (q j)] 51)).cell? ⟨wr.heap.size, 1, none⟩ = some (.int .i64 (q j)) := cell_of_heap (heap_alloc_new _ _) 1
          have hb2 := hb.alloc hb.size (.cells #[.int .i64 (p j), .int .i64 (q j)] 51)
          clear hp hc1 c0 c1 hb
          cases hx : isL k (p j)
          · have HV : Hid ((okL n f k && okK (k : Int) p q len) = false) := Lib.hid (by
              rw [okK_mono (k := j + 1) (by rw [okK_isL, hx, Bool.false_and, Bool.and_false]) (by omega), Bool.and_false])
            have Hx := Lib.hid hx
            clear hx
            go_wp2_with fail
            refine (within_any _ _ _).mono ?_
            rintro e w' ⟨rfl, rfl⟩
            rw [Hx.out]
            go_wp2_with fail
            go_ret
            exact ⟨by rw [HV.out]; rfl, hb2⟩
          cases hy : isL k (q j)
          · have HV : Hid ((okL n f k && okK (k : Int) p q len) = false) := Lib.hid (by
              rw [okK_mono (k := j + 1) (by rw [okK_isL, hy, Bool.and_false, Bool.and_false]) (by omega), Bool.and_false])
            have Hx := Lib.hid hx
            have Hy := Lib.hid hy
            clear hx hy
            go_wp2_with fail
            refine (within_any _ _ _).mono ?_
            rintro e w' ⟨rfl, rfl⟩
            rw [Hx.out]
            go_wp2_with fail
            refine (within_any _ _ _).mono ?_
            rintro e w' ⟨rfl, rfl⟩
            rw [Hy.out]
            go_wp2_with fail
            go_ret
            exact ⟨by rw [HV.out]; rfl, hb2⟩
          · have HO : Hid (okK (k : Int) p q (j + 1) = true) := Lib.hid (by rw [okK_isL, hoK.out, hx, hy]; rfl)
            have Hx := Lib.hid hx
            have Hy := Lib.hid hy
            clear hx hy
            go_wp2_with fail
            refine (within_any _ _ _).mono ?_
            rintro e w' ⟨rfl, rfl⟩
            rw [Hx.out]
            go_wp2_with fail
            refine (within_any _ _ _).mono ?_
            rintro e w' ⟨rfl, rfl⟩
            rw [Hy.out]
            go_wp2_with fail
            go_roundw
            case rel => exact ⟨j + 1, by omega, by go_num, HO, hb2⟩
            case measure => simp [intOf]; omega
        · obtain rfl : j = len := by omega
          have HV : Hid ((okL n f k && okK (k : Int) p q j) = true) := Lib.hid (by rw [hok.out, hoK.out]; rfl)
          go_wp2_with fail
          go_ret
          exact ⟨by rw [HV.out]; rfl, hb⟩
end Go.Proofs.Ytmnbalmihehodaa

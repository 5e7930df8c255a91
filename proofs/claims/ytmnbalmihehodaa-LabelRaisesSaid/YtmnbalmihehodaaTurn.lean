/-
  The contract of turn.
-/
import Derived.Test.YtmnbalmihehodaaOrd
import Derived.Deep.RegionWith
namespace Go.Proofs.Ytmnbalmihehodaa
open Go.RowKit

theorem frozen_of_heap {w : World} {g : Nat} {cs : Array Value} {t : TypeId} (h : w.heap[g]? = some (.cells cs t (0, 0))) (i : Nat) : w.frozen? ⟨g, i, none⟩ = false := by
  simp [World.frozen?, h]
theorem arr8_cells {w : World} {g : Nat} {t : TypeId} {A : Nat → Nat} (h : w.heap[g]? = some (.cells (arr8 A) t (0, 0))) :
    w.cell? ⟨g, 0, none⟩ = some (.int .u8 (A 0)) ∧ w.cell? ⟨g, 1, none⟩ = some (.int .u8 (A 1)) ∧ w.cell? ⟨g, 2, none⟩ = some (.int .u8 (A 2)) ∧ w.cell? ⟨g, 3, none⟩ = some (.int .u8 (A 3)) ∧
    w.cell? ⟨g, 4, none⟩ = some (.int .u8 (A 4)) ∧ w.cell? ⟨g, 5, none⟩ = some (.int .u8 (A 5)) ∧ w.cell? ⟨g, 6, none⟩ = some (.int .u8 (A 6)) ∧ w.cell? ⟨g, 7, none⟩ = some (.int .u8 (A 7)) :=
  ⟨cell_of_heap h 0, cell_of_heap h 1, cell_of_heap h 2, cell_of_heap h 3, cell_of_heap h 4, cell_of_heap h 5, cell_of_heap h 6, cell_of_heap h 7⟩
theorem arr8_free {w : World} {g : Nat} {t : TypeId} {A : Nat → Nat} (h : w.heap[g]? = some (.cells (arr8 A) t (0, 0))) :
    w.frozen? ⟨g, 0, none⟩ = false ∧ w.frozen? ⟨g, 1, none⟩ = false ∧ w.frozen? ⟨g, 2, none⟩ = false ∧ w.frozen? ⟨g, 3, none⟩ = false ∧
    w.frozen? ⟨g, 4, none⟩ = false ∧ w.frozen? ⟨g, 5, none⟩ = false ∧ w.frozen? ⟨g, 6, none⟩ = false ∧ w.frozen? ⟨g, 7, none⟩ = false :=
  ⟨frozen_of_heap h 0, frozen_of_heap h 1, frozen_of_heap h 2, frozen_of_heap h 3, frozen_of_heap h 4, frozen_of_heap h 5, frozen_of_heap h 6, frozen_of_heap h 7⟩

/-- The world amid turn. -/
structure TurnW (w wr : World) (cs : Array Value) (R : Nat → Nat) : Prop where
  below : Below w.heap.size w wr
  size : w.heap.size + 3 ≤ wr.heap.size
  src : wr.heap[w.heap.size]? = some (.cells cs 67 (0, 0))
  res : wr.heap[w.heap.size + 1]? = some (.cells (arr8 fun _ => 0) 67 (0, 0))
  acc : wr.heap[w.heap.size + 1 + 1]? = some (.cells (arr8 R) 67 (0, 0))

theorem TurnW.start (w : World) (cs : Array Value) : TurnW w (((w.alloc (.cells cs 67)).alloc (.cells (arr8 fun _ => 0) 67)).alloc (.cells (arr8 fun _ => 0) 67)) cs (fun _ => 0) := by
  refine ⟨(((Below.refl _ _).alloc (Nat.le_refl _) _).alloc (by simp) _).alloc (by simp; omega) _, by simp, ?_, ?_, ?_⟩
  · rw [Below.heap_alloc _ _ _ (by simp; omega), Below.heap_alloc _ _ _ (by simp)]
    exact heap_alloc_new _ _
  · rw [Below.heap_alloc _ _ _ (by simp)]
    have := heap_alloc_new (w.alloc (.cells cs 67)) (.cells (arr8 fun _ => 0) 67)
    simpa using this
  · have := heap_alloc_new ((w.alloc (.cells cs 67)).alloc (.cells (arr8 fun _ => 0) 67)) (.cells (arr8 fun _ => 0) 67)
    simpa using this

theorem TurnW.set {w wr : World} {cs : Array Value} {R : Nat → Nat} (h : TurnW w wr cs R) {i : Nat} (hi : i < 8) (v : Nat) :
    TurnW w (wr.setCell ⟨w.heap.size + 1 + 1, i, none⟩ (.int .u8 v)) cs (upd R i v) := by
  refine ⟨h.below.setCell (by simp; omega) _, by simpa [World.setCell] using h.size, ?_, ?_, ?_⟩
  · rw [Below.heap_setCell _ _ _ _ (by simp; omega)]; exact h.src
  · rw [Below.heap_setCell _ _ _ _ (by simp)]; exact h.res
  · rw [heap_set h.acc, arr8_set _ _ _ hi]
theorem TurnW.drew {w wr : World} {cs : Array Value} {R : Nat → Nat} (h : TurnW w wr cs R) : TurnW w wr.drew cs R := ⟨h.below.drew, h.size, h.src, h.res, h.acc⟩

/-- Eight cells stored. -/
def set8 (w : World) (g : Nat) (A : Nat → Nat) : World :=
  ((((((((w.setCell ⟨g, 0, none⟩ (.int .u8 (A 0))).setCell ⟨g, 1, none⟩ (.int .u8 (A 1))).setCell ⟨g, 2, none⟩ (.int .u8 (A 2))).setCell ⟨g, 3, none⟩ (.int .u8 (A 3))).setCell ⟨g, 4, none⟩ (.int .u8 (A 4))).setCell
    ⟨g, 5, none⟩ (.int .u8 (A 5))).setCell ⟨g, 6, none⟩ (.int .u8 (A 6))).setCell ⟨g, 7, none⟩ (.int .u8 (A 7)))
theorem set8_res {w : World} {g : Nat} {t : TypeId} {R : Nat → Nat} (h : w.heap[g]? = some (.cells (arr8 R) t (0, 0))) (A : Nat → Nat) :
    (set8 w g A).heap[g]? = some (.cells (arr8 A) t (0, 0)) := by
  unfold set8
  rw [heap_set (heap_set (heap_set (heap_set (heap_set (heap_set (heap_set (heap_set h 0 _) 1 _) 2 _) 3 _) 4 _) 5 _) 6 _) 7 _]
  simp [arr8]
theorem set8_below {B g : Nat} {w wr : World} (h : Below B w wr) (hg : B ≤ g) (A : Nat → Nat) : Below B w (set8 wr g A) :=
  (((((((h.setCell hg _).setCell hg _).setCell hg _).setCell hg _).setCell hg _).setCell hg _).setCell hg _).setCell hg _

set_option maxHeartbeats 800000 in
theorem turn_any (n : Nat) (A : Nat → Nat) (w : World) (hn : n ≤ 8) (hA : ∀ i, A i < 256) :
    Calls Try.prog 54 #[.int .i64 n, .agg (arr8 A)] w fun e w' => e = .returned (.agg (arr8 (turnK n A n))) ∧ Below w.heap.size w w' := by
  have hat := arr8_at A
  generalize arr8 A = cs at hat
  go_enter Try.func54, Try.ntmps54
  go_wp2_with fail
  go_loopw [9] (fun i wr => ∃ a : Nat, a ≤ n ∧ i = .int .i64 a ∧ TurnW w wr cs (turnK n A a)) (fun i _ => n - (intOf i).toNat)
  case atStart => exact ⟨0, Nat.zero_le _, rfl, TurnW.start w cs⟩
  case round =>
    obtain ⟨a, ha, rfl, hT⟩ := hrel
    by_cases hlt : a < n
    · obtain ⟨wo, rfl⟩ : ∃ wo : World, wo = wr := ⟨_, rfl⟩
      have hR := turnK_lt (n := n) (A := A) a (by omega)
      go_wp2_with fail
      go_loopw [13] (fun i wr => ∃ b : Nat, b ≤ n ∧ i = .int .i64 b ∧ TurnW w wr cs (turnIn A a b (turnK n A a))) (fun i _ => n - (intOf i).toNat)
      case atStart => exact ⟨0, Nat.zero_le _, rfl, hT⟩
      case round =>
        obtain ⟨b, hb, rfl, hI⟩ := hrel
        clear hT
        by_cases hlb : b < n
        · have hcA := hat a (by omega)
          have hcA : wr.cell? ⟨w.heap.size, a, none⟩ = some (.int .u8 (A a)) := (cell_of_heap hI.src a).trans hcA
          have hRb := turnIn_lt (A := A) (a := a) (by omega) hR b
          have hcR : wr.cell? ⟨w.heap.size + 1 + 1, b, none⟩ = some (.int .u8 (turnIn A a b (turnK n A a) b)) := (cell_of_heap hI.acc b).trans (arr8_at _ b (by omega))
          have hfR := frozen_of_heap hI.acc b
          have hor := u8_or_nat (turnIn A a b (turnK n A a) b) (bt a) (hRb b) (bt_lt (by omega))
          cases hc : (A a).testBit b
          · have Hn : Hid (turnIn A a (b + 1) (turnK n A a) = turnIn A a b (turnK n A a)) := Lib.hid (by rw [turnIn, hc]; rfl)
            have Hc := Lib.hid hc
            clear hc hor
            go_wp2_with fail
            refine (contains_any _ _ (hA a) (by omega) (by omega) _).mono ?_
            rintro e w' ⟨rfl, rfl⟩
            rw [Int.toNat_natCast, Hc.out]
            go_wp2_with fail
            go_roundw
            case rel => exact ⟨b + 1, by omega, by go_num, by rw [Hn.out]; exact hI⟩
            case measure => simp [intOf]; omega
          · have Hn : Hid (turnIn A a (b + 1) (turnK n A a) = upd (turnIn A a b (turnK n A a)) b (turnIn A a b (turnK n A a) b ||| bt a)) := Lib.hid (by rw [turnIn, hc]; rfl)
            have Hc := Lib.hid hc
            clear hc
            go_wp2_with fail
            refine (contains_any _ _ (hA a) (by omega) (by omega) _).mono ?_
            rintro e w' ⟨rfl, rfl⟩
            rw [Int.toNat_natCast, Hc.out]
            go_wp2_with fail
            go_region_with (first | (go_at_call 50; refine (bit_any _ (by omega) (by omega) _).mono ?_; rintro e w' ⟨rfl, rfl⟩; rw [Int.toNat_natCast]))
            all_goals go_wp2_with fail
            all_goals go_roundw
            all_goals first
              | exact ⟨b + 1, by omega, by go_num, by rw [Hn.out]; first | exact (hI.set (by omega) _).drew | exact hI.drew.set (by omega) _⟩
              | (simp [intOf]; omega)
        · obtain rfl : b = n := by omega
          go_wp2_with fail
          go_roundw
          case rel => exact ⟨a + 1, by omega, by go_num, hI⟩
          case measure => simp [intOf]; omega
    · obtain rfl : a = n := by omega
      clear hlt ha
      obtain ⟨x0, x1, x2, x3, x4, x5, x6, x7⟩ := arr8_cells hT.acc
      obtain ⟨y0, y1, y2, y3, y4, y5, y6, y7⟩ := arr8_cells hT.res
      obtain ⟨f0, f1, f2, f3, f4, f5, f6, f7⟩ := arr8_free hT.res
      go_wp2_with fail
      have hz := set8_res hT.res (turnK a A a)
      have hb8 := set8_below hT.below (show w.heap.size ≤ w.heap.size + 1 by omega) (turnK a A a)
      change bodyPost _ _ _ _ _ (set8 wr (w.heap.size + 1) (turnK a A a))
      generalize set8 wr (w.heap.size + 1) (turnK a A a) = w9 at hz hb8
      clear x0 x1 x2 x3 x4 x5 x6 x7 y0 y1 y2 y3 y4 y5 y6 y7 f0 f1 f2 f3 f4 f5 f6 f7
      obtain ⟨y0, y1, y2, y3, y4, y5, y6, y7⟩ := arr8_cells hz
      exact bodyPost_ret (v := .agg (arr8 (turnK a A a))) (by simp [results, Try.results54, go_sem, y0, y1, y2, y3, y4, y5, y6, y7, arr8]) rfl ⟨rfl, hb8⟩
end Go.Proofs.Ytmnbalmihehodaa

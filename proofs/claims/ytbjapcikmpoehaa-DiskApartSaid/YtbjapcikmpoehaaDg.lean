/-
  The law's look at how much is played.
-/
import Derived.Test.YtbjapcikmpoehaaDf
import Derived.LoopTactic
namespace Go.Proofs.Ytbjapcikmpoehaa
open Go.RowKit

theorem OpsAt.below {w w' : World} {B : Nat} {A : Option Addr} {len : Nat} {f : Nat → OpV} (h : OpsAt w B A len f) (hb : Below B w w') : OpsAt w' B A len f := fun hpos => by
  obtain ⟨g, o, hA, hg, hc⟩ := h hpos
  refine ⟨g, o, hA, hg, fun j hj => ?_⟩
  obtain ⟨c0, c1, c2, c3, c4⟩ := hc j hj
  exact ⟨by rw [hb.cell (p := ⟨g, _, none⟩) hg]; exact c0, by rw [hb.cell (p := ⟨g, _, none⟩) hg]; exact c1, by rw [hb.cell (p := ⟨g, _, none⟩) hg]; exact c2, by rw [hb.cell (p := ⟨g, _, none⟩) hg]; exact c3, c4⟩

theorem OpsAt.more {w : World} {B B' : Nat} {A : Option Addr} {len : Nat} {f : Nat → OpV} (h : OpsAt w B A len f) (hb : B ≤ B') : OpsAt w B' A len f := fun hpos => by
  obtain ⟨g, o, hA, hg, hc⟩ := h hpos
  exact ⟨g, o, hA, by omega, hc⟩

/-- How much the first k calls count. -/
def sumL (f : Nat → OpV) : Nat → Nat
  | 0 => 0
  | k + 1 => sumL f k + (10 + min (f k).s.size 1048576)
theorem sumL_mono (f : Nat → OpV) {a b : Nat} (h : a ≤ b) : sumL f a ≤ sumL f b := by
  induction b with
  | zero => rw [Nat.le_zero.1 h]; exact Nat.le_refl _
  | succ b ih =>
    rcases Nat.lt_or_ge a (b + 1) with hl | hg
    · exact Nat.le_trans (ih (by omega)) (by simp only [sumL]; omega)
    · rw [show a = b + 1 by omega]; exact Nat.le_refl _
theorem sumL_ge (f : Nat → OpV) (k : Nat) : 10 * k ≤ sumL f k := by
  induction k with
  | zero => exact Nat.le_refl _
  | succ k ih => simp only [sumL]; omega
def longB (f : Nat → OpV) (len : Nat) : Bool := decide (65536 < sumL f len)
theorem longB_no {f : Nat → OpV} {len : Nat} (h : longB f len = false) {j : Nat} (hj : j < len) : (f j).s.size ≤ 65536 := by
  have h1 : sumL f len ≤ 65536 := by simpa [longB] using h
  have h2 := sumL_mono f (a := j + 1) (b := len) (by omega)
  simp only [sumL] at h2
  omega
theorem longB_len {f : Nat → OpV} {len : Nat} (h : longB f len = false) : len ≤ 6553 := by
  have h1 : sumL f len ≤ 65536 := by simpa [longB] using h
  have h2 := sumL_ge f len
  omega

def Long (b : Bool) (w : World) (e : Ending) (w' : World) : Prop := e = .returned (.bool b) ∧ Below w.heap.size w w'
set_option maxRecDepth 20000 in
set_option maxHeartbeats 1000000 in
theorem long_any {A : Option Addr} {len cap : Nat} {f : Nat → OpV} (w : World) (h : OpsAt w w.heap.size A len f) (hl : len ≤ maxLen) :
    Calls Try.prog 9 #[.slice A len cap] w (Long (longB f len) w) := by
  unfold maxLen at hl
  have H := Lib.hid h
  clear h
  go_enter Try.func9, Try.ntmps9
  go_wp2_with fail
  go_loopw [3, 8] (fun nv iv wr => ∃ k : Nat, k ≤ len ∧ iv = .int .i64 k ∧ nv = .int .i64 (sumL f k : Nat) ∧ sumL f k ≤ 65536 ∧ Hid (Below w.heap.size w wr)) (fun _ iv _ => len - (intOf iv).toNat)
  case atStart => exact ⟨0, Nat.zero_le _, rfl, rfl, Nat.zero_le _, Lib.hid (Below.refl _ _)⟩
  case round =>
    obtain ⟨k, hk, rfl, rfl, hn, hb⟩ := hrel
    by_cases hlt : k < len
    · obtain ⟨g, o, rfl, hg, hc⟩ := (H.out.below hb.out) (by omega)
      obtain ⟨c0, c1, c2, c3, c4⟩ := hc k hlt
      clear hc
      unfold maxLen at c4
      have hs := hb.out.size
      obtain ⟨x, hx, hx2⟩ : ∃ x : Nat, x = min (f k).s.size 1048576 ∧ x ≤ 1048576 := ⟨_, rfl, by omega⟩
      have hnxt : Hid (sumL f (k + 1) = sumL f k + (10 + x)) := Lib.hid (by rw [hx]; rfl)
      have hmin : (if ((f k).s.size : Int) ≤ 1048576 then ((f k).s.size : Int) else 1048576) = (x : Int) := by split <;> omega
      by_cases hbig : 65536 < sumL f k + (10 + x)
      · have hL : Hid (longB f len = true) := Lib.hid (by
          have := sumL_mono f (a := k + 1) (b := len) (by omega)
          have := hnxt.out
          simp [longB]; omega)
        by_cases h1 : (f k).s.size ≤ 1048576
        · have hx' : x = (f k).s.size := by omega
          subst hx'
          clear hmin hx
          generalize sumL f k = n0 at *
          have t : decide ((65536 : Int) < (n0 : Int) + (10 + ((f k).s.size : Int))) = true := decide_eq_true (by omega)
          have h1' : ((f k).s.size : Int) ≤ 1048576 := by omega
          clear hbig h1 hnxt
          go_wp2_with fail
          go_ret
          exact ⟨by rw [hL.out]; rfl, hb.out.alloc hs _⟩
        · have hx' : x = 1048576 := by omega
          clear hmin hx hx2
          generalize sumL f k = n0 at *
          have t : decide ((65536 : Int) < (n0 : Int) + 1048586) = true := decide_eq_true (by omega)
          have h1' : (1048576 : Int) < ((f k).s.size : Int) := by omega
          clear hbig h1 hnxt hx'
          go_wp2_with fail
          go_ret
          exact ⟨by rw [hL.out]; rfl, hb.out.alloc hs _⟩
      · by_cases h1 : (f k).s.size ≤ 1048576
        · have hx' : x = (f k).s.size := by omega
          subst hx'
          clear hmin hx
          go_wp2_with fail
          go_roundw
          case rel => exact ⟨k + 1, by omega, by go_num, by rw [hnxt.out]; go_num, by rw [hnxt.out]; omega, Lib.hid (hb.out.alloc hs _)⟩
          case measure => simp [intOf]; omega
        · omega
    · have : k = len := by omega
      subst this
      have hL : Hid (longB f k = false) := Lib.hid (by simp [longB]; omega)
      go_wp2_with fail
      go_ret
      exact ⟨by rw [hL.out]; rfl, hb.out⟩
end Go.Proofs.Ytbjapcikmpoehaa

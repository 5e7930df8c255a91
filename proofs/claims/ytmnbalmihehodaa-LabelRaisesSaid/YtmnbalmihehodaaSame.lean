/-
  The contract of basculeref01.Same.
-/
import Derived.Test.YtmnbalmihehodaaMake
namespace Go.Proofs.Ytmnbalmihehodaa
open Go.RowKit

/-- Draws turn no block. -/
theorem below_draws {B : Nat} {a w : World} (h : Below B a w) (n : Nat) : Below B a (w.drewN n) := h.trans ⟨rfl, rfl, rfl, Nat.le_refl _, fun _ _ => rfl⟩

/-- Ints that lie at an address. -/
def Rd (w : World) (B : Nat) (A : Option Addr) (len : Nat) (f : Nat → Int) : Prop :=
  0 < len → ∃ g off, A = some ⟨g, off, none⟩ ∧ g < B ∧ ∀ i, i < len → w.cell? ⟨g, off + i, none⟩ = some (.int .i64 (f i))

theorem Rd.keep {w w' : World} {B : Nat} {A : Option Addr} {len : Nat} {f : Nat → Int} (h : Rd w B A len f) (hb : Below B w w') : Rd w' B A len f := by
  intro hl
  obtain ⟨g, off, e, hg, hc⟩ := h hl
  exact ⟨g, off, e, hg, fun i hi => (hb.cell hg).trans (hc i hi)⟩
theorem Rd.mono {w : World} {B B' : Nat} {A : Option Addr} {len : Nat} {f : Nat → Int} (h : Rd w B A len f) (hB : B ≤ B') : Rd w B' A len f := by
  intro hl
  obtain ⟨g, off, e, hg, hc⟩ := h hl
  exact ⟨g, off, e, by omega, hc⟩

/-- The ints of a list of labels. -/
def fOf (L : List Nat) : Nat → Int := fun i => ((L.getD i 0 : Nat) : Int)

theorem row_read {w : World} {base : Nat} {v : Value} {L : List Nat} (h : w.ownsRow base 3 1 v L.length (intsOf L)) :
    ∃ A cap, v = .slice A L.length cap ∧ Rd w w.heap.size A L.length (fOf L) := by
  rcases h.2 with ⟨rfl, h0⟩ | ⟨g, cap, cur, rfl, _, hb, h1, h2, h3, h4⟩
  · exact ⟨none, 0, by rw [h0], fun hl => by omega⟩
  · refine ⟨_, cap, rfl, fun hl => ⟨g, 0, rfl, ?_, fun i hi => ?_⟩⟩
    · rcases Nat.lt_or_ge g w.heap.size with hlt | hge
      · exact hlt
      · rw [Array.getElem?_eq_none hge] at hb; cases hb
    · rw [Nat.zero_add, cell_of_heap hb i]
      have e : (cur.toList.take (L.length * 1))[i]? = (intsOf L)[i]? := by rw [h4]
      rw [List.getElem?_take, if_pos (by omega)] at e
      rw [← Array.getElem?_toList, e]
      simp [intsOf, fOf, List.getElem?_map, List.getElem?_eq_getElem hi]

/-- Are two lists alike? -/
def smK (f g : Nat → Int) (k : Nat) : Bool := (List.range k).all fun i => f i == g i
theorem smK_succ (f g : Nat → Int) (k : Nat) : smK f g (k + 1) = (smK f g k && f k == g k) := by simp [smK, List.range_succ]
theorem smK_mono {f g : Nat → Int} {k m : Nat} (h : smK f g k = false) (hkm : k ≤ m) : smK f g m = false := by
  rw [← Bool.not_eq_true] at h ⊢
  intro hm
  apply h
  simp only [smK, List.all_eq_true, List.mem_range] at hm ⊢
  exact fun i hi => hm i (by omega)

theorem same_len (A B : Option Addr) (l1 c1 l2 c2 : Nat) (w : World) (h : l1 ≠ l2) :
    Calls Try.prog 14 #[.slice A l1 c1, .slice B l2 c2] w fun e w' => e = .returned (.bool false) ∧ w = w' := by
  have hb : ((l1 : Int) != (l2 : Int)) = true := by rw [bne_iff_ne]; omega
  clear h
  go_enter Try.func14, Try.ntmps14
  go_wp2_with fail
  go_ret
  exact ⟨rfl, rfl⟩

set_option maxHeartbeats 400000 in
theorem same_any (A B : Option Addr) (len c1 c2 : Nat) (f g : Nat → Int) (w : World) (hl : len ≤ 1000) (hA : Rd w w.heap.size A len f) (hB : Rd w w.heap.size B len g) :
    Calls Try.prog 14 #[.slice A len c1, .slice B len c2] w fun e w' => e = .returned (.bool (smK f g len)) ∧ Below w.heap.size w w' := by
  have hne : ((len : Int) != (len : Int)) = false := by simp
  go_enter Try.func14, Try.ntmps14
  go_wp2_with fail
  go_loopw [5] (fun i wr => ∃ k : Nat, k ≤ len ∧ i = .int .i64 k ∧ Hid (smK f g k = true) ∧ Below w.heap.size w wr) (fun i _ => len - (intOf i).toNat)
  case atStart => exact ⟨0, Nat.zero_le _, rfl, rfl, Below.refl _ _⟩
  case round =>
    obtain ⟨k, hk, rfl, hok, hb⟩ := hrel
    by_cases hlt : k < len
    · obtain ⟨g1, o1, rfl, hg1, hc1⟩ := hA (by omega)
      obtain ⟨g2, o2, rfl, hg2, hc2⟩ := hB (by omega)
      have d1 := (hb.cell (p := ⟨g1, o1 + k, none⟩) hg1).trans (hc1 k hlt)
      have d2 := (hb.cell (p := ⟨g2, o2 + k, none⟩) hg2).trans (hc2 k hlt)
      clear hA hB hc1 hc2
      have hk0 : (0 : Int) ≤ k := by omega
      have hk1 : (k : Int) < len := by omega
      cases hx : (f k == g k)
      · have Hf : Hid (smK f g len = false) := Lib.hid (smK_mono (by rw [smK_succ, hok.out, hx]; rfl) (show k + 1 ≤ len by omega))
        have hx' : (f k != g k) = true := by simp only [bne, hx]; rfl
        clear hx
        go_wp2_with fail
        go_quiet (fail)
        go_wp2_with fail
        go_ret
        exact ⟨by rw [Hf.out]; rfl, below_draws hb _⟩
      · have Hf : Hid (smK f g (k + 1) = true) := Lib.hid (by rw [smK_succ, hok.out, hx]; rfl)
        have hx' : (f k != g k) = false := by simp only [bne, hx]; rfl
        clear hx
        go_wp2_with fail
        go_quiet (fail)
        go_wp2_with fail
        go_roundw
        case rel => exact ⟨k + 1, by omega, by go_num, Hf, below_draws hb _⟩
        case measure => simp [intOf]; omega
    · obtain rfl : k = len := by omega
      go_wp2_with fail
      go_ret
      exact ⟨by rw [hok.out]; rfl, hb⟩
end Go.Proofs.Ytmnbalmihehodaa

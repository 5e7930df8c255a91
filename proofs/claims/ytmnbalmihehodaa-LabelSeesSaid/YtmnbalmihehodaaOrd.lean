/-
  Contracts of mayBeOrder, turn, closeOrder.
-/
import Derived.Test.YtmnbalmihehodaaEnds
namespace Go.Proofs.Ytmnbalmihehodaa
open Go.RowKit

/-- Pairs that lie at an address: those of a slice's cells. -/
def Prs (w : World) (B : Nat) (A : Option Addr) (len : Nat) (p q : Nat → Int) : Prop :=
  0 < len → ∃ g off, A = some ⟨g, off, none⟩ ∧ g < B ∧ ∀ i, i < len → w.cell? ⟨g, off + i * 2, none⟩ = some (.int .i64 (p i)) ∧ w.cell? ⟨g, off + i * 2 + 1, none⟩ = some (.int .i64 (q i))

theorem Prs.keep {w w' : World} {B : Nat} {A : Option Addr} {len : Nat} {p q : Nat → Int} (h : Prs w B A len p q) (hb : Below B w w') : Prs w' B A len p q := by
  intro hl
  obtain ⟨g, off, e, hg, hc⟩ := h hl
  exact ⟨g, off, e, hg, fun i hi => ⟨(hb.cell hg).trans (hc i hi).1, (hb.cell hg).trans (hc i hi).2⟩⟩

theorem Prs.mono {w : World} {B B' : Nat} {A : Option Addr} {len : Nat} {p q : Nat → Int} (h : Prs w B A len p q) (hB : B ≤ B') : Prs w B' A len p q := by
  intro hl
  obtain ⟨g, off, e, hg, hc⟩ := h hl
  exact ⟨g, off, e, by omega, hc⟩

/-- The first k pairs are of labels below n. -/
def okK (n : Int) (p q : Nat → Int) (k : Nat) : Bool := (List.range k).all fun i => (decide (0 ≤ p i) && decide (p i < n)) && (decide (0 ≤ q i) && decide (q i < n))
theorem okK_succ (n : Int) (p q : Nat → Int) (k : Nat) : okK n p q (k + 1) = (okK n p q k && ((decide (0 ≤ p k) && decide (p k < n)) && (decide (0 ≤ q k) && decide (q k < n)))) := by
  simp [okK, List.range_succ]
theorem okK_mono {n : Int} {p q : Nat → Int} {k m : Nat} (h : okK n p q k = false) (hkm : k ≤ m) : okK n p q m = false := by
  rw [← Bool.not_eq_true] at h ⊢
  intro hm
  apply h
  simp only [okK, List.all_eq_true, List.mem_range] at hm ⊢
  exact fun i hi => hm i (by omega)

/-- May they be an order? -/
def mbo (n : Int) (len : Nat) (p q : Nat → Int) : Bool := (decide (1 ≤ n) && decide (n ≤ 8)) && (decide (len ≤ 64) && okK n p q len)

theorem mayBe_n (n : Int) (v : Value) (w : World) (h : ¬ (1 ≤ n ∧ n ≤ 8)) :
    Calls Try.prog 43 #[.int .i64 n, v] w fun e w' => e = .returned (.bool false) ∧ w = w' := by
  by_cases h1 : n < 1
  · go_enter Try.func43, Try.ntmps43
    go_wp2_with fail
    go_ret
    exact ⟨rfl, rfl⟩
  · have h2 : 8 < n := by omega
    have h3 : ¬ n < 1 := h1
    go_enter Try.func43, Try.ntmps43
    go_wp2_with fail
    go_ret
    exact ⟨rfl, rfl⟩

theorem mayBe_long (n : Int) (A : Option Addr) (len cap : Nat) (w : World) (h1 : 1 ≤ n) (h2 : n ≤ 8) (h : 64 < len) :
    Calls Try.prog 43 #[.int .i64 n, .slice A len cap] w fun e w' => e = .returned (.bool false) ∧ w = w' := by
  have h3 : (64 : Int) < len := by omega
  go_enter Try.func43, Try.ntmps43
  go_wp2_with fail
  go_ret
  exact ⟨rfl, rfl⟩

set_option maxHeartbeats 400000 in
theorem mayBe_any (n : Int) (A : Option Addr) (len cap : Nat) (p q : Nat → Int) (w : World) (h1 : 1 ≤ n) (h2 : n ≤ 8) (hlen : len ≤ 64) (hp : Prs w w.heap.size A len p q) :
    Calls Try.prog 43 #[.int .i64 n, .slice A len cap] w fun e w' => e = .returned (.bool (okK n p q len)) ∧ Below w.heap.size w w' := by
  have h3 : (len : Int) ≤ 64 := by omega
  go_enter Try.func43, Try.ntmps43
  go_wp2_with fail
  go_loopw [20] (fun i wr => ∃ k : Nat, k ≤ len ∧ i = .int .i64 k ∧ Hid (okK n p q k = true) ∧ Below w.heap.size w wr) (fun i _ => len - (intOf i).toNat)
  case atStart => exact ⟨0, Nat.zero_le _, rfl, rfl, Below.refl _ _⟩
  case round =>
    obtain ⟨k, hk, rfl, hok, hb⟩ := hrel
    by_cases hlt : k < len
    · obtain ⟨g, off, rfl, hg, hc⟩ := hp (by omega)
      obtain ⟨c0, c1⟩ := hc k hlt
      have d0 := (hb.cell (p := ⟨g, off + k * 2, none⟩) hg).trans c0
      have d1 := (hb.cell (p := ⟨g, off + k * 2 + 1, none⟩) hg).trans c1
      clear hc c0 c1 hp
      have hsz := hb.size
      cases hx : (decide (0 ≤ p k) && decide (p k < n))
      · have Hf : Hid (okK n p q len = false) := Lib.hid (okK_mono (by rw [okK_succ, hok.out, hx]; rfl) (show k + 1 ≤ len by omega))
        have Hx := Lib.hid hx
        clear hx
        go_wp2_with fail
        refine (isLabel_any _ _ _).mono ?_
        rintro e w' ⟨rfl, rfl⟩
        rw [Hx.out]
        go_wp2_with fail
        go_ret
        exact ⟨by rw [Hf.out]; rfl, hb.alloc hsz _⟩
      cases hy : (decide (0 ≤ q k) && decide (q k < n))
      · have Hf : Hid (okK n p q len = false) := Lib.hid (okK_mono (by rw [okK_succ, hok.out, hx, hy]; rfl) (show k + 1 ≤ len by omega))
        have Hx := Lib.hid hx
        have Hy := Lib.hid hy
        clear hx hy
        go_wp2_with fail
        refine (isLabel_any _ _ _).mono ?_
        rintro e w' ⟨rfl, rfl⟩
        rw [Hx.out]
        go_wp2_with fail
        refine (isLabel_any _ _ _).mono ?_
        rintro e w' ⟨rfl, rfl⟩
        rw [Hy.out]
        go_wp2_with fail
        go_ret
        exact ⟨by rw [Hf.out]; rfl, hb.alloc hsz _⟩
      · have Hf : Hid (okK n p q (k + 1) = true) := Lib.hid (by rw [okK_succ, hok.out, hx, hy]; rfl)
        have Hx := Lib.hid hx
        have Hy := Lib.hid hy
        clear hx hy
        go_wp2_with fail
        refine (isLabel_any _ _ _).mono ?_
        rintro e w' ⟨rfl, rfl⟩
        rw [Hx.out]
        go_wp2_with fail
        refine (isLabel_any _ _ _).mono ?_
        rintro e w' ⟨rfl, rfl⟩
        rw [Hy.out]
        go_wp2_with fail
        go_roundw
        case rel => exact ⟨k + 1, by omega, by go_num, Hf, hb.alloc hsz _⟩
        case measure => simp [intOf]; omega
    · obtain rfl : k = len := by omega
      go_wp2_with fail
      go_ret
      exact ⟨by rw [hok.out]; rfl, hb⟩

/-- Cells of an array of eight sets that is being filled. -/
structure Arr (w : World) (g : Nat) (t : TypeId) (A : Nat → Nat) : Prop where
  blk : w.heap[g]? = some (.cells (arr8 A) t (0, 0))

/-- One set more bits. -/
def upd (A : Nat → Nat) (i v : Nat) : Nat → Nat := fun j => if j = i then v else A j

theorem arr8_set (A : Nat → Nat) (v : Nat) : ∀ i, i < 8 → (arr8 A).setIfInBounds i (.int .u8 v) = arr8 (upd A i v) :=
  nat_cases8 rfl rfl rfl rfl rfl rfl rfl rfl

theorem heap_set {w : World} {g : Nat} {cs : Array Value} {t : TypeId} (h : w.heap[g]? = some (.cells cs t (0, 0))) (i : Nat) (u : Value) :
    (w.setCell ⟨g, i, none⟩ u).heap[g]? = some (.cells (cs.setIfInBounds i u) t (0, 0)) := by
  simp [World.setCell, Array.getElem?_modify, h]

/-- What turn has when a rounds of the outer loop are done and b of the inner one. -/
def turnIn (A : Nat → Nat) (a : Nat) : Nat → (Nat → Nat) → (Nat → Nat)
  | 0, R => R
  | b + 1, R => if (A a).testBit b then upd (turnIn A a b R) b (turnIn A a b R b ||| bt a) else turnIn A a b R
def turnK (n : Nat) (A : Nat → Nat) : Nat → (Nat → Nat)
  | 0 => fun _ => 0
  | a + 1 => turnIn A a n (turnK n A a)

theorem upd_lt {A : Nat → Nat} (hA : ∀ i, A i < 256) {i v : Nat} (hv : v < 256) : ∀ j, upd A i v j < 256 := by
  intro j
  unfold upd
  split
  · exact hv
  · exact hA j
theorem or_lt {x y : Nat} (hx : x < 256) (hy : y < 256) : x ||| y < 256 := Nat.or_lt_two_pow (n := 8) hx hy

theorem turnIn_lt {A R : Nat → Nat} {a : Nat} (ha : a < 8) (hR : ∀ i, R i < 256) : ∀ b i, turnIn A a b R i < 256 := by
  intro b
  induction b with
  | zero => exact hR
  | succ b ih =>
    unfold turnIn
    split
    · exact upd_lt ih (or_lt (ih b) (bt_lt ha))
    · exact ih
theorem turnK_lt {n : Nat} {A : Nat → Nat} : ∀ a, a ≤ 8 → ∀ i, turnK n A a i < 256 := by
  intro a
  induction a with
  | zero => intro _ i; exact Nat.zero_lt_of_lt (show 0 < 256 by omega)
  | succ a ih => intro ha; exact turnIn_lt (by omega) (ih (by omega)) n
end Go.Proofs.Ytmnbalmihehodaa

/-
  Contracts of the lattice package's small functions that only read (isLabel, bit, contains, has, Size, Leq).
-/
import Derived.Test.YtmnbalmihehodaaChecked
import Derived.WalkKit
import Derived.BigQuiet
import Derived.Deep.QuietTactic
import Derived.Lib.Hide
namespace Go.Proofs.Ytmnbalmihehodaa
open Go.RowKit

theorem isLabel_any (n a : Int) (w : World) :
    Calls Try.prog 49 #[.int .i64 n, .int .i64 a] w fun e w' => e = .returned (.bool (decide (0 ≤ a) && decide (a < n))) ∧ w = w' := by
  by_cases h0 : 0 ≤ a <;> by_cases h1 : a < n
  all_goals
    go_enter Try.func49, Try.ntmps49
    go_wp2
    go_ret
    exact ⟨by simp [h0, h1], rfl⟩

/-- The bit of a label. -/
def bt (k : Nat) : Nat := 2 ^ k
theorem bt_lt {k : Nat} (h : k < 8) : bt k < 256 := by
  have : (2:Nat) ^ k ≤ 2 ^ 7 := Nat.pow_le_pow_right (by omega) (by omega)
  unfold bt; omega

theorem bit_any (a : Int) (h0 : 0 ≤ a) (h1 : a < 8) (w : World) :
    Calls Try.prog 50 #[.int .i64 a] w fun e w' => e = .returned (.int .u8 (bt a.toNat)) ∧ w = w' := by
  obtain rfl | rfl | rfl | rfl | rfl | rfl | rfl | rfl : a = 0 ∨ a = 1 ∨ a = 2 ∨ a = 3 ∨ a = 4 ∨ a = 5 ∨ a = 6 ∨ a = 7 := by omega
  all_goals
    go_enter Try.func50, Try.ntmps50
    go_wp2
    go_ret
    exact ⟨rfl, rfl⟩

theorem and_bt (S k : Nat) : S &&& bt k = if S.testBit k then bt k else 0 := by
  unfold bt
  rw [nat_bit, Nat.testBit_eq_decide_div_mod_eq]
  by_cases h : S / 2 ^ k % 2 = 1
  · simp [h]
  · have : S / 2 ^ k % 2 = 0 := by omega
    simp [this]

theorem and_bt_ne (S k : Nat) : (((S &&& bt k : Nat) : Int) != 0) = S.testBit k := by
  rw [and_bt]
  have : bt k ≠ 0 := Nat.pos_iff_ne_zero.1 (Nat.two_pow_pos k)
  by_cases h : S.testBit k = true
  · simp [h]; omega
  · simp [h]

theorem contains_any (S : Nat) (a : Int) (hS : S < 256) (h0 : 0 ≤ a) (h1 : a < 8) (w : World) :
    Calls Try.prog 38 #[.int .u8 S, .int .i64 a] w fun e w' => e = .returned (.bool (S.testBit a.toNat)) ∧ w = w' := by
  have hp : bt a.toNat < 256 := bt_lt (by omega)
  have hb := u8_and_nat S (bt a.toNat) hS hp
  have hn := and_bt_ne S a.toNat
  have Hn := Lib.hid hn
  clear hn
  go_enter Try.func38, Try.ntmps38
  go_wp2_with fail
  refine (bit_any a h0 h1 _).mono ?_
  rintro e w' ⟨rfl, rfl⟩
  go_wp2_with fail
  go_ret
  exact ⟨by rw [← Hn.out]; simp, rfl⟩

/-- The cells of a Lattice. -/
def lcells (n : Nat) (A B : Nat → Nat) : Array Value :=
  #[.int .i64 n, .int .u8 (A 0), .int .u8 (A 1), .int .u8 (A 2), .int .u8 (A 3), .int .u8 (A 4), .int .u8 (A 5), .int .u8 (A 6), .int .u8 (A 7),
    .int .u8 (B 0), .int .u8 (B 1), .int .u8 (B 2), .int .u8 (B 3), .int .u8 (B 4), .int .u8 (B 5), .int .u8 (B 6), .int .u8 (B 7)]

/-- Block g is a Lattice of n labels with these sets. -/
structure Lat (w : World) (g n : Nat) (A B : Nat → Nat) : Prop where
  blk : w.heap[g]? = some (.cells (lcells n A B) 69 (0, 0))
  n8 : n ≤ 8
  a8 : ∀ i, A i < 256
  b8 : ∀ i, B i < 256

theorem cell_of_heap {w : World} {g : Nat} {cs : Array Value} {t : TypeId} (h : w.heap[g]? = some (.cells cs t (0, 0))) (i : Nat) : w.cell? ⟨g, i, none⟩ = cs[i]? := cell_of_row w g i cs t (0, 0) h

theorem nat_cases8 {P : Nat → Prop} (h0 : P 0) (h1 : P 1) (h2 : P 2) (h3 : P 3) (h4 : P 4) (h5 : P 5) (h6 : P 6) (h7 : P 7) : ∀ i, i < 8 → P i := by
  intro i hi
  obtain rfl | rfl | rfl | rfl | rfl | rfl | rfl | rfl : i = 0 ∨ i = 1 ∨ i = 2 ∨ i = 3 ∨ i = 4 ∨ i = 5 ∨ i = 6 ∨ i = 7 := by omega
  all_goals assumption

theorem Lat.size {w : World} {g n : Nat} {A B : Nat → Nat} (h : Lat w g n A B) : w.cell? ⟨g, 0, none⟩ = some (.int .i64 n) := cell_of_heap h.blk 0
theorem Lat.above {w : World} {g n : Nat} {A B : Nat → Nat} (h : Lat w g n A B) : ∀ i, i < 8 → w.cell? ⟨g, 1 + i, none⟩ = some (.int .u8 (A i)) :=
  nat_cases8 (cell_of_heap h.blk 1) (cell_of_heap h.blk 2) (cell_of_heap h.blk 3) (cell_of_heap h.blk 4) (cell_of_heap h.blk 5) (cell_of_heap h.blk 6) (cell_of_heap h.blk 7) (cell_of_heap h.blk 8)
theorem Lat.below {w : World} {g n : Nat} {A B : Nat → Nat} (h : Lat w g n A B) : ∀ i, i < 8 → w.cell? ⟨g, 9 + i, none⟩ = some (.int .u8 (B i)) :=
  nat_cases8 (cell_of_heap h.blk 9) (cell_of_heap h.blk 10) (cell_of_heap h.blk 11) (cell_of_heap h.blk 12) (cell_of_heap h.blk 13) (cell_of_heap h.blk 14) (cell_of_heap h.blk 15) (cell_of_heap h.blk 16)

/-- A label of a lattice of n. -/
def isL (n : Nat) (a : Int) : Bool := decide (0 ≤ a) && decide (a < n)
theorem isL_iff {n : Nat} {a : Int} : isL n a = true ↔ 0 ≤ a ∧ a < n := by simp [isL]

theorem has_nil (a : Int) (w : World) : Calls Try.prog 37 #[.pointer none, .int .i64 a] w fun e w' => e = .returned (.bool false) ∧ w = w' := by
  go_enter Try.func37, Try.ntmps37
  go_wp2
  go_ret
  exact ⟨rfl, rfl⟩

theorem has_any {g n : Nat} {A B : Nat → Nat} (a : Int) (w : World) (h : Lat w g n A B) :
    Calls Try.prog 37 #[.pointer (some ⟨g, 0, none⟩), .int .i64 a] w fun e w' => e = .returned (.bool (isL n a)) ∧ w = w' := by
  have hs := h.size
  clear h
  go_enter Try.func37, Try.ntmps37
  go_wp2_with fail
  refine (isLabel_any _ _ _).mono ?_
  rintro e w' ⟨rfl, rfl⟩
  go_wp2_with fail
  go_ret
  exact ⟨rfl, rfl⟩

theorem size_nil (w : World) : Calls Try.prog 21 #[.pointer none] w fun e w' => e = .returned (.int .i64 0) ∧ w = w' := by
  go_enter Try.func21, Try.ntmps21
  go_wp2
  go_ret
  exact ⟨rfl, rfl⟩

theorem size_any {g n : Nat} {A B : Nat → Nat} (w : World) (h : Lat w g n A B) :
    Calls Try.prog 21 #[.pointer (some ⟨g, 0, none⟩)] w fun e w' => e = .returned (.int .i64 n) ∧ w = w' := by
  have hs := h.size
  clear h
  go_enter Try.func21, Try.ntmps21
  go_wp2
  go_ret
  exact ⟨rfl, rfl⟩

theorem leq_nil (a b : Int) (w : World) : Calls Try.prog 19 #[.pointer none, .int .i64 a, .int .i64 b] w fun e w' => e = .returned (.bool false) ∧ w = w' := by
  go_enter Try.func19, Try.ntmps19
  go_wp2_with fail
  refine (has_nil _ _).mono ?_
  rintro e w' ⟨rfl, rfl⟩
  go_wp2_with fail
  go_ret
  exact ⟨rfl, rfl⟩

/-- The order that the sets tell. -/
def leqB (n : Nat) (A : Nat → Nat) (a b : Int) : Bool := isL n a && (isL n b && (A a.toNat).testBit b.toNat)

theorem leq_any {g n : Nat} {A B : Nat → Nat} (a b : Int) (w : World) (h : Lat w g n A B) :
    Calls Try.prog 19 #[.pointer (some ⟨g, 0, none⟩), .int .i64 a, .int .i64 b] w fun e w' => e = .returned (.bool (leqB n A a b)) ∧ w = w' := by
  have n8 := h.n8
  cases ha : isL n a
  · have Hv : Hid (leqB n A a b = false) := by simp [leqB, ha, Hid]
    have Ha := Lib.hid ha
    clear ha
    go_enter Try.func19, Try.ntmps19
    go_wp2_with fail
    refine (has_any _ _ h).mono ?_
    rintro e w' ⟨rfl, rfl⟩
    rw [Ha.out]
    go_wp2_with fail
    go_ret
    exact ⟨by rw [Hv.out]; rfl, rfl⟩
  cases hb : isL n b
  · have Hv : Hid (leqB n A a b = false) := by simp [leqB, hb, Hid]
    have Ha := Lib.hid ha
    have Hb := Lib.hid hb
    clear ha hb
    go_enter Try.func19, Try.ntmps19
    go_wp2_with fail
    refine (has_any _ _ h).mono ?_
    rintro e w' ⟨rfl, rfl⟩
    rw [Ha.out]
    go_wp2_with fail
    refine (has_any _ _ h).mono ?_
    rintro e w' ⟨rfl, rfl⟩
    rw [Hb.out]
    go_wp2_with fail
    go_ret
    exact ⟨by rw [Hv.out]; rfl, rfl⟩
  have Hv : Hid (leqB n A a b = (A a.toNat).testBit b.toNat) := by simp [leqB, ha, hb, Hid]
  obtain ⟨ha0, ha1⟩ := isL_iff.1 ha
  obtain ⟨hb0, hb1⟩ := isL_iff.1 hb
  have Ha := Lib.hid ha
  have Hb := Lib.hid hb
  clear ha hb
  have hc := h.above a.toNat (by omega)
  have a8 := h.a8 a.toNat
  have ha8 : a < 8 := by omega
  have hb8 : b < 8 := by omega
  go_enter Try.func19, Try.ntmps19
  go_wp2_with fail
  refine (has_any _ _ h).mono ?_
  rintro e w' ⟨rfl, rfl⟩
  rw [Ha.out]
  go_wp2_with fail
  refine (has_any _ _ h).mono ?_
  rintro e w' ⟨rfl, rfl⟩
  rw [Hb.out]
  go_wp2_with fail
  refine (contains_any _ _ a8 hb0 hb8 _).mono ?_
  rintro e w' ⟨rfl, rfl⟩
  go_wp2_with fail
  go_ret
  exact ⟨by rw [Hv.out]; rfl, rfl⟩
end Go.Proofs.Ytmnbalmihehodaa

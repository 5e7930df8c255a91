/-
  Contracts of join, meet, Join, Meet.
-/
import Derived.Test.YtmnbalmihehodaaFind
import Derived.Deep.RegionHeld3
namespace Go.Proofs.Ytmnbalmihehodaa
open Go.RowKit

theorem Lat.lt {w : World} {g n : Nat} {A B : Nat → Nat} (h : Lat w g n A B) : g < w.heap.size := by
  rcases Nat.lt_or_ge g w.heap.size with hlt | hge
  · exact hlt
  · have := h.blk; rw [Array.getElem?_eq_none hge] at this; cases this
theorem Lat.keep {w w' : World} {g n : Nat} {A B : Nat → Nat} (h : Lat w g n A B) (hb : Below w.heap.size w w') : Lat w' g n A B :=
  ⟨(hb.block g h.lt).trans h.blk, h.n8, h.a8, h.b8⟩
theorem Lat.drew {w : World} {g n : Nat} {A B : Nat → Nat} (h : Lat w g n A B) : Lat w.drew g n A B := ⟨h.blk, h.n8, h.a8, h.b8⟩
theorem Lat.drewN {w : World} {g n : Nat} {A B : Nat → Nat} (h : Lat w g n A B) (k : Nat) : Lat (w.drewN k) g n A B := ⟨h.blk, h.n8, h.a8, h.b8⟩

theorem Lat.alloc {w : World} {g n : Nat} {A B : Nat → Nat} (h : Lat w g n A B) (o : Obj) : Lat (w.alloc o) g n A B :=
  ⟨(Below.heap_alloc w o g h.lt).trans h.blk, h.n8, h.a8, h.b8⟩

theorem Lat.upS {w : World} {g n : Nat} {A B : Nat → Nat} (h : Lat w g n A B) {a b : Nat} (ha : a < 8) (hb : b < 8) :
    w.cell? ⟨g, 0, none⟩ = some (.int .i64 n) ∧ w.cell? ⟨g, 1 + a, none⟩ = some (.int .u8 (A a)) ∧ w.cell? ⟨g, 1 + b, none⟩ = some (.int .u8 (A b)) ∧
    w.cell? ⟨g, 1, none⟩ = some (.int .u8 (A 0)) ∧ w.cell? ⟨g, 2, none⟩ = some (.int .u8 (A 1)) ∧ w.cell? ⟨g, 3, none⟩ = some (.int .u8 (A 2)) ∧ w.cell? ⟨g, 4, none⟩ = some (.int .u8 (A 3)) ∧
    w.cell? ⟨g, 5, none⟩ = some (.int .u8 (A 4)) ∧ w.cell? ⟨g, 6, none⟩ = some (.int .u8 (A 5)) ∧ w.cell? ⟨g, 7, none⟩ = some (.int .u8 (A 6)) ∧ w.cell? ⟨g, 8, none⟩ = some (.int .u8 (A 7)) :=
  ⟨h.size, h.above a ha, h.above b hb, h.above 0 (by omega), h.above 1 (by omega), h.above 2 (by omega), h.above 3 (by omega), h.above 4 (by omega), h.above 5 (by omega), h.above 6 (by omega), h.above 7 (by omega)⟩

theorem Lat.downS {w : World} {g n : Nat} {A B : Nat → Nat} (h : Lat w g n A B) {a b : Nat} (ha : a < 8) (hb : b < 8) :
    w.cell? ⟨g, 0, none⟩ = some (.int .i64 n) ∧ w.cell? ⟨g, 9 + a, none⟩ = some (.int .u8 (B a)) ∧ w.cell? ⟨g, 9 + b, none⟩ = some (.int .u8 (B b)) ∧
    w.cell? ⟨g, 9, none⟩ = some (.int .u8 (B 0)) ∧ w.cell? ⟨g, 10, none⟩ = some (.int .u8 (B 1)) ∧ w.cell? ⟨g, 11, none⟩ = some (.int .u8 (B 2)) ∧ w.cell? ⟨g, 12, none⟩ = some (.int .u8 (B 3)) ∧
    w.cell? ⟨g, 13, none⟩ = some (.int .u8 (B 4)) ∧ w.cell? ⟨g, 14, none⟩ = some (.int .u8 (B 5)) ∧ w.cell? ⟨g, 15, none⟩ = some (.int .u8 (B 6)) ∧ w.cell? ⟨g, 16, none⟩ = some (.int .u8 (B 7)) :=
  ⟨h.size, h.below a ha, h.below b hb, h.below 0 (by omega), h.below 1 (by omega), h.below 2 (by omega), h.below 3 (by omega), h.below 4 (by omega), h.below 5 (by omega), h.below 6 (by omega), h.below 7 (by omega)⟩

set_option maxHeartbeats 400000 in
theorem join_any {g n : Nat} {A B : Nat → Nat} (a b : Int) (w : World) (h : Lat w g n A B) (ha0 : 0 ≤ a) (ha : a < n) (hb0 : 0 ≤ b) (hb : b < n) :
    Calls Try.prog 47 #[.pointer (some ⟨g, 0, none⟩), .int .i64 a, .int .i64 b] w fun e w' => e = .returned (fndV n A (A a.toNat &&& A b.toNat)) ∧ Below w.heap.size w w' := by
  have n8 := h.n8
  have hbits := u8_and_nat (A a.toNat) (A b.toNat) (h.a8 _) (h.a8 _)
  have ha8 : a < 8 := by omega
  have hb8 : b < 8 := by omega
  have hat : a.toNat < 8 := by omega
  have hbt : b.toNat < 8 := by omega
  go_enter Try.func47, Try.ntmps47
  go_wp2
  go_region_held3 (fun W => W.cell? ⟨g, 0, none⟩ = some (.int .i64 n) ∧ W.cell? ⟨g, 1 + a.toNat, none⟩ = some (.int .u8 (A a.toNat)) ∧ W.cell? ⟨g, 1 + b.toNat, none⟩ = some (.int .u8 (A b.toNat)) ∧
    W.cell? ⟨g, 1, none⟩ = some (.int .u8 (A 0)) ∧ W.cell? ⟨g, 2, none⟩ = some (.int .u8 (A 1)) ∧ W.cell? ⟨g, 3, none⟩ = some (.int .u8 (A 2)) ∧ W.cell? ⟨g, 4, none⟩ = some (.int .u8 (A 3)) ∧
    W.cell? ⟨g, 5, none⟩ = some (.int .u8 (A 4)) ∧ W.cell? ⟨g, 6, none⟩ = some (.int .u8 (A 5)) ∧ W.cell? ⟨g, 7, none⟩ = some (.int .u8 (A 6)) ∧ W.cell? ⟨g, 8, none⟩ = some (.int .u8 (A 7)))
    (first | exact h.upS hat hbt | exact h.drew.upS hat hbt | exact (h.drew.keep (by assumption)).upS hat hbt)
    (first | (go_at_call 55; refine (find_any n _ A _ n8).mono ?_; rintro e w1 ⟨rfl, hb1⟩; unfold fndV))
  all_goals go_wp2
  go_ret2
  exact ⟨rfl, ((Below.refl _ w).drew).trans hb1⟩

set_option maxHeartbeats 400000 in
theorem meet_any {g n : Nat} {A B : Nat → Nat} (a b : Int) (w : World) (h : Lat w g n A B) (ha0 : 0 ≤ a) (ha : a < n) (hb0 : 0 ≤ b) (hb : b < n) :
    Calls Try.prog 48 #[.pointer (some ⟨g, 0, none⟩), .int .i64 a, .int .i64 b] w fun e w' => e = .returned (fndV n B (B a.toNat &&& B b.toNat)) ∧ Below w.heap.size w w' := by
  have n8 := h.n8
  have hbits := u8_and_nat (B a.toNat) (B b.toNat) (h.b8 _) (h.b8 _)
  have ha8 : a < 8 := by omega
  have hb8 : b < 8 := by omega
  have hat : a.toNat < 8 := by omega
  have hbt : b.toNat < 8 := by omega
  go_enter Try.func48, Try.ntmps48
  go_wp2
  go_region_held3 (fun W => W.cell? ⟨g, 0, none⟩ = some (.int .i64 n) ∧ W.cell? ⟨g, 9 + a.toNat, none⟩ = some (.int .u8 (B a.toNat)) ∧ W.cell? ⟨g, 9 + b.toNat, none⟩ = some (.int .u8 (B b.toNat)) ∧
    W.cell? ⟨g, 9, none⟩ = some (.int .u8 (B 0)) ∧ W.cell? ⟨g, 10, none⟩ = some (.int .u8 (B 1)) ∧ W.cell? ⟨g, 11, none⟩ = some (.int .u8 (B 2)) ∧ W.cell? ⟨g, 12, none⟩ = some (.int .u8 (B 3)) ∧
    W.cell? ⟨g, 13, none⟩ = some (.int .u8 (B 4)) ∧ W.cell? ⟨g, 14, none⟩ = some (.int .u8 (B 5)) ∧ W.cell? ⟨g, 15, none⟩ = some (.int .u8 (B 6)) ∧ W.cell? ⟨g, 16, none⟩ = some (.int .u8 (B 7)))
    (first | exact h.downS hat hbt | exact h.drew.downS hat hbt | exact (h.drew.keep (by assumption)).downS hat hbt)
    (first | (go_at_call 55; refine (find_any n _ B _ n8).mono ?_; rintro e w1 ⟨rfl, hb1⟩; unfold fndV))
  all_goals go_wp2
  go_ret2
  exact ⟨rfl, ((Below.refl _ w).drew).trans hb1⟩

theorem Join_nil (a b : Int) (w : World) :
    Calls Try.prog 28 #[.pointer none, .int .i64 a, .int .i64 b] w fun e w' => e = .returned (.tuple #[.int .i64 0, .int .i64 1]) ∧ w = w' := by
  go_enter Try.func28, Try.ntmps28
  go_wp2_with fail
  go_ret2
  exact ⟨rfl, rfl⟩
theorem Meet_nil (a b : Int) (w : World) :
    Calls Try.prog 30 #[.pointer none, .int .i64 a, .int .i64 b] w fun e w' => e = .returned (.tuple #[.int .i64 0, .int .i64 1]) ∧ w = w' := by
  go_enter Try.func30, Try.ntmps30
  go_wp2_with fail
  go_ret2
  exact ⟨rfl, rfl⟩

/-- Neither is a label: ErrRange. -/
theorem Join_no {g n : Nat} {A B : Nat → Nat} (a b : Int) (w : World) (h : Lat w g n A B) (hab : (isL n a && isL n b) = false) :
    Calls Try.prog 28 #[.pointer (some ⟨g, 0, none⟩), .int .i64 a, .int .i64 b] w fun e w' => e = .returned (.tuple #[.int .i64 0, .int .i64 3]) ∧ w = w' := by
  cases ha : isL n a
  · have Ha := Lib.hid ha
    clear ha hab
    go_enter Try.func28, Try.ntmps28
    go_wp2_with fail
    refine (has_any _ _ h).mono ?_
    rintro e w' ⟨rfl, rfl⟩
    rw [Ha.out]
    go_wp2_with fail
    go_ret2
    exact ⟨rfl, rfl⟩
  · have Hb := Lib.hid (show isL n b = false by simpa [ha] using hab)
    have Ha := Lib.hid ha
    clear ha hab
    go_enter Try.func28, Try.ntmps28
    go_wp2_with fail
    refine (has_any _ _ h).mono ?_
    rintro e w' ⟨rfl, rfl⟩
    rw [Ha.out]
    go_wp2_with fail
    refine (has_any _ _ h).mono ?_
    rintro e w' ⟨rfl, rfl⟩
    rw [Hb.out]
    go_wp2_with fail
    go_ret2
    exact ⟨rfl, rfl⟩
theorem Meet_no {g n : Nat} {A B : Nat → Nat} (a b : Int) (w : World) (h : Lat w g n A B) (hab : (isL n a && isL n b) = false) :
    Calls Try.prog 30 #[.pointer (some ⟨g, 0, none⟩), .int .i64 a, .int .i64 b] w fun e w' => e = .returned (.tuple #[.int .i64 0, .int .i64 3]) ∧ w = w' := by
  cases ha : isL n a
  · have Ha := Lib.hid ha
    clear ha hab
    go_enter Try.func30, Try.ntmps30
    go_wp2_with fail
    refine (has_any _ _ h).mono ?_
    rintro e w' ⟨rfl, rfl⟩
    rw [Ha.out]
    go_wp2_with fail
    go_ret2
    exact ⟨rfl, rfl⟩
  · have Hb := Lib.hid (show isL n b = false by simpa [ha] using hab)
    have Ha := Lib.hid ha
    clear ha hab
    go_enter Try.func30, Try.ntmps30
    go_wp2_with fail
    refine (has_any _ _ h).mono ?_
    rintro e w' ⟨rfl, rfl⟩
    rw [Ha.out]
    go_wp2_with fail
    refine (has_any _ _ h).mono ?_
    rintro e w' ⟨rfl, rfl⟩
    rw [Hb.out]
    go_wp2_with fail
    go_ret2
    exact ⟨rfl, rfl⟩

/-- The join that is found (0 where there is none). -/
def jn (n : Nat) (A : Nat → Nat) (a b : Nat) : Nat := (fnd n A (A a &&& A b)).getD 0

theorem Join_yes {g n : Nat} {A B : Nat → Nat} (a b : Int) (w : World) (h : Lat w g n A B) (ha : isL n a = true) (hb : isL n b = true) :
    Calls Try.prog 28 #[.pointer (some ⟨g, 0, none⟩), .int .i64 a, .int .i64 b] w fun e w' => e = .returned (.tuple #[.int .i64 (jn n A a.toNat b.toNat), .int .i64 0]) ∧ Below w.heap.size w w' := by
  obtain ⟨ha0, ha1⟩ := isL_iff.1 ha
  obtain ⟨hb0, hb1⟩ := isL_iff.1 hb
  have Ha := Lib.hid ha
  have Hb := Lib.hid hb
  clear ha hb
  go_enter Try.func28, Try.ntmps28
  go_wp2_with fail
  refine (has_any _ _ h).mono ?_
  rintro e w' ⟨rfl, rfl⟩
  rw [Ha.out]
  go_wp2_with fail
  refine (has_any _ _ h).mono ?_
  rintro e w' ⟨rfl, rfl⟩
  rw [Hb.out]
  go_wp2_with fail
  refine (join_any a b _ h ha0 ha1 hb0 hb1).mono ?_
  rintro e w1 ⟨rfl, hbw⟩
  unfold fndV
  go_wp2_with fail
  go_ret2
  exact ⟨rfl, hbw⟩
theorem Meet_yes {g n : Nat} {A B : Nat → Nat} (a b : Int) (w : World) (h : Lat w g n A B) (ha : isL n a = true) (hb : isL n b = true) :
    Calls Try.prog 30 #[.pointer (some ⟨g, 0, none⟩), .int .i64 a, .int .i64 b] w fun e w' => e = .returned (.tuple #[.int .i64 (jn n B a.toNat b.toNat), .int .i64 0]) ∧ Below w.heap.size w w' := by
  obtain ⟨ha0, ha1⟩ := isL_iff.1 ha
  obtain ⟨hb0, hb1⟩ := isL_iff.1 hb
  have Ha := Lib.hid ha
  have Hb := Lib.hid hb
  clear ha hb
  go_enter Try.func30, Try.ntmps30
  go_wp2_with fail
  refine (has_any _ _ h).mono ?_
  rintro e w' ⟨rfl, rfl⟩
  rw [Ha.out]
  go_wp2_with fail
  refine (has_any _ _ h).mono ?_
  rintro e w' ⟨rfl, rfl⟩
  rw [Hb.out]
  go_wp2_with fail
  refine (meet_any a b _ h ha0 ha1 hb0 hb1).mono ?_
  rintro e w1 ⟨rfl, hbw⟩
  unfold fndV
  go_wp2_with fail
  go_ret2
  exact ⟨rfl, hbw⟩
end Go.Proofs.Ytmnbalmihehodaa

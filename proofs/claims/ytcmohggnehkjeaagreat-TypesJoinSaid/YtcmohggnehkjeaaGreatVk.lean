/-
  Contracts of basculeref04's zero, right.
-/
import Derived.Test.YtcmohggnehkjeaaGreatVc
import Derived.Test.YtcmohggnehkjeaaGreatVn
import Derived.Test.YtcmohggnehkjeaaGreatRefF
namespace Go.Proofs.YtcmohggnehkjeaaGreat
open Go.RowKit

def zeroB (f : Nat) : Bool := decide (canonW f = canonW 0)
theorem zero_at {k n : Int} {f : Nat} {s : ByteArray} {A : Option Addr} {c ca : Nat} {B : Option Addr} {m cb : Nat} (w : World) :
    Calls Tryz.prog 113 #[.agg (fields k n f s A c ca B m cb)] w fun e w' => e = .returned (.bool (zeroB f)) ∧ Below w.heap.size w w' := by
  have S := Same_any f 0
  have hb : Below w.heap.size w (w.alloc (.cells (fields k n f s A c ca B m cb) 38)) := (Below.refl _ _).alloc (Nat.le_refl _) _
  unfold fields at *
  unfold zeroB
  go_enter Tryz.func113, Tryz.ntmps113
  go_wp2_with (go_at_call 140; refine (S _).mono ?_; rintro e w' ⟨rfl, rfl⟩)
  go_ret
  exact ⟨rfl, hb⟩
/-- The six cells of a box stay. -/
theorem box_stays {w : World} {a0 a1 a2 a3 a4 a5 : Value} {t : TypeId} : Hid (∀ w', Below (w.alloc (.cells #[a0, a1, a2, a3, a4, a5] t)).heap.size (w.alloc (.cells #[a0, a1, a2, a3, a4, a5] t)) w' →
    w'.cell? ⟨w.heap.size, 0, none⟩ = some a0 ∧ w'.cell? ⟨w.heap.size, 1, none⟩ = some a1 ∧ w'.cell? ⟨w.heap.size, 2, none⟩ = some a2 ∧ w'.cell? ⟨w.heap.size, 3, none⟩ = some a3 ∧ w'.cell? ⟨w.heap.size, 4, none⟩ = some a4 ∧ w'.cell? ⟨w.heap.size, 5, none⟩ = some a5) := Lib.hid fun w' hb => by
  have K := fun o => hb.cell (p := ⟨w.heap.size, o, none⟩) (by simp)
  refine ⟨?_, ?_, ?_, ?_, ?_, ?_⟩ <;> (rw [K, World.cell?_alloc_new]; rfl)

def emptyB (s : ByteArray) : Bool := s.toList.isEmpty
/-- The plain fields of a value of the first four kinds, or of none. -/
def plainB (k n : Int) (f : Nat) (s : ByteArray) (c m : Nat) : Bool :=
  if k = 1 then decide (m = 0) && (decide (c = 0) && (zeroB f && (emptyB s && (decide (n = 0) || decide (n = 1)))))
  else if k = 2 then decide (m = 0) && (decide (c = 0) && (zeroB f && emptyB s))
  else if k = 3 then decide (m = 0) && (decide (c = 0) && (decide (n = 0) && emptyB s))
  else if k = 4 then decide (m = 0) && (decide (c = 0) && (zeroB f && (decide (n = 0) && decide (s.size ≤ 200))))
  else false
set_option maxHeartbeats 2000000 in
theorem right_1 {n : Int} {f : Nat} {s : ByteArray} {A : Option Addr} {c ca : Nat} {B : Option Addr} {m cb : Nat} {w : World} {far : Int} (h0 : 1 ≤ far) :
    Calls Tryz.prog 75 #[.agg (fields 1 n f s A c ca B m cb), .int .i64 far] w fun e w' => e = .returned (.bool (plainB 1 n f s c m)) ∧ Below w.heap.size w w' := by
  have hbW : Below w.heap.size w (w.alloc (.cells (fields 1 n f s A c ca B m cb) 38)) := (Below.refl _ _).alloc (Nat.le_refl _) _
  have Z := fun w => zero_at (k := 1) (n := n) (f := f) (s := s) (A := A) (c := c) (ca := ca) (B := B) (m := m) (cb := cb) w
  unfold fields at *
  have HK := box_stays (w := w) (a0 := .int .i64 1) (a1 := .int .i64 n) (a2 := .float .f64 f) (a3 := .string s) (a4 := .slice A c ca) (a5 := .slice B m cb) (t := 38)
  by_cases hm : m = 0
  · skip
    by_cases hc : c = 0
    · skip
      by_cases hz : zeroB f = true
      · skip
        by_cases hs : emptyB s = true
        · skip
          by_cases hn : n = 0
          · skip
            have R : Hid (plainB 1 n f s c m = true) := Lib.hid (by unfold plainB; simp [hm, hc, hz, hs, hn])
            have tm : ((m : Int) == 0) = true := by simp; omega
            have tc : ((c : Int) == 0) = true := by simp; omega
            have td : decide ((0 : Int) < (c : Int)) = false := by simp; omega
            have te : decide (0 < c) = false := by simp; omega
            rw [hz] at Z
            have ts : s.toList.isEmpty = true := hs
            have tn : (n == 0) = true := by simpa using hn
            clear hm hc hz hs hn
            go_enter Tryz.func75, Tryz.ntmps75
            go_wp2_with (first | (go_at_call 113; refine (Z _).mono ?_; rintro e w1 ⟨rfl, hb1⟩; obtain ⟨q0, q1, q2, q3, q4, q5⟩ := HK.out w1 hb1))
            go_ret
            exact ⟨by rw [R.out]; rfl, by first | exact hbW.trans (hb1.mono hbW.size) | exact hbW⟩
          · skip
            by_cases ho : n = 1
            · skip
              have R : Hid (plainB 1 n f s c m = true) := Lib.hid (by unfold plainB; simp [hm, hc, hz, hs, ho])
              have tm : ((m : Int) == 0) = true := by simp; omega
              have tc : ((c : Int) == 0) = true := by simp; omega
              have td : decide ((0 : Int) < (c : Int)) = false := by simp; omega
              have te : decide (0 < c) = false := by simp; omega
              rw [hz] at Z
              have ts : s.toList.isEmpty = true := hs
              have tn : (n == 0) = false := by simpa using hn
              have to : (n == 1) = true := by simpa using ho
              clear hm hc hz hs hn ho
              go_enter Tryz.func75, Tryz.ntmps75
              go_wp2_with (first | (go_at_call 113; refine (Z _).mono ?_; rintro e w1 ⟨rfl, hb1⟩; obtain ⟨q0, q1, q2, q3, q4, q5⟩ := HK.out w1 hb1))
              go_ret
              exact ⟨by rw [R.out]; rfl, by first | exact hbW.trans (hb1.mono hbW.size) | exact hbW⟩
            · skip
              have R : Hid (plainB 1 n f s c m = false) := Lib.hid (by unfold plainB; simp [hm, hc, hz, hs, hn, ho])
              have tm : ((m : Int) == 0) = true := by simp; omega
              have tc : ((c : Int) == 0) = true := by simp; omega
              have td : decide ((0 : Int) < (c : Int)) = false := by simp; omega
              have te : decide (0 < c) = false := by simp; omega
              rw [hz] at Z
              have ts : s.toList.isEmpty = true := hs
              have tn : (n == 0) = false := by simpa using hn
              have to : (n == 1) = false := by simpa using ho
              clear hm hc hz hs hn ho
              go_enter Tryz.func75, Tryz.ntmps75
              go_wp2_with (first | (go_at_call 113; refine (Z _).mono ?_; rintro e w1 ⟨rfl, hb1⟩; obtain ⟨q0, q1, q2, q3, q4, q5⟩ := HK.out w1 hb1))
              go_ret
              exact ⟨by rw [R.out]; rfl, by first | exact hbW.trans (hb1.mono hbW.size) | exact hbW⟩
        · skip
          have R : Hid (plainB 1 n f s c m = false) := Lib.hid (by unfold plainB; simp [hm, hc, hz, hs])
          have tm : ((m : Int) == 0) = true := by simp; omega
          have tc : ((c : Int) == 0) = true := by simp; omega
          have td : decide ((0 : Int) < (c : Int)) = false := by simp; omega
          have te : decide (0 < c) = false := by simp; omega
          rw [hz] at Z
          have ts : s.toList.isEmpty = false := by unfold emptyB at hs; simpa using hs
          clear hm hc hz hs
          go_enter Tryz.func75, Tryz.ntmps75
          go_wp2_with (first | (go_at_call 113; refine (Z _).mono ?_; rintro e w1 ⟨rfl, hb1⟩; obtain ⟨q0, q1, q2, q3, q4, q5⟩ := HK.out w1 hb1))
          go_ret
          exact ⟨by rw [R.out]; rfl, by first | exact hbW.trans (hb1.mono hbW.size) | exact hbW⟩
      · skip
        have R : Hid (plainB 1 n f s c m = false) := Lib.hid (by unfold plainB; simp [hm, hc, hz])
        have tm : ((m : Int) == 0) = true := by simp; omega
        have tc : ((c : Int) == 0) = true := by simp; omega
        have td : decide ((0 : Int) < (c : Int)) = false := by simp; omega
        have te : decide (0 < c) = false := by simp; omega
        rw [show zeroB f = false by simpa using hz] at Z
        clear hm hc hz
        go_enter Tryz.func75, Tryz.ntmps75
        go_wp2_with (first | (go_at_call 113; refine (Z _).mono ?_; rintro e w1 ⟨rfl, hb1⟩; obtain ⟨q0, q1, q2, q3, q4, q5⟩ := HK.out w1 hb1))
        go_ret
        exact ⟨by rw [R.out]; rfl, by first | exact hbW.trans (hb1.mono hbW.size) | exact hbW⟩
    · skip
      have R : Hid (plainB 1 n f s c m = false) := Lib.hid (by unfold plainB; simp [hm, hc])
      have tm : ((m : Int) == 0) = true := by simp; omega
      have tc : ((c : Int) == 0) = false := by simp; omega
      have td : decide ((0 : Int) < (c : Int)) = true := by simp; omega
      have te : decide (0 < c) = true := by simp; omega
      clear hm hc
      go_enter Tryz.func75, Tryz.ntmps75
      go_wp2_with (first | (go_at_call 113; refine (Z _).mono ?_; rintro e w1 ⟨rfl, hb1⟩; obtain ⟨q0, q1, q2, q3, q4, q5⟩ := HK.out w1 hb1))
      go_ret
      exact ⟨by rw [R.out]; rfl, by first | exact hbW.trans (hb1.mono hbW.size) | exact hbW⟩
  · skip
    have R : Hid (plainB 1 n f s c m = false) := Lib.hid (by unfold plainB; simp [hm])
    have tm : ((m : Int) == 0) = false := by simp; omega
    clear hm
    go_enter Tryz.func75, Tryz.ntmps75
    go_wp2_with (first | (go_at_call 113; refine (Z _).mono ?_; rintro e w1 ⟨rfl, hb1⟩; obtain ⟨q0, q1, q2, q3, q4, q5⟩ := HK.out w1 hb1))
    go_ret
    exact ⟨by rw [R.out]; rfl, by first | exact hbW.trans (hb1.mono hbW.size) | exact hbW⟩
set_option maxHeartbeats 2000000 in
theorem right_2 {n : Int} {f : Nat} {s : ByteArray} {A : Option Addr} {c ca : Nat} {B : Option Addr} {m cb : Nat} {w : World} {far : Int} (h0 : 1 ≤ far) :
    Calls Tryz.prog 75 #[.agg (fields 2 n f s A c ca B m cb), .int .i64 far] w fun e w' => e = .returned (.bool (plainB 2 n f s c m)) ∧ Below w.heap.size w w' := by
  have hbW : Below w.heap.size w (w.alloc (.cells (fields 2 n f s A c ca B m cb) 38)) := (Below.refl _ _).alloc (Nat.le_refl _) _
  have Z := fun w => zero_at (k := 2) (n := n) (f := f) (s := s) (A := A) (c := c) (ca := ca) (B := B) (m := m) (cb := cb) w
  unfold fields at *
  have HK := box_stays (w := w) (a0 := .int .i64 2) (a1 := .int .i64 n) (a2 := .float .f64 f) (a3 := .string s) (a4 := .slice A c ca) (a5 := .slice B m cb) (t := 38)
  by_cases hm : m = 0
  · skip
    by_cases hc : c = 0
    · skip
      by_cases hz : zeroB f = true
      · skip
        by_cases hs : emptyB s = true
        · skip
          have R : Hid (plainB 2 n f s c m = true) := Lib.hid (by unfold plainB; simp [hm, hc, hz, hs])
          have tm : ((m : Int) == 0) = true := by simp; omega
          have tc : ((c : Int) == 0) = true := by simp; omega
          have td : decide ((0 : Int) < (c : Int)) = false := by simp; omega
          have te : decide (0 < c) = false := by simp; omega
          rw [hz] at Z
          have ts : s.toList.isEmpty = true := hs
          clear hm hc hz hs
          go_enter Tryz.func75, Tryz.ntmps75
          go_wp2_with (first | (go_at_call 113; refine (Z _).mono ?_; rintro e w1 ⟨rfl, hb1⟩; obtain ⟨q0, q1, q2, q3, q4, q5⟩ := HK.out w1 hb1))
          go_ret
          exact ⟨by rw [R.out]; rfl, by first | exact hbW.trans (hb1.mono hbW.size) | exact hbW⟩
        · skip
          have R : Hid (plainB 2 n f s c m = false) := Lib.hid (by unfold plainB; simp [hm, hc, hz, hs])
          have tm : ((m : Int) == 0) = true := by simp; omega
          have tc : ((c : Int) == 0) = true := by simp; omega
          have td : decide ((0 : Int) < (c : Int)) = false := by simp; omega
          have te : decide (0 < c) = false := by simp; omega
          rw [hz] at Z
          have ts : s.toList.isEmpty = false := by unfold emptyB at hs; simpa using hs
          clear hm hc hz hs
          go_enter Tryz.func75, Tryz.ntmps75
          go_wp2_with (first | (go_at_call 113; refine (Z _).mono ?_; rintro e w1 ⟨rfl, hb1⟩; obtain ⟨q0, q1, q2, q3, q4, q5⟩ := HK.out w1 hb1))
          go_ret
          exact ⟨by rw [R.out]; rfl, by first | exact hbW.trans (hb1.mono hbW.size) | exact hbW⟩
      · skip
        have R : Hid (plainB 2 n f s c m = false) := Lib.hid (by unfold plainB; simp [hm, hc, hz])
        have tm : ((m : Int) == 0) = true := by simp; omega
        have tc : ((c : Int) == 0) = true := by simp; omega
        have td : decide ((0 : Int) < (c : Int)) = false := by simp; omega
        have te : decide (0 < c) = false := by simp; omega
        rw [show zeroB f = false by simpa using hz] at Z
        clear hm hc hz
        go_enter Tryz.func75, Tryz.ntmps75
        go_wp2_with (first | (go_at_call 113; refine (Z _).mono ?_; rintro e w1 ⟨rfl, hb1⟩; obtain ⟨q0, q1, q2, q3, q4, q5⟩ := HK.out w1 hb1))
        go_ret
        exact ⟨by rw [R.out]; rfl, by first | exact hbW.trans (hb1.mono hbW.size) | exact hbW⟩
    · skip
      have R : Hid (plainB 2 n f s c m = false) := Lib.hid (by unfold plainB; simp [hm, hc])
      have tm : ((m : Int) == 0) = true := by simp; omega
      have tc : ((c : Int) == 0) = false := by simp; omega
      have td : decide ((0 : Int) < (c : Int)) = true := by simp; omega
      have te : decide (0 < c) = true := by simp; omega
      clear hm hc
      go_enter Tryz.func75, Tryz.ntmps75
      go_wp2_with (first | (go_at_call 113; refine (Z _).mono ?_; rintro e w1 ⟨rfl, hb1⟩; obtain ⟨q0, q1, q2, q3, q4, q5⟩ := HK.out w1 hb1))
      go_ret
      exact ⟨by rw [R.out]; rfl, by first | exact hbW.trans (hb1.mono hbW.size) | exact hbW⟩
  · skip
    have R : Hid (plainB 2 n f s c m = false) := Lib.hid (by unfold plainB; simp [hm])
    have tm : ((m : Int) == 0) = false := by simp; omega
    clear hm
    go_enter Tryz.func75, Tryz.ntmps75
    go_wp2_with (first | (go_at_call 113; refine (Z _).mono ?_; rintro e w1 ⟨rfl, hb1⟩; obtain ⟨q0, q1, q2, q3, q4, q5⟩ := HK.out w1 hb1))
    go_ret
    exact ⟨by rw [R.out]; rfl, by first | exact hbW.trans (hb1.mono hbW.size) | exact hbW⟩
set_option maxHeartbeats 2000000 in
theorem right_3 {n : Int} {f : Nat} {s : ByteArray} {A : Option Addr} {c ca : Nat} {B : Option Addr} {m cb : Nat} {w : World} {far : Int} (h0 : 1 ≤ far) :
    Calls Tryz.prog 75 #[.agg (fields 3 n f s A c ca B m cb), .int .i64 far] w fun e w' => e = .returned (.bool (plainB 3 n f s c m)) ∧ Below w.heap.size w w' := by
  have hbW : Below w.heap.size w (w.alloc (.cells (fields 3 n f s A c ca B m cb) 38)) := (Below.refl _ _).alloc (Nat.le_refl _) _
  have Z := fun w => zero_at (k := 3) (n := n) (f := f) (s := s) (A := A) (c := c) (ca := ca) (B := B) (m := m) (cb := cb) w
  unfold fields at *
  have HK := box_stays (w := w) (a0 := .int .i64 3) (a1 := .int .i64 n) (a2 := .float .f64 f) (a3 := .string s) (a4 := .slice A c ca) (a5 := .slice B m cb) (t := 38)
  by_cases hm : m = 0
  · skip
    by_cases hc : c = 0
    · skip
      by_cases hn : n = 0
      · skip
        by_cases hs : emptyB s = true
        · skip
          have R : Hid (plainB 3 n f s c m = true) := Lib.hid (by unfold plainB; simp [hm, hc, hn, hs])
          have tm : ((m : Int) == 0) = true := by simp; omega
          have tc : ((c : Int) == 0) = true := by simp; omega
          have td : decide ((0 : Int) < (c : Int)) = false := by simp; omega
          have te : decide (0 < c) = false := by simp; omega
          have tn : (n == 0) = true := by simpa using hn
          have ts : s.toList.isEmpty = true := hs
          clear hm hc hn hs
          go_enter Tryz.func75, Tryz.ntmps75
          go_wp2_with (first | (go_at_call 113; refine (Z _).mono ?_; rintro e w1 ⟨rfl, hb1⟩; obtain ⟨q0, q1, q2, q3, q4, q5⟩ := HK.out w1 hb1))
          go_ret
          exact ⟨by rw [R.out]; rfl, by first | exact hbW.trans (hb1.mono hbW.size) | exact hbW⟩
        · skip
          have R : Hid (plainB 3 n f s c m = false) := Lib.hid (by unfold plainB; simp [hm, hc, hn, hs])
          have tm : ((m : Int) == 0) = true := by simp; omega
          have tc : ((c : Int) == 0) = true := by simp; omega
          have td : decide ((0 : Int) < (c : Int)) = false := by simp; omega
          have te : decide (0 < c) = false := by simp; omega
          have tn : (n == 0) = true := by simpa using hn
          have ts : s.toList.isEmpty = false := by unfold emptyB at hs; simpa using hs
          clear hm hc hn hs
          go_enter Tryz.func75, Tryz.ntmps75
          go_wp2_with (first | (go_at_call 113; refine (Z _).mono ?_; rintro e w1 ⟨rfl, hb1⟩; obtain ⟨q0, q1, q2, q3, q4, q5⟩ := HK.out w1 hb1))
          go_ret
          exact ⟨by rw [R.out]; rfl, by first | exact hbW.trans (hb1.mono hbW.size) | exact hbW⟩
      · skip
        have R : Hid (plainB 3 n f s c m = false) := Lib.hid (by unfold plainB; simp [hm, hc, hn])
        have tm : ((m : Int) == 0) = true := by simp; omega
        have tc : ((c : Int) == 0) = true := by simp; omega
        have td : decide ((0 : Int) < (c : Int)) = false := by simp; omega
        have te : decide (0 < c) = false := by simp; omega
        have tn : (n == 0) = false := by simpa using hn
        clear hm hc hn
        go_enter Tryz.func75, Tryz.ntmps75
        go_wp2_with (first | (go_at_call 113; refine (Z _).mono ?_; rintro e w1 ⟨rfl, hb1⟩; obtain ⟨q0, q1, q2, q3, q4, q5⟩ := HK.out w1 hb1))
        go_ret
        exact ⟨by rw [R.out]; rfl, by first | exact hbW.trans (hb1.mono hbW.size) | exact hbW⟩
    · skip
      have R : Hid (plainB 3 n f s c m = false) := Lib.hid (by unfold plainB; simp [hm, hc])
      have tm : ((m : Int) == 0) = true := by simp; omega
      have tc : ((c : Int) == 0) = false := by simp; omega
      have td : decide ((0 : Int) < (c : Int)) = true := by simp; omega
      have te : decide (0 < c) = true := by simp; omega
      clear hm hc
      go_enter Tryz.func75, Tryz.ntmps75
      go_wp2_with (first | (go_at_call 113; refine (Z _).mono ?_; rintro e w1 ⟨rfl, hb1⟩; obtain ⟨q0, q1, q2, q3, q4, q5⟩ := HK.out w1 hb1))
      go_ret
      exact ⟨by rw [R.out]; rfl, by first | exact hbW.trans (hb1.mono hbW.size) | exact hbW⟩
  · skip
    have R : Hid (plainB 3 n f s c m = false) := Lib.hid (by unfold plainB; simp [hm])
    have tm : ((m : Int) == 0) = false := by simp; omega
    clear hm
    go_enter Tryz.func75, Tryz.ntmps75
    go_wp2_with (first | (go_at_call 113; refine (Z _).mono ?_; rintro e w1 ⟨rfl, hb1⟩; obtain ⟨q0, q1, q2, q3, q4, q5⟩ := HK.out w1 hb1))
    go_ret
    exact ⟨by rw [R.out]; rfl, by first | exact hbW.trans (hb1.mono hbW.size) | exact hbW⟩
set_option maxHeartbeats 2000000 in
theorem right_4 {n : Int} {f : Nat} {s : ByteArray} {A : Option Addr} {c ca : Nat} {B : Option Addr} {m cb : Nat} {w : World} {far : Int} (h0 : 1 ≤ far) :
    Calls Tryz.prog 75 #[.agg (fields 4 n f s A c ca B m cb), .int .i64 far] w fun e w' => e = .returned (.bool (plainB 4 n f s c m)) ∧ Below w.heap.size w w' := by
  have hbW : Below w.heap.size w (w.alloc (.cells (fields 4 n f s A c ca B m cb) 38)) := (Below.refl _ _).alloc (Nat.le_refl _) _
  have Z := fun w => zero_at (k := 4) (n := n) (f := f) (s := s) (A := A) (c := c) (ca := ca) (B := B) (m := m) (cb := cb) w
  unfold fields at *
  have HK := box_stays (w := w) (a0 := .int .i64 4) (a1 := .int .i64 n) (a2 := .float .f64 f) (a3 := .string s) (a4 := .slice A c ca) (a5 := .slice B m cb) (t := 38)
  by_cases hm : m = 0
  · skip
    by_cases hc : c = 0
    · skip
      by_cases hz : zeroB f = true
      · skip
        by_cases hn : n = 0
        · skip
          by_cases hl : s.size ≤ 200
          · skip
            have R : Hid (plainB 4 n f s c m = true) := Lib.hid (by unfold plainB; simp [hm, hc, hz, hn, hl])
            have tm : ((m : Int) == 0) = true := by simp; omega
            have tc : ((c : Int) == 0) = true := by simp; omega
            have td : decide ((0 : Int) < (c : Int)) = false := by simp; omega
            have te : decide (0 < c) = false := by simp; omega
            rw [hz] at Z
            have tn : (n == 0) = true := by simpa using hn
            have tl : decide ((s.size : Int) ≤ 200) = true := by simp; omega
            clear hm hc hz hn hl
            go_enter Tryz.func75, Tryz.ntmps75
            go_wp2_with (first | (go_at_call 113; refine (Z _).mono ?_; rintro e w1 ⟨rfl, hb1⟩; obtain ⟨q0, q1, q2, q3, q4, q5⟩ := HK.out w1 hb1))
            go_ret
            exact ⟨by rw [R.out]; rfl, by first | exact hbW.trans (hb1.mono hbW.size) | exact hbW⟩
          · skip
            have R : Hid (plainB 4 n f s c m = false) := Lib.hid (by unfold plainB; simp [hm, hc, hz, hn, hl])
            have tm : ((m : Int) == 0) = true := by simp; omega
            have tc : ((c : Int) == 0) = true := by simp; omega
            have td : decide ((0 : Int) < (c : Int)) = false := by simp; omega
            have te : decide (0 < c) = false := by simp; omega
            rw [hz] at Z
            have tn : (n == 0) = true := by simpa using hn
            have tl : decide ((s.size : Int) ≤ 200) = false := by simp; omega
            clear hm hc hz hn hl
            go_enter Tryz.func75, Tryz.ntmps75
            go_wp2_with (first | (go_at_call 113; refine (Z _).mono ?_; rintro e w1 ⟨rfl, hb1⟩; obtain ⟨q0, q1, q2, q3, q4, q5⟩ := HK.out w1 hb1))
            go_ret
            exact ⟨by rw [R.out]; rfl, by first | exact hbW.trans (hb1.mono hbW.size) | exact hbW⟩
        · skip
          have R : Hid (plainB 4 n f s c m = false) := Lib.hid (by unfold plainB; simp [hm, hc, hz, hn])
          have tm : ((m : Int) == 0) = true := by simp; omega
          have tc : ((c : Int) == 0) = true := by simp; omega
          have td : decide ((0 : Int) < (c : Int)) = false := by simp; omega
          have te : decide (0 < c) = false := by simp; omega
          rw [hz] at Z
          have tn : (n == 0) = false := by simpa using hn
          clear hm hc hz hn
          go_enter Tryz.func75, Tryz.ntmps75
          go_wp2_with (first | (go_at_call 113; refine (Z _).mono ?_; rintro e w1 ⟨rfl, hb1⟩; obtain ⟨q0, q1, q2, q3, q4, q5⟩ := HK.out w1 hb1))
          go_ret
          exact ⟨by rw [R.out]; rfl, by first | exact hbW.trans (hb1.mono hbW.size) | exact hbW⟩
      · skip
        have R : Hid (plainB 4 n f s c m = false) := Lib.hid (by unfold plainB; simp [hm, hc, hz])
        have tm : ((m : Int) == 0) = true := by simp; omega
        have tc : ((c : Int) == 0) = true := by simp; omega
        have td : decide ((0 : Int) < (c : Int)) = false := by simp; omega
        have te : decide (0 < c) = false := by simp; omega
        rw [show zeroB f = false by simpa using hz] at Z
        clear hm hc hz
        go_enter Tryz.func75, Tryz.ntmps75
        go_wp2_with (first | (go_at_call 113; refine (Z _).mono ?_; rintro e w1 ⟨rfl, hb1⟩; obtain ⟨q0, q1, q2, q3, q4, q5⟩ := HK.out w1 hb1))
        go_ret
        exact ⟨by rw [R.out]; rfl, by first | exact hbW.trans (hb1.mono hbW.size) | exact hbW⟩
    · skip
      have R : Hid (plainB 4 n f s c m = false) := Lib.hid (by unfold plainB; simp [hm, hc])
      have tm : ((m : Int) == 0) = true := by simp; omega
      have tc : ((c : Int) == 0) = false := by simp; omega
      have td : decide ((0 : Int) < (c : Int)) = true := by simp; omega
      have te : decide (0 < c) = true := by simp; omega
      clear hm hc
      go_enter Tryz.func75, Tryz.ntmps75
      go_wp2_with (first | (go_at_call 113; refine (Z _).mono ?_; rintro e w1 ⟨rfl, hb1⟩; obtain ⟨q0, q1, q2, q3, q4, q5⟩ := HK.out w1 hb1))
      go_ret
      exact ⟨by rw [R.out]; rfl, by first | exact hbW.trans (hb1.mono hbW.size) | exact hbW⟩
  · skip
    have R : Hid (plainB 4 n f s c m = false) := Lib.hid (by unfold plainB; simp [hm])
    have tm : ((m : Int) == 0) = false := by simp; omega
    clear hm
    go_enter Tryz.func75, Tryz.ntmps75
    go_wp2_with (first | (go_at_call 113; refine (Z _).mono ?_; rintro e w1 ⟨rfl, hb1⟩; obtain ⟨q0, q1, q2, q3, q4, q5⟩ := HK.out w1 hb1))
    go_ret
    exact ⟨by rw [R.out]; rfl, by first | exact hbW.trans (hb1.mono hbW.size) | exact hbW⟩

theorem strs_keep {w w' : World} {lim : Nat} {A : Option Addr} {c : Nat} {ns : Nat → ByteArray} (h : Strs w lim A c ns) (hb : Below lim w w') : Strs w' lim A c ns := fun h0 => by
  obtain ⟨g, o, e, hg, hx⟩ := h h0
  exact ⟨g, o, e, hg, fun i hi => ⟨(hb.cell (p := ⟨g, o + i, none⟩) hg).trans (hx i hi).1, (hx i hi).2⟩⟩
/-- What stands ahead of the items of a list, or of a record. -/
def headB (k n : Int) (f : Nat) (s : ByteArray) (c : Nat) (ns : Nat → ByteArray) (m : Nat) : Bool :=
  zeroB f && (decide (n = 0) && (emptyB s && (if k = 5 then decide (c = 0) else riseB c ns && ((c : Int) == (m : Int)))))
def rightV : VT → Int → Bool
  | .bad, _ => false
  | .mk k n f s c ns m xs, far => decide (1 ≤ far) && (if k = 5 ∨ k = 6 then headB k n f s c ns m && (List.range m).all (fun i => rightV (xs i) (far - 1)) else plainB k n f s c m)
theorem right_far {k n : Int} {f : Nat} {s : ByteArray} {A : Option Addr} {c ca : Nat} {B : Option Addr} {m cb : Nat} {w : World} {far : Int} (h0 : ¬ 1 ≤ far) :
    Calls Tryz.prog 75 #[.agg (fields k n f s A c ca B m cb), .int .i64 far] w fun e w' => e = .returned (.bool false) ∧ Below w.heap.size w w' := by
  have hbW : ∀ o, Below w.heap.size w (w.alloc o) := fun o => (Below.refl _ _).alloc (Nat.le_refl _) _
  unfold fields at *
  go_enter Tryz.func75, Tryz.ntmps75
  go_wp2
  all_goals (go_ret; exact ⟨rfl, hbW _⟩)
theorem right_none {k n : Int} {f : Nat} {s : ByteArray} {A : Option Addr} {c ca : Nat} {B : Option Addr} {m cb : Nat} {w : World} {far : Int} (h0 : 1 ≤ far) (hk : k ≠ 1 ∧ k ≠ 2 ∧ k ≠ 3 ∧ k ≠ 4 ∧ k ≠ 5 ∧ k ≠ 6) :
    Calls Tryz.prog 75 #[.agg (fields k n f s A c ca B m cb), .int .i64 far] w fun e w' => e = .returned (.bool false) ∧ Below w.heap.size w w' := by
  have hbW : ∀ o, Below w.heap.size w (w.alloc o) := fun o => (Below.refl _ _).alloc (Nat.le_refl _) _
  have t1 : (k == 1) = false := by simpa using hk.1
  have t2 : (k == 2) = false := by simpa using hk.2.1
  have t3 : (k == 3) = false := by simpa using hk.2.2.1
  have t4 : (k == 4) = false := by simpa using hk.2.2.2.1
  have t5 : (k == 5) = false := by simpa using hk.2.2.2.2.1
  have t6 : (k == 6) = false := by simpa using hk.2.2.2.2.2
  clear hk
  unfold fields at *
  go_enter Tryz.func75, Tryz.ntmps75
  go_wp2
  all_goals (go_ret; exact ⟨rfl, hbW _⟩)
end Go.Proofs.YtcmohggnehkjeaaGreat

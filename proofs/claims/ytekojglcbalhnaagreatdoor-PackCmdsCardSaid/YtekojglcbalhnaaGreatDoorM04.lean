/-
  Contracts of basculeref03's small functions: what is no number, the canonical one, the order.
  Contracts of basculeref04's zero, right.
-/
import Derived.Test.YtekojglcbalhnaaGreatDoorChecked
import Derived.Test.YtekojglcbalhnaaGreatDoorM03
import Derived.WalkKit
import Derived.WalkLawsBesides
import Derived.Laws.Externs
import Derived.Lib.EndianBits
import Derived.Lib.Hide
import Derived.Outline
import Derived.Test.YtekojglcbalhnaaGreatDoorM02
import Derived.Test.YtekojglcbalhnaaGreatDoorM01
namespace Go.Proofs.YtekojglcbalhnaaGreatDoor
open Go.RowKit

theorem bits_run (b : Nat) (w : World) : (callFunc 103 #[.float .f64 b]).run Tryz.prog w = .ok (.value (.int .u64 (b : Int))) w := by
  rw [run_callFunc_extern Tryz.func103 (by kernel_rfl) (by kernel_rfl) (by kernel_rfl) (e := Extern.MathFloatBits.float64bits) (by kernel_rfl)]; rfl
theorem float_run (n : Int) (w : World) : (callFunc 138 #[.int .u64 n]).run Tryz.prog w = .ok (.value (.float .f64 n.toNat)) w := by
  rw [run_callFunc_extern Tryz.func138 (by kernel_rfl) (by kernel_rfl) (by kernel_rfl) (e := Extern.MathFloatBits.float64frombits) (by kernel_rfl)]; rfl

def nanB (b : Nat) : Bool := decide (9218868437227405312 < rung b)
theorem nanB_shl (b : Nat) : decide ((18437736874454810624 : Int) < IntKind.u64.wrap ((b : Int) * 2)) = nanB b := by
  rw [IntKind.wrap_u64]; unfold nanB rung; rw [decide_eq_decide]; omega
theorem infB_shl (b : Nat) : (IntKind.u64.wrap ((b : Int) * 2) == (18437736874454810624 : Int)) = decide (rung b = 9218868437227405312) := by
  rw [IntKind.wrap_u64]; unfold rung; rw [Bool.eq_iff_iff, beq_iff_eq, decide_eq_true_eq]; omega
theorem zeroB_shl (b : Nat) : (IntKind.u64.wrap ((b : Int) * 2) == 0) = decide (rung b = 0) := by
  rw [IntKind.wrap_u64]; unfold rung; rw [Bool.eq_iff_iff, beq_iff_eq, decide_eq_true_eq]; omega
theorem sgn_le {b : Nat} (hb : b < 18446744073709551616) : decide ((9223372036854775808 : Int) ≤ (b : Int)) = sgn b := by
  unfold sgn; rw [Bool.eq_iff_iff, beq_iff_eq, decide_eq_true_eq]; omega

theorem NaN_any (b : Nat) (w : World) : Calls Tryz.prog 137 #[.float .f64 b] w fun e w' => e = .returned (.bool (nanB b)) ∧ w = w' := by
  have H := bits_run
  go_enter Tryz.func137, Tryz.ntmps137
  go_wp2_with fail
  go_ret
  rw [nanB_shl]; exact ⟨rfl, rfl⟩

theorem minus_any {b : Nat} (hb : b < 18446744073709551616) (w : World) : Calls Tryz.prog 190 #[.float .f64 b] w fun e w' => e = .returned (.bool (sgn b)) ∧ w = w' := by
  have H := bits_run
  go_enter Tryz.func190, Tryz.ntmps190
  go_wp2_with fail
  go_ret
  rw [sgn_le hb]; exact ⟨rfl, rfl⟩

def canonW (b : Nat) : Nat := if nanB b = true then 9221120237041090560 else b
theorem Canon_any (b : Nat) (w : World) : Calls Tryz.prog 109 #[.float .f64 b] w fun e w' => e = .returned (.float .f64 (canonW b)) ∧ w = w' := by
  have H := float_run
  have N := NaN_any b
  go_enter Tryz.func109, Tryz.ntmps109
  go_wp2_with (first | (go_at_call 137; refine (N _).mono ?_; rintro e w' ⟨rfl, rfl⟩))
  · go_ret
    unfold canonW; rw [if_pos (by assumption)]; exact ⟨rfl, rfl⟩
  · go_ret
    unfold canonW; rw [if_neg (by simp [*])]; exact ⟨rfl, rfl⟩

theorem key_nan {b : Nat} (h : nanB b = true) (w : World) : Calls Tryz.prog 114 #[.float .f64 b] w fun e w' => e = .returned (.int .i64 9223372036854775807) ∧ w = w' := by
  have H := bits_run
  have N := NaN_any b
  rw [h] at N
  go_enter Tryz.func114, Tryz.ntmps114
  go_wp2_with (first | (go_at_call 137; refine (N _).mono ?_; rintro e w' ⟨rfl, rfl⟩))
  go_ret
  exact ⟨rfl, rfl⟩
theorem key_up {b : Nat} (hb : b < 18446744073709551616) (h : nanB b = false) (hs : sgn b = false) (w : World) : Calls Tryz.prog 114 #[.float .f64 b] w fun e w' => e = .returned (.int .i64 b) ∧ w = w' := by
  have H := bits_run
  have N := NaN_any b
  have D := sgn_le hb
  rw [h] at N
  rw [hs] at D
  clear h hs hb
  go_enter Tryz.func114, Tryz.ntmps114
  go_wp2_with (first | (go_at_call 137; refine (N _).mono ?_; rintro e w' ⟨rfl, rfl⟩))
  go_ret
  have e : wrap64 (b : Int) = (b : Int) := by
    have := of_decide_eq_false D; unfold wrap64; omega
  rw [e]; exact ⟨rfl, rfl⟩
theorem key_down {b : Nat} (hb : b < 18446744073709551616) (h : nanB b = false) (hs : sgn b = true) (w : World) : Calls Tryz.prog 114 #[.float .f64 b] w fun e w' => e = .returned (.int .i64 (-1 - ((b : Int) - 9223372036854775808))) ∧ w = w' := by
  have H := bits_run
  have N := NaN_any b
  have D := sgn_le hb
  rw [h] at N
  rw [hs] at D
  have W : wrap64 (-1 - wrap64 (IntKind.u64.wrap ((b : Int) - 9223372036854775808))) = -1 - ((b : Int) - 9223372036854775808) := by
    have := of_decide_eq_true D; rw [IntKind.wrap_u64]; unfold wrap64; omega
  have W2 := Lib.hid W
  clear h hs hb W
  go_enter Tryz.func114, Tryz.ntmps114
  go_wp2_with (first | (go_at_call 137; refine (N _).mono ?_; rintro e w' ⟨rfl, rfl⟩))
  go_ret
  rw [W2.out]; exact ⟨rfl, rfl⟩
def keyI (b : Nat) : Int := if nanB b = true then 9223372036854775807 else if sgn b = true then -1 - ((b : Int) - 9223372036854775808) else b
theorem key_any {b : Nat} (hb : b < 18446744073709551616) (w : World) : Calls Tryz.prog 114 #[.float .f64 b] w fun e w' => e = .returned (.int .i64 (keyI b)) ∧ w = w' := by
  unfold keyI
  by_cases h : nanB b = true
  · rw [if_pos h]; exact key_nan h w
  · rw [if_neg h]
    by_cases hs : sgn b = true
    · rw [if_pos hs]; exact key_down hb (by simpa using h) hs w
    · rw [if_neg hs]; exact key_up hb (by simpa using h) (by simpa using hs) w

def ordI (x y : Int) : Int := if x < y then -1 else if y < x then 1 else 0
def Says (f : Nat) (a : Array Value) (v : Value) : Prop := ∀ w, Calls Tryz.prog f a w fun e w' => e = .returned v ∧ w = w'
theorem Order_of {k : Nat → Int} {a b : Nat} {P : Nat → Prop} (K : ∀ c, P c → Says 114 #[.float .f64 c] (.int .i64 (k c))) (ha : P a) (hb : P b) (w : World) : Calls Tryz.prog 81 #[.float .f64 a, .float .f64 b] w fun e w' => e = .returned (.int .i64 (ordI (k a) (k b))) ∧ w = w' := by
  unfold ordI
  go_enter Tryz.func81, Tryz.ntmps81
  go_wp2_with (go_at_call 114; refine (K _ (by assumption) _).mono ?_; rintro e w' ⟨rfl, rfl⟩)
  all_goals (go_ret; exact ⟨rfl, rfl⟩)
def okW (b : Nat) : Prop := b < 18446744073709551616
theorem Order_any {a b : Nat} (ha : okW a) (hb : okW b) : Says 81 #[.float .f64 a, .float .f64 b] (.int .i64 (ordI (keyI a) (keyI b))) :=
  Order_of (fun _ h => key_any h) ha hb

def eqB (a b : Nat) : Bool := !nanB a && !nanB b && (decide (ordI (keyI a) (keyI b) = 0) || decide (rung a = 0) && decide (rung b = 0))
def lessB (a b : Nat) : Bool := !nanB a && !nanB b && !(decide (rung a = 0) && decide (rung b = 0)) && decide (ordI (keyI a) (keyI b) < 0)

theorem Same_of {c : Nat → Nat} {a b : Nat} (C : ∀ a, Says 109 #[.float .f64 a] (.float .f64 (c a))) (w : World) :
    Calls Tryz.prog 164 #[.float .f64 a, .float .f64 b] w fun e w' => e = .returned (.bool (decide (c a = c b))) ∧ w = w' := by
  have H := bits_run
  go_enter Tryz.func164, Tryz.ntmps164
  go_wp2_with (go_at_call 109; refine (C _ _).mono ?_; rintro e w' ⟨rfl, rfl⟩)
  go_ret
  have e : ((c a : Int) == (c b : Int)) = decide (c a = c b) := by rw [Bool.eq_iff_iff, beq_iff_eq, decide_eq_true_eq, Int.ofNat_inj]
  rw [e]; exact ⟨rfl, rfl⟩
theorem Same_any (a b : Nat) : Says 164 #[.float .f64 a, .float .f64 b] (.bool (decide (canonW a = canonW b))) := Same_of Canon_any
end Go.Proofs.YtekojglcbalhnaaGreatDoor
namespace Go.Proofs.YtekojglcbalhnaaGreatDoor
open Go.RowKit

def zeroB (f : Nat) : Bool := decide (canonW f = canonW 0)
theorem zero_at {k n : Int} {f : Nat} {s : ByteArray} {A : Option Addr} {c ca : Nat} {B : Option Addr} {m cb : Nat} (w : World) :
    Calls Tryz.prog 135 #[.agg (fields k n f s A c ca B m cb)] w fun e w' => e = .returned (.bool (zeroB f)) ∧ Below w.heap.size w w' := by
  have S := Same_any f 0
  have hb : Below w.heap.size w (w.alloc (.cells (fields k n f s A c ca B m cb) 28)) := (Below.refl _ _).alloc (Nat.le_refl _) _
  unfold fields at *
  unfold zeroB
  go_enter Tryz.func135, Tryz.ntmps135
  go_wp2_with (go_at_call 164; refine (S _).mono ?_; rintro e w' ⟨rfl, rfl⟩)
  go_ret
  exact ⟨rfl, hb⟩
/-- The six cells of a box stay. -/
theorem box_stays {w : World} {a0 a1 a2 a3 a4 a5 : Value} {t : TypeId} : Hid (∀ w', Below (w.alloc (.cells #[a0, a1, a2, a3, a4, a5] t)).heap.size (w.alloc (.cells #[a0, a1, a2, a3, a4, a5] t)) w' →
    w'.cell? ⟨w.heap.size, 0, none⟩ = some a0 ∧ w'.cell? ⟨w.heap.size, 1, none⟩ = some a1 ∧ w'.cell? ⟨w.heap.size, 2, none⟩ = some a2 ∧ w'.cell? ⟨w.heap.size, 3, none⟩ = some a3 ∧ w'.cell? ⟨w.heap.size, 4, none⟩ = some a4 ∧ w'.cell? ⟨w.heap.size, 5, none⟩ = some a5) := Lib.hid fun w' hb => by
  have K := fun o => hb.cell (p := ⟨w.heap.size, o, none⟩) (by simp)
  refine ⟨?_, ?_, ?_, ?_, ?_, ?_⟩ <;> (rw [K, World.cell?_alloc_new]; rfl)

def emptyB (s : ByteArray) : Bool := s.toList.isEmpty
/-- The plain fields of a value of the first four kinds, or of none. -/
def plainB (k n : Int) (f : Nat) (s : ByteArray) (c m : Nat) : Bool :=
  if k = 1 then decide (m = 0) && (decide (c = 0) && (zeroB f && (emptyB s && (decide (n = 0) || decide (n = 1)))))
  else if k = 2 then decide (m = 0) && (decide (c = 0) && (zeroB f && emptyB s))
  else if k = 3 then decide (m = 0) && (decide (c = 0) && (decide (n = 0) && emptyB s))
  else if k = 4 then decide (m = 0) && (decide (c = 0) && (zeroB f && (decide (n = 0) && decide (s.size ≤ 200))))
  else false
set_option maxHeartbeats 2000000 in
theorem right_1 {n : Int} {f : Nat} {s : ByteArray} {A : Option Addr} {c ca : Nat} {B : Option Addr} {m cb : Nat} {w : World} {far : Int} (h0 : 1 ≤ far) :
    Calls Tryz.prog 107 #[.agg (fields 1 n f s A c ca B m cb), .int .i64 far] w fun e w' => e = .returned (.bool (plainB 1 n f s c m)) ∧ Below w.heap.size w w' := by
  have hbW : Below w.heap.size w (w.alloc (.cells (fields 1 n f s A c ca B m cb) 28)) := (Below.refl _ _).alloc (Nat.le_refl _) _
  have Z := fun w => zero_at (k := 1) (n := n) (f := f) (s := s) (A := A) (c := c) (ca := ca) (B := B) (m := m) (cb := cb) w
  unfold fields at *
  have HK := box_stays (w := w) (a0 := .int .i64 1) (a1 := .int .i64 n) (a2 := .float .f64 f) (a3 := .string s) (a4 := .slice A c ca) (a5 := .slice B m cb) (t := 28)
  by_cases hm : m = 0
  · skip
    by_cases hc : c = 0
    · skip
      by_cases hz : zeroB f = true
      · skip
        by_cases hs : emptyB s = true
        · skip
          by_cases hn : n = 0
          · skip
            have R : Hid (plainB 1 n f s c m = true) := Lib.hid (by unfold plainB; simp [hm, hc, hz, hs, hn])
            have tm : ((m : Int) == 0) = true := by simp; omega
            have tc : ((c : Int) == 0) = true := by simp; omega
            have td : decide ((0 : Int) < (c : Int)) = false := by simp; omega
            have te : decide (0 < c) = false := by simp; omega
            rw [hz] at Z
            have ts : s.toList.isEmpty = true := hs
            have tn : (n == 0) = true := by simpa using hn
            clear hm hc hz hs hn
            go_enter Tryz.func107, Tryz.ntmps107
            go_wp2_with (first | (go_at_call 135; refine (Z _).mono ?_; rintro e w1 ⟨rfl, hb1⟩; obtain ⟨q0, q1, q2, q3, q4, q5⟩ := HK.out w1 hb1))
            go_ret
            exact ⟨by rw [R.out]; rfl, by first | exact hbW.trans (hb1.mono hbW.size) | exact hbW⟩
          · skip
            by_cases ho : n = 1
            · skip
              have R : Hid (plainB 1 n f s c m = true) := Lib.hid (by unfold plainB; simp [hm, hc, hz, hs, ho])
              have tm : ((m : Int) == 0) = true := by simp; omega
              have tc : ((c : Int) == 0) = true := by simp; omega
              have td : decide ((0 : Int) < (c : Int)) = false := by simp; omega
              have te : decide (0 < c) = false := by simp; omega
              rw [hz] at Z
              have ts : s.toList.isEmpty = true := hs
              have tn : (n == 0) = false := by simpa using hn
              have to : (n == 1) = true := by simpa using ho
              clear hm hc hz hs hn ho
              go_enter Tryz.func107, Tryz.ntmps107
              go_wp2_with (first | (go_at_call 135; refine (Z _).mono ?_; rintro e w1 ⟨rfl, hb1⟩; obtain ⟨q0, q1, q2, q3, q4, q5⟩ := HK.out w1 hb1))
              go_ret
              exact ⟨by rw [R.out]; rfl, by first | exact hbW.trans (hb1.mono hbW.size) | exact hbW⟩
            · skip
              have R : Hid (plainB 1 n f s c m = false) := Lib.hid (by unfold plainB; simp [hm, hc, hz, hs, hn, ho])
              have tm : ((m : Int) == 0) = true := by simp; omega
              have tc : ((c : Int) == 0) = true := by simp; omega
              have td : decide ((0 : Int) < (c : Int)) = false := by simp; omega
              have te : decide (0 < c) = false := by simp; omega
              rw [hz] at Z
              have ts : s.toList.isEmpty = true := hs
              have tn : (n == 0) = false := by simpa using hn
              have to : (n == 1) = false := by simpa using ho
              clear hm hc hz hs hn ho
              go_enter Tryz.func107, Tryz.ntmps107
              go_wp2_with (first | (go_at_call 135; refine (Z _).mono ?_; rintro e w1 ⟨rfl, hb1⟩; obtain ⟨q0, q1, q2, q3, q4, q5⟩ := HK.out w1 hb1))
              go_ret
              exact ⟨by rw [R.out]; rfl, by first | exact hbW.trans (hb1.mono hbW.size) | exact hbW⟩
        · skip
          have R : Hid (plainB 1 n f s c m = false) := Lib.hid (by unfold plainB; simp [hm, hc, hz, hs])
          have tm : ((m : Int) == 0) = true := by simp; omega
          have tc : ((c : Int) == 0) = true := by simp; omega
          have td : decide ((0 : Int) < (c : Int)) = false := by simp; omega
          have te : decide (0 < c) = false := by simp; omega
          rw [hz] at Z
          have ts : s.toList.isEmpty = false := by unfold emptyB at hs; simpa using hs
          clear hm hc hz hs
          go_enter Tryz.func107, Tryz.ntmps107
          go_wp2_with (first | (go_at_call 135; refine (Z _).mono ?_; rintro e w1 ⟨rfl, hb1⟩; obtain ⟨q0, q1, q2, q3, q4, q5⟩ := HK.out w1 hb1))
          go_ret
          exact ⟨by rw [R.out]; rfl, by first | exact hbW.trans (hb1.mono hbW.size) | exact hbW⟩
      · skip
        have R : Hid (plainB 1 n f s c m = false) := Lib.hid (by unfold plainB; simp [hm, hc, hz])
        have tm : ((m : Int) == 0) = true := by simp; omega
        have tc : ((c : Int) == 0) = true := by simp; omega
        have td : decide ((0 : Int) < (c : Int)) = false := by simp; omega
        have te : decide (0 < c) = false := by simp; omega
        rw [show zeroB f = false by simpa using hz] at Z
        clear hm hc hz
        go_enter Tryz.func107, Tryz.ntmps107
        go_wp2_with (first | (go_at_call 135; refine (Z _).mono ?_; rintro e w1 ⟨rfl, hb1⟩; obtain ⟨q0, q1, q2, q3, q4, q5⟩ := HK.out w1 hb1))
        go_ret
        exact ⟨by rw [R.out]; rfl, by first | exact hbW.trans (hb1.mono hbW.size) | exact hbW⟩
    · skip
      have R : Hid (plainB 1 n f s c m = false) := Lib.hid (by unfold plainB; simp [hm, hc])
      have tm : ((m : Int) == 0) = true := by simp; omega
      have tc : ((c : Int) == 0) = false := by simp; omega
      have td : decide ((0 : Int) < (c : Int)) = true := by simp; omega
      have te : decide (0 < c) = true := by simp; omega
      clear hm hc
      go_enter Tryz.func107, Tryz.ntmps107
      go_wp2_with (first | (go_at_call 135; refine (Z _).mono ?_; rintro e w1 ⟨rfl, hb1⟩; obtain ⟨q0, q1, q2, q3, q4, q5⟩ := HK.out w1 hb1))
      go_ret
      exact ⟨by rw [R.out]; rfl, by first | exact hbW.trans (hb1.mono hbW.size) | exact hbW⟩
  · skip
    have R : Hid (plainB 1 n f s c m = false) := Lib.hid (by unfold plainB; simp [hm])
    have tm : ((m : Int) == 0) = false := by simp; omega
    clear hm
    go_enter Tryz.func107, Tryz.ntmps107
    go_wp2_with (first | (go_at_call 135; refine (Z _).mono ?_; rintro e w1 ⟨rfl, hb1⟩; obtain ⟨q0, q1, q2, q3, q4, q5⟩ := HK.out w1 hb1))
    go_ret
    exact ⟨by rw [R.out]; rfl, by first | exact hbW.trans (hb1.mono hbW.size) | exact hbW⟩
set_option maxHeartbeats 2000000 in
theorem right_2 {n : Int} {f : Nat} {s : ByteArray} {A : Option Addr} {c ca : Nat} {B : Option Addr} {m cb : Nat} {w : World} {far : Int} (h0 : 1 ≤ far) :
    Calls Tryz.prog 107 #[.agg (fields 2 n f s A c ca B m cb), .int .i64 far] w fun e w' => e = .returned (.bool (plainB 2 n f s c m)) ∧ Below w.heap.size w w' := by
  have hbW : Below w.heap.size w (w.alloc (.cells (fields 2 n f s A c ca B m cb) 28)) := (Below.refl _ _).alloc (Nat.le_refl _) _
  have Z := fun w => zero_at (k := 2) (n := n) (f := f) (s := s) (A := A) (c := c) (ca := ca) (B := B) (m := m) (cb := cb) w
  unfold fields at *
  have HK := box_stays (w := w) (a0 := .int .i64 2) (a1 := .int .i64 n) (a2 := .float .f64 f) (a3 := .string s) (a4 := .slice A c ca) (a5 := .slice B m cb) (t := 28)
  by_cases hm : m = 0
  · skip
    by_cases hc : c = 0
    · skip
      by_cases hz : zeroB f = true
      · skip
        by_cases hs : emptyB s = true
        · skip
          have R : Hid (plainB 2 n f s c m = true) := Lib.hid (by unfold plainB; simp [hm, hc, hz, hs])
          have tm : ((m : Int) == 0) = true := by simp; omega
          have tc : ((c : Int) == 0) = true := by simp; omega
          have td : decide ((0 : Int) < (c : Int)) = false := by simp; omega
          have te : decide (0 < c) = false := by simp; omega
          rw [hz] at Z
          have ts : s.toList.isEmpty = true := hs
          clear hm hc hz hs
          go_enter Tryz.func107, Tryz.ntmps107
          go_wp2_with (first | (go_at_call 135; refine (Z _).mono ?_; rintro e w1 ⟨rfl, hb1⟩; obtain ⟨q0, q1, q2, q3, q4, q5⟩ := HK.out w1 hb1))
          go_ret
          exact ⟨by rw [R.out]; rfl, by first | exact hbW.trans (hb1.mono hbW.size) | exact hbW⟩
        · skip
          have R : Hid (plainB 2 n f s c m = false) := Lib.hid (by unfold plainB; simp [hm, hc, hz, hs])
          have tm : ((m : Int) == 0) = true := by simp; omega
          have tc : ((c : Int) == 0) = true := by simp; omega
          have td : decide ((0 : Int) < (c : Int)) = false := by simp; omega
          have te : decide (0 < c) = false := by simp; omega
          rw [hz] at Z
          have ts : s.toList.isEmpty = false := by unfold emptyB at hs; simpa using hs
          clear hm hc hz hs
          go_enter Tryz.func107, Tryz.ntmps107
          go_wp2_with (first | (go_at_call 135; refine (Z _).mono ?_; rintro e w1 ⟨rfl, hb1⟩; obtain ⟨q0, q1, q2, q3, q4, q5⟩ := HK.out w1 hb1))
          go_ret
          exact ⟨by rw [R.out]; rfl, by first | exact hbW.trans (hb1.mono hbW.size) | exact hbW⟩
      · skip
        have R : Hid (plainB 2 n f s c m = false) := Lib.hid (by unfold plainB; simp [hm, hc, hz])
        have tm : ((m : Int) == 0) = true := by simp; omega
        have tc : ((c : Int) == 0) = true := by simp; omega
        have td : decide ((0 : Int) < (c : Int)) = false := by simp; omega
        have te : decide (0 < c) = false := by simp; omega
        rw [show zeroB f = false by simpa using hz] at Z
        clear hm hc hz
        go_enter Tryz.func107, Tryz.ntmps107
        go_wp2_with (first | (go_at_call 135; refine (Z _).mono ?_; rintro e w1 ⟨rfl, hb1⟩; obtain ⟨q0, q1, q2, q3, q4, q5⟩ := HK.out w1 hb1))
        go_ret
        exact ⟨by rw [R.out]; rfl, by first | exact hbW.trans (hb1.mono hbW.size) | exact hbW⟩
    · skip
      have R : Hid (plainB 2 n f s c m = false) := Lib.hid (by unfold plainB; simp [hm, hc])
      have tm : ((m : Int) == 0) = true := by simp; omega
      have tc : ((c : Int) == 0) = false := by simp; omega
      have td : decide ((0 : Int) < (c : Int)) = true := by simp; omega
      have te : decide (0 < c) = true := by simp; omega
      clear hm hc
      go_enter Tryz.func107, Tryz.ntmps107
      go_wp2_with (first | (go_at_call 135; refine (Z _).mono ?_; rintro e w1 ⟨rfl, hb1⟩; obtain ⟨q0, q1, q2, q3, q4, q5⟩ := HK.out w1 hb1))
      go_ret
      exact ⟨by rw [R.out]; rfl, by first | exact hbW.trans (hb1.mono hbW.size) | exact hbW⟩
  · skip
    have R : Hid (plainB 2 n f s c m = false) := Lib.hid (by unfold plainB; simp [hm])
    have tm : ((m : Int) == 0) = false := by simp; omega
    clear hm
    go_enter Tryz.func107, Tryz.ntmps107
    go_wp2_with (first | (go_at_call 135; refine (Z _).mono ?_; rintro e w1 ⟨rfl, hb1⟩; obtain ⟨q0, q1, q2, q3, q4, q5⟩ := HK.out w1 hb1))
    go_ret
    exact ⟨by rw [R.out]; rfl, by first | exact hbW.trans (hb1.mono hbW.size) | exact hbW⟩
set_option maxHeartbeats 2000000 in
theorem right_3 {n : Int} {f : Nat} {s : ByteArray} {A : Option Addr} {c ca : Nat} {B : Option Addr} {m cb : Nat} {w : World} {far : Int} (h0 : 1 ≤ far) :
    Calls Tryz.prog 107 #[.agg (fields 3 n f s A c ca B m cb), .int .i64 far] w fun e w' => e = .returned (.bool (plainB 3 n f s c m)) ∧ Below w.heap.size w w' := by
  have hbW : Below w.heap.size w (w.alloc (.cells (fields 3 n f s A c ca B m cb) 28)) := (Below.refl _ _).alloc (Nat.le_refl _) _
  have Z := fun w => zero_at (k := 3) (n := n) (f := f) (s := s) (A := A) (c := c) (ca := ca) (B := B) (m := m) (cb := cb) w
  unfold fields at *
  have HK := box_stays (w := w) (a0 := .int .i64 3) (a1 := .int .i64 n) (a2 := .float .f64 f) (a3 := .string s) (a4 := .slice A c ca) (a5 := .slice B m cb) (t := 28)
  by_cases hm : m = 0
  · skip
    by_cases hc : c = 0
    · skip
      by_cases hn : n = 0
      · skip
        by_cases hs : emptyB s = true
        · skip
          have R : Hid (plainB 3 n f s c m = true) := Lib.hid (by unfold plainB; simp [hm, hc, hn, hs])
          have tm : ((m : Int) == 0) = true := by simp; omega
          have tc : ((c : Int) == 0) = true := by simp; omega
          have td : decide ((0 : Int) < (c : Int)) = false := by simp; omega
          have te : decide (0 < c) = false := by simp; omega
          have tn : (n == 0) = true := by simpa using hn
          have ts : s.toList.isEmpty = true := hs
          clear hm hc hn hs
          go_enter Tryz.func107, Tryz.ntmps107
          go_wp2_with (first | (go_at_call 135; refine (Z _).mono ?_; rintro e w1 ⟨rfl, hb1⟩; obtain ⟨q0, q1, q2, q3, q4, q5⟩ := HK.out w1 hb1))
          go_ret
          exact ⟨by rw [R.out]; rfl, by first | exact hbW.trans (hb1.mono hbW.size) | exact hbW⟩
        · skip
          have R : Hid (plainB 3 n f s c m = false) := Lib.hid (by unfold plainB; simp [hm, hc, hn, hs])
          have tm : ((m : Int) == 0) = true := by simp; omega
          have tc : ((c : Int) == 0) = true := by simp; omega
          have td : decide ((0 : Int) < (c : Int)) = false := by simp; omega
          have te : decide (0 < c) = false := by simp; omega
          have tn : (n == 0) = true := by simpa using hn
          have ts : s.toList.isEmpty = false := by unfold emptyB at hs; simpa using hs
          clear hm hc hn hs
          go_enter Tryz.func107, Tryz.ntmps107
          go_wp2_with (first | (go_at_call 135; refine (Z _).mono ?_; rintro e w1 ⟨rfl, hb1⟩; obtain ⟨q0, q1, q2, q3, q4, q5⟩ := HK.out w1 hb1))
          go_ret
          exact ⟨by rw [R.out]; rfl, by first | exact hbW.trans (hb1.mono hbW.size) | exact hbW⟩
      · skip
        have R : Hid (plainB 3 n f s c m = false) := Lib.hid (by unfold plainB; simp [hm, hc, hn])
        have tm : ((m : Int) == 0) = true := by simp; omega
        have tc : ((c : Int) == 0) = true := by simp; omega
        have td : decide ((0 : Int) < (c : Int)) = false := by simp; omega
        have te : decide (0 < c) = false := by simp; omega
        have tn : (n == 0) = false := by simpa using hn
        clear hm hc hn
        go_enter Tryz.func107, Tryz.ntmps107
        go_wp2_with (first | (go_at_call 135; refine (Z _).mono ?_; rintro e w1 ⟨rfl, hb1⟩; obtain ⟨q0, q1, q2, q3, q4, q5⟩ := HK.out w1 hb1))
        go_ret
        exact ⟨by rw [R.out]; rfl, by first | exact hbW.trans (hb1.mono hbW.size) | exact hbW⟩
    · skip
      have R : Hid (plainB 3 n f s c m = false) := Lib.hid (by unfold plainB; simp [hm, hc])
      have tm : ((m : Int) == 0) = true := by simp; omega
      have tc : ((c : Int) == 0) = false := by simp; omega
      have td : decide ((0 : Int) < (c : Int)) = true := by simp; omega
      have te : decide (0 < c) = true := by simp; omega
      clear hm hc
      go_enter Tryz.func107, Tryz.ntmps107
      go_wp2_with (first | (go_at_call 135; refine (Z _).mono ?_; rintro e w1 ⟨rfl, hb1⟩; obtain ⟨q0, q1, q2, q3, q4, q5⟩ := HK.out w1 hb1))
      go_ret
      exact ⟨by rw [R.out]; rfl, by first | exact hbW.trans (hb1.mono hbW.size) | exact hbW⟩
  · skip
    have R : Hid (plainB 3 n f s c m = false) := Lib.hid (by unfold plainB; simp [hm])
    have tm : ((m : Int) == 0) = false := by simp; omega
    clear hm
    go_enter Tryz.func107, Tryz.ntmps107
    go_wp2_with (first | (go_at_call 135; refine (Z _).mono ?_; rintro e w1 ⟨rfl, hb1⟩; obtain ⟨q0, q1, q2, q3, q4, q5⟩ := HK.out w1 hb1))
    go_ret
    exact ⟨by rw [R.out]; rfl, by first | exact hbW.trans (hb1.mono hbW.size) | exact hbW⟩
set_option maxHeartbeats 2000000 in
theorem right_4 {n : Int} {f : Nat} {s : ByteArray} {A : Option Addr} {c ca : Nat} {B : Option Addr} {m cb : Nat} {w : World} {far : Int} (h0 : 1 ≤ far) :
    Calls Tryz.prog 107 #[.agg (fields 4 n f s A c ca B m cb), .int .i64 far] w fun e w' => e = .returned (.bool (plainB 4 n f s c m)) ∧ Below w.heap.size w w' := by
  have hbW : Below w.heap.size w (w.alloc (.cells (fields 4 n f s A c ca B m cb) 28)) := (Below.refl _ _).alloc (Nat.le_refl _) _
  have Z := fun w => zero_at (k := 4) (n := n) (f := f) (s := s) (A := A) (c := c) (ca := ca) (B := B) (m := m) (cb := cb) w
  unfold fields at *
  have HK := box_stays (w := w) (a0 := .int .i64 4) (a1 := .int .i64 n) (a2 := .float .f64 f) (a3 := .string s) (a4 := .slice A c ca) (a5 := .slice B m cb) (t := 28)
  by_cases hm : m = 0
  · skip
    by_cases hc : c = 0
    · skip
      by_cases hz : zeroB f = true
      · skip
        by_cases hn : n = 0
        · skip
          by_cases hl : s.size ≤ 200
          · skip
            have R : Hid (plainB 4 n f s c m = true) := Lib.hid (by unfold plainB; simp [hm, hc, hz, hn, hl])
            have tm : ((m : Int) == 0) = true := by simp; omega
            have tc : ((c : Int) == 0) = true := by simp; omega
            have td : decide ((0 : Int) < (c : Int)) = false := by simp; omega
            have te : decide (0 < c) = false := by simp; omega
            rw [hz] at Z
            have tn : (n == 0) = true := by simpa using hn
            have tl : decide ((s.size : Int) ≤ 200) = true := by simp; omega
            clear hm hc hz hn hl
            go_enter Tryz.func107, Tryz.ntmps107
            go_wp2_with (first | (go_at_call 135; refine (Z _).mono ?_; rintro e w1 ⟨rfl, hb1⟩; obtain ⟨q0, q1, q2, q3, q4, q5⟩ := HK.out w1 hb1))
            go_ret
            exact ⟨by rw [R.out]; rfl, by first | exact hbW.trans (hb1.mono hbW.size) | exact hbW⟩
          · skip
            have R : Hid (plainB 4 n f s c m = false) := Lib.hid (by unfold plainB; simp [hm, hc, hz, hn, hl])
            have tm : ((m : Int) == 0) = true := by simp; omega
            have tc : ((c : Int) == 0) = true := by simp; omega
            have td : decide ((0 : Int) < (c : Int)) = false := by simp; omega
            have te : decide (0 < c) = false := by simp; omega
            rw [hz] at Z
            have tn : (n == 0) = true := by simpa using hn
            have tl : decide ((s.size : Int) ≤ 200) = false := by simp; omega
            clear hm hc hz hn hl
            go_enter Tryz.func107, Tryz.ntmps107
            go_wp2_with (first | (go_at_call 135; refine (Z _).mono ?_; rintro e w1 ⟨rfl, hb1⟩; obtain ⟨q0, q1, q2, q3, q4, q5⟩ := HK.out w1 hb1))
            go_ret
            exact ⟨by rw [R.out]; rfl, by first | exact hbW.trans (hb1.mono hbW.size) | exact hbW⟩
        · skip
          have R : Hid (plainB 4 n f s c m = false) := Lib.hid (by unfold plainB; simp [hm, hc, hz, hn])
          have tm : ((m : Int) == 0) = true := by simp; omega
          have tc : ((c : Int) == 0) = true := by simp; omega
          have td : decide ((0 : Int) < (c : Int)) = false := by simp; omega
          have te : decide (0 < c) = false := by simp; omega
          rw [hz] at Z
          have tn : (n == 0) = false := by simpa using hn
          clear hm hc hz hn
          go_enter Tryz.func107, Tryz.ntmps107
          go_wp2_with (first | (go_at_call 135; refine (Z _).mono ?_; rintro e w1 ⟨rfl, hb1⟩; obtain ⟨q0, q1, q2, q3, q4, q5⟩ := HK.out w1 hb1))
          go_ret
          exact ⟨by rw [R.out]; rfl, by first | exact hbW.trans (hb1.mono hbW.size) | exact hbW⟩
      · skip
        have R : Hid (plainB 4 n f s c m = false) := Lib.hid (by unfold plainB; simp [hm, hc, hz])
        have tm : ((m : Int) == 0) = true := by simp; omega
        have tc : ((c : Int) == 0) = true := by simp; omega
        have td : decide ((0 : Int) < (c : Int)) = false := by simp; omega
        have te : decide (0 < c) = false := by simp; omega
        rw [show zeroB f = false by simpa using hz] at Z
        clear hm hc hz
        go_enter Tryz.func107, Tryz.ntmps107
        go_wp2_with (first | (go_at_call 135; refine (Z _).mono ?_; rintro e w1 ⟨rfl, hb1⟩; obtain ⟨q0, q1, q2, q3, q4, q5⟩ := HK.out w1 hb1))
        go_ret
        exact ⟨by rw [R.out]; rfl, by first | exact hbW.trans (hb1.mono hbW.size) | exact hbW⟩
    · skip
      have R : Hid (plainB 4 n f s c m = false) := Lib.hid (by unfold plainB; simp [hm, hc])
      have tm : ((m : Int) == 0) = true := by simp; omega
      have tc : ((c : Int) == 0) = false := by simp; omega
      have td : decide ((0 : Int) < (c : Int)) = true := by simp; omega
      have te : decide (0 < c) = true := by simp; omega
      clear hm hc
      go_enter Tryz.func107, Tryz.ntmps107
      go_wp2_with (first | (go_at_call 135; refine (Z _).mono ?_; rintro e w1 ⟨rfl, hb1⟩; obtain ⟨q0, q1, q2, q3, q4, q5⟩ := HK.out w1 hb1))
      go_ret
      exact ⟨by rw [R.out]; rfl, by first | exact hbW.trans (hb1.mono hbW.size) | exact hbW⟩
  · skip
    have R : Hid (plainB 4 n f s c m = false) := Lib.hid (by unfold plainB; simp [hm])
    have tm : ((m : Int) == 0) = false := by simp; omega
    clear hm
    go_enter Tryz.func107, Tryz.ntmps107
    go_wp2_with (first | (go_at_call 135; refine (Z _).mono ?_; rintro e w1 ⟨rfl, hb1⟩; obtain ⟨q0, q1, q2, q3, q4, q5⟩ := HK.out w1 hb1))
    go_ret
    exact ⟨by rw [R.out]; rfl, by first | exact hbW.trans (hb1.mono hbW.size) | exact hbW⟩

theorem strs_keep {w w' : World} {lim : Nat} {A : Option Addr} {c : Nat} {ns : Nat → ByteArray} (h : Strs w lim A c ns) (hb : Below lim w w') : Strs w' lim A c ns := fun h0 => by
  obtain ⟨g, o, e, hg, hx⟩ := h h0
  exact ⟨g, o, e, hg, fun i hi => ⟨(hb.cell (p := ⟨g, o + i, none⟩) hg).trans (hx i hi).1, (hx i hi).2⟩⟩
/-- What stands ahead of the items of a list, or of a record. -/
def headB (k n : Int) (f : Nat) (s : ByteArray) (c : Nat) (ns : Nat → ByteArray) (m : Nat) : Bool :=
  zeroB f && (decide (n = 0) && (emptyB s && (if k = 5 then decide (c = 0) else riseB c ns && ((c : Int) == (m : Int)))))
def rightV : VT → Int → Bool
  | .bad, _ => false
  | .mk k n f s c ns m xs, far => decide (1 ≤ far) && (if k = 5 ∨ k = 6 then headB k n f s c ns m && (List.range m).all (fun i => rightV (xs i) (far - 1)) else plainB k n f s c m)
theorem right_far {k n : Int} {f : Nat} {s : ByteArray} {A : Option Addr} {c ca : Nat} {B : Option Addr} {m cb : Nat} {w : World} {far : Int} (h0 : ¬ 1 ≤ far) :
    Calls Tryz.prog 107 #[.agg (fields k n f s A c ca B m cb), .int .i64 far] w fun e w' => e = .returned (.bool false) ∧ Below w.heap.size w w' := by
  have hbW : ∀ o, Below w.heap.size w (w.alloc o) := fun o => (Below.refl _ _).alloc (Nat.le_refl _) _
  unfold fields at *
  go_enter Tryz.func107, Tryz.ntmps107
  go_wp2
  all_goals (go_ret; exact ⟨rfl, hbW _⟩)
theorem right_none {k n : Int} {f : Nat} {s : ByteArray} {A : Option Addr} {c ca : Nat} {B : Option Addr} {m cb : Nat} {w : World} {far : Int} (h0 : 1 ≤ far) (hk : k ≠ 1 ∧ k ≠ 2 ∧ k ≠ 3 ∧ k ≠ 4 ∧ k ≠ 5 ∧ k ≠ 6) :
    Calls Tryz.prog 107 #[.agg (fields k n f s A c ca B m cb), .int .i64 far] w fun e w' => e = .returned (.bool false) ∧ Below w.heap.size w w' := by
  have hbW : ∀ o, Below w.heap.size w (w.alloc o) := fun o => (Below.refl _ _).alloc (Nat.le_refl _) _
  have t1 : (k == 1) = false := by simpa using hk.1
  have t2 : (k == 2) = false := by simpa using hk.2.1
  have t3 : (k == 3) = false := by simpa using hk.2.2.1
  have t4 : (k == 4) = false := by simpa using hk.2.2.2.1
  have t5 : (k == 5) = false := by simpa using hk.2.2.2.2.1
  have t6 : (k == 6) = false := by simpa using hk.2.2.2.2.2
  clear hk
  unfold fields at *
  go_enter Tryz.func107, Tryz.ntmps107
  go_wp2
  all_goals (go_ret; exact ⟨rfl, hbW _⟩)
end Go.Proofs.YtekojglcbalhnaaGreatDoor

/-
  The landed lex's signLength, sign and token: the walks.
-/
import Derived.Test.YtfkjehgbghckhaaGreatDoorZd
namespace Go.Proofs.YtfkjehgbghckhaaGreatDoor
open Go.RowKit

/-- How many bytes the sign has; 0, if none stands there. -/
def slN (R : List UInt8) (c : UInt8) : Nat := if twoB (R.take 2) = true then 2 else if c ∈ onesL then 1 else 0
theorem take_one (s : ByteArray) (h : 0 < s.size) : (s.extract 0 1).data.toList = [s[0]] := by
  rw [ext_cut, left_cons h]; rfl
theorem pre_self (s : ByteArray) (h : 0 < s.size) (w : World) : Calls Tryz.prog 47 #[.string (s.extract 1 s.size), .string (s.extract 0 1)] w fun e w' => e = .returned (.bool (decide ((left s 1)[0]? = some s[0]))) ∧ w' = w := by
  have := lib_strings_HasPrefix (s.extract 1 s.size) (s.extract 0 1) w
  rw [rest_list, take_one s h, pre_one] at this
  exact this
theorem pre_eq (s : ByteArray) (w : World) : Calls Tryz.prog 47 #[.string (s.extract 1 s.size), .string ⟨#[61]⟩] w fun e w' => e = .returned (.bool (decide ((left s 1)[0]? = some 61))) ∧ w' = w := by
  have := lib_strings_HasPrefix (s.extract 1 s.size) ⟨#[61]⟩ w
  rw [rest_list, show (⟨#[61]⟩ : ByteArray).data.toList = [61] from rfl, pre_one] at this
  exact this
theorem take_two (s : ByteArray) (h : 0 < s.size) : (left s 0).take 2 = s[0] :: ((left s 1)[0]?).toList := by
  have e : left s 0 = s[0] :: left s 1 := left_cons h
  rw [e]
  cases left s 1 <;> rfl
theorem two_no {c : UInt8} (h : c ≠ 61 ∧ c ≠ 60 ∧ c ≠ 38 ∧ c ≠ 124) (y : Option UInt8) : ¬ twoB (c :: y.toList) = true := by
  obtain ⟨h1, h2, h3, h4⟩ := h
  intro e
  unfold twoB at e
  cases y <;> simp [h1, h2, h3, h4] at e
set_option maxRecDepth 20000 in
set_option maxHeartbeats 2000000 in
theorem lsl_61 {s : ByteArray} {c : UInt8} (hs : s.size ≤ 100000) (h0 : 0 < s.size) (hc : s[0] = c) (hc0 : c = 61) (w : World) :
    Calls Tryz.prog 54 #[.string s] w fun e w' => e = .returned (.int .i64 ((slN (left s 0) c : Nat) : Int)) ∧ Below w.heap.size w w' := by
  obtain ⟨R, hR⟩ : ∃ R, slN (left s 0) c = R := ⟨_, rfl⟩
  rw [hR]
  have t61 : ((c.toNat : Int) == 61) = true := by rw [hc0]; rfl
  have P := pre_self s h0
  have hT := take_two s h0
  rw [hc] at P hT
  obtain ⟨v1, hv1⟩ : ∃ v, s.extract 1 s.size = v := ⟨_, rfl⟩
  obtain ⟨v0, hv0⟩ : ∃ v, s.extract 0 1 = v := ⟨_, rfl⟩
  have i1 : (1 : Int) ≤ (s.size : Int) := by omega
  rw [hv1, hv0] at P
  by_cases hx : (left s 1)[0]? = some c
  · rw [decide_eq_true hx] at P
    have HR : Hid (R = 2) := Lib.hid (by
      rw [← hR]; unfold slN; rw [hT, hx, if_pos]; rw [hc0]; rfl)
    clear hR hT hx hc0
    go_enter Tryz.func54, Tryz.ntmps54
    go_upto_region 22 with (fail)
    go_quiet ((go_at_call 47; exact Calls.quiet_of_same (P _)))
    go_wp2_with fail
    go_ret
    exact ⟨by rw [HR.out]; rfl, below_drewN (Below.refl _ _) _⟩
  · rw [decide_eq_false hx] at P
    have HR : Hid (R = 0) := Lib.hid (by
      rw [← hR]; unfold slN
      rw [hT, if_neg, if_neg (by rw [hc0]; decide)]
      intro h
      apply hx
      have hl := twoB_len h
      cases hy : (left s 1)[0]? with
      | none => rw [hy] at hl; cases hl
      | some y =>
        rw [hy] at h
        have h' : twoB [c, y] = true := h
        rw [hc0] at h' ⊢
        unfold twoB at h'
        simpa using h')
    clear hR hT hx hc0
    go_enter Tryz.func54, Tryz.ntmps54
    go_upto_region 22 with (fail)
    go_quiet ((go_at_call 47; exact Calls.quiet_of_same (P _)))
    go_wp2_with fail
    go_ret
    exact ⟨by rw [HR.out]; rfl, below_drewN (Below.refl _ _) _⟩
set_option maxRecDepth 20000 in
set_option maxHeartbeats 2000000 in
theorem lsl_38 {s : ByteArray} {c : UInt8} (hs : s.size ≤ 100000) (h0 : 0 < s.size) (hc : s[0] = c) (hc0 : c = 38) (w : World) :
    Calls Tryz.prog 54 #[.string s] w fun e w' => e = .returned (.int .i64 ((slN (left s 0) c : Nat) : Int)) ∧ Below w.heap.size w w' := by
  obtain ⟨R, hR⟩ : ∃ R, slN (left s 0) c = R := ⟨_, rfl⟩
  rw [hR]
  have t61 : ((c.toNat : Int) == 61) = false := by rw [hc0]; rfl
  have t38 : ((c.toNat : Int) == 38) = true := by rw [hc0]; rfl
  have P := pre_self s h0
  have hT := take_two s h0
  rw [hc] at P hT
  obtain ⟨v1, hv1⟩ : ∃ v, s.extract 1 s.size = v := ⟨_, rfl⟩
  obtain ⟨v0, hv0⟩ : ∃ v, s.extract 0 1 = v := ⟨_, rfl⟩
  have i1 : (1 : Int) ≤ (s.size : Int) := by omega
  rw [hv1, hv0] at P
  by_cases hx : (left s 1)[0]? = some c
  · rw [decide_eq_true hx] at P
    have HR : Hid (R = 2) := Lib.hid (by
      rw [← hR]; unfold slN; rw [hT, hx, if_pos]; rw [hc0]; rfl)
    clear hR hT hx hc0
    go_enter Tryz.func54, Tryz.ntmps54
    go_upto_region 22 with (fail)
    go_quiet ((go_at_call 47; exact Calls.quiet_of_same (P _)))
    go_wp2_with fail
    go_ret
    exact ⟨by rw [HR.out]; rfl, below_drewN (Below.refl _ _) _⟩
  · rw [decide_eq_false hx] at P
    have HR : Hid (R = 0) := Lib.hid (by
      rw [← hR]; unfold slN
      rw [hT, if_neg, if_neg (by rw [hc0]; decide)]
      intro h
      apply hx
      have hl := twoB_len h
      cases hy : (left s 1)[0]? with
      | none => rw [hy] at hl; cases hl
      | some y =>
        rw [hy] at h
        have h' : twoB [c, y] = true := h
        rw [hc0] at h' ⊢
        unfold twoB at h'
        simpa using h')
    clear hR hT hx hc0
    go_enter Tryz.func54, Tryz.ntmps54
    go_upto_region 22 with (fail)
    go_quiet ((go_at_call 47; exact Calls.quiet_of_same (P _)))
    go_wp2_with fail
    go_ret
    exact ⟨by rw [HR.out]; rfl, below_drewN (Below.refl _ _) _⟩
set_option maxRecDepth 20000 in
set_option maxHeartbeats 2000000 in
theorem lsl_124 {s : ByteArray} {c : UInt8} (hs : s.size ≤ 100000) (h0 : 0 < s.size) (hc : s[0] = c) (hc0 : c = 124) (w : World) :
    Calls Tryz.prog 54 #[.string s] w fun e w' => e = .returned (.int .i64 ((slN (left s 0) c : Nat) : Int)) ∧ Below w.heap.size w w' := by
  obtain ⟨R, hR⟩ : ∃ R, slN (left s 0) c = R := ⟨_, rfl⟩
  rw [hR]
  have t61 : ((c.toNat : Int) == 61) = false := by rw [hc0]; rfl
  have t38 : ((c.toNat : Int) == 38) = false := by rw [hc0]; rfl
  have t124 : ((c.toNat : Int) == 124) = true := by rw [hc0]; rfl
  have P := pre_self s h0
  have hT := take_two s h0
  rw [hc] at P hT
  obtain ⟨v1, hv1⟩ : ∃ v, s.extract 1 s.size = v := ⟨_, rfl⟩
  obtain ⟨v0, hv0⟩ : ∃ v, s.extract 0 1 = v := ⟨_, rfl⟩
  have i1 : (1 : Int) ≤ (s.size : Int) := by omega
  rw [hv1, hv0] at P
  by_cases hx : (left s 1)[0]? = some c
  · rw [decide_eq_true hx] at P
    have HR : Hid (R = 2) := Lib.hid (by
      rw [← hR]; unfold slN; rw [hT, hx, if_pos]; rw [hc0]; rfl)
    clear hR hT hx hc0
    go_enter Tryz.func54, Tryz.ntmps54
    go_upto_region 22 with (fail)
    go_quiet ((go_at_call 47; exact Calls.quiet_of_same (P _)))
    go_wp2_with fail
    go_ret
    exact ⟨by rw [HR.out]; rfl, below_drewN (Below.refl _ _) _⟩
  · rw [decide_eq_false hx] at P
    have HR : Hid (R = 0) := Lib.hid (by
      rw [← hR]; unfold slN
      rw [hT, if_neg, if_neg (by rw [hc0]; decide)]
      intro h
      apply hx
      have hl := twoB_len h
      cases hy : (left s 1)[0]? with
      | none => rw [hy] at hl; cases hl
      | some y =>
        rw [hy] at h
        have h' : twoB [c, y] = true := h
        rw [hc0] at h' ⊢
        unfold twoB at h'
        simpa using h')
    clear hR hT hx hc0
    go_enter Tryz.func54, Tryz.ntmps54
    go_upto_region 22 with (fail)
    go_quiet ((go_at_call 47; exact Calls.quiet_of_same (P _)))
    go_wp2_with fail
    go_ret
    exact ⟨by rw [HR.out]; rfl, below_drewN (Below.refl _ _) _⟩
set_option maxRecDepth 20000 in
set_option maxHeartbeats 2000000 in
theorem lsl_60 {s : ByteArray} {c : UInt8} (hs : s.size ≤ 100000) (h0 : 0 < s.size) (hc : s[0] = c) (hc0 : c = 60) (w : World) :
    Calls Tryz.prog 54 #[.string s] w fun e w' => e = .returned (.int .i64 ((slN (left s 0) c : Nat) : Int)) ∧ Below w.heap.size w w' := by
  obtain ⟨R, hR⟩ : ∃ R, slN (left s 0) c = R := ⟨_, rfl⟩
  rw [hR]
  have t61 : ((c.toNat : Int) == 61) = false := by rw [hc0]; rfl
  have t38 : ((c.toNat : Int) == 38) = false := by rw [hc0]; rfl
  have t124 : ((c.toNat : Int) == 124) = false := by rw [hc0]; rfl
  have t60 : ((c.toNat : Int) == 60) = true := by rw [hc0]; rfl
  have P := pre_eq s
  have hT := take_two s h0
  rw [hc] at hT
  obtain ⟨v1, hv1⟩ : ∃ v, s.extract 1 s.size = v := ⟨_, rfl⟩
  rw [hv1] at P
  by_cases hx : (left s 1)[0]? = some 61
  · rw [decide_eq_true hx] at P
    have HR : Hid (R = 2) := Lib.hid (by
      rw [← hR]; unfold slN; rw [hT, hx, if_pos]; rw [hc0]; rfl)
    clear hR hT hx hc0
    go_enter Tryz.func54, Tryz.ntmps54
    go_wp2_with (go_at_call 47; refine (P _).mono ?_; rintro e w1 ⟨rfl, rfl⟩)
    go_ret
    exact ⟨by rw [HR.out]; rfl, Below.refl _ _⟩
  · rw [decide_eq_false hx] at P
    have HR : Hid (R = 1) := Lib.hid (by
      rw [← hR]; unfold slN
      rw [hT, if_neg, if_pos (by rw [hc0]; decide)]
      intro h
      apply hx
      have hl := twoB_len h
      cases hy : (left s 1)[0]? with
      | none => rw [hy] at hl; cases hl
      | some y =>
        rw [hy] at h
        have h' : twoB [c, y] = true := h
        rw [hc0] at h'
        unfold twoB at h'
        simpa using h')
    clear hR hT hx hc0
    go_enter Tryz.func54, Tryz.ntmps54
    go_wp2_with (go_at_call 47; refine (P _).mono ?_; rintro e w1 ⟨rfl, rfl⟩)
    go_ret
    exact ⟨by rw [HR.out]; rfl, Below.refl _ _⟩
set_option maxRecDepth 20000 in
set_option maxHeartbeats 2000000 in
theorem lsl_40 {s : ByteArray} {c : UInt8} (_hs : s.size ≤ 100000) (h0 : 0 < s.size) (hc : s[0] = c) (hc0 : c = 40) (w : World) :
    Calls Tryz.prog 54 #[.string s] w fun e w' => e = .returned (.int .i64 ((slN (left s 0) c : Nat) : Int)) ∧ Below w.heap.size w w' := by
  obtain ⟨R, hR⟩ : ∃ R, slN (left s 0) c = R := ⟨_, rfl⟩
  rw [hR]
  have t61 : ((c.toNat : Int) == 61) = false := by rw [hc0]; rfl
  have t38 : ((c.toNat : Int) == 38) = false := by rw [hc0]; rfl
  have t124 : ((c.toNat : Int) == 124) = false := by rw [hc0]; rfl
  have t60 : ((c.toNat : Int) == 60) = false := by rw [hc0]; rfl
  have t40 : ((c.toNat : Int) == 40) = true := by rw [hc0]; rfl
  have hT := take_two s h0
  rw [hc] at hT
  have HR : Hid (R = 1) := Lib.hid (by
    rw [← hR]; unfold slN
    rw [hT, if_neg (two_no (by rw [hc0]; decide) _), if_pos (by rw [hc0]; decide)])
  clear hR hT hc0
  go_enter Tryz.func54, Tryz.ntmps54
  go_wp2_with fail
  go_ret
  exact ⟨by rw [HR.out]; rfl, Below.refl _ _⟩
set_option maxRecDepth 20000 in
set_option maxHeartbeats 2000000 in
theorem lsl_41 {s : ByteArray} {c : UInt8} (_hs : s.size ≤ 100000) (h0 : 0 < s.size) (hc : s[0] = c) (hc0 : c = 41) (w : World) :
    Calls Tryz.prog 54 #[.string s] w fun e w' => e = .returned (.int .i64 ((slN (left s 0) c : Nat) : Int)) ∧ Below w.heap.size w w' := by
  obtain ⟨R, hR⟩ : ∃ R, slN (left s 0) c = R := ⟨_, rfl⟩
  rw [hR]
  have t61 : ((c.toNat : Int) == 61) = false := by rw [hc0]; rfl
  have t38 : ((c.toNat : Int) == 38) = false := by rw [hc0]; rfl
  have t124 : ((c.toNat : Int) == 124) = false := by rw [hc0]; rfl
  have t60 : ((c.toNat : Int) == 60) = false := by rw [hc0]; rfl
  have t40 : ((c.toNat : Int) == 40) = false := by rw [hc0]; rfl
  have t41 : ((c.toNat : Int) == 41) = true := by rw [hc0]; rfl
  have hT := take_two s h0
  rw [hc] at hT
  have HR : Hid (R = 1) := Lib.hid (by
    rw [← hR]; unfold slN
    rw [hT, if_neg (two_no (by rw [hc0]; decide) _), if_pos (by rw [hc0]; decide)])
  clear hR hT hc0
  go_enter Tryz.func54, Tryz.ntmps54
  go_wp2_with fail
  go_ret
  exact ⟨by rw [HR.out]; rfl, Below.refl _ _⟩
set_option maxRecDepth 20000 in
set_option maxHeartbeats 2000000 in
theorem lsl_91 {s : ByteArray} {c : UInt8} (_hs : s.size ≤ 100000) (h0 : 0 < s.size) (hc : s[0] = c) (hc0 : c = 91) (w : World) :
    Calls Tryz.prog 54 #[.string s] w fun e w' => e = .returned (.int .i64 ((slN (left s 0) c : Nat) : Int)) ∧ Below w.heap.size w w' := by
  obtain ⟨R, hR⟩ : ∃ R, slN (left s 0) c = R := ⟨_, rfl⟩
  rw [hR]
  have t61 : ((c.toNat : Int) == 61) = false := by rw [hc0]; rfl
  have t38 : ((c.toNat : Int) == 38) = false := by rw [hc0]; rfl
  have t124 : ((c.toNat : Int) == 124) = false := by rw [hc0]; rfl
  have t60 : ((c.toNat : Int) == 60) = false := by rw [hc0]; rfl
  have t40 : ((c.toNat : Int) == 40) = false := by rw [hc0]; rfl
  have t41 : ((c.toNat : Int) == 41) = false := by rw [hc0]; rfl
  have t91 : ((c.toNat : Int) == 91) = true := by rw [hc0]; rfl
  have hT := take_two s h0
  rw [hc] at hT
  have HR : Hid (R = 1) := Lib.hid (by
    rw [← hR]; unfold slN
    rw [hT, if_neg (two_no (by rw [hc0]; decide) _), if_pos (by rw [hc0]; decide)])
  clear hR hT hc0
  go_enter Tryz.func54, Tryz.ntmps54
  go_wp2_with fail
  go_ret
  exact ⟨by rw [HR.out]; rfl, Below.refl _ _⟩
set_option maxRecDepth 20000 in
set_option maxHeartbeats 2000000 in
theorem lsl_93 {s : ByteArray} {c : UInt8} (_hs : s.size ≤ 100000) (h0 : 0 < s.size) (hc : s[0] = c) (hc0 : c = 93) (w : World) :
    Calls Tryz.prog 54 #[.string s] w fun e w' => e = .returned (.int .i64 ((slN (left s 0) c : Nat) : Int)) ∧ Below w.heap.size w w' := by
  obtain ⟨R, hR⟩ : ∃ R, slN (left s 0) c = R := ⟨_, rfl⟩
  rw [hR]
  have t61 : ((c.toNat : Int) == 61) = false := by rw [hc0]; rfl
  have t38 : ((c.toNat : Int) == 38) = false := by rw [hc0]; rfl
  have t124 : ((c.toNat : Int) == 124) = false := by rw [hc0]; rfl
  have t60 : ((c.toNat : Int) == 60) = false := by rw [hc0]; rfl
  have t40 : ((c.toNat : Int) == 40) = false := by rw [hc0]; rfl
  have t41 : ((c.toNat : Int) == 41) = false := by rw [hc0]; rfl
  have t91 : ((c.toNat : Int) == 91) = false := by rw [hc0]; rfl
  have t93 : ((c.toNat : Int) == 93) = true := by rw [hc0]; rfl
  have hT := take_two s h0
  rw [hc] at hT
  have HR : Hid (R = 1) := Lib.hid (by
    rw [← hR]; unfold slN
    rw [hT, if_neg (two_no (by rw [hc0]; decide) _), if_pos (by rw [hc0]; decide)])
  clear hR hT hc0
  go_enter Tryz.func54, Tryz.ntmps54
  go_wp2_with fail
  go_ret
  exact ⟨by rw [HR.out]; rfl, Below.refl _ _⟩
set_option maxRecDepth 20000 in
set_option maxHeartbeats 2000000 in
theorem lsl_123 {s : ByteArray} {c : UInt8} (_hs : s.size ≤ 100000) (h0 : 0 < s.size) (hc : s[0] = c) (hc0 : c = 123) (w : World) :
    Calls Tryz.prog 54 #[.string s] w fun e w' => e = .returned (.int .i64 ((slN (left s 0) c : Nat) : Int)) ∧ Below w.heap.size w w' := by
  obtain ⟨R, hR⟩ : ∃ R, slN (left s 0) c = R := ⟨_, rfl⟩
  rw [hR]
  have t61 : ((c.toNat : Int) == 61) = false := by rw [hc0]; rfl
  have t38 : ((c.toNat : Int) == 38) = false := by rw [hc0]; rfl
  have t124 : ((c.toNat : Int) == 124) = false := by rw [hc0]; rfl
  have t60 : ((c.toNat : Int) == 60) = false := by rw [hc0]; rfl
  have t40 : ((c.toNat : Int) == 40) = false := by rw [hc0]; rfl
  have t41 : ((c.toNat : Int) == 41) = false := by rw [hc0]; rfl
  have t91 : ((c.toNat : Int) == 91) = false := by rw [hc0]; rfl
  have t93 : ((c.toNat : Int) == 93) = false := by rw [hc0]; rfl
  have t123 : ((c.toNat : Int) == 123) = true := by rw [hc0]; rfl
  have hT := take_two s h0
  rw [hc] at hT
  have HR : Hid (R = 1) := Lib.hid (by
    rw [← hR]; unfold slN
    rw [hT, if_neg (two_no (by rw [hc0]; decide) _), if_pos (by rw [hc0]; decide)])
  clear hR hT hc0
  go_enter Tryz.func54, Tryz.ntmps54
  go_wp2_with fail
  go_ret
  exact ⟨by rw [HR.out]; rfl, Below.refl _ _⟩
set_option maxRecDepth 20000 in
set_option maxHeartbeats 2000000 in
theorem lsl_125 {s : ByteArray} {c : UInt8} (_hs : s.size ≤ 100000) (h0 : 0 < s.size) (hc : s[0] = c) (hc0 : c = 125) (w : World) :
    Calls Tryz.prog 54 #[.string s] w fun e w' => e = .returned (.int .i64 ((slN (left s 0) c : Nat) : Int)) ∧ Below w.heap.size w w' := by
  obtain ⟨R, hR⟩ : ∃ R, slN (left s 0) c = R := ⟨_, rfl⟩
  rw [hR]
  have t61 : ((c.toNat : Int) == 61) = false := by rw [hc0]; rfl
  have t38 : ((c.toNat : Int) == 38) = false := by rw [hc0]; rfl
  have t124 : ((c.toNat : Int) == 124) = false := by rw [hc0]; rfl
  have t60 : ((c.toNat : Int) == 60) = false := by rw [hc0]; rfl
  have t40 : ((c.toNat : Int) == 40) = false := by rw [hc0]; rfl
  have t41 : ((c.toNat : Int) == 41) = false := by rw [hc0]; rfl
  have t91 : ((c.toNat : Int) == 91) = false := by rw [hc0]; rfl
  have t93 : ((c.toNat : Int) == 93) = false := by rw [hc0]; rfl
  have t123 : ((c.toNat : Int) == 123) = false := by rw [hc0]; rfl
  have t125 : ((c.toNat : Int) == 125) = true := by rw [hc0]; rfl
  have hT := take_two s h0
  rw [hc] at hT
  have HR : Hid (R = 1) := Lib.hid (by
    rw [← hR]; unfold slN
    rw [hT, if_neg (two_no (by rw [hc0]; decide) _), if_pos (by rw [hc0]; decide)])
  clear hR hT hc0
  go_enter Tryz.func54, Tryz.ntmps54
  go_wp2_with fail
  go_ret
  exact ⟨by rw [HR.out]; rfl, Below.refl _ _⟩
set_option maxRecDepth 20000 in
set_option maxHeartbeats 2000000 in
theorem lsl_44 {s : ByteArray} {c : UInt8} (_hs : s.size ≤ 100000) (h0 : 0 < s.size) (hc : s[0] = c) (hc0 : c = 44) (w : World) :
    Calls Tryz.prog 54 #[.string s] w fun e w' => e = .returned (.int .i64 ((slN (left s 0) c : Nat) : Int)) ∧ Below w.heap.size w w' := by
  obtain ⟨R, hR⟩ : ∃ R, slN (left s 0) c = R := ⟨_, rfl⟩
  rw [hR]
  have t61 : ((c.toNat : Int) == 61) = false := by rw [hc0]; rfl
  have t38 : ((c.toNat : Int) == 38) = false := by rw [hc0]; rfl
  have t124 : ((c.toNat : Int) == 124) = false := by rw [hc0]; rfl
  have t60 : ((c.toNat : Int) == 60) = false := by rw [hc0]; rfl
  have t40 : ((c.toNat : Int) == 40) = false := by rw [hc0]; rfl
  have t41 : ((c.toNat : Int) == 41) = false := by rw [hc0]; rfl
  have t91 : ((c.toNat : Int) == 91) = false := by rw [hc0]; rfl
  have t93 : ((c.toNat : Int) == 93) = false := by rw [hc0]; rfl
  have t123 : ((c.toNat : Int) == 123) = false := by rw [hc0]; rfl
  have t125 : ((c.toNat : Int) == 125) = false := by rw [hc0]; rfl
  have t44 : ((c.toNat : Int) == 44) = true := by rw [hc0]; rfl
  have hT := take_two s h0
  rw [hc] at hT
  have HR : Hid (R = 1) := Lib.hid (by
    rw [← hR]; unfold slN
    rw [hT, if_neg (two_no (by rw [hc0]; decide) _), if_pos (by rw [hc0]; decide)])
  clear hR hT hc0
  go_enter Tryz.func54, Tryz.ntmps54
  go_wp2_with fail
  go_ret
  exact ⟨by rw [HR.out]; rfl, Below.refl _ _⟩
set_option maxRecDepth 20000 in
set_option maxHeartbeats 2000000 in
theorem lsl_58 {s : ByteArray} {c : UInt8} (_hs : s.size ≤ 100000) (h0 : 0 < s.size) (hc : s[0] = c) (hc0 : c = 58) (w : World) :
    Calls Tryz.prog 54 #[.string s] w fun e w' => e = .returned (.int .i64 ((slN (left s 0) c : Nat) : Int)) ∧ Below w.heap.size w w' := by
  obtain ⟨R, hR⟩ : ∃ R, slN (left s 0) c = R := ⟨_, rfl⟩
  rw [hR]
  have t61 : ((c.toNat : Int) == 61) = false := by rw [hc0]; rfl
  have t38 : ((c.toNat : Int) == 38) = false := by rw [hc0]; rfl
  have t124 : ((c.toNat : Int) == 124) = false := by rw [hc0]; rfl
  have t60 : ((c.toNat : Int) == 60) = false := by rw [hc0]; rfl
  have t40 : ((c.toNat : Int) == 40) = false := by rw [hc0]; rfl
  have t41 : ((c.toNat : Int) == 41) = false := by rw [hc0]; rfl
  have t91 : ((c.toNat : Int) == 91) = false := by rw [hc0]; rfl
  have t93 : ((c.toNat : Int) == 93) = false := by rw [hc0]; rfl
  have t123 : ((c.toNat : Int) == 123) = false := by rw [hc0]; rfl
  have t125 : ((c.toNat : Int) == 125) = false := by rw [hc0]; rfl
  have t44 : ((c.toNat : Int) == 44) = false := by rw [hc0]; rfl
  have t58 : ((c.toNat : Int) == 58) = true := by rw [hc0]; rfl
  have hT := take_two s h0
  rw [hc] at hT
  have HR : Hid (R = 1) := Lib.hid (by
    rw [← hR]; unfold slN
    rw [hT, if_neg (two_no (by rw [hc0]; decide) _), if_pos (by rw [hc0]; decide)])
  clear hR hT hc0
  go_enter Tryz.func54, Tryz.ntmps54
  go_wp2_with fail
  go_ret
  exact ⟨by rw [HR.out]; rfl, Below.refl _ _⟩
set_option maxRecDepth 20000 in
set_option maxHeartbeats 2000000 in
theorem lsl_46 {s : ByteArray} {c : UInt8} (_hs : s.size ≤ 100000) (h0 : 0 < s.size) (hc : s[0] = c) (hc0 : c = 46) (w : World) :
    Calls Tryz.prog 54 #[.string s] w fun e w' => e = .returned (.int .i64 ((slN (left s 0) c : Nat) : Int)) ∧ Below w.heap.size w w' := by
  obtain ⟨R, hR⟩ : ∃ R, slN (left s 0) c = R := ⟨_, rfl⟩
  rw [hR]
  have t61 : ((c.toNat : Int) == 61) = false := by rw [hc0]; rfl
  have t38 : ((c.toNat : Int) == 38) = false := by rw [hc0]; rfl
  have t124 : ((c.toNat : Int) == 124) = false := by rw [hc0]; rfl
  have t60 : ((c.toNat : Int) == 60) = false := by rw [hc0]; rfl
  have t40 : ((c.toNat : Int) == 40) = false := by rw [hc0]; rfl
  have t41 : ((c.toNat : Int) == 41) = false := by rw [hc0]; rfl
  have t91 : ((c.toNat : Int) == 91) = false := by rw [hc0]; rfl
  have t93 : ((c.toNat : Int) == 93) = false := by rw [hc0]; rfl
  have t123 : ((c.toNat : Int) == 123) = false := by rw [hc0]; rfl
  have t125 : ((c.toNat : Int) == 125) = false := by rw [hc0]; rfl
  have t44 : ((c.toNat : Int) == 44) = false := by rw [hc0]; rfl
  have t58 : ((c.toNat : Int) == 58) = false := by rw [hc0]; rfl
  have t46 : ((c.toNat : Int) == 46) = true := by rw [hc0]; rfl
  have hT := take_two s h0
  rw [hc] at hT
  have HR : Hid (R = 1) := Lib.hid (by
    rw [← hR]; unfold slN
    rw [hT, if_neg (two_no (by rw [hc0]; decide) _), if_pos (by rw [hc0]; decide)])
  clear hR hT hc0
  go_enter Tryz.func54, Tryz.ntmps54
  go_wp2_with fail
  go_ret
  exact ⟨by rw [HR.out]; rfl, Below.refl _ _⟩
set_option maxRecDepth 20000 in
set_option maxHeartbeats 2000000 in
theorem lsl_63 {s : ByteArray} {c : UInt8} (_hs : s.size ≤ 100000) (h0 : 0 < s.size) (hc : s[0] = c) (hc0 : c = 63) (w : World) :
    Calls Tryz.prog 54 #[.string s] w fun e w' => e = .returned (.int .i64 ((slN (left s 0) c : Nat) : Int)) ∧ Below w.heap.size w w' := by
  obtain ⟨R, hR⟩ : ∃ R, slN (left s 0) c = R := ⟨_, rfl⟩
  rw [hR]
  have t61 : ((c.toNat : Int) == 61) = false := by rw [hc0]; rfl
  have t38 : ((c.toNat : Int) == 38) = false := by rw [hc0]; rfl
  have t124 : ((c.toNat : Int) == 124) = false := by rw [hc0]; rfl
  have t60 : ((c.toNat : Int) == 60) = false := by rw [hc0]; rfl
  have t40 : ((c.toNat : Int) == 40) = false := by rw [hc0]; rfl
  have t41 : ((c.toNat : Int) == 41) = false := by rw [hc0]; rfl
  have t91 : ((c.toNat : Int) == 91) = false := by rw [hc0]; rfl
  have t93 : ((c.toNat : Int) == 93) = false := by rw [hc0]; rfl
  have t123 : ((c.toNat : Int) == 123) = false := by rw [hc0]; rfl
  have t125 : ((c.toNat : Int) == 125) = false := by rw [hc0]; rfl
  have t44 : ((c.toNat : Int) == 44) = false := by rw [hc0]; rfl
  have t58 : ((c.toNat : Int) == 58) = false := by rw [hc0]; rfl
  have t46 : ((c.toNat : Int) == 46) = false := by rw [hc0]; rfl
  have t63 : ((c.toNat : Int) == 63) = true := by rw [hc0]; rfl
  have hT := take_two s h0
  rw [hc] at hT
  have HR : Hid (R = 1) := Lib.hid (by
    rw [← hR]; unfold slN
    rw [hT, if_neg (two_no (by rw [hc0]; decide) _), if_pos (by rw [hc0]; decide)])
  clear hR hT hc0
  go_enter Tryz.func54, Tryz.ntmps54
  go_wp2_with fail
  go_ret
  exact ⟨by rw [HR.out]; rfl, Below.refl _ _⟩
set_option maxRecDepth 20000 in
set_option maxHeartbeats 2000000 in
theorem lsl_43 {s : ByteArray} {c : UInt8} (_hs : s.size ≤ 100000) (h0 : 0 < s.size) (hc : s[0] = c) (hc0 : c = 43) (w : World) :
    Calls Tryz.prog 54 #[.string s] w fun e w' => e = .returned (.int .i64 ((slN (left s 0) c : Nat) : Int)) ∧ Below w.heap.size w w' := by
  obtain ⟨R, hR⟩ : ∃ R, slN (left s 0) c = R := ⟨_, rfl⟩
  rw [hR]
  have t61 : ((c.toNat : Int) == 61) = false := by rw [hc0]; rfl
  have t38 : ((c.toNat : Int) == 38) = false := by rw [hc0]; rfl
  have t124 : ((c.toNat : Int) == 124) = false := by rw [hc0]; rfl
  have t60 : ((c.toNat : Int) == 60) = false := by rw [hc0]; rfl
  have t40 : ((c.toNat : Int) == 40) = false := by rw [hc0]; rfl
  have t41 : ((c.toNat : Int) == 41) = false := by rw [hc0]; rfl
  have t91 : ((c.toNat : Int) == 91) = false := by rw [hc0]; rfl
  have t93 : ((c.toNat : Int) == 93) = false := by rw [hc0]; rfl
  have t123 : ((c.toNat : Int) == 123) = false := by rw [hc0]; rfl
  have t125 : ((c.toNat : Int) == 125) = false := by rw [hc0]; rfl
  have t44 : ((c.toNat : Int) == 44) = false := by rw [hc0]; rfl
  have t58 : ((c.toNat : Int) == 58) = false := by rw [hc0]; rfl
  have t46 : ((c.toNat : Int) == 46) = false := by rw [hc0]; rfl
  have t63 : ((c.toNat : Int) == 63) = false := by rw [hc0]; rfl
  have t43 : ((c.toNat : Int) == 43) = true := by rw [hc0]; rfl
  have hT := take_two s h0
  rw [hc] at hT
  have HR : Hid (R = 1) := Lib.hid (by
    rw [← hR]; unfold slN
    rw [hT, if_neg (two_no (by rw [hc0]; decide) _), if_pos (by rw [hc0]; decide)])
  clear hR hT hc0
  go_enter Tryz.func54, Tryz.ntmps54
  go_wp2_with fail
  go_ret
  exact ⟨by rw [HR.out]; rfl, Below.refl _ _⟩
set_option maxRecDepth 20000 in
set_option maxHeartbeats 2000000 in
theorem lsl_45 {s : ByteArray} {c : UInt8} (_hs : s.size ≤ 100000) (h0 : 0 < s.size) (hc : s[0] = c) (hc0 : c = 45) (w : World) :
    Calls Tryz.prog 54 #[.string s] w fun e w' => e = .returned (.int .i64 ((slN (left s 0) c : Nat) : Int)) ∧ Below w.heap.size w w' := by
  obtain ⟨R, hR⟩ : ∃ R, slN (left s 0) c = R := ⟨_, rfl⟩
  rw [hR]
  have t61 : ((c.toNat : Int) == 61) = false := by rw [hc0]; rfl
  have t38 : ((c.toNat : Int) == 38) = false := by rw [hc0]; rfl
  have t124 : ((c.toNat : Int) == 124) = false := by rw [hc0]; rfl
  have t60 : ((c.toNat : Int) == 60) = false := by rw [hc0]; rfl
  have t40 : ((c.toNat : Int) == 40) = false := by rw [hc0]; rfl
  have t41 : ((c.toNat : Int) == 41) = false := by rw [hc0]; rfl
  have t91 : ((c.toNat : Int) == 91) = false := by rw [hc0]; rfl
  have t93 : ((c.toNat : Int) == 93) = false := by rw [hc0]; rfl
  have t123 : ((c.toNat : Int) == 123) = false := by rw [hc0]; rfl
  have t125 : ((c.toNat : Int) == 125) = false := by rw [hc0]; rfl
  have t44 : ((c.toNat : Int) == 44) = false := by rw [hc0]; rfl
  have t58 : ((c.toNat : Int) == 58) = false := by rw [hc0]; rfl
  have t46 : ((c.toNat : Int) == 46) = false := by rw [hc0]; rfl
  have t63 : ((c.toNat : Int) == 63) = false := by rw [hc0]; rfl
  have t43 : ((c.toNat : Int) == 43) = false := by rw [hc0]; rfl
  have t45 : ((c.toNat : Int) == 45) = true := by rw [hc0]; rfl
  have hT := take_two s h0
  rw [hc] at hT
  have HR : Hid (R = 1) := Lib.hid (by
    rw [← hR]; unfold slN
    rw [hT, if_neg (two_no (by rw [hc0]; decide) _), if_pos (by rw [hc0]; decide)])
  clear hR hT hc0
  go_enter Tryz.func54, Tryz.ntmps54
  go_wp2_with fail
  go_ret
  exact ⟨by rw [HR.out]; rfl, Below.refl _ _⟩
set_option maxRecDepth 20000 in
set_option maxHeartbeats 2000000 in
theorem lsl_42 {s : ByteArray} {c : UInt8} (_hs : s.size ≤ 100000) (h0 : 0 < s.size) (hc : s[0] = c) (hc0 : c = 42) (w : World) :
    Calls Tryz.prog 54 #[.string s] w fun e w' => e = .returned (.int .i64 ((slN (left s 0) c : Nat) : Int)) ∧ Below w.heap.size w w' := by
  obtain ⟨R, hR⟩ : ∃ R, slN (left s 0) c = R := ⟨_, rfl⟩
  rw [hR]
  have t61 : ((c.toNat : Int) == 61) = false := by rw [hc0]; rfl
  have t38 : ((c.toNat : Int) == 38) = false := by rw [hc0]; rfl
  have t124 : ((c.toNat : Int) == 124) = false := by rw [hc0]; rfl
  have t60 : ((c.toNat : Int) == 60) = false := by rw [hc0]; rfl
  have t40 : ((c.toNat : Int) == 40) = false := by rw [hc0]; rfl
  have t41 : ((c.toNat : Int) == 41) = false := by rw [hc0]; rfl
  have t91 : ((c.toNat : Int) == 91) = false := by rw [hc0]; rfl
  have t93 : ((c.toNat : Int) == 93) = false := by rw [hc0]; rfl
  have t123 : ((c.toNat : Int) == 123) = false := by rw [hc0]; rfl
  have t125 : ((c.toNat : Int) == 125) = false := by rw [hc0]; rfl
  have t44 : ((c.toNat : Int) == 44) = false := by rw [hc0]; rfl
  have t58 : ((c.toNat : Int) == 58) = false := by rw [hc0]; rfl
  have t46 : ((c.toNat : Int) == 46) = false := by rw [hc0]; rfl
  have t63 : ((c.toNat : Int) == 63) = false := by rw [hc0]; rfl
  have t43 : ((c.toNat : Int) == 43) = false := by rw [hc0]; rfl
  have t45 : ((c.toNat : Int) == 45) = false := by rw [hc0]; rfl
  have t42 : ((c.toNat : Int) == 42) = true := by rw [hc0]; rfl
  have hT := take_two s h0
  rw [hc] at hT
  have HR : Hid (R = 1) := Lib.hid (by
    rw [← hR]; unfold slN
    rw [hT, if_neg (two_no (by rw [hc0]; decide) _), if_pos (by rw [hc0]; decide)])
  clear hR hT hc0
  go_enter Tryz.func54, Tryz.ntmps54
  go_wp2_with fail
  go_ret
  exact ⟨by rw [HR.out]; rfl, Below.refl _ _⟩
set_option maxRecDepth 20000 in
set_option maxHeartbeats 2000000 in
theorem lsl_47 {s : ByteArray} {c : UInt8} (_hs : s.size ≤ 100000) (h0 : 0 < s.size) (hc : s[0] = c) (hc0 : c = 47) (w : World) :
    Calls Tryz.prog 54 #[.string s] w fun e w' => e = .returned (.int .i64 ((slN (left s 0) c : Nat) : Int)) ∧ Below w.heap.size w w' := by
  obtain ⟨R, hR⟩ : ∃ R, slN (left s 0) c = R := ⟨_, rfl⟩
  rw [hR]
  have t61 : ((c.toNat : Int) == 61) = false := by rw [hc0]; rfl
  have t38 : ((c.toNat : Int) == 38) = false := by rw [hc0]; rfl
  have t124 : ((c.toNat : Int) == 124) = false := by rw [hc0]; rfl
  have t60 : ((c.toNat : Int) == 60) = false := by rw [hc0]; rfl
  have t40 : ((c.toNat : Int) == 40) = false := by rw [hc0]; rfl
  have t41 : ((c.toNat : Int) == 41) = false := by rw [hc0]; rfl
  have t91 : ((c.toNat : Int) == 91) = false := by rw [hc0]; rfl
  have t93 : ((c.toNat : Int) == 93) = false := by rw [hc0]; rfl
  have t123 : ((c.toNat : Int) == 123) = false := by rw [hc0]; rfl
  have t125 : ((c.toNat : Int) == 125) = false := by rw [hc0]; rfl
  have t44 : ((c.toNat : Int) == 44) = false := by rw [hc0]; rfl
  have t58 : ((c.toNat : Int) == 58) = false := by rw [hc0]; rfl
  have t46 : ((c.toNat : Int) == 46) = false := by rw [hc0]; rfl
  have t63 : ((c.toNat : Int) == 63) = false := by rw [hc0]; rfl
  have t43 : ((c.toNat : Int) == 43) = false := by rw [hc0]; rfl
  have t45 : ((c.toNat : Int) == 45) = false := by rw [hc0]; rfl
  have t42 : ((c.toNat : Int) == 42) = false := by rw [hc0]; rfl
  have t47 : ((c.toNat : Int) == 47) = true := by rw [hc0]; rfl
  have hT := take_two s h0
  rw [hc] at hT
  have HR : Hid (R = 1) := Lib.hid (by
    rw [← hR]; unfold slN
    rw [hT, if_neg (two_no (by rw [hc0]; decide) _), if_pos (by rw [hc0]; decide)])
  clear hR hT hc0
  go_enter Tryz.func54, Tryz.ntmps54
  go_wp2_with fail
  go_ret
  exact ⟨by rw [HR.out]; rfl, Below.refl _ _⟩
set_option maxRecDepth 20000 in
set_option maxHeartbeats 2000000 in
theorem lsl_37 {s : ByteArray} {c : UInt8} (_hs : s.size ≤ 100000) (h0 : 0 < s.size) (hc : s[0] = c) (hc0 : c = 37) (w : World) :
    Calls Tryz.prog 54 #[.string s] w fun e w' => e = .returned (.int .i64 ((slN (left s 0) c : Nat) : Int)) ∧ Below w.heap.size w w' := by
  obtain ⟨R, hR⟩ : ∃ R, slN (left s 0) c = R := ⟨_, rfl⟩
  rw [hR]
  have t61 : ((c.toNat : Int) == 61) = false := by rw [hc0]; rfl
  have t38 : ((c.toNat : Int) == 38) = false := by rw [hc0]; rfl
  have t124 : ((c.toNat : Int) == 124) = false := by rw [hc0]; rfl
  have t60 : ((c.toNat : Int) == 60) = false := by rw [hc0]; rfl
  have t40 : ((c.toNat : Int) == 40) = false := by rw [hc0]; rfl
  have t41 : ((c.toNat : Int) == 41) = false := by rw [hc0]; rfl
  have t91 : ((c.toNat : Int) == 91) = false := by rw [hc0]; rfl
  have t93 : ((c.toNat : Int) == 93) = false := by rw [hc0]; rfl
  have t123 : ((c.toNat : Int) == 123) = false := by rw [hc0]; rfl
  have t125 : ((c.toNat : Int) == 125) = false := by rw [hc0]; rfl
  have t44 : ((c.toNat : Int) == 44) = false := by rw [hc0]; rfl
  have t58 : ((c.toNat : Int) == 58) = false := by rw [hc0]; rfl
  have t46 : ((c.toNat : Int) == 46) = false := by rw [hc0]; rfl
  have t63 : ((c.toNat : Int) == 63) = false := by rw [hc0]; rfl
  have t43 : ((c.toNat : Int) == 43) = false := by rw [hc0]; rfl
  have t45 : ((c.toNat : Int) == 45) = false := by rw [hc0]; rfl
  have t42 : ((c.toNat : Int) == 42) = false := by rw [hc0]; rfl
  have t47 : ((c.toNat : Int) == 47) = false := by rw [hc0]; rfl
  have t37 : ((c.toNat : Int) == 37) = true := by rw [hc0]; rfl
  have hT := take_two s h0
  rw [hc] at hT
  have HR : Hid (R = 1) := Lib.hid (by
    rw [← hR]; unfold slN
    rw [hT, if_neg (two_no (by rw [hc0]; decide) _), if_pos (by rw [hc0]; decide)])
  clear hR hT hc0
  go_enter Tryz.func54, Tryz.ntmps54
  go_wp2_with fail
  go_ret
  exact ⟨by rw [HR.out]; rfl, Below.refl _ _⟩
set_option maxRecDepth 20000 in
set_option maxHeartbeats 2000000 in
theorem lsl_33 {s : ByteArray} {c : UInt8} (_hs : s.size ≤ 100000) (h0 : 0 < s.size) (hc : s[0] = c) (hc0 : c = 33) (w : World) :
    Calls Tryz.prog 54 #[.string s] w fun e w' => e = .returned (.int .i64 ((slN (left s 0) c : Nat) : Int)) ∧ Below w.heap.size w w' := by
  obtain ⟨R, hR⟩ : ∃ R, slN (left s 0) c = R := ⟨_, rfl⟩
  rw [hR]
  have t61 : ((c.toNat : Int) == 61) = false := by rw [hc0]; rfl
  have t38 : ((c.toNat : Int) == 38) = false := by rw [hc0]; rfl
  have t124 : ((c.toNat : Int) == 124) = false := by rw [hc0]; rfl
  have t60 : ((c.toNat : Int) == 60) = false := by rw [hc0]; rfl
  have t40 : ((c.toNat : Int) == 40) = false := by rw [hc0]; rfl
  have t41 : ((c.toNat : Int) == 41) = false := by rw [hc0]; rfl
  have t91 : ((c.toNat : Int) == 91) = false := by rw [hc0]; rfl
  have t93 : ((c.toNat : Int) == 93) = false := by rw [hc0]; rfl
  have t123 : ((c.toNat : Int) == 123) = false := by rw [hc0]; rfl
  have t125 : ((c.toNat : Int) == 125) = false := by rw [hc0]; rfl
  have t44 : ((c.toNat : Int) == 44) = false := by rw [hc0]; rfl
  have t58 : ((c.toNat : Int) == 58) = false := by rw [hc0]; rfl
  have t46 : ((c.toNat : Int) == 46) = false := by rw [hc0]; rfl
  have t63 : ((c.toNat : Int) == 63) = false := by rw [hc0]; rfl
  have t43 : ((c.toNat : Int) == 43) = false := by rw [hc0]; rfl
  have t45 : ((c.toNat : Int) == 45) = false := by rw [hc0]; rfl
  have t42 : ((c.toNat : Int) == 42) = false := by rw [hc0]; rfl
  have t47 : ((c.toNat : Int) == 47) = false := by rw [hc0]; rfl
  have t37 : ((c.toNat : Int) == 37) = false := by rw [hc0]; rfl
  have t33 : ((c.toNat : Int) == 33) = true := by rw [hc0]; rfl
  have hT := take_two s h0
  rw [hc] at hT
  have HR : Hid (R = 1) := Lib.hid (by
    rw [← hR]; unfold slN
    rw [hT, if_neg (two_no (by rw [hc0]; decide) _), if_pos (by rw [hc0]; decide)])
  clear hR hT hc0
  go_enter Tryz.func54, Tryz.ntmps54
  go_wp2_with fail
  go_ret
  exact ⟨by rw [HR.out]; rfl, Below.refl _ _⟩
set_option maxRecDepth 20000 in
set_option maxHeartbeats 2000000 in
theorem lsl_none {s : ByteArray} {c : UInt8} (_hs : s.size ≤ 100000) (h0 : 0 < s.size) (hc : s[0] = c) (n61 : ¬ c = 61) (n38 : ¬ c = 38) (n124 : ¬ c = 124) (n60 : ¬ c = 60) (n40 : ¬ c = 40) (n41 : ¬ c = 41) (n91 : ¬ c = 91) (n93 : ¬ c = 93) (n123 : ¬ c = 123) (n125 : ¬ c = 125) (n44 : ¬ c = 44) (n58 : ¬ c = 58) (n46 : ¬ c = 46) (n63 : ¬ c = 63) (n43 : ¬ c = 43) (n45 : ¬ c = 45) (n42 : ¬ c = 42) (n47 : ¬ c = 47) (n37 : ¬ c = 37) (n33 : ¬ c = 33) (w : World) :
    Calls Tryz.prog 54 #[.string s] w fun e w' => e = .returned (.int .i64 ((slN (left s 0) c : Nat) : Int)) ∧ Below w.heap.size w w' := by
  obtain ⟨R, hR⟩ : ∃ R, slN (left s 0) c = R := ⟨_, rfl⟩
  rw [hR]
  have t61 : ((c.toNat : Int) == 61) = false := (u8_eqI (c := c) 61 61 rfl).trans (decide_eq_false n61)
  have t38 : ((c.toNat : Int) == 38) = false := (u8_eqI (c := c) 38 38 rfl).trans (decide_eq_false n38)
  have t124 : ((c.toNat : Int) == 124) = false := (u8_eqI (c := c) 124 124 rfl).trans (decide_eq_false n124)
  have t60 : ((c.toNat : Int) == 60) = false := (u8_eqI (c := c) 60 60 rfl).trans (decide_eq_false n60)
  have t40 : ((c.toNat : Int) == 40) = false := (u8_eqI (c := c) 40 40 rfl).trans (decide_eq_false n40)
  have t41 : ((c.toNat : Int) == 41) = false := (u8_eqI (c := c) 41 41 rfl).trans (decide_eq_false n41)
  have t91 : ((c.toNat : Int) == 91) = false := (u8_eqI (c := c) 91 91 rfl).trans (decide_eq_false n91)
  have t93 : ((c.toNat : Int) == 93) = false := (u8_eqI (c := c) 93 93 rfl).trans (decide_eq_false n93)
  have t123 : ((c.toNat : Int) == 123) = false := (u8_eqI (c := c) 123 123 rfl).trans (decide_eq_false n123)
  have t125 : ((c.toNat : Int) == 125) = false := (u8_eqI (c := c) 125 125 rfl).trans (decide_eq_false n125)
  have t44 : ((c.toNat : Int) == 44) = false := (u8_eqI (c := c) 44 44 rfl).trans (decide_eq_false n44)
  have t58 : ((c.toNat : Int) == 58) = false := (u8_eqI (c := c) 58 58 rfl).trans (decide_eq_false n58)
  have t46 : ((c.toNat : Int) == 46) = false := (u8_eqI (c := c) 46 46 rfl).trans (decide_eq_false n46)
  have t63 : ((c.toNat : Int) == 63) = false := (u8_eqI (c := c) 63 63 rfl).trans (decide_eq_false n63)
  have t43 : ((c.toNat : Int) == 43) = false := (u8_eqI (c := c) 43 43 rfl).trans (decide_eq_false n43)
  have t45 : ((c.toNat : Int) == 45) = false := (u8_eqI (c := c) 45 45 rfl).trans (decide_eq_false n45)
  have t42 : ((c.toNat : Int) == 42) = false := (u8_eqI (c := c) 42 42 rfl).trans (decide_eq_false n42)
  have t47 : ((c.toNat : Int) == 47) = false := (u8_eqI (c := c) 47 47 rfl).trans (decide_eq_false n47)
  have t37 : ((c.toNat : Int) == 37) = false := (u8_eqI (c := c) 37 37 rfl).trans (decide_eq_false n37)
  have t33 : ((c.toNat : Int) == 33) = false := (u8_eqI (c := c) 33 33 rfl).trans (decide_eq_false n33)
  have hT := take_two s h0
  rw [hc] at hT
  have HR : Hid (R = 0) := Lib.hid (by
    rw [← hR]; unfold slN
    rw [hT, if_neg (two_no ⟨n61, n60, n38, n124⟩ _), if_neg]
    unfold onesL
    simp only [List.mem_cons, List.not_mem_nil, or_false, not_or]
    exact ⟨n40, n41, n91, n93, n123, n125, n44, n58, n46, n63, n43, n45, n42, n47, n37, n33, n60⟩)
  clear hR hT n61 n38 n124 n60 n40 n41 n91 n93 n123 n125 n44 n58 n46 n63 n43 n45 n42 n47 n37 n33
  go_enter Tryz.func54, Tryz.ntmps54
  go_wp2_with fail
  go_ret
  exact ⟨by rw [HR.out]; rfl, Below.refl _ _⟩
theorem lsl_any {s : ByteArray} (hs : s.size ≤ 100000) (h0 : 0 < s.size) (w : World) :
    Calls Tryz.prog 54 #[.string s] w fun e w' => e = .returned (.int .i64 ((slN (left s 0) s[0] : Nat) : Int)) ∧ Below w.heap.size w w' := by
  by_cases n61 : s[0] = 61
  · exact lsl_61 hs h0 rfl n61 w
  by_cases n38 : s[0] = 38
  · exact lsl_38 hs h0 rfl n38 w
  by_cases n124 : s[0] = 124
  · exact lsl_124 hs h0 rfl n124 w
  by_cases n60 : s[0] = 60
  · exact lsl_60 hs h0 rfl n60 w
  by_cases n40 : s[0] = 40
  · exact lsl_40 hs h0 rfl n40 w
  by_cases n41 : s[0] = 41
  · exact lsl_41 hs h0 rfl n41 w
  by_cases n91 : s[0] = 91
  · exact lsl_91 hs h0 rfl n91 w
  by_cases n93 : s[0] = 93
  · exact lsl_93 hs h0 rfl n93 w
  by_cases n123 : s[0] = 123
  · exact lsl_123 hs h0 rfl n123 w
  by_cases n125 : s[0] = 125
  · exact lsl_125 hs h0 rfl n125 w
  by_cases n44 : s[0] = 44
  · exact lsl_44 hs h0 rfl n44 w
  by_cases n58 : s[0] = 58
  · exact lsl_58 hs h0 rfl n58 w
  by_cases n46 : s[0] = 46
  · exact lsl_46 hs h0 rfl n46 w
  by_cases n63 : s[0] = 63
  · exact lsl_63 hs h0 rfl n63 w
  by_cases n43 : s[0] = 43
  · exact lsl_43 hs h0 rfl n43 w
  by_cases n45 : s[0] = 45
  · exact lsl_45 hs h0 rfl n45 w
  by_cases n42 : s[0] = 42
  · exact lsl_42 hs h0 rfl n42 w
  by_cases n47 : s[0] = 47
  · exact lsl_47 hs h0 rfl n47 w
  by_cases n37 : s[0] = 37
  · exact lsl_37 hs h0 rfl n37 w
  by_cases n33 : s[0] = 33
  · exact lsl_33 hs h0 rfl n33 w
  exact lsl_none hs h0 rfl n61 n38 n124 n60 n40 n41 n91 n93 n123 n125 n44 n58 n46 n63 n43 n45 n42 n47 n37 n33 w
set_option maxRecDepth 20000 in
set_option maxHeartbeats 2000000 in
theorem lsig_any {s : ByteArray} (hs : s.size ≤ 100000) (h0 : 0 < s.size) (w : World) : Calls Tryz.prog 35 #[.string s] w fun e w' => HdEnds 0 (signT (left s 0) s[0]) w e w' := by
  have SF := float_store
  have L := fun W => lsl_any hs h0 W
  obtain ⟨n, hn⟩ : ∃ n, slN (left s 0) s[0] = n := ⟨_, rfl⟩
  rw [hn] at L
  have hT := take_two s h0
  by_cases h1 : n = 0
  · subst h1
    have hH : signT (left s 0) s[0] = .err 5 := by
      unfold slN at hn
      unfold signT oneT
      split at hn
      · cases hn
      · rename_i h2
        rw [if_neg h2]
        split at hn
        · cases hn
        · rename_i h3
          rw [if_neg h3]
    rw [hH]
    clear hH hn hT
    go_enter Tryz.func35, Tryz.ntmps35
    go_wp2_with (go_at_call 54; refine (L _).mono ?_; rintro e w1 ⟨rfl, hb1⟩; refine Hid.out ?_)
    refine Lib.hid ?_
    have hR := (RB.start w (.int .i64 0) (.int .i64 0) (.int .i64 0) (.int .i64 0) (.float .f64 0) (.string ⟨#[]⟩)).step hb1
    obtain ⟨a0, a1, a2, a3, a4, a5, d0, d1, d2, d3, d4, d5, df⟩ := hR.cells
    have HR := Lib.hid hR
    clear hR hb1 L
    go_wp2_with fail
    have hG := HR.out.done (.int .i64 0) (.int .i64 0) (.int .i64 0) (.int .i64 0) (.float .f64 0) (.string ⟨#[]⟩)
    exact box_bad rfl hG.1 hG.2 rfl rfl
  · have hH : signT (left s 0) s[0] = .ok ⟨6, n, 0, 0, (left s 0).take n⟩ ∧ n ≤ s.size := by
      unfold slN at hn
      unfold signT oneT
      split at hn
      · rename_i h2
        rw [if_pos h2]
        subst hn
        have hl := twoB_len h2
        rw [List.length_take, left_len] at hl
        exact ⟨rfl, by omega⟩
      · rename_i h2
        rw [if_neg h2]
        split at hn
        · rename_i h3
          rw [if_pos h3]
          subst hn
          have e : left s 0 = s[0] :: left s 1 := left_cons h0
          rw [e]
          exact ⟨rfl, h0⟩
        · exact absurd hn.symm h1
    obtain ⟨hH, hns⟩ := hH
    rw [hH]
    have hx : s.extract 0 n = strL ((left s 0).take n) := ext_self s 0 n
    have WC := fun X => wtx_any (s := s.extract 0 n) (by simp; omega) 6 X
    have hvs : (s.extract 0 n).size = n := by simp; omega
    rw [hvs] at WC
    obtain ⟨v, hv⟩ : ∃ v, s.extract 0 n = v := ⟨_, rfl⟩
    rw [hv] at hx WC
    have t0 : ((n : Int) == 0) = false := by rw [beq_eq_false_iff_ne]; omega
    have HV := Lib.hid hx
    clear hH hn hT h1 hx hvs
    go_enter Tryz.func35, Tryz.ntmps35
    go_wp2_with (first | (go_at_call 54; refine (L _).mono ?_; rintro e w1 ⟨rfl, hb1⟩) | (go_at_call 53; refine (WC _).mono ?_; rintro e w4 ⟨rfl, hb4⟩; refine Hid.out ?_))
    refine Lib.hid ?_
    have hR := ((RB.start w (.int .i64 0) (.int .i64 0) (.int .i64 0) (.int .i64 0) (.float .f64 0) (.string ⟨#[]⟩)).step hb1).step hb4
    obtain ⟨a0, a1, a2, a3, a4, a5, d0, d1, d2, d3, d4, d5, df⟩ := hR.cells
    have HR := Lib.hid hR
    clear hR hb1 hb4 L WC
    go_wp2_with fail
    have hG := HR.out.done (.int .i64 6) (.int .i64 0) (.int .i64 n) (.int .i64 0) (.float .f64 0) (.string v)
    exact box_good (t := ⟨6, n, 0, 0, (left s 0).take n⟩) rfl hG.1 hG.2 rfl rfl rfl rfl HV.out
/-- What a reader's answer holds, beside the world. -/
def HdV (a : Nat) (h : Hd) (e : Ending) : Prop :=
  match h with
    | .ok t => e = .returned (.tuple #[.agg (tokV t.k a ((a + t.len : Nat) : Int) t.n t.f (strL t.s)), .int .i64 0])
    | .err y => ∃ k i b n f s, e = .returned (.tuple #[.agg (tokV k i b n f s), .int .i64 y])
theorem HdEnds.form {a : Nat} {h : Hd} {w w' : World} {e : Ending} (H : HdEnds a h w e w') : ∃ k i b n f s y, e = .returned (.tuple #[.agg #[.int .i64 k, .int .i64 i, .int .i64 b, .int .i64 n, .float .f64 f, .string s], .int .i64 y]) ∧ Hid (HdV a h e) ∧ Below w.heap.size w w' := by
  obtain ⟨h1, hb⟩ := H
  cases h with
  | ok t => exact ⟨_, _, _, _, _, _, _, h1, Lib.hid h1, hb⟩
  | err y =>
    obtain ⟨k, i, b, n, f, s, h1⟩ := h1
    exact ⟨k, i, b, n, f, s, y, h1, Lib.hid ⟨k, i, b, n, f, s, h1⟩, hb⟩
theorem HdEnds.mk {a : Nat} {h : Hd} {w w' : World} {e : Ending} (h1 : HdV a h e) (hb : Below w.heap.size w w') : HdEnds a h w e w' := ⟨h1, hb⟩
set_option maxRecDepth 20000 in
set_option maxHeartbeats 2000000 in
theorem ltok_num {s : ByteArray} {c : UInt8} (h0 : 0 < s.size) (hc : s[0] = c) (hd : isD c = true) {w : World} {H : Hd} (C0 : ∀ W, Tabs W → Calls Tryz.prog 31 #[.string s] W fun e w' => HdEnds 0 H W e w') (ht : Tabs w) :
    Calls Tryz.prog 24 #[.string s] w fun e w' => HdEnds 0 H w e w' := by
  have SF := float_store
  have T0 : (s.toList == []) = false := beq_no (fun e => by
    rw [str_is] at e
    have h2 : (0 : Nat) = s.size - 0 := by
      have h3 := left_len s 0
      rw [left_0, e] at h3
      exact h3
    omega)
  have T1 : s.toList.isEmpty = false := by rw [List.isEmpty_eq_false_iff]; exact of_decide_eq_false (by simpa using T0)
  have C : ∀ W, Tabs W → Calls Tryz.prog 31 #[.string s] W fun e w' => ∃ k i b n f s y, e = .returned (.tuple #[.agg #[.int .i64 k, .int .i64 i, .int .i64 b, .int .i64 n, .float .f64 f, .string s], .int .i64 y]) ∧ Hid (HdV 0 H e) ∧ Below W.heap.size W w' := fun W hT => (C0 W hT).mono fun e w' h => h.form
  have D := fun W => ldig_any c W
  rw [hd] at D
  clear C0 hd
  go_enter Tryz.func24, Tryz.ntmps24
  go_wp2_with (first | (go_at_call 30; refine (D _).mono ?_; rintro e w1 ⟨rfl, rfl⟩) | (go_at_call 31; refine (C _ (tabs_box ht _)).mono ?_; rintro e w4 ⟨k, i, b, n, f, v, y, rfl, HV, hb4⟩; refine Hid.out ?_))
  refine Lib.hid ?_
  have hR := (RB.start w (.int .i64 0) (.int .i64 0) (.int .i64 0) (.int .i64 0) (.float .f64 0) (.string ⟨#[]⟩)).step hb4
  obtain ⟨a0, a1, a2, a3, a4, a5, d0, d1, d2, d3, d4, d5, df⟩ := hR.cells
  have HR := Lib.hid hR
  clear hR hb4 C
  go_wp2_with fail
  have hG := HR.out.done (.int .i64 k) (.int .i64 i) (.int .i64 b) (.int .i64 n) (.float .f64 f) (.string v)
  exact bodyPost_ret (results_tokq (p := 2) (q := 3) (y := .int .i64 y) rfl _ _ w.heap.size _ _ _ _ _ _ rfl rfl hG.1) rfl (HdEnds.mk HV.out hG.2)
set_option maxRecDepth 20000 in
set_option maxHeartbeats 2000000 in
theorem ltok_nam {s : ByteArray} {c : UInt8} (h0 : 0 < s.size) (hc : s[0] = c) (hd : isD c = false) (hl : letB c = true) {w : World} {H : Hd} (C0 : ∀ W, Tabs W → Calls Tryz.prog 33 #[.string s] W fun e w' => HdEnds 0 H W e w') (ht : Tabs w) :
    Calls Tryz.prog 24 #[.string s] w fun e w' => HdEnds 0 H w e w' := by
  have SF := float_store
  have T0 : (s.toList == []) = false := beq_no (fun e => by
    rw [str_is] at e
    have h2 : (0 : Nat) = s.size - 0 := by
      have h3 := left_len s 0
      rw [left_0, e] at h3
      exact h3
    omega)
  have T1 : s.toList.isEmpty = false := by rw [List.isEmpty_eq_false_iff]; exact of_decide_eq_false (by simpa using T0)
  have C : ∀ W, Tabs W → Calls Tryz.prog 33 #[.string s] W fun e w' => ∃ k i b n f s y, e = .returned (.tuple #[.agg #[.int .i64 k, .int .i64 i, .int .i64 b, .int .i64 n, .float .f64 f, .string s], .int .i64 y]) ∧ Hid (HdV 0 H e) ∧ Below W.heap.size W w' := fun W hT => (C0 W hT).mono fun e w' h => h.form
  have D := fun W => ldig_any c W
  rw [hd] at D
  have L := fun W => llet_any c W
  rw [hl] at L
  clear C0 hd hl
  go_enter Tryz.func24, Tryz.ntmps24
  go_wp2_with (first | (go_at_call 30; refine (D _).mono ?_; rintro e w1 ⟨rfl, rfl⟩) | (go_at_call 32; refine (L _).mono ?_; rintro e w1 ⟨rfl, rfl⟩) | (go_at_call 33; refine (C _ (tabs_box ht _)).mono ?_; rintro e w4 ⟨k, i, b, n, f, v, y, rfl, HV, hb4⟩; refine Hid.out ?_))
  refine Lib.hid ?_
  have hR := (RB.start w (.int .i64 0) (.int .i64 0) (.int .i64 0) (.int .i64 0) (.float .f64 0) (.string ⟨#[]⟩)).step hb4
  obtain ⟨a0, a1, a2, a3, a4, a5, d0, d1, d2, d3, d4, d5, df⟩ := hR.cells
  have HR := Lib.hid hR
  clear hR hb4 C
  go_wp2_with fail
  have hG := HR.out.done (.int .i64 k) (.int .i64 i) (.int .i64 b) (.int .i64 n) (.float .f64 f) (.string v)
  exact bodyPost_ret (results_tokq (p := 2) (q := 3) (y := .int .i64 y) rfl _ _ w.heap.size _ _ _ _ _ _ rfl rfl hG.1) rfl (HdEnds.mk HV.out hG.2)
set_option maxRecDepth 20000 in
set_option maxHeartbeats 2000000 in
theorem ltok_quo {s : ByteArray} {c : UInt8} (h0 : 0 < s.size) (hc : s[0] = c) (hd : isD c = false) (hl : letB c = false) (hq : c = 34) {w : World} {H : Hd} (C0 : ∀ W, Tabs W → Calls Tryz.prog 34 #[.string s] W fun e w' => HdEnds 0 H W e w') (ht : Tabs w) :
    Calls Tryz.prog 24 #[.string s] w fun e w' => HdEnds 0 H w e w' := by
  have SF := float_store
  have T0 : (s.toList == []) = false := beq_no (fun e => by
    rw [str_is] at e
    have h2 : (0 : Nat) = s.size - 0 := by
      have h3 := left_len s 0
      rw [left_0, e] at h3
      exact h3
    omega)
  have T1 : s.toList.isEmpty = false := by rw [List.isEmpty_eq_false_iff]; exact of_decide_eq_false (by simpa using T0)
  have C : ∀ W, Tabs W → Calls Tryz.prog 34 #[.string s] W fun e w' => ∃ k i b n f s y, e = .returned (.tuple #[.agg #[.int .i64 k, .int .i64 i, .int .i64 b, .int .i64 n, .float .f64 f, .string s], .int .i64 y]) ∧ Hid (HdV 0 H e) ∧ Below W.heap.size W w' := fun W hT => (C0 W hT).mono fun e w' h => h.form
  have D := fun W => ldig_any c W
  rw [hd] at D
  have L := fun W => llet_any c W
  rw [hl] at L
  have T34 : ((c.toNat : Int) == 34) = true := by rw [hq]; rfl
  clear C0 hd hl hq
  go_enter Tryz.func24, Tryz.ntmps24
  go_wp2_with (first | (go_at_call 30; refine (D _).mono ?_; rintro e w1 ⟨rfl, rfl⟩) | (go_at_call 32; refine (L _).mono ?_; rintro e w1 ⟨rfl, rfl⟩) | (go_at_call 34; refine (C _ (tabs_box ht _)).mono ?_; rintro e w4 ⟨k, i, b, n, f, v, y, rfl, HV, hb4⟩; refine Hid.out ?_))
  refine Lib.hid ?_
  have hR := (RB.start w (.int .i64 0) (.int .i64 0) (.int .i64 0) (.int .i64 0) (.float .f64 0) (.string ⟨#[]⟩)).step hb4
  obtain ⟨a0, a1, a2, a3, a4, a5, d0, d1, d2, d3, d4, d5, df⟩ := hR.cells
  have HR := Lib.hid hR
  clear hR hb4 C
  go_wp2_with fail
  have hG := HR.out.done (.int .i64 k) (.int .i64 i) (.int .i64 b) (.int .i64 n) (.float .f64 f) (.string v)
  exact bodyPost_ret (results_tokq (p := 2) (q := 3) (y := .int .i64 y) rfl _ _ w.heap.size _ _ _ _ _ _ rfl rfl hG.1) rfl (HdEnds.mk HV.out hG.2)
set_option maxRecDepth 20000 in
set_option maxHeartbeats 2000000 in
theorem ltok_sig {s : ByteArray} {c : UInt8} (h0 : 0 < s.size) (hc : s[0] = c) (hd : isD c = false) (hl : letB c = false) (hq : ¬ c = 34) {w : World} {H : Hd} (C0 : ∀ W, Tabs W → Calls Tryz.prog 35 #[.string s] W fun e w' => HdEnds 0 H W e w') (ht : Tabs w) :
    Calls Tryz.prog 24 #[.string s] w fun e w' => HdEnds 0 H w e w' := by
  have SF := float_store
  have T0 : (s.toList == []) = false := beq_no (fun e => by
    rw [str_is] at e
    have h2 : (0 : Nat) = s.size - 0 := by
      have h3 := left_len s 0
      rw [left_0, e] at h3
      exact h3
    omega)
  have T1 : s.toList.isEmpty = false := by rw [List.isEmpty_eq_false_iff]; exact of_decide_eq_false (by simpa using T0)
  have C : ∀ W, Tabs W → Calls Tryz.prog 35 #[.string s] W fun e w' => ∃ k i b n f s y, e = .returned (.tuple #[.agg #[.int .i64 k, .int .i64 i, .int .i64 b, .int .i64 n, .float .f64 f, .string s], .int .i64 y]) ∧ Hid (HdV 0 H e) ∧ Below W.heap.size W w' := fun W hT => (C0 W hT).mono fun e w' h => h.form
  have D := fun W => ldig_any c W
  rw [hd] at D
  have L := fun W => llet_any c W
  rw [hl] at L
  have T34 : ((c.toNat : Int) == 34) = false := (u8_eqI (c := c) 34 34 rfl).trans (decide_eq_false hq)
  clear C0 hd hl hq
  go_enter Tryz.func24, Tryz.ntmps24
  go_wp2_with (first | (go_at_call 30; refine (D _).mono ?_; rintro e w1 ⟨rfl, rfl⟩) | (go_at_call 32; refine (L _).mono ?_; rintro e w1 ⟨rfl, rfl⟩) | (go_at_call 35; refine (C _ (tabs_box ht _)).mono ?_; rintro e w4 ⟨k, i, b, n, f, v, y, rfl, HV, hb4⟩; refine Hid.out ?_))
  refine Lib.hid ?_
  have hR := (RB.start w (.int .i64 0) (.int .i64 0) (.int .i64 0) (.int .i64 0) (.float .f64 0) (.string ⟨#[]⟩)).step hb4
  obtain ⟨a0, a1, a2, a3, a4, a5, d0, d1, d2, d3, d4, d5, df⟩ := hR.cells
  have HR := Lib.hid hR
  clear hR hb4 C
  go_wp2_with fail
  have hG := HR.out.done (.int .i64 k) (.int .i64 i) (.int .i64 b) (.int .i64 n) (.float .f64 f) (.string v)
  exact bodyPost_ret (results_tokq (p := 2) (q := 3) (y := .int .i64 y) rfl _ _ w.heap.size _ _ _ _ _ _ rfl rfl hG.1) rfl (HdEnds.mk HV.out hG.2)
set_option maxRecDepth 20000 in
theorem ltok_end (w : World) : Calls Tryz.prog 24 #[.string ⟨#[]⟩] w fun e w' => HdEnds 0 (.ok ⟨1, 0, 0, 0, []⟩) w e w' := by
  have SF := float_store
  go_enter Tryz.func24, Tryz.ntmps24
  go_wp2_with fail
  exact box_good (t := ⟨1, 0, 0, 0, []⟩) rfl (Bx.new w _) (RB.start w (.int .i64 1) (.int .i64 0) (.int .i64 0) (.int .i64 0) (.float .f64 0) (.string ⟨#[]⟩)).below rfl rfl rfl rfl rfl
theorem ltok_any {s : ByteArray} (hs : s.size ≤ 100000) {w : World} (ht : Tabs w) : Calls Tryz.prog 24 #[.string s] w fun e w' => HdEnds 0 (headT (left s 0)) w e w' := by
  by_cases h0 : 0 < s.size
  · have e : left s 0 = s[0] :: left s 1 := left_cons h0
    obtain ⟨c, hc⟩ : ∃ c, s[0] = c := ⟨_, rfl⟩
    have hH : headT (left s 0) = if isD c = true then numT (left s 0) else if letB c = true then nameT (left s 0) else if c = 34 then strT (left s 0) else signT (left s 0) c := by
      rw [hc] at e
      conv => lhs; rw [e]
      rw [headT_cons, ← e]
    rw [hH]
    cases hd : isD c with
    | true =>
      rw [if_pos rfl]
      exact ltok_num h0 hc hd (fun W hT => lnum_any hs (by rw [e, hc]; exact dig_cons hd) hT) ht
    | false =>
      rw [if_neg Bool.false_ne_true]
      cases hl : letB c with
      | true =>
        rw [if_pos rfl]
        exact ltok_nam h0 hc hd hl (fun W hT => lname_any hs h0 (by rw [hc]; exact hl) hT) ht
      | false =>
        rw [if_neg Bool.false_ne_true]
        by_cases hq : c = 34
        · rw [if_pos hq]
          exact ltok_quo h0 hc hd hl hq (fun W _ => lquo_any hs h0 W) ht
        · rw [if_neg hq]
          exact ltok_sig h0 hc hd hl hq (fun W _ => by have := lsig_any hs h0 W; rw [hc] at this; exact this) ht
  · have hz : s.size = 0 := by omega
    have e : s = ⟨#[]⟩ := by
      apply ByteArray.ext
      exact Array.eq_empty_of_size_eq_zero hz
    subst e
    exact ltok_end w
end Go.Proofs.YtfkjehgbghckhaaGreatDoor

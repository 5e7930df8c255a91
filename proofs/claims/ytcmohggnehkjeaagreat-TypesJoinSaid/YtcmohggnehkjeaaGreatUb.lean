/-
  The document's blank, digit, letter, run and Word.
-/
import Derived.Test.YtcmohggnehkjeaaGreatUa
namespace Go.Proofs.YtcmohggnehkjeaaGreat
open Go.RowKit

theorem u8_test (c : UInt8) (n : Nat) : ((c.toNat : Int) == (n : Int)) = decide (c.toNat = n) := by
  rw [Bool.eq_iff_iff, beq_iff_eq, decide_eq_true_eq]; omega
theorem blank_any (c : UInt8) (w : World) : Calls Tryz.prog 168 #[.int .u8 c.toNat] w fun e w' => e = .returned (.bool (blkB c)) ∧ w = w' := by
  obtain ⟨r, hr⟩ : ∃ r, r = blkB c := ⟨_, rfl⟩
  rw [← hr]
  have HR := Lib.hid hr
  clear hr
  by_cases h1 : c.toNat = 32
  · have t1 : ((c.toNat : Int) == 32) = true := by simp; omega
    have HC := Lib.hid h1
    clear h1
    go_enter Tryz.func168, Tryz.ntmps168
    go_wp2_with fail
    go_ret
    exact ⟨by rw [HR.out]; unfold blkB; rw [HC.out]; rfl, rfl⟩
  have t1 : ((c.toNat : Int) == 32) = false := by simp; omega
  by_cases h2 : c.toNat = 9
  · have t2 : ((c.toNat : Int) == 9) = true := by simp; omega
    have HC := Lib.hid h2
    clear h2 h1
    go_enter Tryz.func168, Tryz.ntmps168
    go_wp2_with fail
    go_ret
    exact ⟨by rw [HR.out]; unfold blkB; rw [HC.out]; rfl, rfl⟩
  have t2 : ((c.toNat : Int) == 9) = false := by simp; omega
  by_cases h3 : c.toNat = 10
  · have t3 : ((c.toNat : Int) == 10) = true := by simp; omega
    have HC := Lib.hid h3
    clear h3 h2 h1
    go_enter Tryz.func168, Tryz.ntmps168
    go_wp2_with fail
    go_ret
    exact ⟨by rw [HR.out]; unfold blkB; rw [HC.out]; rfl, rfl⟩
  have t3 : ((c.toNat : Int) == 10) = false := by simp; omega
  obtain ⟨b, hb⟩ : ∃ b, decide (c.toNat = 13) = b := ⟨_, rfl⟩
  have t4 : ((c.toNat : Int) == 13) = b := by rw [← hb]; exact u8_test c 13
  have HC := Lib.hid (show blkB c = b by unfold blkB; rw [decide_eq_false h1, decide_eq_false h2, decide_eq_false h3, hb]; rfl)
  clear h1 h2 h3 hb
  go_enter Tryz.func168, Tryz.ntmps168
  go_wp2_with fail
  go_ret
  exact ⟨by rw [HR.out, HC.out]; rfl, rfl⟩
theorem digit_any (c : UInt8) (w : World) : Calls Tryz.prog 169 #[.int .u8 c.toNat] w fun e w' => e = .returned (.bool (isD c)) ∧ w = w' := by
  obtain ⟨r, hr⟩ : ∃ r, r = isD c := ⟨_, rfl⟩
  rw [← hr]
  unfold isD at hr
  have HR := Lib.hid hr
  clear hr
  by_cases h1 : 48 ≤ c.toNat
  · have t1 : decide ((48 : Int) ≤ (c.toNat : Int)) = true := decide_eq_true (by omega)
    obtain ⟨b, hb⟩ : ∃ b, decide (c.toNat ≤ 57) = b := ⟨_, rfl⟩
    have t2 : decide ((c.toNat : Int) ≤ 57) = b := by rw [← hb, decide_eq_decide]; omega
    have HC := Lib.hid (show r = b by rw [HR.out, decide_eq_true h1, hb]; rfl)
    clear h1 hb
    go_enter Tryz.func169, Tryz.ntmps169
    go_wp2_with fail
    go_ret
    exact ⟨by rw [HC.out]; rfl, rfl⟩
  · have t1 : decide ((48 : Int) ≤ (c.toNat : Int)) = false := decide_eq_false (by omega)
    have HC := Lib.hid (show r = false by rw [HR.out, decide_eq_false h1]; rfl)
    clear h1
    go_enter Tryz.func169, Tryz.ntmps169
    go_wp2_with fail
    go_ret
    exact ⟨by rw [HC.out]; rfl, rfl⟩
theorem letter_any (c : UInt8) (w : World) : Calls Tryz.prog 171 #[.int .u8 c.toNat] w fun e w' => e = .returned (.bool (letB c)) ∧ w = w' := by
  obtain ⟨r, hr⟩ : ∃ r, r = letB c := ⟨_, rfl⟩
  rw [← hr]
  unfold letB at hr
  have HR := Lib.hid hr
  clear hr
  by_cases h1 : 97 ≤ c.toNat
  · have t1 : decide ((97 : Int) ≤ (c.toNat : Int)) = true := decide_eq_true (by omega)
    obtain ⟨b, hb⟩ : ∃ b, decide (c.toNat ≤ 122) = b := ⟨_, rfl⟩
    have t2 : decide ((c.toNat : Int) ≤ 122) = b := by rw [← hb, decide_eq_decide]; omega
    have HC := Lib.hid (show r = b by rw [HR.out, decide_eq_true h1, hb]; rfl)
    clear h1 hb
    go_enter Tryz.func171, Tryz.ntmps171
    go_wp2_with fail
    go_ret
    exact ⟨by rw [HC.out]; rfl, rfl⟩
  · have t1 : decide ((97 : Int) ≤ (c.toNat : Int)) = false := decide_eq_false (by omega)
    have HC := Lib.hid (show r = false by rw [HR.out, decide_eq_false h1]; rfl)
    clear h1
    go_enter Tryz.func171, Tryz.ntmps171
    go_wp2_with fail
    go_ret
    exact ⟨by rw [HC.out]; rfl, rfl⟩
/-- Behind digits from a place on. -/
theorem tw_cons {p : UInt8 → Bool} {c : UInt8} {l : List UInt8} (h : p c = true) : ((c :: l).takeWhile p).length = (l.takeWhile p).length + 1 := by
  rw [List.takeWhile_cons_of_pos h]; rfl
theorem tw_stop {p : UInt8 → Bool} {c : UInt8} {l : List UInt8} (h : p c = false) : ((c :: l).takeWhile p).length = 0 := by
  rw [List.takeWhile_cons_of_neg (by rw [h]; exact Bool.false_ne_true)]; rfl
set_option maxHeartbeats 1000000 in
theorem run_any {s : ByteArray} {i : Nat} (hi : i ≤ s.size) (hs : s.size ≤ 100000) (w : World) :
    Calls Tryz.prog 197 #[.string s, .int .i64 i] w fun e w' => e = .returned (.int .i64 ((i + (dig (left s i)).length : Nat) : Int)) ∧ w = w' := by
  have D := digit_any
  obtain ⟨R, hR⟩ : ∃ R, i + (dig (left s i)).length = R := ⟨_, rfl⟩
  rw [hR]
  have HR := Lib.hid hR
  clear hR
  go_enter Tryz.func197, Tryz.ntmps197
  go_wp2_with fail
  go_loopw [1] (fun iv wr => ∃ k : Nat, k ≤ s.size ∧ iv = .int .i64 k ∧ Hid (k + (dig (left s k)).length = R) ∧ wr = w) (fun iv _ => s.size - (intOf iv).toNat)
  case atStart => exact ⟨i, hi, rfl, HR, rfl⟩
  case round =>
    obtain ⟨k, hk, rfl, hF, rfl⟩ := hrel
    by_cases hlt : k < s.size
    · obtain ⟨c, hc⟩ : ∃ c, s[k] = c := ⟨_, rfl⟩
      have hF' := hF.out
      rw [left_cons hlt, hc] at hF'
      cases hd : isD c with
      | true =>
        have DC := D c
        rw [hd] at DC
        have HN : Hid (k + 1 + (dig (left s (k + 1))).length = R) := Lib.hid (by
          unfold dig at hF' ⊢
          rw [tw_cons hd] at hF'; omega)
        clear hF' hF hd
        go_wp2_with (go_at_call 169; refine (DC _).mono ?_; rintro e w1 ⟨rfl, rfl⟩)
        go_roundw
        case rel => exact ⟨k + 1, by omega, by go_num, HN, trivial⟩
        case measure => simp [intOf]; omega
      | false =>
        have DC := D c
        rw [hd] at DC
        have HN : Hid (k = R) := Lib.hid (by
          unfold dig at hF'
          rw [tw_stop hd] at hF'; omega)
        clear hF' hF hd
        go_wp2_with (go_at_call 169; refine (DC _).mono ?_; rintro e w1 ⟨rfl, rfl⟩)
        go_ret
        exact ⟨by rw [HN.out]; rfl, rfl⟩
    · have HN : Hid (k = R) := Lib.hid (by
        have hF' := hF.out
        rw [left_nil (by omega)] at hF'
        simpa [dig] using hF')
      clear hF
      go_wp2_with fail
      go_ret
      exact ⟨by rw [HN.out]; rfl, rfl⟩
/-- The words of the language. -/
def wordsL : List (List UInt8) := [[116, 114, 117, 101], [102, 97, 108, 115, 101], [110, 97, 110], [105, 110, 102], [108, 101, 110], [102, 108, 111, 97, 116], [105, 110, 116], [115, 116, 114]]
def wordB (l : List UInt8) : Bool := decide (l ∈ wordsL)
theorem str_is (s : ByteArray) : s.toList = s.data.toList := ByteArray.toList_eq s
theorem beq_no {l k : List UInt8} (h : ¬ l = k) : (l == k) = false := by simpa using h
theorem beq_yes {l k : List UInt8} (h : l = k) : (l == k) = true := by simpa using h
theorem Word_any (s : ByteArray) (w : World) : Calls Tryz.prog 100 #[.string s] w fun e w' => e = .returned (.bool (wordB s.data.toList)) ∧ w = w' := by
  obtain ⟨r, hr⟩ : ∃ r, r = wordB s.data.toList := ⟨_, rfl⟩
  rw [← hr]
  have HR := Lib.hid hr
  clear hr
  by_cases h0 : s.toList = [116, 114, 117, 101]
  · have t0 := beq_yes h0
    have HC := Lib.hid (show r = true by rw [HR.out, ← str_is, h0]; decide)
    clear h0
    go_enter Tryz.func100, Tryz.ntmps100
    go_wp2_with fail
    go_ret
    exact ⟨by rw [HC.out]; rfl, rfl⟩
  have t0 := beq_no h0
  by_cases h1 : s.toList = [102, 97, 108, 115, 101]
  · have t1 := beq_yes h1
    have HC := Lib.hid (show r = true by rw [HR.out, ← str_is, h1]; decide)
    clear h1 h0
    go_enter Tryz.func100, Tryz.ntmps100
    go_wp2_with fail
    go_ret
    exact ⟨by rw [HC.out]; rfl, rfl⟩
  have t1 := beq_no h1
  by_cases h2 : s.toList = [110, 97, 110]
  · have t2 := beq_yes h2
    have HC := Lib.hid (show r = true by rw [HR.out, ← str_is, h2]; decide)
    clear h2 h1 h0
    go_enter Tryz.func100, Tryz.ntmps100
    go_wp2_with fail
    go_ret
    exact ⟨by rw [HC.out]; rfl, rfl⟩
  have t2 := beq_no h2
  by_cases h3 : s.toList = [105, 110, 102]
  · have t3 := beq_yes h3
    have HC := Lib.hid (show r = true by rw [HR.out, ← str_is, h3]; decide)
    clear h3 h2 h1 h0
    go_enter Tryz.func100, Tryz.ntmps100
    go_wp2_with fail
    go_ret
    exact ⟨by rw [HC.out]; rfl, rfl⟩
  have t3 := beq_no h3
  by_cases h4 : s.toList = [108, 101, 110]
  · have t4 := beq_yes h4
    have HC := Lib.hid (show r = true by rw [HR.out, ← str_is, h4]; decide)
    clear h4 h3 h2 h1 h0
    go_enter Tryz.func100, Tryz.ntmps100
    go_wp2_with fail
    go_ret
    exact ⟨by rw [HC.out]; rfl, rfl⟩
  have t4 := beq_no h4
  by_cases h5 : s.toList = [102, 108, 111, 97, 116]
  · have t5 := beq_yes h5
    have HC := Lib.hid (show r = true by rw [HR.out, ← str_is, h5]; decide)
    clear h5 h4 h3 h2 h1 h0
    go_enter Tryz.func100, Tryz.ntmps100
    go_wp2_with fail
    go_ret
    exact ⟨by rw [HC.out]; rfl, rfl⟩
  have t5 := beq_no h5
  by_cases h6 : s.toList = [105, 110, 116]
  · have t6 := beq_yes h6
    have HC := Lib.hid (show r = true by rw [HR.out, ← str_is, h6]; decide)
    clear h6 h5 h4 h3 h2 h1 h0
    go_enter Tryz.func100, Tryz.ntmps100
    go_wp2_with fail
    go_ret
    exact ⟨by rw [HC.out]; rfl, rfl⟩
  have t6 := beq_no h6
  by_cases h7 : s.toList = [115, 116, 114]
  · have t7 := beq_yes h7
    have HC := Lib.hid (show r = true by rw [HR.out, ← str_is, h7]; decide)
    clear h7 h6 h5 h4 h3 h2 h1 h0
    go_enter Tryz.func100, Tryz.ntmps100
    go_wp2_with fail
    go_ret
    exact ⟨by rw [HC.out]; rfl, rfl⟩
  have t7 := beq_no h7
  have HC := Lib.hid (show r = false by
    rw [HR.out, ← str_is]
    unfold wordB wordsL
    rw [decide_eq_false_iff_not]
    simp only [List.mem_cons, List.not_mem_nil, or_false, not_or]
    exact ⟨h0, h1, h2, h3, h4, h5, h6, h7⟩)
  clear h7 h6 h5 h4 h3 h2 h1 h0
  go_enter Tryz.func100, Tryz.ntmps100
  go_wp2_with fail
  go_ret
  exact ⟨by rw [HC.out]; rfl, rfl⟩
end Go.Proofs.YtcmohggnehkjeaaGreat

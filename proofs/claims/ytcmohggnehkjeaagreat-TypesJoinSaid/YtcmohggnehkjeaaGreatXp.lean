/-
  Contracts of basculeref08's wants, field, none, constant.
-/
import Derived.Test.YtcmohggnehkjeaaGreatXc
import Derived.Test.YtcmohggnehkjeaaGreatVm
import Derived.Test.YtcmohggnehkjeaaGreatVn
import Derived.Test.YtcmohggnehkjeaaGreatRefFt
namespace Go.Proofs.YtcmohggnehkjeaaGreat
open Go.RowKit

def wantV (k : Int) : Int := if k = 1 ∨ k = 2 then 0 else if k = 3 ∨ k = 4 ∨ k = 18 ∨ (20 ≤ k ∧ k ≤ 23) then 1 else if (5 ≤ k ∧ k ≤ 14) ∨ k = 19 then 2 else if k = 15 then 3 else if k = 16 ∨ k = 17 then -1 else -2
set_option maxHeartbeats 1000000 in
theorem wants_any (k : Int) (w : World) : Calls Tryz.prog 96 #[.int .i64 k] w fun e w' => e = .returned (.int .i64 (wantV k)) ∧ w' = w := by
  obtain ⟨r, hr⟩ : ∃ r, wantV k = r := ⟨_, rfl⟩
  rw [hr]
  by_cases h1 : k = 1
  · subst h1
    have HR : Hid (r = 0) := Lib.hid (by rw [← hr]; rfl)
    clear hr 
    go_enter Tryz.func96, Tryz.ntmps96
    go_wp2_with fail
    go_ret
    exact ⟨by rw [HR.out]; rfl, rfl⟩
  by_cases h2 : k = 2
  · subst h2
    have HR : Hid (r = 0) := Lib.hid (by rw [← hr]; rfl)
    clear hr h1
    go_enter Tryz.func96, Tryz.ntmps96
    go_wp2_with fail
    go_ret
    exact ⟨by rw [HR.out]; rfl, rfl⟩
  by_cases h3 : k = 3
  · subst h3
    have HR : Hid (r = 1) := Lib.hid (by rw [← hr]; rfl)
    clear hr h1 h2
    go_enter Tryz.func96, Tryz.ntmps96
    go_wp2_with fail
    go_ret
    exact ⟨by rw [HR.out]; rfl, rfl⟩
  by_cases h4 : k = 4
  · subst h4
    have HR : Hid (r = 1) := Lib.hid (by rw [← hr]; rfl)
    clear hr h1 h2 h3
    go_enter Tryz.func96, Tryz.ntmps96
    go_wp2_with fail
    go_ret
    exact ⟨by rw [HR.out]; rfl, rfl⟩
  by_cases h5 : k = 5
  · subst h5
    have HR : Hid (r = 2) := Lib.hid (by rw [← hr]; rfl)
    clear hr h1 h2 h3 h4
    go_enter Tryz.func96, Tryz.ntmps96
    go_wp2_with fail
    go_ret
    exact ⟨by rw [HR.out]; rfl, rfl⟩
  by_cases h6 : k = 6
  · subst h6
    have HR : Hid (r = 2) := Lib.hid (by rw [← hr]; rfl)
    clear hr h1 h2 h3 h4 h5
    go_enter Tryz.func96, Tryz.ntmps96
    go_wp2_with fail
    go_ret
    exact ⟨by rw [HR.out]; rfl, rfl⟩
  by_cases h7 : k = 7
  · subst h7
    have HR : Hid (r = 2) := Lib.hid (by rw [← hr]; rfl)
    clear hr h1 h2 h3 h4 h5 h6
    go_enter Tryz.func96, Tryz.ntmps96
    go_wp2_with fail
    go_ret
    exact ⟨by rw [HR.out]; rfl, rfl⟩
  by_cases h8 : k = 8
  · subst h8
    have HR : Hid (r = 2) := Lib.hid (by rw [← hr]; rfl)
    clear hr h1 h2 h3 h4 h5 h6 h7
    go_enter Tryz.func96, Tryz.ntmps96
    go_wp2_with fail
    go_ret
    exact ⟨by rw [HR.out]; rfl, rfl⟩
  by_cases h9 : k = 9
  · subst h9
    have HR : Hid (r = 2) := Lib.hid (by rw [← hr]; rfl)
    clear hr h1 h2 h3 h4 h5 h6 h7 h8
    go_enter Tryz.func96, Tryz.ntmps96
    go_wp2_with fail
    go_ret
    exact ⟨by rw [HR.out]; rfl, rfl⟩
  by_cases h10 : k = 10
  · subst h10
    have HR : Hid (r = 2) := Lib.hid (by rw [← hr]; rfl)
    clear hr h1 h2 h3 h4 h5 h6 h7 h8 h9
    go_enter Tryz.func96, Tryz.ntmps96
    go_wp2_with fail
    go_ret
    exact ⟨by rw [HR.out]; rfl, rfl⟩
  by_cases h11 : k = 11
  · subst h11
    have HR : Hid (r = 2) := Lib.hid (by rw [← hr]; rfl)
    clear hr h1 h2 h3 h4 h5 h6 h7 h8 h9 h10
    go_enter Tryz.func96, Tryz.ntmps96
    go_wp2_with fail
    go_ret
    exact ⟨by rw [HR.out]; rfl, rfl⟩
  by_cases h12 : k = 12
  · subst h12
    have HR : Hid (r = 2) := Lib.hid (by rw [← hr]; rfl)
    clear hr h1 h2 h3 h4 h5 h6 h7 h8 h9 h10 h11
    go_enter Tryz.func96, Tryz.ntmps96
    go_wp2_with fail
    go_ret
    exact ⟨by rw [HR.out]; rfl, rfl⟩
  by_cases h13 : k = 13
  · subst h13
    have HR : Hid (r = 2) := Lib.hid (by rw [← hr]; rfl)
    clear hr h1 h2 h3 h4 h5 h6 h7 h8 h9 h10 h11 h12
    go_enter Tryz.func96, Tryz.ntmps96
    go_wp2_with fail
    go_ret
    exact ⟨by rw [HR.out]; rfl, rfl⟩
  by_cases h14 : k = 14
  · subst h14
    have HR : Hid (r = 2) := Lib.hid (by rw [← hr]; rfl)
    clear hr h1 h2 h3 h4 h5 h6 h7 h8 h9 h10 h11 h12 h13
    go_enter Tryz.func96, Tryz.ntmps96
    go_wp2_with fail
    go_ret
    exact ⟨by rw [HR.out]; rfl, rfl⟩
  by_cases h15 : k = 15
  · subst h15
    have HR : Hid (r = 3) := Lib.hid (by rw [← hr]; rfl)
    clear hr h1 h2 h3 h4 h5 h6 h7 h8 h9 h10 h11 h12 h13 h14
    go_enter Tryz.func96, Tryz.ntmps96
    go_wp2_with fail
    go_ret
    exact ⟨by rw [HR.out]; rfl, rfl⟩
  by_cases h16 : k = 16
  · subst h16
    have HR : Hid (r = -1) := Lib.hid (by rw [← hr]; rfl)
    clear hr h1 h2 h3 h4 h5 h6 h7 h8 h9 h10 h11 h12 h13 h14 h15
    go_enter Tryz.func96, Tryz.ntmps96
    go_wp2_with fail
    go_ret
    exact ⟨by rw [HR.out]; rfl, rfl⟩
  by_cases h17 : k = 17
  · subst h17
    have HR : Hid (r = -1) := Lib.hid (by rw [← hr]; rfl)
    clear hr h1 h2 h3 h4 h5 h6 h7 h8 h9 h10 h11 h12 h13 h14 h15 h16
    go_enter Tryz.func96, Tryz.ntmps96
    go_wp2_with fail
    go_ret
    exact ⟨by rw [HR.out]; rfl, rfl⟩
  by_cases h18 : k = 18
  · subst h18
    have HR : Hid (r = 1) := Lib.hid (by rw [← hr]; rfl)
    clear hr h1 h2 h3 h4 h5 h6 h7 h8 h9 h10 h11 h12 h13 h14 h15 h16 h17
    go_enter Tryz.func96, Tryz.ntmps96
    go_wp2_with fail
    go_ret
    exact ⟨by rw [HR.out]; rfl, rfl⟩
  by_cases h19 : k = 19
  · subst h19
    have HR : Hid (r = 2) := Lib.hid (by rw [← hr]; rfl)
    clear hr h1 h2 h3 h4 h5 h6 h7 h8 h9 h10 h11 h12 h13 h14 h15 h16 h17 h18
    go_enter Tryz.func96, Tryz.ntmps96
    go_wp2_with fail
    go_ret
    exact ⟨by rw [HR.out]; rfl, rfl⟩
  by_cases h20 : k = 20
  · subst h20
    have HR : Hid (r = 1) := Lib.hid (by rw [← hr]; rfl)
    clear hr h1 h2 h3 h4 h5 h6 h7 h8 h9 h10 h11 h12 h13 h14 h15 h16 h17 h18 h19
    go_enter Tryz.func96, Tryz.ntmps96
    go_wp2_with fail
    go_ret
    exact ⟨by rw [HR.out]; rfl, rfl⟩
  by_cases h21 : k = 21
  · subst h21
    have HR : Hid (r = 1) := Lib.hid (by rw [← hr]; rfl)
    clear hr h1 h2 h3 h4 h5 h6 h7 h8 h9 h10 h11 h12 h13 h14 h15 h16 h17 h18 h19 h20
    go_enter Tryz.func96, Tryz.ntmps96
    go_wp2_with fail
    go_ret
    exact ⟨by rw [HR.out]; rfl, rfl⟩
  by_cases h22 : k = 22
  · subst h22
    have HR : Hid (r = 1) := Lib.hid (by rw [← hr]; rfl)
    clear hr h1 h2 h3 h4 h5 h6 h7 h8 h9 h10 h11 h12 h13 h14 h15 h16 h17 h18 h19 h20 h21
    go_enter Tryz.func96, Tryz.ntmps96
    go_wp2_with fail
    go_ret
    exact ⟨by rw [HR.out]; rfl, rfl⟩
  by_cases h23 : k = 23
  · subst h23
    have HR : Hid (r = 1) := Lib.hid (by rw [← hr]; rfl)
    clear hr h1 h2 h3 h4 h5 h6 h7 h8 h9 h10 h11 h12 h13 h14 h15 h16 h17 h18 h19 h20 h21 h22
    go_enter Tryz.func96, Tryz.ntmps96
    go_wp2_with fail
    go_ret
    exact ⟨by rw [HR.out]; rfl, rfl⟩
  have t1 : (k == 1) = false := beq_eq_false_iff_ne.2 h1
  have t2 : (k == 2) = false := beq_eq_false_iff_ne.2 h2
  have t3 : (k == 3) = false := beq_eq_false_iff_ne.2 h3
  have t4 : (k == 4) = false := beq_eq_false_iff_ne.2 h4
  have t15 : (k == 15) = false := beq_eq_false_iff_ne.2 h15
  have t16 : (k == 16) = false := beq_eq_false_iff_ne.2 h16
  have t17 : (k == 17) = false := beq_eq_false_iff_ne.2 h17
  have t18 : (k == 18) = false := beq_eq_false_iff_ne.2 h18
  have t19 : (k == 19) = false := beq_eq_false_iff_ne.2 h19
  by_cases hb : k < 1
  · have HR : Hid (r = -2) := Lib.hid (by
      rw [← hr]; unfold wantV
      rw [if_neg (by omega), if_neg (by omega), if_neg (by omega), if_neg (by omega), if_neg (by omega)])
    have u1 : decide ((20 : Int) ≤ k) = false := by simp; omega
    have u2 : decide ((5 : Int) ≤ k) = false := by simp; omega
    clear hr hb h1 h2 h3 h4 h5 h6 h7 h8 h9 h10 h11 h12 h13 h14 h15 h16 h17 h18 h19 h20 h21 h22 h23
    go_enter Tryz.func96, Tryz.ntmps96
    go_wp2_with fail
    go_ret
    exact ⟨by rw [HR.out]; rfl, rfl⟩
  · have HR : Hid (r = -2) := Lib.hid (by
      rw [← hr]; unfold wantV
      rw [if_neg (by omega), if_neg (by omega), if_neg (by omega), if_neg (by omega), if_neg (by omega)])
    have u1 : decide ((20 : Int) ≤ k) = true := by simp; omega
    have u3 : decide (k ≤ (23 : Int)) = false := by simp; omega
    have u2 : decide ((5 : Int) ≤ k) = true := by simp; omega
    have u4 : decide (k ≤ (14 : Int)) = false := by simp; omega
    clear hr hb h1 h2 h3 h4 h5 h6 h7 h8 h9 h10 h11 h12 h13 h14 h15 h16 h17 h18 h19 h20 h21 h22 h23
    go_enter Tryz.func96, Tryz.ntmps96
    go_wp2_with fail
    go_ret
    exact ⟨by rw [HR.out]; rfl, rfl⟩
/-- A field's name. -/
def fieldB (s : ByteArray) : Bool := nameB s && (!decide (s.toList = [110, 97, 110]) && !decide (s.toList = [105, 110, 102]))
theorem field_any {s : ByteArray} (hs : s.size ≤ 9223372036854775807) (w : World) : Calls Tryz.prog 101 #[.string s] w fun e w' => e = .returned (.bool (fieldB s)) ∧ w' = w := by
  have N := fun W => name_any hs W
  unfold fieldB
  cases hn : nameB s with
  | false =>
    rw [hn] at N
    clear hn
    go_enter Tryz.func101, Tryz.ntmps101
    go_wp2_with (go_at_call 99; refine (N _).mono ?_; rintro e w1 ⟨rfl, rfl⟩)
    go_ret
    exact ⟨rfl, rfl⟩
  | true =>
    rw [hn] at N
    by_cases h1 : s.toList = [110, 97, 110]
    · have t1 : (s.toList == [110, 97, 110]) = true := by simpa using h1
      have t2 : (s.toList != [110, 97, 110]) = false := by rw [bne, t1]; rfl
      rw [decide_eq_true h1]
      clear hn h1
      go_enter Tryz.func101, Tryz.ntmps101
      go_wp2_with (go_at_call 99; refine (N _).mono ?_; rintro e w1 ⟨rfl, rfl⟩)
      go_ret
      exact ⟨rfl, rfl⟩
    · have t1 : (s.toList == [110, 97, 110]) = false := by simpa using h1
      have t2 : (s.toList != [110, 97, 110]) = true := by rw [bne, t1]; rfl
      obtain ⟨b, hb⟩ : ∃ b, decide (s.toList = [105, 110, 102]) = b := ⟨_, rfl⟩
      have t3 : (s.toList == [105, 110, 102]) = b := by rw [← hb, Bool.eq_iff_iff]; simp
      have t4 : (s.toList != [105, 110, 102]) = !b := by rw [bne, t3]
      rw [decide_eq_false h1, hb]
      clear hn h1 hb
      go_enter Tryz.func101, Tryz.ntmps101
      go_wp2_with (go_at_call 99; refine (N _).mono ?_; rintro e w1 ⟨rfl, rfl⟩)
      go_ret
      exact ⟨rfl, rfl⟩
/-- No value at all. -/
def noneB : VT → Bool
  | .bad => false
  | .mk k n f s c _ m _ => decide (k = 0) && (decide (n = 0) && (decide (canonW f = canonW 0) && (decide (s.toList = []) && (decide (c = 0) && decide (m = 0)))))
set_option maxHeartbeats 1000000 in
theorem none_any {t : VT} {v : Array Value} {w : World} (hv : Val w w.heap.size v t) : Calls Tryz.prog 98 #[.agg v] w fun e w' => e = .returned (.bool (noneB t)) ∧ Below w.heap.size w w' := by
  cases hv with
  | mk k n f s A c ca B m cb ns xs vs hk hn hf hs hc hm hns hB hxs =>
    have hbW : Below w.heap.size w (w.alloc (.cells #[.int .i64 k, .int .i64 n, .float .f64 f, .string s, .slice A c ca, .slice B m cb] 38)) := (Below.refl _ _).alloc (Nat.le_refl _) _
    have SA := Same_any f 0
    unfold fields noneB
    dsimp only
    obtain ⟨b1, h1⟩ : ∃ b, decide (k = 0) = b := ⟨_, rfl⟩
    obtain ⟨b2, h2⟩ : ∃ b, decide (n = 0) = b := ⟨_, rfl⟩
    obtain ⟨b3, h3⟩ : ∃ b, decide (canonW f = canonW 0) = b := ⟨_, rfl⟩
    obtain ⟨b4, h4⟩ : ∃ b, decide (s.toList = []) = b := ⟨_, rfl⟩
    obtain ⟨b5, h5⟩ : ∃ b, decide (c = 0) = b := ⟨_, rfl⟩
    obtain ⟨b6, h6⟩ : ∃ b, decide (m = 0) = b := ⟨_, rfl⟩
    have t1 : (k == 0) = b1 := by rw [← h1, Bool.eq_iff_iff]; simp
    have t2 : (n == 0) = b2 := by rw [← h2, Bool.eq_iff_iff]; simp
    have t4 : (s.toList == []) = b4 := by rw [← h4, Bool.eq_iff_iff]; simp
    have t4' : s.toList.isEmpty = b4 := by rw [← h4, Bool.eq_iff_iff]; simp
    have t5 : ((c : Int) == 0) = b5 := by rw [← h5, Bool.eq_iff_iff]; simp
    have t6 : ((m : Int) == 0) = b6 := by rw [← h6, Bool.eq_iff_iff]; simp
    rw [h3] at SA
    rw [h1, h2, h3, h4, h5, h6]
    clear h1 h2 h3 h4 h5 h6 hns hB hxs hk hn hf
    cases b1 with
    | false =>
      go_enter Tryz.func98, Tryz.ntmps98
      go_wp2_with fail
      go_ret
      exact ⟨rfl, hbW⟩
    | true =>
      cases b2 with
      | false =>
        go_enter Tryz.func98, Tryz.ntmps98
        go_wp2_with fail
        go_ret
        exact ⟨rfl, hbW⟩
      | true =>
        cases b3 with
        | false =>
          go_enter Tryz.func98, Tryz.ntmps98
          go_wp2_with (go_at_call 140; refine (SA _).mono ?_; rintro e w' ⟨rfl, rfl⟩)
          go_ret
          exact ⟨rfl, hbW⟩
        | true =>
          cases b4 with
          | false =>
            go_enter Tryz.func98, Tryz.ntmps98
            go_wp2_with (go_at_call 140; refine (SA _).mono ?_; rintro e w' ⟨rfl, rfl⟩)
            go_ret
            exact ⟨rfl, hbW⟩
          | true =>
            cases b5 with
            | false =>
              go_enter Tryz.func98, Tryz.ntmps98
              go_wp2_with (go_at_call 140; refine (SA _).mono ?_; rintro e w' ⟨rfl, rfl⟩)
              go_ret
              exact ⟨rfl, hbW⟩
            | true =>
              go_enter Tryz.func98, Tryz.ntmps98
              go_wp2_with (go_at_call 140; refine (SA _).mono ?_; rintro e w' ⟨rfl, rfl⟩)
              go_ret
              exact ⟨rfl, hbW⟩
theorem textB_pos (b : Nat) : 0 < (textB b).size := by
  unfold textB
  split
  · decide
  · split
    · rw [ByteArray.size_append]
      have : (⟨#[105, 110, 102]⟩ : ByteArray).size = 3 := rfl
      omega
    · rw [ByteArray.size_append, ByteArray.size_append]
      have : (⟨#[112]⟩ : ByteArray).size = 1 := rfl
      omega
/-- A value that may be a constant. -/
def constB : VT → Bool
  | .bad => false
  | .mk k n f s c ns m xs => if k = 1 ∨ k = 4 then okV (.mk k n f s c ns m xs) else if k = 2 then okV (.mk k n f s c ns m xs) && decide (0 ≤ n)
    else if k = 3 then okV (.mk k n f s c ns m xs) && (nanB f || !decide ((textB f)[0]'(textB_pos f) = 45)) else false
set_option maxHeartbeats 2000000 in
theorem constant_any {t : VT} {v : Array Value} {w : World} (hv : Val w w.heap.size v t) : Calls Tryz.prog 97 #[.agg v] w fun e w' => e = .returned (.bool (constB t)) ∧ Below w.heap.size w w' := by
  have hv0 := hv
  cases hv with
  | mk k n f s A c ca B m cb ns xs vs hk hn hf hs hc hm hns hB hxs =>
    have hbW : Below w.heap.size w (w.alloc (.cells (fields k n f s A c ca B m cb) 38)) := (Below.refl _ _).alloc (Nat.le_refl _) _
    have OK := Right_any ((hv0.stay hbW).mono hbW.size)
    unfold fields at *
    unfold constB
    dsimp only
    generalize okV (.mk k n f s c ns m xs) = ok at *
    have HK := box_stays (w := w) (a0 := .int .i64 k) (a1 := .int .i64 n) (a2 := .float .f64 f) (a3 := .string s) (a4 := .slice A c ca) (a5 := .slice B m cb) (t := 38)
    clear hv0 hns hB hxs
    by_cases k1 : k = 1
    · subst k1
      rw [if_pos (.inl rfl)]
      go_enter Tryz.func97, Tryz.ntmps97
      go_wp2_with (go_at_call 41; refine OK.mono ?_; rintro e w1 ⟨rfl, hb1⟩)
      go_ret
      exact ⟨rfl, hbW.trans (hb1.mono hbW.size)⟩
    by_cases k4 : k = 4
    · subst k4
      rw [if_pos (.inr rfl)]
      go_enter Tryz.func97, Tryz.ntmps97
      go_wp2_with (go_at_call 41; refine OK.mono ?_; rintro e w1 ⟨rfl, hb1⟩)
      go_ret
      exact ⟨rfl, hbW.trans (hb1.mono hbW.size)⟩
    rw [if_neg (fun h => h.elim k1 k4)]
    by_cases k2 : k = 2
    · subst k2
      rw [if_pos rfl]
      obtain ⟨b, hb⟩ : ∃ b, decide (0 ≤ n) = b := ⟨_, rfl⟩
      rw [hb]
      clear k1 k4
      cases ok with
      | false =>
        go_enter Tryz.func97, Tryz.ntmps97
        go_wp2_with (go_at_call 41; refine OK.mono ?_; rintro e w1 ⟨rfl, hb1⟩)
        go_ret
        exact ⟨rfl, hbW.trans (hb1.mono hbW.size)⟩
      | true =>
        go_enter Tryz.func97, Tryz.ntmps97
        go_wp2_with (go_at_call 41; refine OK.mono ?_; rintro e w1 ⟨rfl, hb1⟩; obtain ⟨c0, c1, c2, c3, c4, c5⟩ := HK.out w1 hb1)
        go_ret
        exact ⟨rfl, hbW.trans (hb1.mono hbW.size)⟩
    rw [if_neg k2]
    by_cases k3 : k = 3
    · subst k3
      rw [if_pos rfl]
      have NA := NaN_any f
      have TX := fun W => Text_any (b := f) (by unfold okW; omega) W
      clear k1 k2 k4
      cases ok with
      | false =>
        go_enter Tryz.func97, Tryz.ntmps97
        go_wp2_with (go_at_call 41; refine OK.mono ?_; rintro e w1 ⟨rfl, hb1⟩)
        go_ret
        exact ⟨rfl, hbW.trans (hb1.mono hbW.size)⟩
      | true =>
        cases hnan : nanB f with
        | true =>
          rw [hnan] at NA
          clear hnan TX
          go_enter Tryz.func97, Tryz.ntmps97
          go_wp2_with (first | (go_at_call 41; refine OK.mono ?_; rintro e w1 ⟨rfl, hb1⟩; obtain ⟨c0, c1, c2, c3, c4, c5⟩ := HK.out w1 hb1) | (go_at_call 138; refine (NA _).mono ?_; rintro e w2 ⟨rfl, rfl⟩))
          go_ret
          exact ⟨rfl, hbW.trans (hb1.mono hbW.size)⟩
        | false =>
          rw [hnan] at NA
          have hpos := textB_pos f
          obtain ⟨x, hx⟩ : ∃ x, (textB f)[0] = x := ⟨_, rfl⟩
          rw [hx]
          generalize textB f = T at TX hpos hx
          obtain ⟨b, hb⟩ : ∃ b, decide (x = 45) = b := ⟨_, rfl⟩
          have t1 : ((x.toNat : Int) == 45) = b := by
            rw [← hb, Bool.eq_iff_iff, beq_iff_eq, decide_eq_true_eq, ← UInt8.toNat_inj]
            show ((x.toNat : Int) = 45) ↔ x.toNat = 45
            omega
          have t2 : ((x.toNat : Int) != 45) = !b := by rw [bne, t1]
          rw [hb]
          clear hnan hb
          go_enter Tryz.func97, Tryz.ntmps97
          go_wp2_with (first | (go_at_call 41; refine OK.mono ?_; rintro e w1 ⟨rfl, hb1⟩; obtain ⟨c0, c1, c2, c3, c4, c5⟩ := HK.out w1 hb1) | (go_at_call 138; refine (NA _).mono ?_; rintro e w2 ⟨rfl, rfl⟩) | (go_at_call 139; refine (TX _).mono ?_; rintro e w3 ⟨rfl, hb3⟩))
          go_ret
          exact ⟨rfl, (hbW.trans (hb1.mono hbW.size)).trans (hb3.mono (Nat.le_trans hbW.size hb1.size))⟩
    rw [if_neg k3]
    have t1 : (k == 1) = false := beq_eq_false_iff_ne.2 k1
    have t2 : (k == 2) = false := beq_eq_false_iff_ne.2 k2
    have t3 : (k == 3) = false := beq_eq_false_iff_ne.2 k3
    have t4 : (k == 4) = false := beq_eq_false_iff_ne.2 k4
    clear k1 k2 k3 k4
    go_enter Tryz.func97, Tryz.ntmps97
    go_wp2_with fail
    go_ret
    exact ⟨rfl, hbW⟩
end Go.Proofs.YtcmohggnehkjeaaGreat

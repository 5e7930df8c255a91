/-
  The law LexTexts' walk.
-/
import Derived.Test.YtfkjehgbghckhaaDoorLNextA
import Derived.Test.YtfkjehgbghckhaaDoorUx
import Derived.Deep.Cut
import Derived.Deep.CutRange
namespace Go.Proofs.YtfkjehgbghckhaaDoor
open Go.RowKit

/-- The token that stands at a text's beginning. -/
theorem LNext_0 {R : List UInt8} (h : R.length ≤ 2000) {c : UInt8} {R' : List UInt8} (e : R = c :: R') (hb : blkB c = false) {t : Tk} (hT : headT R = .ok t) {w : World} (ht : Tabs w) :
    Calls Tryd.prog 9 #[.string (strL R), .int .i64 0] w fun e w' => (∃ nx : Int, e = .returned (.tuple #[.agg #[.int .i64 t.k, .int .i64 0, .int .i64 nx, .int .i64 t.n, .float .f64 t.f, .string (strL t.s)], .int .i64 0])) ∧ Below w.heap.size w w' := by
  have N := LNext_any (s := strL R) (a := 0) (show R.length ≤ 100000 by omega) ht
  rw [nextN_0 h e hb, hT] at N
  exact N.mono fun e w' ⟨h1, h2⟩ => ⟨⟨_, h1⟩, h2⟩
namespace lexTexts
theorem walk_big {n : Int} {f : Nat} {s m : ByteArray} (h : 300 < s.size ∨ (s.size ≤ 300 ∧ 100 < m.size)) {w : World} (ht : Tabs w) : Calls Tryd.prog 4 #[.int .i64 n, .float .f64 f, .string s, .string m] w (Yes w) := by
  have A := awake_any ht
  have A2 := fun (W : World) (hT : Tabs W) => awake_any hT
  rcases h with h | ⟨h1, h2⟩
  · have t1 : (300 : Int) < (s.size : Int) := by omega
    clear h
    go_enter Tryd.func4, Tryd.ntmps4
    go_wp2_with (go_at_call 6; refine A.mono ?_; rintro e w1 ⟨rfl, hb1⟩; refine Hid.out ?_)
    refine Lib.hid ?_
    have ht1 := ht.below hb1
    go_wp2_with (go_at_call 6; refine (A2 _ ht1).mono ?_; rintro e w2 ⟨rfl, hb2⟩)
    go_ret
    exact ⟨rfl, hb1.trans (hb2.mono hb1.size)⟩
  · have t1 : ¬ (300 : Int) < (s.size : Int) := by omega
    have t2 : (100 : Int) < (m.size : Int) := by omega
    clear h1 h2
    go_enter Tryd.func4, Tryd.ntmps4
    go_wp2_with (go_at_call 6; refine A.mono ?_; rintro e w1 ⟨rfl, hb1⟩; refine Hid.out ?_)
    refine Lib.hid ?_
    have ht1 := ht.below hb1
    go_wp2_with (go_at_call 6; refine (A2 _ ht1).mono ?_; rintro e w2 ⟨rfl, hb2⟩)
    go_ret
    exact ⟨rfl, hb1.trans (hb2.mono hb1.size)⟩
theorem quo_le {s : ByteArray} (h : s.size ≤ 300) : (quoL s.data.toList).length ≤ 2000 := by
  have h1 := quoK_len s.data.toList s.size
  have h2 : quoK s.data.toList s.size = 34 :: s.data.toList.flatMap escL := by
    unfold quoK
    rw [List.take_of_length_le (show s.data.toList.length ≤ s.size from Nat.le_refl _)]
  rw [h2] at h1
  unfold quoL
  rw [List.length_append]
  simp at h1 ⊢
  omega
theorem LNext_err0 {R : List UInt8} (h : R.length ≤ 2000) {c : UInt8} {R' : List UInt8} (e : R = c :: R') (hb : blkB c = false) {y : Int} (hT : headT R = .err y) {w : World} (ht : Tabs w) :
    Calls Tryd.prog 9 #[.string (strL R), .int .i64 0] w fun e w' => e = .returned (.tuple #[.agg #[.int .i64 0, .int .i64 0, .int .i64 0, .int .i64 0, .float .f64 0, .string ⟨#[]⟩], .int .i64 y]) ∧ Below w.heap.size w w' := by
  have N := LNext_any (s := strL R) (a := 0) (show R.length ≤ 100000 by omega) ht
  rw [nextN_0 h e hb, hT] at N
  exact N
set_option maxRecDepth 20000 in
set_option maxHeartbeats 3000000 in
theorem walk_all {n : Int} {f : Nat} {s m : ByteArray} (hn : n < 9223372036854775808) (hf : okW f) (h1 : ¬ 300 < s.size) (h2 : ¬ 100 < m.size) {w : World} (ht : Tabs w) : Calls Tryd.prog 4 #[.int .i64 n, .float .f64 f, .string s, .string m] w (Yes w) := by
  have A := awake_any ht
  have t1 : ¬ (300 : Int) < (s.size : Int) := by omega
  have t2 : ¬ (100 : Int) < (m.size : Int) := by omega
  have SF := float_store
  go_enter Tryd.func4, Tryd.ntmps4
  go_wp2_with (go_at_call 6; refine A.mono ?_; rintro e w1 ⟨rfl, hb1⟩; refine Hid.out ?_)
  refine Lib.hid ?_
  have ht1 := ht.below hb1
  go_upto_if 32 with fail
  go_cut [9, 10] from 33 to 52 (fun _ _ wx => Below w1.heap.size w1 wx)
  case first =>
    by_cases h0 : 0 ≤ n
    · obtain ⟨k, rfl⟩ : ∃ k : Nat, n = k := ⟨n.toNat, by omega⟩
      have D := Digits_any (n := k) (by omega) w1
      obtain ⟨c, R, hR, hblk, hH⟩ := head_digits (n := k) (by omega)
      have hlen : (digL k).length ≤ 2000 := by have := digL_len20 (n := k) (by omega); omega
      have N : ∀ W, Tabs W → Calls Tryd.prog 9 #[.string (strL (digL k)), .int .i64 0] W fun e w' => (∃ nx : Int, e = .returned (.tuple #[.agg #[.int .i64 2, .int .i64 0, .int .i64 nx, .int .i64 k, .float .f64 0, .string ⟨#[]⟩], .int .i64 0])) ∧ Below W.heap.size W w' := fun W hT => LNext_0 hlen hR hblk hH hT
      have hw : IntKind.u64.wrap (k : Int) = (k : Int) := by rw [IntKind.wrap_u64]; omega
      clear hR hblk hH hlen hn
      go_wp2_with (go_at_call 10; refine D.mono ?_; rintro e w2 ⟨rfl, hb2⟩; refine Hid.out ?_)
      refine Lib.hid ?_
      have ht2 := ht1.below hb2
      go_wp2_with (go_at_call 9; refine (N _ ht2).mono ?_; rintro e w3 ⟨⟨nx, rfl⟩, hb3⟩)
      go_meet
      have g3 := hb2.trans (hb3.mono hb2.size)
      exact g3.alloc g3.size _
    · clear hn
      go_wp2_with fail
      go_meet
      exact Below.refl _ _
  case rest =>
    have hbc := hb1.trans (hcut.mono hb1.size)
    have htc := ht1.below hcut
    clear hcut ht1 hb1 A hn
    have X := Text_any hf wc
    obtain ⟨x, hx⟩ : ∃ x, textB f = x := ⟨_, rfl⟩
    have hxl : x = strL (textL f) := by rw [← hx]; exact textB_list f
    rw [hx] at X
    have hxs : x.size ≤ 1000 := by rw [hxl]; exact textL_len f
    by_cases hm : nanB f = true ∨ sgn f = false
    · obtain ⟨c, R, hR, hblk, hne, hH⟩ := head_text hf hm
      have hx0 : 0 < x.size := by rw [hxl, hR]; exact Nat.zero_lt_succ _
      have hxc : x[0] = c := by
        have h3 : x.data.toList[0]? = some x[0] := byte_some hx0
        have h4 : x.data.toList[0]? = some c := by
          rw [hxl]
          show (textL f)[0]? = some c
          rw [hR]; rfl
        rw [h4] at h3
        injection h3 with h3
        exact h3.symm
      have e45 : ((c.toNat : Int) == 45) = false := (u8_eqI (c := c) 45 45 rfl).trans (decide_eq_false hne)
      have f45 : ((c.toNat : Int) != 45) = true := by rw [bne, e45]; rfl
      have N : ∀ W, Tabs W → Calls Tryd.prog 9 #[.string x, .int .i64 0] W fun e w' => (∃ nx : Int, e = .returned (.tuple #[.agg #[.int .i64 3, .int .i64 0, .int .i64 nx, .int .i64 0, .float .f64 (canonW f), .string ⟨#[]⟩], .int .i64 0])) ∧ Below W.heap.size W w' := fun W hT => by
        rw [hxl]
        exact LNext_0 (by have := textL_len f; omega) hR hblk hH hT
      have S := Same_any (canonW f) f
      have hcc : decide (canonW (canonW f) = canonW f) = true := decide_eq_true (by unfold canonW; split <;> simp_all [nanB])
      rw [hcc] at S
      clear hR hblk hne hH hxl hx hcc
      go_upto_if 57 with (go_at_call 11; refine X.mono ?_; rintro e w4 ⟨rfl, hb4⟩)
      have ht4 := htc.below hb4
      go_cut [12, 13] from 58 to 76 (fun _ _ wx => Below w4.heap.size w4 wx)
      case first =>
        go_wp2_with (first | (go_at_call 9; refine (N _ ht4).mono ?_; rintro e w5 ⟨⟨nx, rfl⟩, hb5⟩) | (go_at_call 8; refine (S _).mono ?_; rintro e w6 ⟨rfl, rfl⟩))
        go_meet
        exact hb5.alloc hb5.size _
      case rest =>
        have hb5 := (hbc.trans (hb4.mono hbc.size)).trans (hcut.mono (Nat.le_trans hbc.size hb4.size))
        have ht5 := ht4.below hcut
        clear hcut hb4 ht4 X N S hbc htc
        generalize hwc : wc = w5 at hb5 ht5 ⊢
        clear hwc
        have NM := (name_any (s := m) (by omega) w5).mono (fun e w' h => (⟨h.1, h.2.symm⟩ : e = .returned (.bool (nameB m)) ∧ w5 = w'))
        cases hnm : nameB m with
        | false =>
          rw [hnm] at NM
          clear hnm
          go_upto_if 86 with (go_at_call 12; refine NM.mono ?_; rintro e w6 ⟨rfl, rfl⟩)
          go_cut [14, 15] from 87 to 104 (fun _ _ wx => Below w5.heap.size w5 wx)
          case first =>
            go_wp2_with fail
            go_meet
            exact Below.refl _ _
          case rest =>
            have hb6 := hb5.trans (hcut.mono hb5.size)
            have ht6 := ht5.below hcut
            clear hcut hb5 ht5 NM
            generalize hwc2 : wc = w6 at hb6 ht6 ⊢
            clear hwc2
            have Q := Quote_any (s := s) (by omega) w6
            by_cases h200 : 200 < s.size
            · have hq := head_quote s.data.toList
              rw [if_pos (show 200 < s.data.toList.length from h200)] at hq
              have u1 : (200 : Int) < (s.size : Int) := by omega
              have NQ := fun (W : World) (hT : Tabs W) => LNext_err0 (c := 34) (quo_le (by omega)) rfl (by decide) hq hT
              clear hq h200
              go_wp2_with (go_at_call 13; refine Q.mono ?_; rintro e w7 ⟨rfl, hb7⟩; refine Hid.out ?_)
              refine Lib.hid ?_
              have ht7 := (ht6).below hb7
              go_wp2_with (go_at_call 9; refine (NQ _ ht7).mono ?_; rintro e w8 ⟨rfl, hb8⟩)
              go_ret
              have g7 := (hb6).trans (hb7.mono (hb6).size)
              have g8 := g7.trans (hb8.mono g7.size)
              exact ⟨rfl, g8.alloc g8.size _⟩
            · have hq := head_quote s.data.toList
              rw [if_neg (show ¬ 200 < s.data.toList.length from h200)] at hq
              have u1 : ¬ (200 : Int) < (s.size : Int) := by omega
              have u2 : (s.size : Int) ≤ 200 := by omega
              have u3 : (s.toList == s.toList) = true := beq_self_eq_true _
              have NQ : ∀ W, Tabs W → Calls Tryd.prog 9 #[.string (strL (quoL s.data.toList)), .int .i64 0] W fun e w' => (∃ nx : Int, e = .returned (.tuple #[.agg #[.int .i64 4, .int .i64 0, .int .i64 nx, .int .i64 0, .float .f64 0, .string s], .int .i64 0])) ∧ Below W.heap.size W w' := fun W hT => LNext_0 (c := 34) (quo_le (by omega)) rfl (by decide) hq hT
              clear hq h200
              go_wp2_with (go_at_call 13; refine Q.mono ?_; rintro e w7 ⟨rfl, hb7⟩; refine Hid.out ?_)
              refine Lib.hid ?_
              have ht7 := (ht6).below hb7
              go_wp2_with (go_at_call 9; refine (NQ _ ht7).mono ?_; rintro e w8 ⟨⟨nx, rfl⟩, hb8⟩)
              go_ret
              have g7 := (hb6).trans (hb7.mono (hb6).size)
              have g8 := g7.trans (hb8.mono g7.size)
              exact ⟨rfl, g8.alloc g8.size _⟩
        | true =>
          rw [hnm] at NM
          by_cases hnan : m.data.toList = nanL
          · have m1 : (m.toList == [110, 97, 110]) = true := beq_yes (by rw [str_is]; exact hnan)
            have m2 : (m.toList != [110, 97, 110]) = false := by rw [bne, m1]; rfl
            clear hnm hnan
            go_upto_if 86 with (go_at_call 12; refine NM.mono ?_; rintro e w6 ⟨rfl, rfl⟩)
            go_cut [14, 15] from 87 to 104 (fun _ _ wx => Below w5.heap.size w5 wx)
            case first =>
              go_wp2_with fail
              go_meet
              exact Below.refl _ _
            case rest =>
              have hb6 := hb5.trans (hcut.mono hb5.size)
              have ht6 := ht5.below hcut
              clear hcut hb5 ht5 NM
              generalize hwc2 : wc = w6 at hb6 ht6 ⊢
              clear hwc2
              have Q := Quote_any (s := s) (by omega) w6
              by_cases h200 : 200 < s.size
              · have hq := head_quote s.data.toList
                rw [if_pos (show 200 < s.data.toList.length from h200)] at hq
                have u1 : (200 : Int) < (s.size : Int) := by omega
                have NQ := fun (W : World) (hT : Tabs W) => LNext_err0 (c := 34) (quo_le (by omega)) rfl (by decide) hq hT
                clear hq h200
                go_wp2_with (go_at_call 13; refine Q.mono ?_; rintro e w7 ⟨rfl, hb7⟩; refine Hid.out ?_)
                refine Lib.hid ?_
                have ht7 := (ht6).below hb7
                go_wp2_with (go_at_call 9; refine (NQ _ ht7).mono ?_; rintro e w8 ⟨rfl, hb8⟩)
                go_ret
                have g7 := (hb6).trans (hb7.mono (hb6).size)
                have g8 := g7.trans (hb8.mono g7.size)
                exact ⟨rfl, g8.alloc g8.size _⟩
              · have hq := head_quote s.data.toList
                rw [if_neg (show ¬ 200 < s.data.toList.length from h200)] at hq
                have u1 : ¬ (200 : Int) < (s.size : Int) := by omega
                have u2 : (s.size : Int) ≤ 200 := by omega
                have u3 : (s.toList == s.toList) = true := beq_self_eq_true _
                have NQ : ∀ W, Tabs W → Calls Tryd.prog 9 #[.string (strL (quoL s.data.toList)), .int .i64 0] W fun e w' => (∃ nx : Int, e = .returned (.tuple #[.agg #[.int .i64 4, .int .i64 0, .int .i64 nx, .int .i64 0, .float .f64 0, .string s], .int .i64 0])) ∧ Below W.heap.size W w' := fun W hT => LNext_0 (c := 34) (quo_le (by omega)) rfl (by decide) hq hT
                clear hq h200
                go_wp2_with (go_at_call 13; refine Q.mono ?_; rintro e w7 ⟨rfl, hb7⟩; refine Hid.out ?_)
                refine Lib.hid ?_
                have ht7 := (ht6).below hb7
                go_wp2_with (go_at_call 9; refine (NQ _ ht7).mono ?_; rintro e w8 ⟨⟨nx, rfl⟩, hb8⟩)
                go_ret
                have g7 := (hb6).trans (hb7.mono (hb6).size)
                have g8 := g7.trans (hb8.mono g7.size)
                exact ⟨rfl, g8.alloc g8.size _⟩
          · have m1 : (m.toList == [110, 97, 110]) = false := beq_no (by rw [str_is]; exact hnan)
            have m2 : (m.toList != [110, 97, 110]) = true := by rw [bne, m1]; rfl
            by_cases hinf : m.data.toList = infL
            · have m3 : (m.toList == [105, 110, 102]) = true := beq_yes (by rw [str_is]; exact hinf)
              have m4 : (m.toList != [105, 110, 102]) = false := by rw [bne, m3]; rfl
              clear hnm hnan hinf
              go_upto_if 86 with (go_at_call 12; refine NM.mono ?_; rintro e w6 ⟨rfl, rfl⟩)
              go_cut [14, 15] from 87 to 104 (fun _ _ wx => Below w5.heap.size w5 wx)
              case first =>
                go_wp2_with fail
                go_meet
                exact Below.refl _ _
              case rest =>
                have hb6 := hb5.trans (hcut.mono hb5.size)
                have ht6 := ht5.below hcut
                clear hcut hb5 ht5 NM
                generalize hwc2 : wc = w6 at hb6 ht6 ⊢
                clear hwc2
                have Q := Quote_any (s := s) (by omega) w6
                by_cases h200 : 200 < s.size
                · have hq := head_quote s.data.toList
                  rw [if_pos (show 200 < s.data.toList.length from h200)] at hq
                  have u1 : (200 : Int) < (s.size : Int) := by omega
                  have NQ := fun (W : World) (hT : Tabs W) => LNext_err0 (c := 34) (quo_le (by omega)) rfl (by decide) hq hT
                  clear hq h200
                  go_wp2_with (go_at_call 13; refine Q.mono ?_; rintro e w7 ⟨rfl, hb7⟩; refine Hid.out ?_)
                  refine Lib.hid ?_
                  have ht7 := (ht6).below hb7
                  go_wp2_with (go_at_call 9; refine (NQ _ ht7).mono ?_; rintro e w8 ⟨rfl, hb8⟩)
                  go_ret
                  have g7 := (hb6).trans (hb7.mono (hb6).size)
                  have g8 := g7.trans (hb8.mono g7.size)
                  exact ⟨rfl, g8.alloc g8.size _⟩
                · have hq := head_quote s.data.toList
                  rw [if_neg (show ¬ 200 < s.data.toList.length from h200)] at hq
                  have u1 : ¬ (200 : Int) < (s.size : Int) := by omega
                  have u2 : (s.size : Int) ≤ 200 := by omega
                  have u3 : (s.toList == s.toList) = true := beq_self_eq_true _
                  have NQ : ∀ W, Tabs W → Calls Tryd.prog 9 #[.string (strL (quoL s.data.toList)), .int .i64 0] W fun e w' => (∃ nx : Int, e = .returned (.tuple #[.agg #[.int .i64 4, .int .i64 0, .int .i64 nx, .int .i64 0, .float .f64 0, .string s], .int .i64 0])) ∧ Below W.heap.size W w' := fun W hT => LNext_0 (c := 34) (quo_le (by omega)) rfl (by decide) hq hT
                  clear hq h200
                  go_wp2_with (go_at_call 13; refine Q.mono ?_; rintro e w7 ⟨rfl, hb7⟩; refine Hid.out ?_)
                  refine Lib.hid ?_
                  have ht7 := (ht6).below hb7
                  go_wp2_with (go_at_call 9; refine (NQ _ ht7).mono ?_; rintro e w8 ⟨⟨nx, rfl⟩, hb8⟩)
                  go_ret
                  have g7 := (hb6).trans (hb7.mono (hb6).size)
                  have g8 := g7.trans (hb8.mono g7.size)
                  exact ⟨rfl, g8.alloc g8.size _⟩
            · have m3 : (m.toList == [105, 110, 102]) = false := beq_no (by rw [str_is]; exact hinf)
              have m4 : (m.toList != [105, 110, 102]) = true := by rw [bne, m3]; rfl
              obtain ⟨_, cn, Rn, hRn, hblkn, hHn⟩ := head_name hnm hnan hinf
              have NN : ∀ W, Tabs W → Calls Tryd.prog 9 #[.string m, .int .i64 0] W fun e w' => (∃ nx : Int, e = .returned (.tuple #[.agg #[.int .i64 5, .int .i64 0, .int .i64 nx, .int .i64 0, .float .f64 0, .string m], .int .i64 0])) ∧ Below W.heap.size W w' := fun W hT => LNext_0 (R := m.data.toList) (show m.size ≤ 2000 by omega) hRn hblkn hHn hT
              have m5 : (m.toList == m.toList) = true := beq_self_eq_true _
              have m6 : (m.toList != m.toList) = false := by rw [bne, m5]; rfl
              clear hnm hnan hinf hRn hblkn hHn
              go_upto_if 86 with (go_at_call 12; refine NM.mono ?_; rintro e w6 ⟨rfl, rfl⟩)
              go_cut [14, 15] from 87 to 104 (fun _ _ wx => Below w5.heap.size w5 wx)
              case first =>
                go_wp2_with (go_at_call 9; refine (NN _ ht5).mono ?_; rintro e w7 ⟨⟨nx, rfl⟩, hb7⟩)
                go_meet
                exact hb7.alloc hb7.size _
              case rest =>
                have hb6 := hb5.trans (hcut.mono hb5.size)
                have ht6 := ht5.below hcut
                clear hcut hb5 ht5 NM
                generalize hwc2 : wc = w6 at hb6 ht6 ⊢
                clear hwc2
                have Q := Quote_any (s := s) (by omega) w6
                by_cases h200 : 200 < s.size
                · have hq := head_quote s.data.toList
                  rw [if_pos (show 200 < s.data.toList.length from h200)] at hq
                  have u1 : (200 : Int) < (s.size : Int) := by omega
                  have NQ := fun (W : World) (hT : Tabs W) => LNext_err0 (c := 34) (quo_le (by omega)) rfl (by decide) hq hT
                  clear hq h200
                  go_wp2_with (go_at_call 13; refine Q.mono ?_; rintro e w7 ⟨rfl, hb7⟩; refine Hid.out ?_)
                  refine Lib.hid ?_
                  have ht7 := (ht6).below hb7
                  go_wp2_with (go_at_call 9; refine (NQ _ ht7).mono ?_; rintro e w8 ⟨rfl, hb8⟩)
                  go_ret
                  have g7 := (hb6).trans (hb7.mono (hb6).size)
                  have g8 := g7.trans (hb8.mono g7.size)
                  exact ⟨rfl, g8.alloc g8.size _⟩
                · have hq := head_quote s.data.toList
                  rw [if_neg (show ¬ 200 < s.data.toList.length from h200)] at hq
                  have u1 : ¬ (200 : Int) < (s.size : Int) := by omega
                  have u2 : (s.size : Int) ≤ 200 := by omega
                  have u3 : (s.toList == s.toList) = true := beq_self_eq_true _
                  have NQ : ∀ W, Tabs W → Calls Tryd.prog 9 #[.string (strL (quoL s.data.toList)), .int .i64 0] W fun e w' => (∃ nx : Int, e = .returned (.tuple #[.agg #[.int .i64 4, .int .i64 0, .int .i64 nx, .int .i64 0, .float .f64 0, .string s], .int .i64 0])) ∧ Below W.heap.size W w' := fun W hT => LNext_0 (c := 34) (quo_le (by omega)) rfl (by decide) hq hT
                  clear hq h200
                  go_wp2_with (go_at_call 13; refine Q.mono ?_; rintro e w7 ⟨rfl, hb7⟩; refine Hid.out ?_)
                  refine Lib.hid ?_
                  have ht7 := (ht6).below hb7
                  go_wp2_with (go_at_call 9; refine (NQ _ ht7).mono ?_; rintro e w8 ⟨⟨nx, rfl⟩, hb8⟩)
                  go_ret
                  have g7 := (hb6).trans (hb7.mono (hb6).size)
                  have g8 := g7.trans (hb8.mono g7.size)
                  exact ⟨rfl, g8.alloc g8.size _⟩
    · have hn1 : nanB f = false := by cases h : nanB f with | false => rfl | true => exact absurd (.inl h) hm
      have hs1 : sgn f = true := by cases h : sgn f with | true => rfl | false => exact absurd (.inr h) hm
      have hR : textL f = 45 :: sizeL f := by unfold textL signL; rw [if_neg (by rw [hn1]; exact Bool.false_ne_true), if_pos hs1]; rfl
      have hx0 : 0 < x.size := by rw [hxl, hR]; exact Nat.zero_lt_succ _
      have hxc : x[0] = 45 := by
        have h3 : x.data.toList[0]? = some x[0] := byte_some hx0
        have h4 : x.data.toList[0]? = some 45 := by
          rw [hxl]
          show (textL f)[0]? = some 45
          rw [hR]; rfl
        rw [h4] at h3
        injection h3 with h3
        exact h3.symm
      have e45 : ((x[0].toNat : Int) == 45) = true := by rw [hxc]; rfl
      have f45 : ((x[0].toNat : Int) != 45) = false := by rw [bne, e45]; rfl
      clear hR hn1 hs1 hm hxl hx hxc
      go_upto_if 57 with (go_at_call 11; refine X.mono ?_; rintro e w4 ⟨rfl, hb4⟩)
      have ht4 := htc.below hb4
      go_cut [12, 13] from 58 to 76 (fun _ _ wx => Below w4.heap.size w4 wx)
      case first =>
        go_wp2_with fail
        go_meet
        exact Below.refl _ _
      case rest =>
        have hb5 := (hbc.trans (hb4.mono hbc.size)).trans (hcut.mono (Nat.le_trans hbc.size hb4.size))
        have ht5 := ht4.below hcut
        clear hcut hb4 ht4 X hbc htc
        generalize hwc : wc = w5 at hb5 ht5 ⊢
        clear hwc
        have NM := (name_any (s := m) (by omega) w5).mono (fun e w' h => (⟨h.1, h.2.symm⟩ : e = .returned (.bool (nameB m)) ∧ w5 = w'))
        cases hnm : nameB m with
        | false =>
          rw [hnm] at NM
          clear hnm
          go_upto_if 86 with (go_at_call 12; refine NM.mono ?_; rintro e w6 ⟨rfl, rfl⟩)
          go_cut [14, 15] from 87 to 104 (fun _ _ wx => Below w5.heap.size w5 wx)
          case first =>
            go_wp2_with fail
            go_meet
            exact Below.refl _ _
          case rest =>
            have hb6 := hb5.trans (hcut.mono hb5.size)
            have ht6 := ht5.below hcut
            clear hcut hb5 ht5 NM
            generalize hwc2 : wc = w6 at hb6 ht6 ⊢
            clear hwc2
            have Q := Quote_any (s := s) (by omega) w6
            by_cases h200 : 200 < s.size
            · have hq := head_quote s.data.toList
              rw [if_pos (show 200 < s.data.toList.length from h200)] at hq
              have u1 : (200 : Int) < (s.size : Int) := by omega
              have NQ := fun (W : World) (hT : Tabs W) => LNext_err0 (c := 34) (quo_le (by omega)) rfl (by decide) hq hT
              clear hq h200
              go_wp2_with (go_at_call 13; refine Q.mono ?_; rintro e w7 ⟨rfl, hb7⟩; refine Hid.out ?_)
              refine Lib.hid ?_
              have ht7 := (ht6).below hb7
              go_wp2_with (go_at_call 9; refine (NQ _ ht7).mono ?_; rintro e w8 ⟨rfl, hb8⟩)
              go_ret
              have g7 := (hb6).trans (hb7.mono (hb6).size)
              have g8 := g7.trans (hb8.mono g7.size)
              exact ⟨rfl, g8.alloc g8.size _⟩
            · have hq := head_quote s.data.toList
              rw [if_neg (show ¬ 200 < s.data.toList.length from h200)] at hq
              have u1 : ¬ (200 : Int) < (s.size : Int) := by omega
              have u2 : (s.size : Int) ≤ 200 := by omega
              have u3 : (s.toList == s.toList) = true := beq_self_eq_true _
              have NQ : ∀ W, Tabs W → Calls Tryd.prog 9 #[.string (strL (quoL s.data.toList)), .int .i64 0] W fun e w' => (∃ nx : Int, e = .returned (.tuple #[.agg #[.int .i64 4, .int .i64 0, .int .i64 nx, .int .i64 0, .float .f64 0, .string s], .int .i64 0])) ∧ Below W.heap.size W w' := fun W hT => LNext_0 (c := 34) (quo_le (by omega)) rfl (by decide) hq hT
              clear hq h200
              go_wp2_with (go_at_call 13; refine Q.mono ?_; rintro e w7 ⟨rfl, hb7⟩; refine Hid.out ?_)
              refine Lib.hid ?_
              have ht7 := (ht6).below hb7
              go_wp2_with (go_at_call 9; refine (NQ _ ht7).mono ?_; rintro e w8 ⟨⟨nx, rfl⟩, hb8⟩)
              go_ret
              have g7 := (hb6).trans (hb7.mono (hb6).size)
              have g8 := g7.trans (hb8.mono g7.size)
              exact ⟨rfl, g8.alloc g8.size _⟩
        | true =>
          rw [hnm] at NM
          by_cases hnan : m.data.toList = nanL
          · have m1 : (m.toList == [110, 97, 110]) = true := beq_yes (by rw [str_is]; exact hnan)
            have m2 : (m.toList != [110, 97, 110]) = false := by rw [bne, m1]; rfl
            clear hnm hnan
            go_upto_if 86 with (go_at_call 12; refine NM.mono ?_; rintro e w6 ⟨rfl, rfl⟩)
            go_cut [14, 15] from 87 to 104 (fun _ _ wx => Below w5.heap.size w5 wx)
            case first =>
              go_wp2_with fail
              go_meet
              exact Below.refl _ _
            case rest =>
              have hb6 := hb5.trans (hcut.mono hb5.size)
              have ht6 := ht5.below hcut
              clear hcut hb5 ht5 NM
              generalize hwc2 : wc = w6 at hb6 ht6 ⊢
              clear hwc2
              have Q := Quote_any (s := s) (by omega) w6
              by_cases h200 : 200 < s.size
              · have hq := head_quote s.data.toList
                rw [if_pos (show 200 < s.data.toList.length from h200)] at hq
                have u1 : (200 : Int) < (s.size : Int) := by omega
                have NQ := fun (W : World) (hT : Tabs W) => LNext_err0 (c := 34) (quo_le (by omega)) rfl (by decide) hq hT
                clear hq h200
                go_wp2_with (go_at_call 13; refine Q.mono ?_; rintro e w7 ⟨rfl, hb7⟩; refine Hid.out ?_)
                refine Lib.hid ?_
                have ht7 := (ht6).below hb7
                go_wp2_with (go_at_call 9; refine (NQ _ ht7).mono ?_; rintro e w8 ⟨rfl, hb8⟩)
                go_ret
                have g7 := (hb6).trans (hb7.mono (hb6).size)
                have g8 := g7.trans (hb8.mono g7.size)
                exact ⟨rfl, g8.alloc g8.size _⟩
              · have hq := head_quote s.data.toList
                rw [if_neg (show ¬ 200 < s.data.toList.length from h200)] at hq
                have u1 : ¬ (200 : Int) < (s.size : Int) := by omega
                have u2 : (s.size : Int) ≤ 200 := by omega
                have u3 : (s.toList == s.toList) = true := beq_self_eq_true _
                have NQ : ∀ W, Tabs W → Calls Tryd.prog 9 #[.string (strL (quoL s.data.toList)), .int .i64 0] W fun e w' => (∃ nx : Int, e = .returned (.tuple #[.agg #[.int .i64 4, .int .i64 0, .int .i64 nx, .int .i64 0, .float .f64 0, .string s], .int .i64 0])) ∧ Below W.heap.size W w' := fun W hT => LNext_0 (c := 34) (quo_le (by omega)) rfl (by decide) hq hT
                clear hq h200
                go_wp2_with (go_at_call 13; refine Q.mono ?_; rintro e w7 ⟨rfl, hb7⟩; refine Hid.out ?_)
                refine Lib.hid ?_
                have ht7 := (ht6).below hb7
                go_wp2_with (go_at_call 9; refine (NQ _ ht7).mono ?_; rintro e w8 ⟨⟨nx, rfl⟩, hb8⟩)
                go_ret
                have g7 := (hb6).trans (hb7.mono (hb6).size)
                have g8 := g7.trans (hb8.mono g7.size)
                exact ⟨rfl, g8.alloc g8.size _⟩
          · have m1 : (m.toList == [110, 97, 110]) = false := beq_no (by rw [str_is]; exact hnan)
            have m2 : (m.toList != [110, 97, 110]) = true := by rw [bne, m1]; rfl
            by_cases hinf : m.data.toList = infL
            · have m3 : (m.toList == [105, 110, 102]) = true := beq_yes (by rw [str_is]; exact hinf)
              have m4 : (m.toList != [105, 110, 102]) = false := by rw [bne, m3]; rfl
              clear hnm hnan hinf
              go_upto_if 86 with (go_at_call 12; refine NM.mono ?_; rintro e w6 ⟨rfl, rfl⟩)
              go_cut [14, 15] from 87 to 104 (fun _ _ wx => Below w5.heap.size w5 wx)
              case first =>
                go_wp2_with fail
                go_meet
                exact Below.refl _ _
              case rest =>
                have hb6 := hb5.trans (hcut.mono hb5.size)
                have ht6 := ht5.below hcut
                clear hcut hb5 ht5 NM
                generalize hwc2 : wc = w6 at hb6 ht6 ⊢
                clear hwc2
                have Q := Quote_any (s := s) (by omega) w6
                by_cases h200 : 200 < s.size
                · have hq := head_quote s.data.toList
                  rw [if_pos (show 200 < s.data.toList.length from h200)] at hq
                  have u1 : (200 : Int) < (s.size : Int) := by omega
                  have NQ := fun (W : World) (hT : Tabs W) => LNext_err0 (c := 34) (quo_le (by omega)) rfl (by decide) hq hT
                  clear hq h200
                  go_wp2_with (go_at_call 13; refine Q.mono ?_; rintro e w7 ⟨rfl, hb7⟩; refine Hid.out ?_)
                  refine Lib.hid ?_
                  have ht7 := (ht6).below hb7
                  go_wp2_with (go_at_call 9; refine (NQ _ ht7).mono ?_; rintro e w8 ⟨rfl, hb8⟩)
                  go_ret
                  have g7 := (hb6).trans (hb7.mono (hb6).size)
                  have g8 := g7.trans (hb8.mono g7.size)
                  exact ⟨rfl, g8.alloc g8.size _⟩
                · have hq := head_quote s.data.toList
                  rw [if_neg (show ¬ 200 < s.data.toList.length from h200)] at hq
                  have u1 : ¬ (200 : Int) < (s.size : Int) := by omega
                  have u2 : (s.size : Int) ≤ 200 := by omega
                  have u3 : (s.toList == s.toList) = true := beq_self_eq_true _
                  have NQ : ∀ W, Tabs W → Calls Tryd.prog 9 #[.string (strL (quoL s.data.toList)), .int .i64 0] W fun e w' => (∃ nx : Int, e = .returned (.tuple #[.agg #[.int .i64 4, .int .i64 0, .int .i64 nx, .int .i64 0, .float .f64 0, .string s], .int .i64 0])) ∧ Below W.heap.size W w' := fun W hT => LNext_0 (c := 34) (quo_le (by omega)) rfl (by decide) hq hT
                  clear hq h200
                  go_wp2_with (go_at_call 13; refine Q.mono ?_; rintro e w7 ⟨rfl, hb7⟩; refine Hid.out ?_)
                  refine Lib.hid ?_
                  have ht7 := (ht6).below hb7
                  go_wp2_with (go_at_call 9; refine (NQ _ ht7).mono ?_; rintro e w8 ⟨⟨nx, rfl⟩, hb8⟩)
                  go_ret
                  have g7 := (hb6).trans (hb7.mono (hb6).size)
                  have g8 := g7.trans (hb8.mono g7.size)
                  exact ⟨rfl, g8.alloc g8.size _⟩
            · have m3 : (m.toList == [105, 110, 102]) = false := beq_no (by rw [str_is]; exact hinf)
              have m4 : (m.toList != [105, 110, 102]) = true := by rw [bne, m3]; rfl
              obtain ⟨_, cn, Rn, hRn, hblkn, hHn⟩ := head_name hnm hnan hinf
              have NN : ∀ W, Tabs W → Calls Tryd.prog 9 #[.string m, .int .i64 0] W fun e w' => (∃ nx : Int, e = .returned (.tuple #[.agg #[.int .i64 5, .int .i64 0, .int .i64 nx, .int .i64 0, .float .f64 0, .string m], .int .i64 0])) ∧ Below W.heap.size W w' := fun W hT => LNext_0 (R := m.data.toList) (show m.size ≤ 2000 by omega) hRn hblkn hHn hT
              have m5 : (m.toList == m.toList) = true := beq_self_eq_true _
              have m6 : (m.toList != m.toList) = false := by rw [bne, m5]; rfl
              clear hnm hnan hinf hRn hblkn hHn
              go_upto_if 86 with (go_at_call 12; refine NM.mono ?_; rintro e w6 ⟨rfl, rfl⟩)
              go_cut [14, 15] from 87 to 104 (fun _ _ wx => Below w5.heap.size w5 wx)
              case first =>
                go_wp2_with (go_at_call 9; refine (NN _ ht5).mono ?_; rintro e w7 ⟨⟨nx, rfl⟩, hb7⟩)
                go_meet
                exact hb7.alloc hb7.size _
              case rest =>
                have hb6 := hb5.trans (hcut.mono hb5.size)
                have ht6 := ht5.below hcut
                clear hcut hb5 ht5 NM
                generalize hwc2 : wc = w6 at hb6 ht6 ⊢
                clear hwc2
                have Q := Quote_any (s := s) (by omega) w6
                by_cases h200 : 200 < s.size
                · have hq := head_quote s.data.toList
                  rw [if_pos (show 200 < s.data.toList.length from h200)] at hq
                  have u1 : (200 : Int) < (s.size : Int) := by omega
                  have NQ := fun (W : World) (hT : Tabs W) => LNext_err0 (c := 34) (quo_le (by omega)) rfl (by decide) hq hT
                  clear hq h200
                  go_wp2_with (go_at_call 13; refine Q.mono ?_; rintro e w7 ⟨rfl, hb7⟩; refine Hid.out ?_)
                  refine Lib.hid ?_
                  have ht7 := (ht6).below hb7
                  go_wp2_with (go_at_call 9; refine (NQ _ ht7).mono ?_; rintro e w8 ⟨rfl, hb8⟩)
                  go_ret
                  have g7 := (hb6).trans (hb7.mono (hb6).size)
                  have g8 := g7.trans (hb8.mono g7.size)
                  exact ⟨rfl, g8.alloc g8.size _⟩
                · have hq := head_quote s.data.toList
                  rw [if_neg (show ¬ 200 < s.data.toList.length from h200)] at hq
                  have u1 : ¬ (200 : Int) < (s.size : Int) := by omega
                  have u2 : (s.size : Int) ≤ 200 := by omega
                  have u3 : (s.toList == s.toList) = true := beq_self_eq_true _
                  have NQ : ∀ W, Tabs W → Calls Tryd.prog 9 #[.string (strL (quoL s.data.toList)), .int .i64 0] W fun e w' => (∃ nx : Int, e = .returned (.tuple #[.agg #[.int .i64 4, .int .i64 0, .int .i64 nx, .int .i64 0, .float .f64 0, .string s], .int .i64 0])) ∧ Below W.heap.size W w' := fun W hT => LNext_0 (c := 34) (quo_le (by omega)) rfl (by decide) hq hT
                  clear hq h200
                  go_wp2_with (go_at_call 13; refine Q.mono ?_; rintro e w7 ⟨rfl, hb7⟩; refine Hid.out ?_)
                  refine Lib.hid ?_
                  have ht7 := (ht6).below hb7
                  go_wp2_with (go_at_call 9; refine (NQ _ ht7).mono ?_; rintro e w8 ⟨⟨nx, rfl⟩, hb8⟩)
                  go_ret
                  have g7 := (hb6).trans (hb7.mono (hb6).size)
                  have g8 := g7.trans (hb8.mono g7.size)
                  exact ⟨rfl, g8.alloc g8.size _⟩
theorem walk {n : Int} {f : Nat} (hn : n < 9223372036854775808) (hf : okW f) (s m : ByteArray) {w : World} (ht : Tabs w) : Calls Tryd.prog 4 #[.int .i64 n, .float .f64 f, .string s, .string m] w (Yes w) := by
  by_cases h1 : 300 < s.size
  · exact walk_big (.inl h1) ht
  · by_cases h2 : 100 < m.size
    · exact walk_big (.inr ⟨by omega, h2⟩) ht
    · exact walk_all hn hf h1 h2 ht
end lexTexts
end Go.Proofs.YtfkjehgbghckhaaDoor

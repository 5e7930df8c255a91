/-
  Contracts of the program's names: isLetter, isDigit, Name, areNames.
-/
import Derived.Test.YtdmbfajhcihfgaaVn
namespace Go.Proofs.Ytdmbfajhcihfgaa
open Go.RowKit

theorem letter_f (c : UInt8) (w : World) : Calls Try.prog 114 #[.int .u8 c.toNat] w fun e w' => e = .returned (.bool (letterB c)) ∧ w = w' := by
  by_cases l1 : 97 ≤ c.toNat
  · by_cases l2 : c.toNat ≤ 122
    · have R : Hid (letterB c = true) := Lib.hid (by unfold letterB; rw [decide_eq_true l1, decide_eq_true l2]; rfl)
      have t1 : decide ((97 : Int) ≤ (c.toNat : Int)) = true := by simp; omega
      have t2 : decide ((c.toNat : Int) ≤ 122) = true := by simp; omega
      clear l1 l2
      go_enter Try.func114, Try.ntmps114
      go_wp2
      go_ret
      exact ⟨by rw [R.out]; rfl, rfl⟩
    · have R : Hid (letterB c = false) := Lib.hid (by unfold letterB; rw [decide_eq_false l2]; simp)
      have t1 : decide ((97 : Int) ≤ (c.toNat : Int)) = true := by simp; omega
      have t2 : decide ((c.toNat : Int) ≤ 122) = false := by simp; omega
      clear l1 l2
      go_enter Try.func114, Try.ntmps114
      go_wp2
      go_ret
      exact ⟨by rw [R.out]; rfl, rfl⟩
  · have R : Hid (letterB c = false) := Lib.hid (by unfold letterB; rw [decide_eq_false l1]; rfl)
    have t1 : decide ((97 : Int) ≤ (c.toNat : Int)) = false := by simp; omega
    clear l1
    go_enter Try.func114, Try.ntmps114
    go_wp2
    go_ret
    exact ⟨by rw [R.out]; rfl, rfl⟩
theorem digit_f (c : UInt8) (w : World) : Calls Try.prog 115 #[.int .u8 c.toNat] w fun e w' => e = .returned (.bool (digitB c)) ∧ w = w' := by
  by_cases l1 : 48 ≤ c.toNat
  · by_cases l2 : c.toNat ≤ 57
    · have R : Hid (digitB c = true) := Lib.hid (by unfold digitB; rw [decide_eq_true l1, decide_eq_true l2]; rfl)
      have t1 : decide ((48 : Int) ≤ (c.toNat : Int)) = true := by simp; omega
      have t2 : decide ((c.toNat : Int) ≤ 57) = true := by simp; omega
      clear l1 l2
      go_enter Try.func115, Try.ntmps115
      go_wp2
      go_ret
      exact ⟨by rw [R.out]; rfl, rfl⟩
    · have R : Hid (digitB c = false) := Lib.hid (by unfold digitB; rw [decide_eq_false l2]; simp)
      have t1 : decide ((48 : Int) ≤ (c.toNat : Int)) = true := by simp; omega
      have t2 : decide ((c.toNat : Int) ≤ 57) = false := by simp; omega
      clear l1 l2
      go_enter Try.func115, Try.ntmps115
      go_wp2
      go_ret
      exact ⟨by rw [R.out]; rfl, rfl⟩
  · have R : Hid (digitB c = false) := Lib.hid (by unfold digitB; rw [decide_eq_false l1]; rfl)
    have t1 : decide ((48 : Int) ≤ (c.toNat : Int)) = false := by simp; omega
    clear l1
    go_enter Try.func115, Try.ntmps115
    go_wp2
    go_ret
    exact ⟨by rw [R.out]; rfl, rfl⟩
set_option maxHeartbeats 1000000 in
theorem name_f {s : ByteArray} (hs : s.size ≤ 9223372036854775807) (w : World) : Calls Try.prog 110 #[.string s] w fun e w' => e = .returned (.bool (nameB s)) ∧ Below w.heap.size w w' := by
  have L := letter_f
  have D := digit_f
  have hb0 := Below.refl w.heap.size w
  by_cases h1 : s.size < 1
  · have R : Hid (nameB s = false) := Lib.hid (by unfold nameB; rw [decide_eq_false (by omega)]; rfl)
    go_enter Try.func110, Try.ntmps110
    go_wp2_with fail
    go_ret
    exact ⟨by rw [R.out]; rfl, hb0⟩
  · by_cases h2 : 30 < s.size
    · have R : Hid (nameB s = false) := Lib.hid (by unfold nameB; rw [decide_eq_false (show ¬ s.size ≤ 30 by omega)]; simp)
      go_enter Try.func110, Try.ntmps110
      go_wp2_with fail
      go_ret
      exact ⟨by rw [R.out]; rfl, hb0⟩
    · have h0 : 0 < s.size := by omega
      obtain ⟨c0, hc0⟩ : ∃ c, s[0] = c := ⟨_, rfl⟩
      have L0 := L c0
      cases hl : letterB c0 with
      | false =>
        have R : Hid (nameB s = false) := Lib.hid (nameB_no h0 (by rw [hc0]; unfold atB; rw [hl]; rfl))
        rw [hl] at L0
        clear hl L D
        go_enter Try.func110, Try.ntmps110
        go_wp2_with (go_at_call 114; refine (L0 _).mono ?_; rintro e w' ⟨rfl, rfl⟩)
        go_ret
        exact ⟨by rw [R.out]; rfl, hb0⟩
      | true =>
        rw [hl] at L0
        have Z : Hid (atB 0 s[0] = true) := Lib.hid (by rw [hc0]; unfold atB; rw [hl]; rfl)
        clear hl
        go_enter Try.func110, Try.ntmps110
        go_wp2_with (go_at_call 114; refine (L0 _).mono ?_; rintro e w' ⟨rfl, rfl⟩)
        clear L0 hc0
        go_loopw [20] (fun iv wr => ∃ k : Nat, k ≤ s.size ∧ iv = .int .i64 k ∧ Hid (∀ j (_ : j < k) (h : j < s.size), atB j s[j] = true) ∧ Below w.heap.size w wr) (fun iv _ => s.size - (intOf iv).toNat)
        case atStart => exact ⟨0, Nat.zero_le _, rfl, Lib.hid fun j hj _ => absurd hj (by omega), hb0⟩
        case round =>
          obtain ⟨k, hk, rfl, hh, hb⟩ := hrel
          by_cases hlt : k < s.size
          · obtain ⟨c, hc⟩ : ∃ c, s[k] = c := ⟨_, rfl⟩
            have yes : atB k c = true → Hid (∀ j (_ : j < k + 1) (h : j < s.size), atB j s[j] = true) := fun hy => Lib.hid fun j hj h => by
              by_cases e : j = k
              · subst e; rw [hc]; exact hy
              · exact hh.out j (by omega) h
            have no : atB k c = false → Hid (nameB s = false) := fun hn => Lib.hid (nameB_no hlt (by rw [hc]; exact hn))
            have k0 : k = 0 → Hid (∀ j (_ : j < k + 1) (h : j < s.size), atB j s[j] = true) := fun e => yes (by subst e; rw [← hc]; exact Z.out)
            have Lc := L c
            have Dc := D c
            clear hh Z
            cases l : letterB c with
            | true =>
              have Y := yes (by unfold atB; rw [l]; rfl)
              rw [l] at Lc
              clear yes no k0 l Dc L D
              go_wp2_with (first | (go_at_call 114; refine (Lc _).mono ?_; rintro e w' ⟨rfl, rfl⟩))
              go_roundw
              case rel => exact ⟨k + 1, by omega, by go_num, Y, hb⟩
              case measure => simp [intOf]; omega
            | false =>
              rw [l] at Lc
              cases d : digitB c with
              | true =>
                have Y : Hid (∀ j (_ : j < k + 1) (h : j < s.size), atB j s[j] = true) := by
                  by_cases e : k = 0
                  · exact k0 e
                  · exact yes (by unfold atB; rw [d, decide_eq_true (show 0 < k by omega)]; simp)
                rw [d] at Dc
                clear yes no k0 l d L D
                go_wp2_with (first | (go_at_call 114; refine (Lc _).mono ?_; rintro e w' ⟨rfl, rfl⟩) | (go_at_call 115; refine (Dc _).mono ?_; rintro e w' ⟨rfl, rfl⟩))
                go_roundw
                case rel => exact ⟨k + 1, by omega, by go_num, Y, hb⟩
                case measure => simp [intOf]; omega
              | false =>
                rw [d] at Dc
                by_cases u : c.toNat = 95
                · have Y : Hid (∀ j (_ : j < k + 1) (h : j < s.size), atB j s[j] = true) := by
                    by_cases e : k = 0
                    · exact k0 e
                    · exact yes (by unfold atB; rw [decide_eq_true u, decide_eq_true (show 0 < k by omega)]; simp)
                  have n1 : ((c.toNat : Int) != 95) = false := by simp; omega
                  clear yes no k0 l d u L D
                  go_wp2_with (first | (go_at_call 114; refine (Lc _).mono ?_; rintro e w' ⟨rfl, rfl⟩) | (go_at_call 115; refine (Dc _).mono ?_; rintro e w' ⟨rfl, rfl⟩))
                  go_roundw
                  case rel => exact ⟨k + 1, by omega, by go_num, Y, hb⟩
                  case measure => simp [intOf]; omega
                · have N := no (by unfold atB; rw [l, d, decide_eq_false u]; simp)
                  have n1 : ((c.toNat : Int) != 95) = true := by simp; omega
                  clear yes no k0 l d u L D
                  go_wp2_with (first | (go_at_call 114; refine (Lc _).mono ?_; rintro e w' ⟨rfl, rfl⟩) | (go_at_call 115; refine (Dc _).mono ?_; rintro e w' ⟨rfl, rfl⟩))
                  go_ret
                  exact ⟨by rw [N.out]; rfl, hb⟩
          · have R : Hid (nameB s = true) := Lib.hid (nameB_yes (by omega) (by omega) fun j h => hh.out j (by omega) h)
            clear hh L D Z
            go_wp2_with fail
            go_ret
            exact ⟨by rw [R.out]; rfl, hb⟩
set_option maxHeartbeats 1000000 in
theorem names_f {A : Option Addr} {c ca : Nat} {ns : Nat → ByteArray} {lim : Nat} {w : World} {n : Int} (h1 : Strs w lim A c ns) (hlim : lim ≤ w.heap.size) (hc : c ≤ 9223372036854775807) :
    Calls Try.prog 93 #[.slice A c ca, .int .i64 n] w fun e w' => e = .returned (.bool (((c : Int) == n) && riseB c ns)) ∧ Below w.heap.size w w' := by
  have hb0 := Below.refl w.heap.size w
  cases hcn : ((c : Int) == n) with
  | false =>
    have t1 : ((c : Int) != n) = true := by rw [bne, hcn]; rfl
    clear h1
    go_enter Try.func93, Try.ntmps93
    go_wp2_with fail
    go_ret
    exact ⟨by rw [Bool.false_and]; rfl, hb0⟩
  | true =>
    have t1 : ((c : Int) != n) = false := by rw [bne, hcn]; rfl
    rw [Bool.true_and]
    go_enter Try.func93, Try.ntmps93
    go_wp2_with fail
    clear t1 hcn
    go_loopw [13] (fun iv wr => ∃ i : Nat, i ≤ c ∧ iv = .int .i64 i ∧ Hid (∀ j, j < i → riseAt ns j = true) ∧ Below w.heap.size w wr) (fun iv _ => c - (intOf iv).toNat)
    case atStart => exact ⟨0, Nat.zero_le _, rfl, Lib.hid fun j hj => absurd hj (by omega), hb0⟩
    case round =>
      obtain ⟨i, hi, rfl, hh, hb⟩ := hrel
      by_cases hlt : i < c
      · obtain ⟨g, o, rfl, hg, hx⟩ := h1 (by omega)
        have x1 : wr.cell? ⟨g, o + i, none⟩ = _ := (hb.cell (p := ⟨g, o + i, none⟩) (show g < _ by omega)).trans (hx i hlt).1
        have T := name_f (s := ns i) (by have := (hx i hlt).2; unfold maxLen at this; exact this)
        have yes : riseAt ns i = true → Hid (∀ j, j < i + 1 → riseAt ns j = true) := fun hy => Lib.hid fun j hj => by
          by_cases e : j = i
          · subst e; exact hy
          · exact hh.out j (by omega)
        have no : riseAt ns i = false → Hid (riseB c ns = false) := fun hn => Lib.hid (riseB_no hlt hn)
        have hgr : g < wr.heap.size := by have := hb.size; omega
        clear hh
        cases hn : nameB (ns i)
        · have N := no (by unfold riseAt; rw [hn]; rfl)
          rw [hn] at T
          clear yes no hx h1 hn
          go_wp2_with (first | (go_at_call 110; refine (T _).mono ?_; rintro e w3 ⟨rfl, hb3⟩))
          go_ret
          exact ⟨by rw [N.out]; rfl, hb.trans (hb3.mono hb.size)⟩
        · rw [hn] at T
          by_cases k0 : i = 0
          · have Y := yes (by unfold riseAt; rw [hn, decide_eq_true k0]; rfl)
            subst k0
            have x1z : wr.cell? ⟨g, o, none⟩ = some (.string (ns 0)) := x1
            clear yes no hx h1 hn x1
            go_wp2_with (first | (go_at_call 110; refine (T _).mono ?_; rintro e w3 ⟨rfl, hb3⟩))
            go_roundw
            case rel => exact ⟨0 + 1, by omega, by go_num, Y, hb.trans (hb3.mono hb.size)⟩
            case measure => simp [intOf]; omega
          · obtain ⟨p, rfl⟩ : ∃ p, i = p + 1 := ⟨i - 1, by omega⟩
            have x0 : wr.cell? ⟨g, o + p, none⟩ = _ := (hb.cell (p := ⟨g, o + p, none⟩) (show g < _ by omega)).trans (hx p (by omega)).1
            cases hless : Op.bytesLess (ns p).toList (ns (p + 1)).toList
            · have N := no (by unfold riseAt lessS; rw [show p + 1 - 1 = p by omega, hless, decide_eq_false (by omega)]; simp)
              clear yes no hx h1 hn
              go_wp2_with (first | (go_at_call 110; refine (T _).mono ?_; rintro e w3 ⟨rfl, hb3⟩; have x0' := (hb3.cell (p := ⟨g, o + p, none⟩) hgr).trans x0))
              go_ret
              exact ⟨by rw [N.out]; rfl, hb.trans (hb3.mono hb.size)⟩
            · have Y := yes (by unfold riseAt lessS; rw [hn, show p + 1 - 1 = p by omega, hless]; simp)
              clear yes no hx h1 hn
              go_wp2_with (first | (go_at_call 110; refine (T _).mono ?_; rintro e w3 ⟨rfl, hb3⟩; have x0' := (hb3.cell (p := ⟨g, o + p, none⟩) hgr).trans x0))
              go_roundw
              case rel => exact ⟨p + 1 + 1, by omega, by go_num, Y, hb.trans (hb3.mono hb.size)⟩
              case measure => simp [intOf]; omega
      · have R : Hid (riseB c ns = true) := Lib.hid (riseB_yes fun i h => hh.out i (by omega))
        clear hh h1
        go_wp2_with fail
        go_ret
        exact ⟨by rw [R.out]; rfl, hb⟩
end Go.Proofs.Ytdmbfajhcihfgaa

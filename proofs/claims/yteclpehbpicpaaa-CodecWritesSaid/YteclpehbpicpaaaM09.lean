/-
  How many parts a value has, and the program's own count.
  Contracts of the program's names: isLetter, isDigit, Name, areNames.
-/
import Derived.Test.YteclpehbpicpaaaM07
import Derived.Test.YteclpehbpicpaaaM01
namespace Go.Proofs.Yteclpehbpicpaaa
open Go.RowKit

def sumN (g : Nat → Nat) : Nat → Nat
  | 0 => 0
  | i + 1 => sumN g i + g i
/-- All parts of a value. -/
def tot : VT → Nat
  | .bad => 0
  | .mk _ _ _ _ _ _ m xs => 1 + sumN (fun i => tot (xs i)) m
theorem cntGo_sum (g : Nat → Int → Int) (T : Nat → Nat) (m : Nat) (hg : ∀ i n, i < m → 0 ≤ n → n < 500 → g i n = min (n + T i) 500) :
    ∀ r i n, i + r = m → 0 ≤ n → n ≤ 500 → (500 : Int) ≤ n ∨ n = 1 + sumN T i → cntGo g r i n = min (1 + sumN T m : Int) 500 ∨ (n = 500 ∧ cntGo g r i n = 500) := by
  intro r
  induction r with
  | zero =>
    intro i n hi h0 h5 hn
    obtain rfl : i = m := by omega
    unfold cntGo
    rcases hn with hn | hn
    · right; omega
    · left; omega
  | succ r ih =>
    intro i n hi h0 h5 hn
    unfold cntGo
    by_cases h : n < 500
    · rw [if_pos h]
      have hni : n = 1 + sumN T i := by rcases hn with hn | hn; omega; exact hn
      have hs : sumN T (i + 1) = sumN T i + T i := rfl
      have e := hg i n (by omega) h0 h
      have hmono : ∀ j, j ≤ m → i + 1 ≤ j → sumN T (i + 1) ≤ sumN T j := by
        intro j
        induction j with
        | zero => intro _ h; omega
        | succ j ihj =>
          intro hj h1
          by_cases e : j = i
          · subst e; exact Nat.le_refl _
          · have := ihj (by omega) (by omega)
            show _ ≤ sumN T j + T j
            omega
      have hm := hmono m (Nat.le_refl _) (by omega)
      rw [e]
      rcases ih (i + 1) (min (n + T i) 500) (by omega) (by omega) (by omega) (by omega) with h1 | ⟨h1, h2⟩
      · left; exact h1
      · left; rw [h2]; omega
    · rw [if_neg h]
      right; omega
theorem cnt_tot {w : World} {lim : Nat} {v : Array Value} {t : VT} (h : Val w lim v t) : ∀ n, 0 ≤ n → n < 500 → cntV t n = min (n + tot t) 500 := by
  induction h with
  | mk k n0 f s A c ca B m cb ns xs vs hk hn hf hs hc hm hns hB hxs ih =>
    intro n h0 h5
    unfold cntV tot
    have hin := cntGo_in (fun i n => cntV (xs i) n) (fun i n a b => cntV_in (xs i) n a b) m 0 (n + 1) (by omega) (by omega)
    -- shift: count from n as count from 0
    have key : ∀ r i q, i + r = m → 0 ≤ q → q ≤ 500 → cntGo (fun i n => cntV (xs i) n) r i q = min (q + (sumN (fun i => tot (xs i)) m - sumN (fun i => tot (xs i)) i : Int)) 500 ∧ sumN (fun i => tot (xs i)) i ≤ sumN (fun i => tot (xs i)) m := by
      intro r
      induction r with
      | zero =>
        intro i q hi hq0 hq5
        obtain rfl : i = m := by omega
        unfold cntGo
        exact ⟨by omega, Nat.le_refl _⟩
      | succ r ihr =>
        intro i q hi hq0 hq5
        have hs : sumN (fun i => tot (xs i)) (i + 1) = sumN (fun i => tot (xs i)) i + tot (xs i) := rfl
        unfold cntGo
        by_cases hq : q < 500
        · rw [if_pos hq]
          have e := ih i (by omega) q hq0 hq
          rw [e]
          have := ihr (i + 1) (min (q + tot (xs i)) 500) (by omega) (by omega) (by omega)
          omega
        · rw [if_neg hq]
          have := (ihr (i + 1) q (by omega) hq0 hq5).2
          omega
    have e := (key m 0 (n + 1) (by omega) (by omega) (by omega)).1
    have hz : sumN (fun i => tot (xs i)) 0 = 0 := rfl
    rw [e]
    omega
theorem sumN_mono (g : Nat → Nat) {i m : Nat} (h : i ≤ m) : sumN g i ≤ sumN g m := by
  induction m with
  | zero => obtain rfl : i = 0 := by omega
            exact Nat.le_refl _
  | succ m ih =>
    by_cases e : i = m + 1
    · subst e; exact Nat.le_refl _
    · have := ih (by omega)
      show _ ≤ sumN g m + g m
      omega
theorem Val.eight {w : World} {lim : Nat} {v : Array Value} {t : VT} (h : Val w lim v t) : ∃ k n f s A c ca B m cb, v = #[.int .i64 k, .int .i64 n, .float .f64 f, .string s, .slice A c ca, .slice B m cb] := by
  cases h; exact ⟨_, _, _, _, _, _, _, _, _, _, rfl⟩
theorem float_store (b : Nat) (a : Addr) (w : World) : (store a (.float .f64 b) .plain).run Try.prog w = stored Try.prog w a (.float .f64 b) .plain := run_store Try.prog w a _ .plain rfl
theorem tot_mk (k n : Int) (f : Nat) (s : ByteArray) (c : Nat) (ns : Nat → ByteArray) (m : Nat) (xs : Nat → VT) : ((tot (.mk k n f s c ns m xs) : Nat) : Int) = 1 + (sumN (fun i => tot (xs i)) m : Nat) := by
  rw [tot]; simp
theorem items_any {k n : Int} {f : Nat} {s : ByteArray} {A : Option Addr} {c ca : Nat} {B : Option Addr} {m cb : Nat} (w : World) :
    Calls Try.prog 70 #[.agg (fields k n f s A c ca B m cb)] w fun e w' => e = .returned (.slice B m cb) ∧ Below w.heap.size w w' := by
  have hb : Below w.heap.size w (w.alloc (.cells (fields k n f s A c ca B m cb) 27)) := (Below.refl _ _).alloc (Nat.le_refl _) _
  unfold fields at *
  go_enter Try.func70, Try.ntmps70
  go_wp2_with fail
  go_ret
  exact ⟨rfl, hb⟩
set_option maxHeartbeats 2000000 in
theorem cap_any : ∀ (t : VT) (v : Array Value) (q : Int) (w : World), Val w w.heap.size v t → 1 ≤ q → q ≤ 1000 →
    Calls Try.prog 100 #[.agg v, .func (.func 70) #[] #[], .int .i64 q] w fun e w' => e = .returned (.int .i64 (min (tot t) q)) ∧ Below w.heap.size w w' := by
  intro t
  induction t with
  | bad => intro v q w hv; cases hv
  | mk k n0 f s c ns m xs ih =>
    intro v q w hv h1 h9
    cases hv with
    | mk _ _ _ _ A _ ca B _ cb _ _ vs hk hn hf hs hc hm hns hB hxs =>
      have hmx : m ≤ 9223372036854775807 := by have := hm; unfold maxLen at this; omega
      have hbW : Below w.heap.size w (w.alloc (.cells (fields k n0 f s A c ca B m cb) 27)) := (Below.refl _ _).alloc (Nat.le_refl _) _
      have I := fun W => items_any (k := k) (n := n0) (f := f) (s := s) (A := A) (c := c) (ca := ca) (B := B) (m := m) (cb := cb) W
      unfold fields at *
      have SF := float_store
      go_enter Try.func100, Try.ntmps100
      go_wp2_with (go_at_call 70; refine (I _).mono ?_; rintro e w1 ⟨rfl, hb1⟩)
      have hW1 : Below w.heap.size w w1 := hbW.trans (hb1.mono hbW.size)
      clear hbW hb1 I
      go_loopw [7, 14] (fun nv iv wr => ∃ (i : Nat) (p : Int), i ≤ m ∧ iv = .int .i64 i ∧ nv = .int .i64 p ∧ p = min (1 + sumN (fun i => tot (xs i)) i : Int) q ∧ Below w1.heap.size w1 wr) (fun _ iv _ => m - (intOf iv).toNat)
      case atStart => exact ⟨0, 1, Nat.zero_le _, rfl, rfl, by unfold sumN; omega, Below.refl _ _⟩
      case round =>
        obtain ⟨i, p, hi, rfl, rfl, hp, hb⟩ := hrel
        have hfin : Below w.heap.size w wr := hW1.trans (hb.mono hW1.size)
        have hsum : sumN (fun i => tot (xs i)) (i + 1) = sumN (fun i => tot (xs i)) i + tot (xs i) := rfl
        by_cases hlt : i < m
        · by_cases hq : p = q
          · have R : Hid ((min (tot (.mk k n0 f s c ns m xs)) q : Int) = p) := Lib.hid (by
              have := sumN_mono (fun i => tot (xs i)) (show i ≤ m by omega)
              rw [tot_mk]; omega)
            have tq : (p == q) = true := by simpa using hq
            obtain ⟨g, o, rfl, hg, hx⟩ := hB (by omega)
            have hsix := (hx i hlt).keep (w' := wr) fun o => hfin.cell (p := ⟨g, o, none⟩) hg
            obtain ⟨b0, b1, b2, b3, b4, b5, b6, b7, b8, b9, hv0⟩ := (hxs i hlt).eight
            rw [hv0] at hsix
            obtain ⟨e0, e1, e2, e3, e4, e5⟩ := hsix.cells
            have HF := Lib.hid hfin
            clear hv0 hsix hx hB ih hxs hp hsum hns hb hfin hq
            go_wp2_with fail
            go_ret
            exact ⟨by rw [R.out]; rfl, HF.out.alloc HF.out.size _⟩
          · have tq : (p == q) = false := by simpa using hq
            have hpq : p = 1 + (sumN (fun i => tot (xs i)) i : Nat) ∧ p < q := by omega
            have hN : Hid (p + min (tot (xs i) : Int) (q - p) = min (1 + (sumN (fun i => tot (xs i)) (i + 1) : Nat) : Int) q) := Lib.hid (by omega)
            have hlo : 0 ≤ p + min (tot (xs i) : Int) (q - p) ∧ p + min (tot (xs i) : Int) (q - p) ≤ 1000 := by omega
            obtain ⟨g, o, rfl, hg, hx⟩ := hB (by omega)
            have hsix := (hx i hlt).keep (w' := wr) fun o => hfin.cell (p := ⟨g, o, none⟩) hg
            have hvr := ((hxs i hlt).stay hfin).mono hfin.size
            have hcall := fun (V : World) (hV : Below wr.heap.size wr V) => ih i (vs i) (q - p) V ((hvr.stay hV).mono hV.size) (by omega) (by omega)
            obtain ⟨b0, b1, b2, b3, b4, b5, b6, b7, b8, b9, hv0⟩ := (hxs i hlt).eight
            rw [hv0] at hsix hcall
            obtain ⟨e0, e1, e2, e3, e4, e5⟩ := hsix.cells
            have hbN : ∀ x, Below wr.heap.size wr (wr.alloc x) := fun x => (Below.refl _ _).alloc (Nat.le_refl _) x
            have hwq : 0 ≤ p ∧ p < q ∧ q ≤ 1000 := by omega
            have HF := Lib.hid hfin
            generalize (min (tot (xs i) : Int) (q - p)) = z at *
            clear hv0 hsix hvr hx hB ih hxs hp hsum hns hfin hq hpq
            go_wp2_with (go_at_call 100; refine (hcall _ (hbN _)).mono ?_; rintro e w3 ⟨rfl, hb3⟩)
            go_roundw
            case rel => exact ⟨i + 1, p + z, by omega, by go_num, by go_num, hN.out, hb.trans (((hbN _).trans (hb3.mono (hbN _).size)).mono hb.size)⟩
            case measure => simp [intOf]; omega
        · have R : Hid ((min (tot (.mk k n0 f s c ns m xs)) q : Int) = p) := Lib.hid (by
            obtain rfl : i = m := by omega
            rw [tot_mk]; omega)
          clear hB hxs ih hp hsum hns
          go_wp2_with fail
          go_ret
          exact ⟨by rw [R.out]; rfl, hfin⟩
end Go.Proofs.Yteclpehbpicpaaa
namespace Go.Proofs.Yteclpehbpicpaaa
open Go.RowKit

theorem letter_f (c : UInt8) (w : World) : Calls Try.prog 120 #[.int .u8 c.toNat] w fun e w' => e = .returned (.bool (letterB c)) ∧ w = w' := by
  by_cases l1 : 97 ≤ c.toNat
  · by_cases l2 : c.toNat ≤ 122
    · have R : Hid (letterB c = true) := Lib.hid (by unfold letterB; rw [decide_eq_true l1, decide_eq_true l2]; rfl)
      have t1 : decide ((97 : Int) ≤ (c.toNat : Int)) = true := by simp; omega
      have t2 : decide ((c.toNat : Int) ≤ 122) = true := by simp; omega
      clear l1 l2
      go_enter Try.func120, Try.ntmps120
      go_wp2
      go_ret
      exact ⟨by rw [R.out]; rfl, rfl⟩
    · have R : Hid (letterB c = false) := Lib.hid (by unfold letterB; rw [decide_eq_false l2]; simp)
      have t1 : decide ((97 : Int) ≤ (c.toNat : Int)) = true := by simp; omega
      have t2 : decide ((c.toNat : Int) ≤ 122) = false := by simp; omega
      clear l1 l2
      go_enter Try.func120, Try.ntmps120
      go_wp2
      go_ret
      exact ⟨by rw [R.out]; rfl, rfl⟩
  · have R : Hid (letterB c = false) := Lib.hid (by unfold letterB; rw [decide_eq_false l1]; rfl)
    have t1 : decide ((97 : Int) ≤ (c.toNat : Int)) = false := by simp; omega
    clear l1
    go_enter Try.func120, Try.ntmps120
    go_wp2
    go_ret
    exact ⟨by rw [R.out]; rfl, rfl⟩
theorem digit_f (c : UInt8) (w : World) : Calls Try.prog 121 #[.int .u8 c.toNat] w fun e w' => e = .returned (.bool (digitB c)) ∧ w = w' := by
  by_cases l1 : 48 ≤ c.toNat
  · by_cases l2 : c.toNat ≤ 57
    · have R : Hid (digitB c = true) := Lib.hid (by unfold digitB; rw [decide_eq_true l1, decide_eq_true l2]; rfl)
      have t1 : decide ((48 : Int) ≤ (c.toNat : Int)) = true := by simp; omega
      have t2 : decide ((c.toNat : Int) ≤ 57) = true := by simp; omega
      clear l1 l2
      go_enter Try.func121, Try.ntmps121
      go_wp2
      go_ret
      exact ⟨by rw [R.out]; rfl, rfl⟩
    · have R : Hid (digitB c = false) := Lib.hid (by unfold digitB; rw [decide_eq_false l2]; simp)
      have t1 : decide ((48 : Int) ≤ (c.toNat : Int)) = true := by simp; omega
      have t2 : decide ((c.toNat : Int) ≤ 57) = false := by simp; omega
      clear l1 l2
      go_enter Try.func121, Try.ntmps121
      go_wp2
      go_ret
      exact ⟨by rw [R.out]; rfl, rfl⟩
  · have R : Hid (digitB c = false) := Lib.hid (by unfold digitB; rw [decide_eq_false l1]; rfl)
    have t1 : decide ((48 : Int) ≤ (c.toNat : Int)) = false := by simp; omega
    clear l1
    go_enter Try.func121, Try.ntmps121
    go_wp2
    go_ret
    exact ⟨by rw [R.out]; rfl, rfl⟩
set_option maxHeartbeats 1000000 in
theorem name_f {s : ByteArray} (hs : s.size ≤ 9223372036854775807) (w : World) : Calls Try.prog 117 #[.string s] w fun e w' => e = .returned (.bool (nameB s)) ∧ Below w.heap.size w w' := by
  have L := letter_f
  have D := digit_f
  have hb0 := Below.refl w.heap.size w
  by_cases h1 : s.size < 1
  · have R : Hid (nameB s = false) := Lib.hid (by unfold nameB; rw [decide_eq_false (by omega)]; rfl)
    go_enter Try.func117, Try.ntmps117
    go_wp2_with fail
    go_ret
    exact ⟨by rw [R.out]; rfl, hb0⟩
  · by_cases h2 : 30 < s.size
    · have R : Hid (nameB s = false) := Lib.hid (by unfold nameB; rw [decide_eq_false (show ¬ s.size ≤ 30 by omega)]; simp)
      go_enter Try.func117, Try.ntmps117
      go_wp2_with fail
      go_ret
      exact ⟨by rw [R.out]; rfl, hb0⟩
    · have h0 : 0 < s.size := by omega
      obtain ⟨c0, hc0⟩ : ∃ c, s[0] = c := ⟨_, rfl⟩
      have L0 := L c0
      cases hl : letterB c0 with
      | false =>
        have R : Hid (nameB s = false) := Lib.hid (nameB_no h0 (by rw [hc0]; unfold atB; rw [hl]; rfl))
        rw [hl] at L0
        clear hl L D
        go_enter Try.func117, Try.ntmps117
        go_wp2_with (go_at_call 120; refine (L0 _).mono ?_; rintro e w' ⟨rfl, rfl⟩)
        go_ret
        exact ⟨by rw [R.out]; rfl, hb0⟩
      | true =>
        rw [hl] at L0
        have Z : Hid (atB 0 s[0] = true) := Lib.hid (by rw [hc0]; unfold atB; rw [hl]; rfl)
        clear hl
        go_enter Try.func117, Try.ntmps117
        go_wp2_with (go_at_call 120; refine (L0 _).mono ?_; rintro e w' ⟨rfl, rfl⟩)
        clear L0 hc0
        go_loopw [20] (fun iv wr => ∃ k : Nat, k ≤ s.size ∧ iv = .int .i64 k ∧ Hid (∀ j (_ : j < k) (h : j < s.size), atB j s[j] = true) ∧ Below w.heap.size w wr) (fun iv _ => s.size - (intOf iv).toNat)
        case atStart => exact ⟨0, Nat.zero_le _, rfl, Lib.hid fun j hj _ => absurd hj (by omega), hb0⟩
        case round =>
          obtain ⟨k, hk, rfl, hh, hb⟩ := hrel
          by_cases hlt : k < s.size
          · obtain ⟨c, hc⟩ : ∃ c, s[k] = c := ⟨_, rfl⟩
            have yes : atB k c = true → Hid (∀ j (_ : j < k + 1) (h : j < s.size), atB j s[j] = true) := fun hy => Lib.hid fun j hj h => by
              by_cases e : j = k
              · subst e; rw [hc]; exact hy
              · exact hh.out j (by omega) h
            have no : atB k c = false → Hid (nameB s = false) := fun hn => Lib.hid (nameB_no hlt (by rw [hc]; exact hn))
            have k0 : k = 0 → Hid (∀ j (_ : j < k + 1) (h : j < s.size), atB j s[j] = true) := fun e => yes (by subst e; rw [← hc]; exact Z.out)
            have Lc := L c
            have Dc := D c
            clear hh Z
            cases l : letterB c with
            | true =>
              have Y := yes (by unfold atB; rw [l]; rfl)
              rw [l] at Lc
              clear yes no k0 l Dc L D
              go_wp2_with (first | (go_at_call 120; refine (Lc _).mono ?_; rintro e w' ⟨rfl, rfl⟩))
              go_roundw
              case rel => exact ⟨k + 1, by omega, by go_num, Y, hb⟩
              case measure => simp [intOf]; omega
            | false =>
              rw [l] at Lc
              cases d : digitB c with
              | true =>
                have Y : Hid (∀ j (_ : j < k + 1) (h : j < s.size), atB j s[j] = true) := by
                  by_cases e : k = 0
                  · exact k0 e
                  · exact yes (by unfold atB; rw [d, decide_eq_true (show 0 < k by omega)]; simp)
                rw [d] at Dc
                clear yes no k0 l d L D
                go_wp2_with (first | (go_at_call 120; refine (Lc _).mono ?_; rintro e w' ⟨rfl, rfl⟩) | (go_at_call 121; refine (Dc _).mono ?_; rintro e w' ⟨rfl, rfl⟩))
                go_roundw
                case rel => exact ⟨k + 1, by omega, by go_num, Y, hb⟩
                case measure => simp [intOf]; omega
              | false =>
                rw [d] at Dc
                by_cases u : c.toNat = 95
                · have Y : Hid (∀ j (_ : j < k + 1) (h : j < s.size), atB j s[j] = true) := by
                    by_cases e : k = 0
                    · exact k0 e
                    · exact yes (by unfold atB; rw [decide_eq_true u, decide_eq_true (show 0 < k by omega)]; simp)
                  have n1 : ((c.toNat : Int) != 95) = false := by simp; omega
                  clear yes no k0 l d u L D
                  go_wp2_with (first | (go_at_call 120; refine (Lc _).mono ?_; rintro e w' ⟨rfl, rfl⟩) | (go_at_call 121; refine (Dc _).mono ?_; rintro e w' ⟨rfl, rfl⟩))
                  go_roundw
                  case rel => exact ⟨k + 1, by omega, by go_num, Y, hb⟩
                  case measure => simp [intOf]; omega
                · have N := no (by unfold atB; rw [l, d, decide_eq_false u]; simp)
                  have n1 : ((c.toNat : Int) != 95) = true := by simp; omega
                  clear yes no k0 l d u L D
                  go_wp2_with (first | (go_at_call 120; refine (Lc _).mono ?_; rintro e w' ⟨rfl, rfl⟩) | (go_at_call 121; refine (Dc _).mono ?_; rintro e w' ⟨rfl, rfl⟩))
                  go_ret
                  exact ⟨by rw [N.out]; rfl, hb⟩
          · have R : Hid (nameB s = true) := Lib.hid (nameB_yes (by omega) (by omega) fun j h => hh.out j (by omega) h)
            clear hh L D Z
            go_wp2_with fail
            go_ret
            exact ⟨by rw [R.out]; rfl, hb⟩
set_option maxHeartbeats 1000000 in
theorem names_f {A : Option Addr} {c ca : Nat} {ns : Nat → ByteArray} {lim : Nat} {w : World} {n : Int} (h1 : Strs w lim A c ns) (hlim : lim ≤ w.heap.size) (hc : c ≤ 9223372036854775807) :
    Calls Try.prog 102 #[.slice A c ca, .int .i64 n] w fun e w' => e = .returned (.bool (((c : Int) == n) && riseB c ns)) ∧ Below w.heap.size w w' := by
  have hb0 := Below.refl w.heap.size w
  cases hcn : ((c : Int) == n) with
  | false =>
    have t1 : ((c : Int) != n) = true := by rw [bne, hcn]; rfl
    clear h1
    go_enter Try.func102, Try.ntmps102
    go_wp2_with fail
    go_ret
    exact ⟨by rw [Bool.false_and]; rfl, hb0⟩
  | true =>
    have t1 : ((c : Int) != n) = false := by rw [bne, hcn]; rfl
    rw [Bool.true_and]
    go_enter Try.func102, Try.ntmps102
    go_wp2_with fail
    clear t1 hcn
    go_loopw [13] (fun iv wr => ∃ i : Nat, i ≤ c ∧ iv = .int .i64 i ∧ Hid (∀ j, j < i → riseAt ns j = true) ∧ Below w.heap.size w wr) (fun iv _ => c - (intOf iv).toNat)
    case atStart => exact ⟨0, Nat.zero_le _, rfl, Lib.hid fun j hj => absurd hj (by omega), hb0⟩
    case round =>
      obtain ⟨i, hi, rfl, hh, hb⟩ := hrel
      by_cases hlt : i < c
      · obtain ⟨g, o, rfl, hg, hx⟩ := h1 (by omega)
        have x1 : wr.cell? ⟨g, o + i, none⟩ = _ := (hb.cell (p := ⟨g, o + i, none⟩) (show g < _ by omega)).trans (hx i hlt).1
        have T := name_f (s := ns i) (by have := (hx i hlt).2; unfold maxLen at this; exact this)
        have yes : riseAt ns i = true → Hid (∀ j, j < i + 1 → riseAt ns j = true) := fun hy => Lib.hid fun j hj => by
          by_cases e : j = i
          · subst e; exact hy
          · exact hh.out j (by omega)
        have no : riseAt ns i = false → Hid (riseB c ns = false) := fun hn => Lib.hid (riseB_no hlt hn)
        have hgr : g < wr.heap.size := by have := hb.size; omega
        clear hh
        cases hn : nameB (ns i)
        · have N := no (by unfold riseAt; rw [hn]; rfl)
          rw [hn] at T
          clear yes no hx h1 hn
          go_wp2_with (first | (go_at_call 117; refine (T _).mono ?_; rintro e w3 ⟨rfl, hb3⟩))
          go_ret
          exact ⟨by rw [N.out]; rfl, hb.trans (hb3.mono hb.size)⟩
        · rw [hn] at T
          by_cases k0 : i = 0
          · have Y := yes (by unfold riseAt; rw [hn, decide_eq_true k0]; rfl)
            subst k0
            have x1z : wr.cell? ⟨g, o, none⟩ = some (.string (ns 0)) := x1
            clear yes no hx h1 hn x1
            go_wp2_with (first | (go_at_call 117; refine (T _).mono ?_; rintro e w3 ⟨rfl, hb3⟩))
            go_roundw
            case rel => exact ⟨0 + 1, by omega, by go_num, Y, hb.trans (hb3.mono hb.size)⟩
            case measure => simp [intOf]; omega
          · obtain ⟨p, rfl⟩ : ∃ p, i = p + 1 := ⟨i - 1, by omega⟩
            have x0 : wr.cell? ⟨g, o + p, none⟩ = _ := (hb.cell (p := ⟨g, o + p, none⟩) (show g < _ by omega)).trans (hx p (by omega)).1
            cases hless : Op.bytesLess (ns p).toList (ns (p + 1)).toList
            · have N := no (by unfold riseAt lessS; rw [show p + 1 - 1 = p by omega, hless, decide_eq_false (by omega)]; simp)
              clear yes no hx h1 hn
              go_wp2_with (first | (go_at_call 117; refine (T _).mono ?_; rintro e w3 ⟨rfl, hb3⟩; have x0' := (hb3.cell (p := ⟨g, o + p, none⟩) hgr).trans x0))
              go_ret
              exact ⟨by rw [N.out]; rfl, hb.trans (hb3.mono hb.size)⟩
            · have Y := yes (by unfold riseAt lessS; rw [hn, show p + 1 - 1 = p by omega, hless]; simp)
              clear yes no hx h1 hn
              go_wp2_with (first | (go_at_call 117; refine (T _).mono ?_; rintro e w3 ⟨rfl, hb3⟩; have x0' := (hb3.cell (p := ⟨g, o + p, none⟩) hgr).trans x0))
              go_roundw
              case rel => exact ⟨p + 1 + 1, by omega, by go_num, Y, hb.trans (hb3.mono hb.size)⟩
              case measure => simp [intOf]; omega
      · have R : Hid (riseB c ns = true) := Lib.hid (riseB_yes fun i h => hh.out i (by omega))
        clear hh h1
        go_wp2_with fail
        go_ret
        exact ⟨by rw [R.out]; rfl, hb⟩
end Go.Proofs.Yteclpehbpicpaaa

/-
  How many parts a value has, and the program's own count.
  Contracts of the program's names: isLetter, isDigit, Name, areNames.
  Keys of floats, plainly (where a seat has not the whole of the laws' facts on floats: the same names).
  The landed float's Order, and what stands beside it.
  Contracts of the program's hasNoFields, isRightAlone.
  Contract of the program's isRightAlone.
  Contracts of the program's isRightWithin, isRight, Right, of values.
  Contracts of the program's countParts, isTypeRightAlone, isRightWithin, isRight, TypeRight, of types.
  Contracts of the program's isRightWithin, isRight, TypeRight, of types.
-/
import Derived.Test.YtcmohggnehkjeaaGreatVk
import Derived.Test.YtcmohggnehkjeaaGreatVn
import Derived.Test.YtcmohggnehkjeaaGreatFa
import Derived.Test.YtcmohggnehkjeaaGreatVm
import Derived.Test.YtcmohggnehkjeaaGreatGA
namespace Go.Proofs.YtcmohggnehkjeaaGreat
open Go.RowKit

def sumN (g : Nat → Nat) : Nat → Nat
  | 0 => 0
  | i + 1 => sumN g i + g i
/-- All parts of a value. -/
def tot : VT → Nat
  | .bad => 0
  | .mk _ _ _ _ _ _ m xs => 1 + sumN (fun i => tot (xs i)) m
theorem cntGo_sum (g : Nat → Int → Int) (T : Nat → Nat) (m : Nat) (hg : ∀ i n, i < m → 0 ≤ n → n < 500 → g i n = min (n + T i) 500) :
    ∀ r i n, i + r = m → 0 ≤ n → n ≤ 500 → (500 : Int) ≤ n ∨ n = 1 + sumN T i → cntGo g r i n = min (1 + sumN T m : Int) 500 ∨ (n = 500 ∧ cntGo g r i n = 500) := by
  intro r
  induction r with
  | zero =>
    intro i n hi h0 h5 hn
    obtain rfl : i = m := by omega
    unfold cntGo
    rcases hn with hn | hn
    · right; omega
    · left; omega
  | succ r ih =>
    intro i n hi h0 h5 hn
    unfold cntGo
    by_cases h : n < 500
    · rw [if_pos h]
      have hni : n = 1 + sumN T i := by rcases hn with hn | hn; omega; exact hn
      have hs : sumN T (i + 1) = sumN T i + T i := rfl
      have e := hg i n (by omega) h0 h
      have hmono : ∀ j, j ≤ m → i + 1 ≤ j → sumN T (i + 1) ≤ sumN T j := by
        intro j
        induction j with
        | zero => intro _ h; omega
        | succ j ihj =>
          intro hj h1
          by_cases e : j = i
          · subst e; exact Nat.le_refl _
          · have := ihj (by omega) (by omega)
            show _ ≤ sumN T j + T j
            omega
      have hm := hmono m (Nat.le_refl _) (by omega)
      rw [e]
      rcases ih (i + 1) (min (n + T i) 500) (by omega) (by omega) (by omega) (by omega) with h1 | ⟨h1, h2⟩
      · left; exact h1
      · left; rw [h2]; omega
    · rw [if_neg h]
      right; omega
theorem cnt_tot {w : World} {lim : Nat} {v : Array Value} {t : VT} (h : Val w lim v t) : ∀ n, 0 ≤ n → n < 500 → cntV t n = min (n + tot t) 500 := by
  induction h with
  | mk k n0 f s A c ca B m cb ns xs vs hk hn hf hs hc hm hns hB hxs ih =>
    intro n h0 h5
    unfold cntV tot
    have hin := cntGo_in (fun i n => cntV (xs i) n) (fun i n a b => cntV_in (xs i) n a b) m 0 (n + 1) (by omega) (by omega)
    -- shift: count from n as count from 0
    have key : ∀ r i q, i + r = m → 0 ≤ q → q ≤ 500 → cntGo (fun i n => cntV (xs i) n) r i q = min (q + (sumN (fun i => tot (xs i)) m - sumN (fun i => tot (xs i)) i : Int)) 500 ∧ sumN (fun i => tot (xs i)) i ≤ sumN (fun i => tot (xs i)) m := by
      intro r
      induction r with
      | zero =>
        intro i q hi hq0 hq5
        obtain rfl : i = m := by omega
        unfold cntGo
        exact ⟨by omega, Nat.le_refl _⟩
      | succ r ihr =>
        intro i q hi hq0 hq5
        have hs : sumN (fun i => tot (xs i)) (i + 1) = sumN (fun i => tot (xs i)) i + tot (xs i) := rfl
        unfold cntGo
        by_cases hq : q < 500
        · rw [if_pos hq]
          have e := ih i (by omega) q hq0 hq
          rw [e]
          have := ihr (i + 1) (min (q + tot (xs i)) 500) (by omega) (by omega) (by omega)
          omega
        · rw [if_neg hq]
          have := (ihr (i + 1) q (by omega) hq0 hq5).2
          omega
    have e := (key m 0 (n + 1) (by omega) (by omega) (by omega)).1
    have hz : sumN (fun i => tot (xs i)) 0 = 0 := rfl
    rw [e]
    omega
theorem sumN_mono (g : Nat → Nat) {i m : Nat} (h : i ≤ m) : sumN g i ≤ sumN g m := by
  induction m with
  | zero => obtain rfl : i = 0 := by omega
            exact Nat.le_refl _
  | succ m ih =>
    by_cases e : i = m + 1
    · subst e; exact Nat.le_refl _
    · have := ih (by omega)
      show _ ≤ sumN g m + g m
      omega
theorem Val.eight {w : World} {lim : Nat} {v : Array Value} {t : VT} (h : Val w lim v t) : ∃ k n f s A c ca B m cb, v = #[.int .i64 k, .int .i64 n, .float .f64 f, .string s, .slice A c ca, .slice B m cb] := by
  cases h; exact ⟨_, _, _, _, _, _, _, _, _, _, rfl⟩
theorem float_store (b : Nat) (a : Addr) (w : World) : (store a (.float .f64 b) .plain).run Tryz.prog w = stored Tryz.prog w a (.float .f64 b) .plain := run_store Tryz.prog w a _ .plain rfl
theorem tot_mk (k n : Int) (f : Nat) (s : ByteArray) (c : Nat) (ns : Nat → ByteArray) (m : Nat) (xs : Nat → VT) : ((tot (.mk k n f s c ns m xs) : Nat) : Int) = 1 + (sumN (fun i => tot (xs i)) m : Nat) := by
  rw [tot]; simp
theorem items_any {k n : Int} {f : Nat} {s : ByteArray} {A : Option Addr} {c ca : Nat} {B : Option Addr} {m cb : Nat} (w : World) :
    Calls Tryz.prog 201 #[.agg (fields k n f s A c ca B m cb)] w fun e w' => e = .returned (.slice B m cb) ∧ Below w.heap.size w w' := by
  have hb : Below w.heap.size w (w.alloc (.cells (fields k n f s A c ca B m cb) 38)) := (Below.refl _ _).alloc (Nat.le_refl _) _
  unfold fields at *
  go_enter Tryz.func201, Tryz.ntmps201
  go_wp2_with fail
  go_ret
  exact ⟨rfl, hb⟩
set_option maxHeartbeats 2000000 in
theorem cap_any : ∀ (t : VT) (v : Array Value) (q : Int) (w : World), Val w w.heap.size v t → 1 ≤ q → q ≤ 1000 →
    Calls Tryz.prog 215 #[.agg v, .func (.func 201) #[] #[], .int .i64 q] w fun e w' => e = .returned (.int .i64 (min (tot t) q)) ∧ Below w.heap.size w w' := by
  intro t
  induction t with
  | bad => intro v q w hv; cases hv
  | mk k n0 f s c ns m xs ih =>
    intro v q w hv h1 h9
    cases hv with
    | mk _ _ _ _ A _ ca B _ cb _ _ vs hk hn hf hs hc hm hns hB hxs =>
      have hmx : m ≤ 9223372036854775807 := by have := hm; unfold maxLen at this; omega
      have hbW : Below w.heap.size w (w.alloc (.cells (fields k n0 f s A c ca B m cb) 38)) := (Below.refl _ _).alloc (Nat.le_refl _) _
      have I := fun W => items_any (k := k) (n := n0) (f := f) (s := s) (A := A) (c := c) (ca := ca) (B := B) (m := m) (cb := cb) W
      unfold fields at *
      have SF := float_store
      go_enter Tryz.func215, Tryz.ntmps215
      go_wp2_with (go_at_call 201; refine (I _).mono ?_; rintro e w1 ⟨rfl, hb1⟩)
      have hW1 : Below w.heap.size w w1 := hbW.trans (hb1.mono hbW.size)
      clear hbW hb1 I
      go_loopw [7, 14] (fun nv iv wr => ∃ (i : Nat) (p : Int), i ≤ m ∧ iv = .int .i64 i ∧ nv = .int .i64 p ∧ p = min (1 + sumN (fun i => tot (xs i)) i : Int) q ∧ Below w1.heap.size w1 wr) (fun _ iv _ => m - (intOf iv).toNat)
      case atStart => exact ⟨0, 1, Nat.zero_le _, rfl, rfl, by unfold sumN; omega, Below.refl _ _⟩
      case round =>
        obtain ⟨i, p, hi, rfl, rfl, hp, hb⟩ := hrel
        have hfin : Below w.heap.size w wr := hW1.trans (hb.mono hW1.size)
        have hsum : sumN (fun i => tot (xs i)) (i + 1) = sumN (fun i => tot (xs i)) i + tot (xs i) := rfl
        by_cases hlt : i < m
        · by_cases hq : p = q
          · have R : Hid ((min (tot (.mk k n0 f s c ns m xs)) q : Int) = p) := Lib.hid (by
              have := sumN_mono (fun i => tot (xs i)) (show i ≤ m by omega)
              rw [tot_mk]; omega)
            have tq : (p == q) = true := by simpa using hq
            obtain ⟨g, o, rfl, hg, hx⟩ := hB (by omega)
            have hsix := (hx i hlt).keep (w' := wr) fun o => hfin.cell (p := ⟨g, o, none⟩) hg
            obtain ⟨b0, b1, b2, b3, b4, b5, b6, b7, b8, b9, hv0⟩ := (hxs i hlt).eight
            rw [hv0] at hsix
            obtain ⟨e0, e1, e2, e3, e4, e5⟩ := hsix.cells
            have HF := Lib.hid hfin
            clear hv0 hsix hx hB ih hxs hp hsum hns hb hfin hq
            go_wp2_with fail
            go_ret
            exact ⟨by rw [R.out]; rfl, HF.out.alloc HF.out.size _⟩
          · have tq : (p == q) = false := by simpa using hq
            have hpq : p = 1 + (sumN (fun i => tot (xs i)) i : Nat) ∧ p < q := by omega
            have hN : Hid (p + min (tot (xs i) : Int) (q - p) = min (1 + (sumN (fun i => tot (xs i)) (i + 1) : Nat) : Int) q) := Lib.hid (by omega)
            have hlo : 0 ≤ p + min (tot (xs i) : Int) (q - p) ∧ p + min (tot (xs i) : Int) (q - p) ≤ 1000 := by omega
            obtain ⟨g, o, rfl, hg, hx⟩ := hB (by omega)
            have hsix := (hx i hlt).keep (w' := wr) fun o => hfin.cell (p := ⟨g, o, none⟩) hg
            have hvr := ((hxs i hlt).stay hfin).mono hfin.size
            have hcall := fun (V : World) (hV : Below wr.heap.size wr V) => ih i (vs i) (q - p) V ((hvr.stay hV).mono hV.size) (by omega) (by omega)
            obtain ⟨b0, b1, b2, b3, b4, b5, b6, b7, b8, b9, hv0⟩ := (hxs i hlt).eight
            rw [hv0] at hsix hcall
            obtain ⟨e0, e1, e2, e3, e4, e5⟩ := hsix.cells
            have hbN : ∀ x, Below wr.heap.size wr (wr.alloc x) := fun x => (Below.refl _ _).alloc (Nat.le_refl _) x
            have hwq : 0 ≤ p ∧ p < q ∧ q ≤ 1000 := by omega
            have HF := Lib.hid hfin
            generalize (min (tot (xs i) : Int) (q - p)) = z at *
            clear hv0 hsix hvr hx hB ih hxs hp hsum hns hfin hq hpq
            go_wp2_with (go_at_call 215; refine (hcall _ (hbN _)).mono ?_; rintro e w3 ⟨rfl, hb3⟩)
            go_roundw
            case rel => exact ⟨i + 1, p + z, by omega, by go_num, by go_num, hN.out, hb.trans (((hbN _).trans (hb3.mono (hbN _).size)).mono hb.size)⟩
            case measure => simp [intOf]; omega
        · have R : Hid ((min (tot (.mk k n0 f s c ns m xs)) q : Int) = p) := Lib.hid (by
            obtain rfl : i = m := by omega
            rw [tot_mk]; omega)
          clear hB hxs ih hp hsum hns
          go_wp2_with fail
          go_ret
          exact ⟨by rw [R.out]; rfl, hfin⟩
end Go.Proofs.YtcmohggnehkjeaaGreat
namespace Go.Proofs.YtcmohggnehkjeaaGreat
open Go.RowKit

theorem letter_f (c : UInt8) (w : World) : Calls Tryz.prog 178 #[.int .u8 c.toNat] w fun e w' => e = .returned (.bool (letterB c)) ∧ w = w' := by
  by_cases l1 : 97 ≤ c.toNat
  · by_cases l2 : c.toNat ≤ 122
    · have R : Hid (letterB c = true) := Lib.hid (by unfold letterB; rw [decide_eq_true l1, decide_eq_true l2]; rfl)
      have t1 : decide ((97 : Int) ≤ (c.toNat : Int)) = true := by simp; omega
      have t2 : decide ((c.toNat : Int) ≤ 122) = true := by simp; omega
      clear l1 l2
      go_enter Tryz.func178, Tryz.ntmps178
      go_wp2
      go_ret
      exact ⟨by rw [R.out]; rfl, rfl⟩
    · have R : Hid (letterB c = false) := Lib.hid (by unfold letterB; rw [decide_eq_false l2]; simp)
      have t1 : decide ((97 : Int) ≤ (c.toNat : Int)) = true := by simp; omega
      have t2 : decide ((c.toNat : Int) ≤ 122) = false := by simp; omega
      clear l1 l2
      go_enter Tryz.func178, Tryz.ntmps178
      go_wp2
      go_ret
      exact ⟨by rw [R.out]; rfl, rfl⟩
  · have R : Hid (letterB c = false) := Lib.hid (by unfold letterB; rw [decide_eq_false l1]; rfl)
    have t1 : decide ((97 : Int) ≤ (c.toNat : Int)) = false := by simp; omega
    clear l1
    go_enter Tryz.func178, Tryz.ntmps178
    go_wp2
    go_ret
    exact ⟨by rw [R.out]; rfl, rfl⟩
theorem digit_f (c : UInt8) (w : World) : Calls Tryz.prog 179 #[.int .u8 c.toNat] w fun e w' => e = .returned (.bool (digitB c)) ∧ w = w' := by
  by_cases l1 : 48 ≤ c.toNat
  · by_cases l2 : c.toNat ≤ 57
    · have R : Hid (digitB c = true) := Lib.hid (by unfold digitB; rw [decide_eq_true l1, decide_eq_true l2]; rfl)
      have t1 : decide ((48 : Int) ≤ (c.toNat : Int)) = true := by simp; omega
      have t2 : decide ((c.toNat : Int) ≤ 57) = true := by simp; omega
      clear l1 l2
      go_enter Tryz.func179, Tryz.ntmps179
      go_wp2
      go_ret
      exact ⟨by rw [R.out]; rfl, rfl⟩
    · have R : Hid (digitB c = false) := Lib.hid (by unfold digitB; rw [decide_eq_false l2]; simp)
      have t1 : decide ((48 : Int) ≤ (c.toNat : Int)) = true := by simp; omega
      have t2 : decide ((c.toNat : Int) ≤ 57) = false := by simp; omega
      clear l1 l2
      go_enter Tryz.func179, Tryz.ntmps179
      go_wp2
      go_ret
      exact ⟨by rw [R.out]; rfl, rfl⟩
  · have R : Hid (digitB c = false) := Lib.hid (by unfold digitB; rw [decide_eq_false l1]; rfl)
    have t1 : decide ((48 : Int) ≤ (c.toNat : Int)) = false := by simp; omega
    clear l1
    go_enter Tryz.func179, Tryz.ntmps179
    go_wp2
    go_ret
    exact ⟨by rw [R.out]; rfl, rfl⟩
set_option maxHeartbeats 1000000 in
theorem name_f {s : ByteArray} (hs : s.size ≤ 9223372036854775807) (w : World) : Calls Tryz.prog 146 #[.string s] w fun e w' => e = .returned (.bool (nameB s)) ∧ Below w.heap.size w w' := by
  have L := letter_f
  have D := digit_f
  have hb0 := Below.refl w.heap.size w
  by_cases h1 : s.size < 1
  · have R : Hid (nameB s = false) := Lib.hid (by unfold nameB; rw [decide_eq_false (by omega)]; rfl)
    go_enter Tryz.func146, Tryz.ntmps146
    go_wp2_with fail
    go_ret
    exact ⟨by rw [R.out]; rfl, hb0⟩
  · by_cases h2 : 30 < s.size
    · have R : Hid (nameB s = false) := Lib.hid (by unfold nameB; rw [decide_eq_false (show ¬ s.size ≤ 30 by omega)]; simp)
      go_enter Tryz.func146, Tryz.ntmps146
      go_wp2_with fail
      go_ret
      exact ⟨by rw [R.out]; rfl, hb0⟩
    · have h0 : 0 < s.size := by omega
      obtain ⟨c0, hc0⟩ : ∃ c, s[0] = c := ⟨_, rfl⟩
      have L0 := L c0
      cases hl : letterB c0 with
      | false =>
        have R : Hid (nameB s = false) := Lib.hid (nameB_no h0 (by rw [hc0]; unfold atB; rw [hl]; rfl))
        rw [hl] at L0
        clear hl L D
        go_enter Tryz.func146, Tryz.ntmps146
        go_wp2_with (go_at_call 178; refine (L0 _).mono ?_; rintro e w' ⟨rfl, rfl⟩)
        go_ret
        exact ⟨by rw [R.out]; rfl, hb0⟩
      | true =>
        rw [hl] at L0
        have Z : Hid (atB 0 s[0] = true) := Lib.hid (by rw [hc0]; unfold atB; rw [hl]; rfl)
        clear hl
        go_enter Tryz.func146, Tryz.ntmps146
        go_wp2_with (go_at_call 178; refine (L0 _).mono ?_; rintro e w' ⟨rfl, rfl⟩)
        clear L0 hc0
        go_loopw [20] (fun iv wr => ∃ k : Nat, k ≤ s.size ∧ iv = .int .i64 k ∧ Hid (∀ j (_ : j < k) (h : j < s.size), atB j s[j] = true) ∧ Below w.heap.size w wr) (fun iv _ => s.size - (intOf iv).toNat)
        case atStart => exact ⟨0, Nat.zero_le _, rfl, Lib.hid fun j hj _ => absurd hj (by omega), hb0⟩
        case round =>
          obtain ⟨k, hk, rfl, hh, hb⟩ := hrel
          by_cases hlt : k < s.size
          · obtain ⟨c, hc⟩ : ∃ c, s[k] = c := ⟨_, rfl⟩
            have yes : atB k c = true → Hid (∀ j (_ : j < k + 1) (h : j < s.size), atB j s[j] = true) := fun hy => Lib.hid fun j hj h => by
              by_cases e : j = k
              · subst e; rw [hc]; exact hy
              · exact hh.out j (by omega) h
            have no : atB k c = false → Hid (nameB s = false) := fun hn => Lib.hid (nameB_no hlt (by rw [hc]; exact hn))
            have k0 : k = 0 → Hid (∀ j (_ : j < k + 1) (h : j < s.size), atB j s[j] = true) := fun e => yes (by subst e; rw [← hc]; exact Z.out)
            have Lc := L c
            have Dc := D c
            clear hh Z
            cases l : letterB c with
            | true =>
              have Y := yes (by unfold atB; rw [l]; rfl)
              rw [l] at Lc
              clear yes no k0 l Dc L D
              go_wp2_with (first | (go_at_call 178; refine (Lc _).mono ?_; rintro e w' ⟨rfl, rfl⟩))
              go_roundw
              case rel => exact ⟨k + 1, by omega, by go_num, Y, hb⟩
              case measure => simp [intOf]; omega
            | false =>
              rw [l] at Lc
              cases d : digitB c with
              | true =>
                have Y : Hid (∀ j (_ : j < k + 1) (h : j < s.size), atB j s[j] = true) := by
                  by_cases e : k = 0
                  · exact k0 e
                  · exact yes (by unfold atB; rw [d, decide_eq_true (show 0 < k by omega)]; simp)
                rw [d] at Dc
                clear yes no k0 l d L D
                go_wp2_with (first | (go_at_call 178; refine (Lc _).mono ?_; rintro e w' ⟨rfl, rfl⟩) | (go_at_call 179; refine (Dc _).mono ?_; rintro e w' ⟨rfl, rfl⟩))
                go_roundw
                case rel => exact ⟨k + 1, by omega, by go_num, Y, hb⟩
                case measure => simp [intOf]; omega
              | false =>
                rw [d] at Dc
                by_cases u : c.toNat = 95
                · have Y : Hid (∀ j (_ : j < k + 1) (h : j < s.size), atB j s[j] = true) := by
                    by_cases e : k = 0
                    · exact k0 e
                    · exact yes (by unfold atB; rw [decide_eq_true u, decide_eq_true (show 0 < k by omega)]; simp)
                  have n1 : ((c.toNat : Int) != 95) = false := by simp; omega
                  clear yes no k0 l d u L D
                  go_wp2_with (first | (go_at_call 178; refine (Lc _).mono ?_; rintro e w' ⟨rfl, rfl⟩) | (go_at_call 179; refine (Dc _).mono ?_; rintro e w' ⟨rfl, rfl⟩))
                  go_roundw
                  case rel => exact ⟨k + 1, by omega, by go_num, Y, hb⟩
                  case measure => simp [intOf]; omega
                · have N := no (by unfold atB; rw [l, d, decide_eq_false u]; simp)
                  have n1 : ((c.toNat : Int) != 95) = true := by simp; omega
                  clear yes no k0 l d u L D
                  go_wp2_with (first | (go_at_call 178; refine (Lc _).mono ?_; rintro e w' ⟨rfl, rfl⟩) | (go_at_call 179; refine (Dc _).mono ?_; rintro e w' ⟨rfl, rfl⟩))
                  go_ret
                  exact ⟨by rw [N.out]; rfl, hb⟩
          · have R : Hid (nameB s = true) := Lib.hid (nameB_yes (by omega) (by omega) fun j h => hh.out j (by omega) h)
            clear hh L D Z
            go_wp2_with fail
            go_ret
            exact ⟨by rw [R.out]; rfl, hb⟩
set_option maxHeartbeats 1000000 in
theorem names_f {A : Option Addr} {c ca : Nat} {ns : Nat → ByteArray} {lim : Nat} {w : World} {n : Int} (h1 : Strs w lim A c ns) (hlim : lim ≤ w.heap.size) (hc : c ≤ 9223372036854775807) :
    Calls Tryz.prog 110 #[.slice A c ca, .int .i64 n] w fun e w' => e = .returned (.bool (((c : Int) == n) && riseB c ns)) ∧ Below w.heap.size w w' := by
  have hb0 := Below.refl w.heap.size w
  cases hcn : ((c : Int) == n) with
  | false =>
    have t1 : ((c : Int) != n) = true := by rw [bne, hcn]; rfl
    clear h1
    go_enter Tryz.func110, Tryz.ntmps110
    go_wp2_with fail
    go_ret
    exact ⟨by rw [Bool.false_and]; rfl, hb0⟩
  | true =>
    have t1 : ((c : Int) != n) = false := by rw [bne, hcn]; rfl
    rw [Bool.true_and]
    go_enter Tryz.func110, Tryz.ntmps110
    go_wp2_with fail
    clear t1 hcn
    go_loopw [13] (fun iv wr => ∃ i : Nat, i ≤ c ∧ iv = .int .i64 i ∧ Hid (∀ j, j < i → riseAt ns j = true) ∧ Below w.heap.size w wr) (fun iv _ => c - (intOf iv).toNat)
    case atStart => exact ⟨0, Nat.zero_le _, rfl, Lib.hid fun j hj => absurd hj (by omega), hb0⟩
    case round =>
      obtain ⟨i, hi, rfl, hh, hb⟩ := hrel
      by_cases hlt : i < c
      · obtain ⟨g, o, rfl, hg, hx⟩ := h1 (by omega)
        have x1 : wr.cell? ⟨g, o + i, none⟩ = _ := (hb.cell (p := ⟨g, o + i, none⟩) (show g < _ by omega)).trans (hx i hlt).1
        have T := name_f (s := ns i) (by have := (hx i hlt).2; unfold maxLen at this; exact this)
        have yes : riseAt ns i = true → Hid (∀ j, j < i + 1 → riseAt ns j = true) := fun hy => Lib.hid fun j hj => by
          by_cases e : j = i
          · subst e; exact hy
          · exact hh.out j (by omega)
        have no : riseAt ns i = false → Hid (riseB c ns = false) := fun hn => Lib.hid (riseB_no hlt hn)
        have hgr : g < wr.heap.size := by have := hb.size; omega
        clear hh
        cases hn : nameB (ns i)
        · have N := no (by unfold riseAt; rw [hn]; rfl)
          rw [hn] at T
          clear yes no hx h1 hn
          go_wp2_with (first | (go_at_call 146; refine (T _).mono ?_; rintro e w3 ⟨rfl, hb3⟩))
          go_ret
          exact ⟨by rw [N.out]; rfl, hb.trans (hb3.mono hb.size)⟩
        · rw [hn] at T
          by_cases k0 : i = 0
          · have Y := yes (by unfold riseAt; rw [hn, decide_eq_true k0]; rfl)
            subst k0
            have x1z : wr.cell? ⟨g, o, none⟩ = some (.string (ns 0)) := x1
            clear yes no hx h1 hn x1
            go_wp2_with (first | (go_at_call 146; refine (T _).mono ?_; rintro e w3 ⟨rfl, hb3⟩))
            go_roundw
            case rel => exact ⟨0 + 1, by omega, by go_num, Y, hb.trans (hb3.mono hb.size)⟩
            case measure => simp [intOf]; omega
          · obtain ⟨p, rfl⟩ : ∃ p, i = p + 1 := ⟨i - 1, by omega⟩
            have x0 : wr.cell? ⟨g, o + p, none⟩ = _ := (hb.cell (p := ⟨g, o + p, none⟩) (show g < _ by omega)).trans (hx p (by omega)).1
            cases hless : Op.bytesLess (ns p).toList (ns (p + 1)).toList
            · have N := no (by unfold riseAt lessS; rw [show p + 1 - 1 = p by omega, hless, decide_eq_false (by omega)]; simp)
              clear yes no hx h1 hn
              go_wp2_with (first | (go_at_call 146; refine (T _).mono ?_; rintro e w3 ⟨rfl, hb3⟩; have x0' := (hb3.cell (p := ⟨g, o + p, none⟩) hgr).trans x0))
              go_ret
              exact ⟨by rw [N.out]; rfl, hb.trans (hb3.mono hb.size)⟩
            · have Y := yes (by unfold riseAt lessS; rw [hn, show p + 1 - 1 = p by omega, hless]; simp)
              clear yes no hx h1 hn
              go_wp2_with (first | (go_at_call 146; refine (T _).mono ?_; rintro e w3 ⟨rfl, hb3⟩; have x0' := (hb3.cell (p := ⟨g, o + p, none⟩) hgr).trans x0))
              go_roundw
              case rel => exact ⟨p + 1 + 1, by omega, by go_num, Y, hb.trans (hb3.mono hb.size)⟩
              case measure => simp [intOf]; omega
      · have R : Hid (riseB c ns = true) := Lib.hid (riseB_yes fun i h => hh.out i (by omega))
        clear hh h1
        go_wp2_with fail
        go_ret
        exact ⟨by rw [R.out]; rfl, hb⟩
end Go.Proofs.YtcmohggnehkjeaaGreat
namespace Go.Proofs.YtcmohggnehkjeaaGreat
open Go.RowKit Ieee

theorem canon_nan {b : Nat} (h : nanB b = true) : canonW b = 9221120237041090560 := by unfold canonW; rw [if_pos h]
theorem word_is {a b : Nat} (ha : okW a) (hb : okW b) (hs : sgn a = sgn b) (hr : rung a = rung b) : a = b := by
  have h1 := word_parts a ha
  have h2 := word_parts b hb
  unfold sgn at hs
  unfold rung at hr
  rw [← h1, ← h2, hs, hr]
theorem rung_nan {b : Nat} (h : nanB b = true) : 9218868437227405312 < rung b := by unfold nanB at h; simpa using h
theorem rung_num {b : Nat} (h : nanB b = false) : rung b ≤ 9218868437227405312 := by unfold nanB at h; simpa using h
theorem canon_num {b : Nat} (h : nanB b = false) : canonW b = b := by unfold canonW; rw [if_neg (by rw [h]; exact Bool.false_ne_true)]
/-- Two stand at one place just if they are one, once all NaN are one. -/
theorem same_key {a b : Nat} (ha : okW a) (hb : okW b) : (keyI a = keyI b) ↔ canonW a = canonW b := by
  cases hna : nanB a
  · cases hnb : nanB b
    · obtain ⟨ka, ra⟩ := keyI_num ha hna
      obtain ⟨kb, rb⟩ := keyI_num hb hnb
      rw [ka, kb, canon_num hna, canon_num hnb]
      constructor
      · intro h
        refine word_is ha hb ?_ ?_
        · cases hs : sgn a <;> cases ht : sgn b <;> simp [hs, ht] at h <;> first | rfl | omega
        · cases hs : sgn a <;> cases ht : sgn b <;> simp [hs, ht] at h <;> omega
      · rintro rfl; rfl
    · obtain ⟨ka, ra⟩ := keyI_num ha hna
      rw [ka, keyI_nan hnb, canon_num hna, canon_nan hnb]
      constructor
      · intro h; split at h <;> omega
      · rintro rfl; exact absurd hna (by decide)
  · cases hnb : nanB b
    · obtain ⟨kb, rb⟩ := keyI_num hb hnb
      rw [kb, keyI_nan hna, canon_num hnb, canon_nan hna]
      constructor
      · intro h; split at h <;> omega
      · intro h; rw [← h] at hnb; exact absurd hnb (by decide)
    · rw [keyI_nan hna, keyI_nan hnb, canon_nan hna, canon_nan hnb]
      exact ⟨fun _ => rfl, fun _ => rfl⟩
theorem ord_zero (x y : Int) : ordI x y = 0 ↔ x = y := by unfold ordI; split <;> (try split) <;> omega
end Go.Proofs.YtcmohggnehkjeaaGreat
namespace Go.Proofs.YtcmohggnehkjeaaGreat
open Go.RowKit Ieee

theorem quo_run2 {x y r : Nat} (h : double.div x y = some r) (W : World) : (binOp .quo 35 (.float .f64 x) (.float .f64 y)).run Tryz.prog W = .ok (.float .f64 r) W :=
  run_float_arith W .quo 35 .f64 x y r h
theorem hasMinus_any {b : Nat} (hb : okW b) : Says 226 #[.float .f64 b] (.bool (minusB b)) := by
  intro w
  by_cases hn : nanB b = true
  · have L : ((FloatKind.format .f64).order b 0 == some Ordering.lt) = false := by
      show (double.order b 0 == some .lt) = false
      rw [order_nan (.inl (by unfold nanB at hn; simpa using hn))]; rfl
    have E : ((FloatKind.format .f64).order b 0 == some Ordering.eq) = false := by
      show (double.order b 0 == some .eq) = false
      rw [order_nan (.inl (by unfold nanB at hn; simpa using hn))]; rfl
    have R : minusB b = false := by unfold minusB; rw [hn]; simp
    have R' := Lib.hid R
    clear R hn hb
    go_enter Tryz.func226, Tryz.ntmps226
    go_wp2
    go_ret
    rw [R'.out]; exact ⟨rfl, rfl⟩
  · have hn' : nanB b = false := by simpa using hn
    have L : ((FloatKind.format .f64).order b 0 == some Ordering.lt) = (sgn b && decide (rung b ≠ 0)) := lt_zero hn'
    have E : ((FloatKind.format .f64).order b 0 == some Ordering.eq) = decide (rung b = 0) := eq_zero b
    have R : minusB b = sgn b := by unfold minusB; rw [hn']; simp
    have R' := Lib.hid R
    clear R hn hn'
    by_cases hz : rung b = 0
    · have D := quo_run2 (one_by hb hz)
      rw [decide_eq_true hz] at E
      rw [decide_eq_false (by omega), Bool.and_false] at L
      cases hs : sgn b
      · rw [hs] at D R'
        have L2 : ((FloatKind.format .f64).order (double.word false 9218868437227405312) 0 == some Ordering.lt) = false := by decide
        generalize double.word false 9218868437227405312 = x at *
        clear hb hz hs
        go_enter Tryz.func226, Tryz.ntmps226
        go_wp2
        go_ret
        rw [R'.out]; exact ⟨rfl, rfl⟩
      · rw [hs] at D R'
        have L2 : ((FloatKind.format .f64).order (double.word true 9218868437227405312) 0 == some Ordering.lt) = true := by decide
        generalize double.word true 9218868437227405312 = x at *
        clear hb hz hs
        go_enter Tryz.func226, Tryz.ntmps226
        go_wp2
        go_ret
        rw [R'.out]; exact ⟨rfl, rfl⟩
    · rw [decide_eq_false hz] at E
      rw [decide_eq_true hz, Bool.and_true] at L
      clear hb hz
      cases hs : sgn b
      · rw [hs] at L R'
        clear hs
        go_enter Tryz.func226, Tryz.ntmps226
        go_wp2
        go_ret
        rw [R'.out]; exact ⟨rfl, rfl⟩
      · rw [hs] at L R'
        clear hs
        go_enter Tryz.func226, Tryz.ntmps226
        go_wp2
        go_ret
        rw [R'.out]; exact ⟨rfl, rfl⟩

theorem isAhead_any {a b : Nat} (ha : okW a) (hb : okW b) : Says 223 #[.float .f64 a, .float .f64 b] (.bool (aheadB a b)) := by
  intro w
  have N := isNaN_any
  have M1 := hasMinus_any ha
  have M2 := hasMinus_any hb
  have Ea : ((FloatKind.format .f64).order a 0 == some Ordering.eq) = decide (rung a = 0) := eq_zero a
  have Eb : ((FloatKind.format .f64).order b 0 == some Ordering.eq) = decide (rung b = 0) := eq_zero b
  unfold aheadB
  by_cases hn : nanB b = true
  · rw [if_pos hn]
    have Nb := N b
    rw [hn] at Nb
    have Na := N a
    clear N hn M1 M2 Ea Eb ha hb
    go_enter Tryz.func223, Tryz.ntmps223
    go_wp2_with (go_at_call 218; first | ((with_reducible refine Says.go Nb ?_); rintro e w' ⟨rfl, rfl⟩) | ((with_reducible refine Says.go Na ?_); rintro e w' ⟨rfl, rfl⟩))
    go_ret
    exact ⟨rfl, rfl⟩
  · rw [if_neg hn]
    have Nb := N b
    rw [show nanB b = false by simpa using hn] at Nb
    clear N hn ha hb
    by_cases hz : rung a = 0
    · rw [decide_eq_true hz] at Ea
      by_cases hy : rung b = 0
      · rw [decide_eq_true hy] at Eb
        rw [if_pos ⟨hz, hy⟩]
        clear hz hy
        go_enter Tryz.func223, Tryz.ntmps223
        go_wp2_with (first | (go_at_call 218; (with_reducible refine Says.go Nb ?_); rintro e w' ⟨rfl, rfl⟩) | (go_at_call 226; first | ((with_reducible refine Says.go M1 ?_); rintro e w' ⟨rfl, rfl⟩) | ((with_reducible refine Says.go M2 ?_); rintro e w' ⟨rfl, rfl⟩)))
        all_goals (go_ret; refine ⟨?_, rfl⟩; clear M1 M2; simp [*])
      · rw [decide_eq_false hy] at Eb
        rw [if_neg (fun h => hy h.2)]
        clear hz hy M1 M2
        go_enter Tryz.func223, Tryz.ntmps223
        go_wp2_with (go_at_call 218; (with_reducible refine Says.go Nb ?_); rintro e w' ⟨rfl, rfl⟩)
        go_ret
        exact ⟨rfl, rfl⟩
    · rw [decide_eq_false hz] at Ea
      rw [if_neg (fun h => hz h.1)]
      clear hz M1 M2 Eb
      go_enter Tryz.func223, Tryz.ntmps223
      go_wp2_with (go_at_call 218; (with_reducible refine Says.go Nb ?_); rintro e w' ⟨rfl, rfl⟩)
      go_ret
      exact ⟨rfl, rfl⟩

theorem Order_f {a b : Nat} (ha : okW a) (hb : okW b) : Says 221 #[.float .f64 a, .float .f64 b] (.int .i64 (ordI (keyI a) (keyI b))) := by
  intro w
  have A := isAhead_any ha hb
  have B := isAhead_any hb ha
  rw [ahead_key ha hb] at A
  rw [ahead_key hb ha] at B
  clear ha hb
  unfold ordI
  generalize keyI a = x at *
  generalize keyI b = y at *
  go_enter Tryz.func221, Tryz.ntmps221
  go_wp2_with (go_at_call 223; first | ((with_reducible refine Says.go A ?_); rintro e w' ⟨rfl, rfl⟩) | ((with_reducible refine Says.go B ?_); rintro e w' ⟨rfl, rfl⟩))
  all_goals (go_ret; exact ⟨rfl, rfl⟩)
end Go.Proofs.YtcmohggnehkjeaaGreat
namespace Go.Proofs.YtcmohggnehkjeaaGreat
open Go.RowKit

theorem zero_key {f : Nat} (hf : okW f) : (ordI (keyI f) (keyI 0) == 0) = zeroB f := by
  unfold zeroB
  have h0 : okW 0 := by unfold okW; decide
  have h := same_key hf h0
  have hz := ord_zero (keyI f) (keyI 0)
  by_cases e : canonW f = canonW 0
  · rw [decide_eq_true e]; simp [hz.2 (h.2 e)]
  · rw [decide_eq_false e]
    have : ¬ ordI (keyI f) (keyI 0) = 0 := fun hh => e (h.1 (hz.1 hh))
    simp [this]
/-- No field is set but the kind. -/
def nofB (n : Int) (f : Nat) (s : ByteArray) (c m : Nat) : Bool := decide (n = 0) && (zeroB f && (emptyB s && (decide (c = 0) && decide (m = 0))))
set_option maxHeartbeats 1000000 in
theorem nof_f {k n : Int} {f : Nat} {s : ByteArray} {A : Option Addr} {c ca : Nat} {B : Option Addr} {m cb : Nat} (hf : okW f) (w : World) :
    Calls Tryz.prog 217 #[.agg (fields k n f s A c ca B m cb)] w fun e w' => e = .returned (.bool (nofB n f s c m)) ∧ Below w.heap.size w w' := by
  have hb : Below w.heap.size w (w.alloc (.cells (fields k n f s A c ca B m cb) 38)) := (Below.refl _ _).alloc (Nat.le_refl _) _
  have O := Order_f hf (show okW 0 by unfold okW; decide)
  have hz := zero_key hf
  unfold fields at *
  generalize ordI (keyI f) (keyI 0) = q at *
  by_cases hn : n = 0
  · have tn : (n == 0) = true := by simpa using hn
    cases hzf : zeroB f with
    | true =>
      rw [hzf] at hz
      cases hs : emptyB s with
      | true =>
        have ts : s.toList.isEmpty = true := hs
        by_cases hc : c = 0
        · have tc : ((c : Int) == 0) = true := by simp; omega
          by_cases hm : m = 0
          · have tm : ((m : Int) == 0) = true := by simp; omega
            have R : Hid (nofB n f s c m = true) := Lib.hid (by unfold nofB; simp [hn, hzf, hs, hc, hm])
            clear hn hzf hs hc hm hf
            go_enter Tryz.func217, Tryz.ntmps217
            go_wp2_with (go_at_call 221; (with_reducible refine Says.go O ?_); rintro e w' ⟨rfl, rfl⟩)
            go_ret
            exact ⟨by rw [R.out]; rfl, hb⟩
          · have tm : ((m : Int) == 0) = false := by simp; omega
            have R : Hid (nofB n f s c m = false) := Lib.hid (by unfold nofB; simp [hm])
            clear hn hzf hs hc hm hf
            go_enter Tryz.func217, Tryz.ntmps217
            go_wp2_with (go_at_call 221; (with_reducible refine Says.go O ?_); rintro e w' ⟨rfl, rfl⟩)
            go_ret
            exact ⟨by rw [R.out]; rfl, hb⟩
        · have tc : ((c : Int) == 0) = false := by simp; omega
          have R : Hid (nofB n f s c m = false) := Lib.hid (by unfold nofB; simp [hc])
          clear hn hzf hs hc hf
          go_enter Tryz.func217, Tryz.ntmps217
          go_wp2_with (go_at_call 221; (with_reducible refine Says.go O ?_); rintro e w' ⟨rfl, rfl⟩)
          go_ret
          exact ⟨by rw [R.out]; rfl, hb⟩
      | false =>
        have ts : s.toList.isEmpty = false := hs
        have R : Hid (nofB n f s c m = false) := Lib.hid (by unfold nofB; simp [hs])
        clear hn hzf hs hf
        go_enter Tryz.func217, Tryz.ntmps217
        go_wp2_with (go_at_call 221; (with_reducible refine Says.go O ?_); rintro e w' ⟨rfl, rfl⟩)
        go_ret
        exact ⟨by rw [R.out]; rfl, hb⟩
    | false =>
      rw [hzf] at hz
      have R : Hid (nofB n f s c m = false) := Lib.hid (by unfold nofB; simp [hzf])
      clear hn hzf hf
      go_enter Tryz.func217, Tryz.ntmps217
      go_wp2_with (go_at_call 221; (with_reducible refine Says.go O ?_); rintro e w' ⟨rfl, rfl⟩)
      go_ret
      exact ⟨by rw [R.out]; rfl, hb⟩
  · have tn : (n == 0) = false := by simpa using hn
    have R : Hid (nofB n f s c m = false) := Lib.hid (by unfold nofB; simp [hn])
    clear hn hf
    go_enter Tryz.func217, Tryz.ntmps217
    go_wp2_with fail
    go_ret
    exact ⟨by rw [R.out]; rfl, hb⟩
end Go.Proofs.YtcmohggnehkjeaaGreat
namespace Go.Proofs.YtcmohggnehkjeaaGreat
open Go.RowKit

/-- Is a value right, whatever its items are? -/
def aloneB (k n : Int) (f : Nat) (s : ByteArray) (c : Nat) (ns : Nat → ByteArray) (m : Nat) : Bool :=
  if k = 1 then (decide (n = 0) || decide (n = 1)) && nofB 0 f s c m
  else if k = 2 then nofB 0 f s c m
  else if k = 3 then nofB n 0 s c m
  else if k = 4 then decide (s.size ≤ 200) && nofB n f ⟨#[]⟩ c m
  else if k = 5 then nofB n f s c 0
  else if k = 6 then (((c : Int) == (m : Int)) && riseB c ns) && nofB n f s 0 0
  else false
theorem alone_plain {k n : Int} {f : Nat} {s : ByteArray} {c m : Nat} (ns : Nat → ByteArray) (h5 : k ≠ 5) (h6 : k ≠ 6) : aloneB k n f s c ns m = plainB k n f s c m := by
  have z0 : zeroB 0 = true := by unfold zeroB; simp
  have e0 : emptyB ⟨#[]⟩ = true := by decide +kernel
  unfold aloneB plainB nofB
  rw [if_neg h5, if_neg h6, z0, e0]
  by_cases h1 : k = 1
  · rw [if_pos h1, if_pos h1]
    cases decide (n = 0) <;> cases decide (n = 1) <;> cases zeroB f <;> cases emptyB s <;> cases decide (c = 0) <;> cases decide (m = 0) <;> rfl
  rw [if_neg h1, if_neg h1]
  by_cases h2 : k = 2
  · rw [if_pos h2, if_pos h2]
    cases zeroB f <;> cases emptyB s <;> cases decide (c = 0) <;> cases decide (m = 0) <;> rfl
  rw [if_neg h2, if_neg h2]
  by_cases h3 : k = 3
  · rw [if_pos h3, if_pos h3]
    cases decide (n = 0) <;> cases emptyB s <;> cases decide (c = 0) <;> cases decide (m = 0) <;> rfl
  rw [if_neg h3, if_neg h3]
  by_cases h4 : k = 4
  · rw [if_pos h4, if_pos h4]
    cases decide (n = 0) <;> cases zeroB f <;> cases decide (s.size ≤ 200) <;> cases decide (c = 0) <;> cases decide (m = 0) <;> rfl
  rw [if_neg h4, if_neg h4]
theorem alone_head {k n : Int} {f : Nat} {s : ByteArray} {c m : Nat} (ns : Nat → ByteArray) (h : k = 5 ∨ k = 6) : aloneB k n f s c ns m = headB k n f s c ns m := by
  unfold aloneB headB nofB
  rcases h with rfl | rfl
  · simp only [show ¬ ((5 : Int) = 1) by omega, show ¬ ((5 : Int) = 2) by omega, show ¬ ((5 : Int) = 3) by omega, show ¬ ((5 : Int) = 4) by omega, if_true, if_false]
    cases decide (n = 0) <;> cases zeroB f <;> cases emptyB s <;> cases decide (c = 0) <;> rfl
  · simp only [show ¬ ((6 : Int) = 1) by omega, show ¬ ((6 : Int) = 2) by omega, show ¬ ((6 : Int) = 3) by omega, show ¬ ((6 : Int) = 4) by omega, show ¬ ((6 : Int) = 5) by omega, if_true, if_false]
    cases decide (n = 0) <;> cases zeroB f <;> cases emptyB s <;> cases riseB c ns <;> cases ((c : Int) == (m : Int)) <;> rfl

/-- The box may be written. -/
theorem box_free {w : World} {a0 a1 a2 a3 a4 a5 : Value} {t : TypeId} : Hid (∀ w', Below (w.alloc (.cells #[a0, a1, a2, a3, a4, a5] t)).heap.size (w.alloc (.cells #[a0, a1, a2, a3, a4, a5] t)) w' → ∀ o, w'.frozen? ⟨w.heap.size, o, none⟩ = false) := Lib.hid fun w' hb o => by
  rw [hb.frozen (p := ⟨w.heap.size, o, none⟩) (by simp)]
  simp

set_option maxHeartbeats 2000000 in
theorem alone_f {k n : Int} {f : Nat} {s : ByteArray} {A : Option Addr} {c ca : Nat} {B : Option Addr} {m cb : Nat} {ns : Nat → ByteArray} {w : World} (hf : okW f) (hns : Strs w w.heap.size A c ns) (hc : c ≤ 9223372036854775807) :
    Calls Tryz.prog 202 #[.agg (fields k n f s A c ca B m cb)] w fun e w' => e = .returned (.bool (aloneB k n f s c ns m)) ∧ Below w.heap.size w w' := by
  have hbW : ∀ cs t, Below w.heap.size w (w.alloc (.cells cs t)) := fun cs t => (Below.refl _ _).alloc (Nat.le_refl _) _
  have hsW : ∀ cs t, w.heap.size ≤ (w.alloc (.cells cs t)).heap.size := fun cs t => (hbW cs t).size
  have N := fun (k' n' : Int) (f' : Nat) (s' : ByteArray) (A' : Option Addr) (c' ca' : Nat) (B' : Option Addr) (m' cb' : Nat) (h : okW f') (W : World) => nof_f (k := k') (n := n') (f := f') (s := s') (A := A') (c := c') (ca := ca') (B := B') (m := m') (cb := cb') h W
  have SF := float_store
  have ok0 : okW 0 := by unfold okW; decide
  unfold fields at *
  by_cases h1 : k = 1
  · by_cases hn : n = 0 ∨ n = 1
    · have R : Hid (aloneB k n f s c ns m = nofB 0 f s c m) := Lib.hid (by unfold aloneB; rw [if_pos h1]; rcases hn with rfl | rfl <;> simp)
      have N1 := N 1 0 f s A c ca B m cb hf
      rcases hn with rfl | rfl
      · subst h1
        clear N hns
        go_enter Tryz.func202, Tryz.ntmps202
        go_wp2_with (go_at_call 217; refine (N1 _).mono ?_; rintro e w3 ⟨rfl, hb3⟩)
        go_ret
        exact ⟨by rw [R.out]; rfl, (hbW _ _).trans (hb3.mono (hsW _ _))⟩
      · subst h1
        clear N hns
        go_enter Tryz.func202, Tryz.ntmps202
        go_wp2_with (go_at_call 217; refine (N1 _).mono ?_; rintro e w3 ⟨rfl, hb3⟩)
        go_ret
        exact ⟨by rw [R.out]; rfl, (hbW _ _).trans (hb3.mono (hsW _ _))⟩
    · have R : Hid (aloneB k n f s c ns m = false) := Lib.hid (by unfold aloneB; rw [if_pos h1]; simp; omega)
      have t0 : (n != 0) = true := by simp; omega
      have t1 : (n != 1) = true := by simp; omega
      subst h1
      clear N hns hn
      go_enter Tryz.func202, Tryz.ntmps202
      go_wp2_with fail
      go_ret
      exact ⟨by rw [R.out]; rfl, hbW _ _⟩
  · have k1 : (k == 1) = false := by simpa using h1
    by_cases h2 : k = 2
    · have R : Hid (aloneB k n f s c ns m = nofB 0 f s c m) := Lib.hid (by unfold aloneB; rw [if_neg h1, if_pos h2])
      have N1 := N 2 0 f s A c ca B m cb hf
      subst h2
      clear N hns k1 h1
      go_enter Tryz.func202, Tryz.ntmps202
      go_wp2_with (go_at_call 217; refine (N1 _).mono ?_; rintro e w3 ⟨rfl, hb3⟩)
      go_ret
      exact ⟨by rw [R.out]; rfl, (hbW _ _).trans (hb3.mono (hsW _ _))⟩
    · have k2 : (k == 2) = false := by simpa using h2
      by_cases h3 : k = 3
      · have R : Hid (aloneB k n f s c ns m = nofB n 0 s c m) := Lib.hid (by unfold aloneB; rw [if_neg h1, if_neg h2, if_pos h3])
        have N1 := N 3 n 0 s A c ca B m cb ok0
        subst h3
        clear N hns k1 h1 k2 h2
        go_enter Tryz.func202, Tryz.ntmps202
        go_wp2_with (go_at_call 217; refine (N1 _).mono ?_; rintro e w3 ⟨rfl, hb3⟩)
        go_ret
        exact ⟨by rw [R.out]; rfl, (hbW _ _).trans (hb3.mono (hsW _ _))⟩
      · have k3 : (k == 3) = false := by simpa using h3
        by_cases h4 : k = 4
        · by_cases hl : s.size ≤ 200
          · have R : Hid (aloneB k n f s c ns m = nofB n f ⟨#[]⟩ c m) := Lib.hid (by unfold aloneB; rw [if_neg h1, if_neg h2, if_neg h3, if_pos h4, decide_eq_true hl, Bool.true_and])
            have N1 := N 4 n f ⟨#[]⟩ A c ca B m cb hf
            subst h4
            clear N hns k1 h1 k2 h2 k3 h3
            go_enter Tryz.func202, Tryz.ntmps202
            go_wp2_with (go_at_call 217; refine (N1 _).mono ?_; rintro e w3 ⟨rfl, hb3⟩)
            go_ret
            exact ⟨by rw [R.out]; rfl, (hbW _ _).trans (hb3.mono (hsW _ _))⟩
          · have R : Hid (aloneB k n f s c ns m = false) := Lib.hid (by unfold aloneB; rw [if_neg h1, if_neg h2, if_neg h3, if_pos h4, decide_eq_false hl, Bool.false_and])
            subst h4
            clear N hns k1 h1 k2 h2 k3 h3
            go_enter Tryz.func202, Tryz.ntmps202
            go_wp2_with fail
            go_ret
            exact ⟨by rw [R.out]; rfl, hbW _ _⟩
        · have k4 : (k == 4) = false := by simpa using h4
          by_cases h5 : k = 5
          · have R : Hid (aloneB k n f s c ns m = nofB n f s c 0) := Lib.hid (by unfold aloneB; rw [if_neg h1, if_neg h2, if_neg h3, if_neg h4, if_pos h5])
            have N1 := N 5 n f s A c ca none 0 0 hf
            subst h5
            clear N hns k1 h1 k2 h2 k3 h3 k4 h4
            go_enter Tryz.func202, Tryz.ntmps202
            go_wp2_with (go_at_call 217; refine (N1 _).mono ?_; rintro e w3 ⟨rfl, hb3⟩)
            go_ret
            exact ⟨by rw [R.out]; rfl, (hbW _ _).trans (hb3.mono (hsW _ _))⟩
          · have k5 : (k == 5) = false := by simpa using h5
            by_cases h6 : k = 6
            · have hE : Hid (aloneB k n f s c ns m = ((((c : Int) == (m : Int)) && riseB c ns) && nofB n f s 0 0)) := Lib.hid (by unfold aloneB; rw [if_neg h1, if_neg h2, if_neg h3, if_neg h4, if_neg h5, if_pos h6])
              have N1 := N 6 n f s none 0 0 none 0 0 hf
              have HK := box_stays (w := w) (a0 := .int .i64 6) (a1 := .int .i64 n) (a2 := .float .f64 f) (a3 := .string s) (a4 := .slice A c ca) (a5 := .slice B m cb) (t := 38)
              have HF := box_free (w := w) (a0 := .int .i64 6) (a1 := .int .i64 n) (a2 := .float .f64 f) (a3 := .string s) (a4 := .slice A c ca) (a5 := .slice B m cb) (t := 38)
              have M := names_f (ca := ca) (n := (m : Int)) (strs_keep hns (hbW #[.int .i64 6, .int .i64 n, .float .f64 f, .string s, .slice A c ca, .slice B m cb] 38)) (hsW _ _) hc
              subst h6
              generalize hr : (((c : Int) == (m : Int)) && riseB c ns) = r at *
              clear N hns k1 h1 k2 h2 k3 h3 k4 h4 k5 h5 hr
              cases r with
              | false =>
                go_enter Tryz.func202, Tryz.ntmps202
                go_wp2_with (first | (go_at_call 110; refine M.mono ?_; rintro e w1 ⟨rfl, hb1⟩))
                go_ret
                exact ⟨by rw [hE.out]; rfl, (hbW _ _).trans (hb1.mono (hsW _ _))⟩
              | true =>
                have hbig : ∀ w1 : World, Below (w.alloc (.cells #[.int .i64 6, .int .i64 n, .float .f64 f, .string s, .slice A c ca, .slice B m cb] 38)).heap.size (w.alloc (.cells #[.int .i64 6, .int .i64 n, .float .f64 f, .string s, .slice A c ca, .slice B m cb] 38)) w1 → Below w.heap.size w ((w1.setCell ⟨w.heap.size, 4, none⟩ (.slice none 0 0)).setCell ⟨w.heap.size, 5, none⟩ (.slice none 0 0)) := fun w1 hb1 =>
                  (((hbW _ _).trans (hb1.mono (hsW _ _))).setCell (Nat.le_refl _) _).setCell (Nat.le_refl _) _
                go_enter Tryz.func202, Tryz.ntmps202
                go_wp2_with (first | (go_at_call 110; refine M.mono ?_; rintro e w1 ⟨rfl, hb1⟩; obtain ⟨q0, q1, q2, q3, q4, q5⟩ := HK.out w1 hb1; have f4 := HF.out w1 hb1 4; have f5 := HF.out w1 hb1 5) | (go_at_call 217; refine (N1 _).mono ?_; rintro e w3 ⟨rfl, hb3⟩))
                go_ret
                exact ⟨by rw [hE.out]; rfl, (hbig w1 hb1).trans (hb3.mono (hbig w1 hb1).size)⟩
            · have k6 : (k == 6) = false := by simpa using h6
              have R : Hid (aloneB k n f s c ns m = false) := Lib.hid (by unfold aloneB; rw [if_neg h1, if_neg h2, if_neg h3, if_neg h4, if_neg h5, if_neg h6])
              clear N hns h1 h2 h3 h4 h5 h6
              go_enter Tryz.func202, Tryz.ntmps202
              go_wp2_with fail
              go_ret
              exact ⟨by rw [R.out]; rfl, hbW _ _⟩
end Go.Proofs.YtcmohggnehkjeaaGreat
namespace Go.Proofs.YtcmohggnehkjeaaGreat
open Go.RowKit

theorem plain_none {k n : Int} {f : Nat} {s : ByteArray} {c m : Nat} (h : plainB k n f s c m = true) : m = 0 := by
  unfold plainB at h
  by_cases hm : m = 0
  · exact hm
  · rw [decide_eq_false hm] at h
    simp at h
theorem right_mk (k n : Int) (f : Nat) (s : ByteArray) (c : Nat) (ns : Nat → ByteArray) (m : Nat) (xs : Nat → VT) {far : Int} (h1 : 1 ≤ far) :
    rightV (.mk k n f s c ns m xs) far = (aloneB k n f s c ns m && (List.range m).all (fun i => rightV (xs i) (far - 1))) := by
  rw [rightV]
  rw [decide_eq_true h1, Bool.true_and]
  by_cases h : k = 5 ∨ k = 6
  · rw [if_pos h, alone_head ns h]
  · rw [if_neg h, alone_plain ns (fun e => h (.inl e)) (fun e => h (.inr e))]
    cases hp : plainB k n f s c m with
    | false => rfl
    | true => obtain rfl := plain_none hp; rfl
theorem strs_mono {w : World} {lim lim' : Nat} {A : Option Addr} {c : Nat} {ns : Nat → ByteArray} (h : Strs w lim A c ns) (hl : lim ≤ lim') : Strs w lim' A c ns := fun h0 => by
  obtain ⟨g, o, e, hg, hx⟩ := h h0
  exact ⟨g, o, e, by omega, hx⟩
set_option maxHeartbeats 2000000 in
theorem within_any : ∀ (t : VT) (v : Array Value) (far : Int) (w : World), Val w w.heap.size v t → 0 ≤ far → far ≤ 1000 →
    Calls Tryz.prog 216 #[.agg v, .int .i64 far, .func (.func 201) #[] #[], .func (.func 202) #[] #[]] w fun e w' => e = .returned (.bool (rightV t far)) ∧ Below w.heap.size w w' := by
  intro t
  induction t with
  | bad => intro v q w hv; cases hv
  | mk k n0 f s c ns m xs ih =>
    intro v far w hv h0 h9
    cases hv with
    | mk _ _ _ _ A _ ca B _ cb _ _ vs hk hn hf hs hc hm hns hB hxs =>
      have hmx : m ≤ 9223372036854775807 := by have := hm; unfold maxLen at this; omega
      have hcx : c ≤ 9223372036854775807 := by have := hc; unfold maxLen at this; omega
      have hbW : Below w.heap.size w (w.alloc (.cells (fields k n0 f s A c ca B m cb) 38)) := (Below.refl _ _).alloc (Nat.le_refl _) _
      have HK := box_stays (w := w) (a0 := .int .i64 k) (a1 := .int .i64 n0) (a2 := .float .f64 f) (a3 := .string s) (a4 := .slice A c ca) (a5 := .slice B m cb) (t := 38)
      have I := fun W => items_any (k := k) (n := n0) (f := f) (s := s) (A := A) (c := c) (ca := ca) (B := B) (m := m) (cb := cb) W
      have AL := alone_f (k := k) (n := n0) (f := f) (s := s) (A := A) (c := c) (ca := ca) (B := B) (m := m) (cb := cb) (ns := ns) hf (strs_mono (strs_keep hns hbW) hbW.size) hcx
      have SF := float_store
      unfold fields at *
      by_cases hz : far = 0
      · have R : Hid (rightV (.mk k n0 f s c ns m xs) far = false) := Lib.hid (by unfold rightV; rw [decide_eq_false (by omega), Bool.false_and])
        subst hz
        clear ih hxs hB AL I hns
        go_enter Tryz.func216, Tryz.ntmps216
        go_wp2_with fail
        go_ret
        exact ⟨by rw [R.out]; rfl, hbW⟩
      · have tz : (far == 0) = false := by simpa using hz
        have RM := right_mk k n0 f s c ns m xs (show 1 ≤ far by omega)
        cases ha : aloneB k n0 f s c ns m with
        | false =>
          rw [ha] at AL
          have R : Hid (rightV (.mk k n0 f s c ns m xs) far = false) := Lib.hid (by rw [RM, ha, Bool.false_and])
          clear ih hxs hB I hns RM ha
          go_enter Tryz.func216, Tryz.ntmps216
          go_wp2_with (go_at_call 202; refine AL.mono ?_; rintro e w1 ⟨rfl, hb1⟩)
          go_ret
          exact ⟨by rw [R.out]; rfl, hbW.trans (hb1.mono hbW.size)⟩
        | true =>
          rw [ha] at AL RM
          rw [Bool.true_and] at RM
          have HR := Lib.hid RM
          clear RM ha
          go_enter Tryz.func216, Tryz.ntmps216
          go_wp2_with (first | (go_at_call 202; refine AL.mono ?_; rintro e w1 ⟨rfl, hb1⟩; obtain ⟨q0, q1, q2, q3, q4, q5⟩ := HK.out w1 hb1) | (go_at_call 201; refine (I _).mono ?_; rintro e w2 ⟨rfl, hb2⟩))
          have hW1 : Below w.heap.size w w1 := hbW.trans (hb1.mono hbW.size)
          have hW2 : Below w.heap.size w w2 := hW1.trans (hb2.mono hW1.size)
          clear hbW hb1 I AL hW1 hb2 q0 q1 q2 q3 q4 q5
          go_loopw [23] (fun iv wr => ∃ (i : Nat), i ≤ m ∧ iv = .int .i64 i ∧ Hid (∀ j, j < i → rightV (xs j) (far - 1) = true) ∧ Below w2.heap.size w2 wr) (fun iv _ => m - (intOf iv).toNat)
          case atStart => exact ⟨0, Nat.zero_le _, rfl, Lib.hid fun j hj => absurd hj (by omega), Below.refl _ _⟩
          case round =>
            obtain ⟨i, hi, rfl, hh, hb⟩ := hrel
            have hfin : Below w.heap.size w wr := hW2.trans (hb.mono hW2.size)
            by_cases hlt : i < m
            · obtain ⟨g, o, rfl, hg, hx⟩ := hB (by omega)
              have hsix := (hx i hlt).keep (w' := wr) fun o => hfin.cell (p := ⟨g, o, none⟩) hg
              have hvr := ((hxs i hlt).stay hfin).mono hfin.size
              have hcall := fun (V : World) (hV : Below wr.heap.size wr V) => ih i (vs i) (far - 1) V ((hvr.stay hV).mono hV.size) (by omega) (by omega)
              obtain ⟨b0, b1, b2, b3, b4, b5, b6, b7, b8, b9, hv0⟩ := (hxs i hlt).eight
              rw [hv0] at hsix hcall
              obtain ⟨e0, e1, e2, e3, e4, e5⟩ := hsix.cells
              have hbN : ∀ x, Below wr.heap.size wr (wr.alloc x) := fun x => (Below.refl _ _).alloc (Nat.le_refl _) x
              cases hr : rightV (xs i) (far - 1) with
              | false =>
                have R : Hid (rightV (.mk k n0 f s c ns m xs) far = false) := Lib.hid (by
                  rw [HR.out, List.all_eq_false]
                  exact ⟨i, List.mem_range.2 hlt, by rw [hr]; simp⟩)
                rw [hr] at hcall
                have HF := Lib.hid hfin
                clear hv0 hsix hvr hx hB ih hxs hns hfin hr hh
                go_wp2_with (go_at_call 216; refine (hcall _ (hbN _)).mono ?_; rintro e w3 ⟨rfl, hb3⟩)
                go_ret
                have h2 := (hbN _).trans (hb3.mono (hbN _).size)
                exact ⟨by rw [R.out]; rfl, HF.out.trans (h2.mono HF.out.size)⟩
              | true =>
                have hN : Hid (∀ j, j < i + 1 → rightV (xs j) (far - 1) = true) := Lib.hid fun j hj => by
                  by_cases e : j = i
                  · subst e; exact hr
                  · exact hh.out j (by omega)
                rw [hr] at hcall
                have HF := Lib.hid hfin
                clear hv0 hsix hvr hx hB ih hxs hns hfin hr hh
                go_wp2_with (go_at_call 216; refine (hcall _ (hbN _)).mono ?_; rintro e w3 ⟨rfl, hb3⟩)
                go_roundw
                case rel => exact ⟨i + 1, by omega, by go_num, hN, hb.trans (((hbN _).trans (hb3.mono (hbN _).size)).mono hb.size)⟩
                case measure => simp [intOf]; omega
            · have R : Hid (rightV (.mk k n0 f s c ns m xs) far = true) := Lib.hid (by
                rw [HR.out, List.all_eq_true]
                exact fun j hj => hh.out j (by have := List.mem_range.1 hj; omega))
              clear hB hxs ih hns hh
              go_wp2_with fail
              go_ret
              exact ⟨by rw [R.out]; rfl, hfin⟩
theorem isright_any {t : VT} {v : Array Value} {w : World} (hv : Val w w.heap.size v t) :
    Calls Tryz.prog 200 #[.agg v, .func (.func 201) #[] #[], .func (.func 202) #[] #[]] w fun e w' => e = .returned (.bool (okV t)) ∧ Below w.heap.size w w' := by
  have hbW : Below w.heap.size w (w.alloc (.cells v 38)) := (Below.refl _ _).alloc (Nat.le_refl _) _
  have hvW := (hv.stay hbW).mono hbW.size
  have P := cap_any t v 201 _ hvW (by omega) (by omega)
  have R := fun w' (hb : Below (w.alloc (.cells v 38)).heap.size (w.alloc (.cells v 38)) w') => within_any t v 12 w' ((hvW.stay hb).mono hb.size) (by omega) (by omega)
  have hcnt := cnt_tot hv 0 (by omega) (by omega)
  obtain ⟨a0, a1, a2, a3, a4, a5, rfl⟩ := hv.six
  have HK := box_stays (w := w) (a0 := a0) (a1 := a1) (a2 := a2) (a3 := a3) (a4 := a4) (a5 := a5) (t := 38)
  have HR := Lib.hid R
  have hok : okV t = (decide (tot t ≤ 200) && rightV t 12) := by
    unfold okV; rw [hcnt]
    congr 1
    rw [decide_eq_decide]
    omega
  rw [hok]
  generalize rightV t 12 = r at *
  clear hv hvW R hcnt hok
  by_cases hp : tot t ≤ 200
  · have e1 : min (tot t : Int) 201 = tot t := by omega
    rw [e1] at P
    generalize tot t = z at *
    go_enter Tryz.func200, Tryz.ntmps200
    go_wp2_with (first | (go_at_call 215; refine P.mono ?_; rintro e w1 ⟨rfl, hb1⟩; obtain ⟨c0, c1, c2, c3, c4, c5⟩ := HK.out w1 hb1) | (go_at_call 216; refine (HR.out w1 hb1).mono ?_; rintro e w2 ⟨rfl, hb2⟩))
    go_ret
    have hfin := hbW.trans (hb1.mono hbW.size)
    exact ⟨by rw [decide_eq_true hp, Bool.true_and]; rfl, hfin.trans (hb2.mono hfin.size)⟩
  · have e1 : min (tot t : Int) 201 = 201 := by omega
    rw [e1] at P
    generalize tot t = z at *
    go_enter Tryz.func200, Tryz.ntmps200
    go_wp2_with (first | (go_at_call 215; refine P.mono ?_; rintro e w1 ⟨rfl, hb1⟩; obtain ⟨c0, c1, c2, c3, c4, c5⟩ := HK.out w1 hb1) | (go_at_call 216; refine (HR.out w1 hb1).mono ?_; rintro e w2 ⟨rfl, hb2⟩))
    go_ret
    have hfin := hbW.trans (hb1.mono hbW.size)
    exact ⟨by rw [decide_eq_false hp, Bool.false_and]; rfl, hfin⟩
theorem right_f {t : VT} {v : Array Value} {w : World} (hv : Val w w.heap.size v t) : Calls Tryz.prog 180 #[.agg v] w fun e w' => e = .returned (.bool (okV t)) ∧ Below w.heap.size w w' := by
  have hbW : Below w.heap.size w (w.alloc (.cells v 38)) := (Below.refl _ _).alloc (Nat.le_refl _) _
  have P := isright_any ((hv.stay hbW).mono hbW.size)
  obtain ⟨a0, a1, a2, a3, a4, a5, rfl⟩ := hv.six
  clear hv
  go_enter Tryz.func180, Tryz.ntmps180
  go_wp2_with (go_at_call 200; refine P.mono ?_; rintro e w1 ⟨rfl, hb1⟩)
  go_ret
  exact ⟨rfl, hbW.trans (hb1.mono hbW.size)⟩
end Go.Proofs.YtcmohggnehkjeaaGreat
namespace Go.Proofs.YtcmohggnehkjeaaGreat
open Go.RowKit

/-- All parts of a type. -/
def ttot : TT → Nat
  | .bad => 0
  | .mk _ _ _ m xs => 1 + sumN (fun i => ttot (xs i)) m
theorem tcnt_tot {w : World} {lim : Nat} {v : Array Value} {t : TT} (h : TVal w lim v t) : ∀ n, 0 ≤ n → n < 500 → tcntV t n = min (n + ttot t) 500 := by
  induction h with
  | mk k A c ca B m cb ns xs vs hk hc hm hns hB hxs ih =>
    intro n h0 h5
    unfold tcntV ttot
    have hin := cntGo_in (fun i n => tcntV (xs i) n) (fun i n a b => tcntV_in (xs i) n a b) m 0 (n + 1) (by omega) (by omega)
    have key : ∀ r i q, i + r = m → 0 ≤ q → q ≤ 500 → cntGo (fun i n => tcntV (xs i) n) r i q = min (q + (sumN (fun i => ttot (xs i)) m - sumN (fun i => ttot (xs i)) i : Int)) 500 ∧ sumN (fun i => ttot (xs i)) i ≤ sumN (fun i => ttot (xs i)) m := by
      intro r
      induction r with
      | zero =>
        intro i q hi hq0 hq5
        obtain rfl : i = m := by omega
        unfold cntGo
        exact ⟨by omega, Nat.le_refl _⟩
      | succ r ihr =>
        intro i q hi hq0 hq5
        have hs : sumN (fun i => ttot (xs i)) (i + 1) = sumN (fun i => ttot (xs i)) i + ttot (xs i) := rfl
        unfold cntGo
        by_cases hq : q < 500
        · rw [if_pos hq]
          have e := ih i (by omega) q hq0 hq
          rw [e]
          have := ihr (i + 1) (min (q + ttot (xs i)) 500) (by omega) (by omega) (by omega)
          omega
        · rw [if_neg hq]
          have := (ihr (i + 1) q (by omega) hq0 hq5).2
          omega
    have e := (key m 0 (n + 1) (by omega) (by omega) (by omega)).1
    have hz : sumN (fun i => ttot (xs i)) 0 = 0 := rfl
    rw [e]
    omega
theorem TVal.four {w : World} {lim : Nat} {v : Array Value} {t : TT} (h : TVal w lim v t) : ∃ k A c ca B m cb, v = #[.int .i64 k, .slice A c ca, .slice B m cb] := by
  cases h; exact ⟨_, _, _, _, _, _, _, rfl⟩
theorem ttot_mk (k : Int) (c : Nat) (ns : Nat → ByteArray) (m : Nat) (xs : Nat → TT) : ((ttot (.mk k c ns m xs) : Nat) : Int) = 1 + (sumN (fun i => ttot (xs i)) m : Nat) := by
  rw [ttot]; simp
theorem titems_any {k : Int} {A : Option Addr} {c ca : Nat} {B : Option Addr} {m cb : Nat} (w : World) :
    Calls Tryz.prog 68 #[.agg (tfields k A c ca B m cb)] w fun e w' => e = .returned (.slice B m cb) ∧ Below w.heap.size w w' := by
  have hb : Below w.heap.size w (w.alloc (.cells (tfields k A c ca B m cb) 25)) := (Below.refl _ _).alloc (Nat.le_refl _) _
  unfold tfields at *
  go_enter Tryz.func68, Tryz.ntmps68
  go_wp2_with fail
  go_ret
  exact ⟨rfl, hb⟩
set_option maxHeartbeats 2000000 in
theorem tcap_any : ∀ (t : TT) (v : Array Value) (q : Int) (w : World), TVal w w.heap.size v t → 1 ≤ q → q ≤ 1000 →
    Calls Tryz.prog 108 #[.agg v, .func (.func 68) #[] #[], .int .i64 q] w fun e w' => e = .returned (.int .i64 (min (ttot t) q)) ∧ Below w.heap.size w w' := by
  intro t
  induction t with
  | bad => intro v q w hv; cases hv
  | mk k c ns m xs ih =>
    intro v q w hv h1 h9
    cases hv with
    | mk _ A _ ca B _ cb _ _ vs hk hc hm hns hB hxs =>
      have hmx : m ≤ 9223372036854775807 := by have := hm; unfold maxLen at this; omega
      have hbW : Below w.heap.size w (w.alloc (.cells (tfields k A c ca B m cb) 25)) := (Below.refl _ _).alloc (Nat.le_refl _) _
      have I := fun W => titems_any (k := k) (A := A) (c := c) (ca := ca) (B := B) (m := m) (cb := cb) W
      unfold tfields at *
      go_enter Tryz.func108, Tryz.ntmps108
      go_wp2_with (go_at_call 68; refine (I _).mono ?_; rintro e w1 ⟨rfl, hb1⟩)
      have hW1 : Below w.heap.size w w1 := hbW.trans (hb1.mono hbW.size)
      clear hbW hb1 I
      go_loopw [7, 14] (fun nv iv wr => ∃ (i : Nat) (p : Int), i ≤ m ∧ iv = .int .i64 i ∧ nv = .int .i64 p ∧ p = min (1 + sumN (fun i => ttot (xs i)) i : Int) q ∧ Below w1.heap.size w1 wr) (fun _ iv _ => m - (intOf iv).toNat)
      case atStart => exact ⟨0, 1, Nat.zero_le _, rfl, rfl, by unfold sumN; omega, Below.refl _ _⟩
      case round =>
        obtain ⟨i, p, hi, rfl, rfl, hp, hb⟩ := hrel
        have hfin : Below w.heap.size w wr := hW1.trans (hb.mono hW1.size)
        have hsum : sumN (fun i => ttot (xs i)) (i + 1) = sumN (fun i => ttot (xs i)) i + ttot (xs i) := rfl
        by_cases hlt : i < m
        · by_cases hq : p = q
          · have R : Hid ((min (ttot (.mk k c ns m xs)) q : Int) = p) := Lib.hid (by
              have := sumN_mono (fun i => ttot (xs i)) (show i ≤ m by omega)
              rw [ttot_mk]; omega)
            have tq : (p == q) = true := by simpa using hq
            obtain ⟨g, o, rfl, hg, hx⟩ := hB (by omega)
            have hsix := (hx i hlt).keep (w' := wr) fun o => hfin.cell (p := ⟨g, o, none⟩) hg
            obtain ⟨b0, b1, b2, b3, b4, b5, b6, hv0⟩ := (hxs i hlt).four
            rw [hv0] at hsix
            obtain ⟨e0, e1, e2⟩ := hsix.cells
            have HF := Lib.hid hfin
            clear hv0 hsix hx hB ih hxs hp hsum hns hb hfin hq
            go_wp2_with fail
            go_ret
            exact ⟨by rw [R.out]; rfl, HF.out.alloc HF.out.size _⟩
          · have tq : (p == q) = false := by simpa using hq
            have hpq : p = 1 + (sumN (fun i => ttot (xs i)) i : Nat) ∧ p < q := by omega
            have hN : Hid (p + min (ttot (xs i) : Int) (q - p) = min (1 + (sumN (fun i => ttot (xs i)) (i + 1) : Nat) : Int) q) := Lib.hid (by omega)
            have hlo : 0 ≤ p + min (ttot (xs i) : Int) (q - p) ∧ p + min (ttot (xs i) : Int) (q - p) ≤ 1000 := by omega
            obtain ⟨g, o, rfl, hg, hx⟩ := hB (by omega)
            have hsix := (hx i hlt).keep (w' := wr) fun o => hfin.cell (p := ⟨g, o, none⟩) hg
            have hvr := ((hxs i hlt).stay hfin).mono hfin.size
            have hcall := fun (V : World) (hV : Below wr.heap.size wr V) => ih i (vs i) (q - p) V ((hvr.stay hV).mono hV.size) (by omega) (by omega)
            obtain ⟨b0, b1, b2, b3, b4, b5, b6, hv0⟩ := (hxs i hlt).four
            rw [hv0] at hsix hcall
            obtain ⟨e0, e1, e2⟩ := hsix.cells
            have hbN : ∀ x, Below wr.heap.size wr (wr.alloc x) := fun x => (Below.refl _ _).alloc (Nat.le_refl _) x
            have hwq : 0 ≤ p ∧ p < q ∧ q ≤ 1000 := by omega
            have HF := Lib.hid hfin
            generalize (min (ttot (xs i) : Int) (q - p)) = z at *
            clear hv0 hsix hvr hx hB ih hxs hp hsum hns hfin hq hpq
            go_wp2_with (go_at_call 108; refine (hcall _ (hbN _)).mono ?_; rintro e w3 ⟨rfl, hb3⟩)
            go_roundw
            case rel => exact ⟨i + 1, p + z, by omega, by go_num, by go_num, hN.out, hb.trans (((hbN _).trans (hb3.mono (hbN _).size)).mono hb.size)⟩
            case measure => simp [intOf]; omega
        · have R : Hid ((min (ttot (.mk k c ns m xs)) q : Int) = p) := Lib.hid (by
            obtain rfl : i = m := by omega
            rw [ttot_mk]; omega)
          clear hB hxs ih hp hsum hns
          go_wp2_with fail
          go_ret
          exact ⟨by rw [R.out]; rfl, hfin⟩

/-- Is a type right, whatever its items are? -/
def taloneB (k : Int) (c : Nat) (ns : Nat → ByteArray) (m : Nat) : Bool :=
  if k = 1 ∨ k = 2 ∨ k = 3 ∨ k = 4 ∨ k = 7 then decide (c = 0) && decide (m = 0) else if k = 5 then decide (c = 0) && decide (m = 1) else if k = 6 then ((c : Int) == (m : Int)) && riseB c ns else false
theorem tright_mk (k : Int) (c : Nat) (ns : Nat → ByteArray) (m : Nat) (xs : Nat → TT) {far : Int} (h1 : 1 ≤ far) :
    trightV (.mk k c ns m xs) far = (taloneB k c ns m && (List.range m).all (fun i => trightV (xs i) (far - 1))) := by
  rw [trightV]
  rw [decide_eq_true h1, Bool.true_and]
  unfold taloneB theadB tplainB
  by_cases h5 : k = 5
  · subst h5
    simp only [true_or, if_true, show ¬ ((5 : Int) = 1 ∨ (5 : Int) = 2 ∨ (5 : Int) = 3 ∨ (5 : Int) = 4 ∨ (5 : Int) = 7) by omega, if_false]
    rw [Bool.and_comm (decide (c = 0))]
  by_cases h6 : k = 6
  · subst h6
    simp only [or_true, if_true, show ¬ ((6 : Int) = 1 ∨ (6 : Int) = 2 ∨ (6 : Int) = 3 ∨ (6 : Int) = 4 ∨ (6 : Int) = 7) by omega, show ¬ ((6 : Int) = 5) by omega, if_false]
    rw [Bool.and_comm (riseB c ns)]
  rw [if_neg (show ¬ (k = 5 ∨ k = 6) by omega)]
  by_cases hk : 1 ≤ k ∧ k ≤ 7
  · rw [if_pos (show k = 1 ∨ k = 2 ∨ k = 3 ∨ k = 4 ∨ k = 7 by omega), decide_eq_true hk.1, decide_eq_true hk.2]
    by_cases hm : m = 0
    · subst hm; simp
    · simp [hm]
  · rw [if_neg (show ¬ (k = 1 ∨ k = 2 ∨ k = 3 ∨ k = 4 ∨ k = 7) by omega), if_neg h5, if_neg h6]
    by_cases hk1 : 1 ≤ k
    · rw [decide_eq_false (show ¬ k ≤ 7 by omega)]; simp
    · rw [decide_eq_false hk1]; simp
set_option maxHeartbeats 2000000 in
theorem talone_f {k : Int} {A : Option Addr} {c ca : Nat} {B : Option Addr} {m cb : Nat} {ns : Nat → ByteArray} {w : World} (hns : Strs w w.heap.size A c ns) (hc : c ≤ 9223372036854775807) :
    Calls Tryz.prog 69 #[.agg (tfields k A c ca B m cb)] w fun e w' => e = .returned (.bool (taloneB k c ns m)) ∧ Below w.heap.size w w' := by
  have hbW : ∀ cs t, Below w.heap.size w (w.alloc (.cells cs t)) := fun cs t => (Below.refl _ _).alloc (Nat.le_refl _) _
  have hsW : ∀ cs t, w.heap.size ≤ (w.alloc (.cells cs t)).heap.size := fun cs t => (hbW cs t).size
  have plain : (k = 1 ∨ k = 2 ∨ k = 3 ∨ k = 4 ∨ k = 7) → Calls Tryz.prog 69 #[.agg (tfields k A c ca B m cb)] w fun e w' => e = .returned (.bool (decide (c = 0) && decide (m = 0))) ∧ Below w.heap.size w w' := by
    intro hk
    unfold tfields
    by_cases hc0 : c = 0
    · have tc : ((c : Int) == 0) = true := by simp; omega
      by_cases hm0 : m = 0
      · have tm : ((m : Int) == 0) = true := by simp; omega
        have R : Hid ((decide (c = 0) && decide (m = 0)) = true) := Lib.hid (by simp [hc0, hm0])
        clear hc0 hm0 hns
        rcases hk with rfl | rfl | rfl | rfl | rfl <;>
        · go_enter Tryz.func69, Tryz.ntmps69
          go_wp2_with fail
          go_ret
          exact ⟨by rw [R.out]; rfl, hbW _ _⟩
      · have tm : ((m : Int) == 0) = false := by simp; omega
        have R : Hid ((decide (c = 0) && decide (m = 0)) = false) := Lib.hid (by simp [hm0])
        clear hc0 hm0 hns
        rcases hk with rfl | rfl | rfl | rfl | rfl <;>
        · go_enter Tryz.func69, Tryz.ntmps69
          go_wp2_with fail
          go_ret
          exact ⟨by rw [R.out]; rfl, hbW _ _⟩
    · have tc : ((c : Int) == 0) = false := by simp; omega
      have R : Hid ((decide (c = 0) && decide (m = 0)) = false) := Lib.hid (by simp [hc0])
      clear hc0 hns
      rcases hk with rfl | rfl | rfl | rfl | rfl <;>
      · go_enter Tryz.func69, Tryz.ntmps69
        go_wp2_with fail
        go_ret
        exact ⟨by rw [R.out]; rfl, hbW _ _⟩
  unfold taloneB
  by_cases hk : k = 1 ∨ k = 2 ∨ k = 3 ∨ k = 4 ∨ k = 7
  · rw [if_pos hk]; exact plain hk
  · rw [if_neg hk]
    clear plain
    unfold tfields
    by_cases h5 : k = 5
    · rw [if_pos h5]
      subst h5
      by_cases hc0 : c = 0
      · have tc : ((c : Int) == 0) = true := by simp; omega
        by_cases hm0 : m = 1
        · have tm : ((m : Int) == 1) = true := by simp; omega
          have R : Hid ((decide (c = 0) && decide (m = 1)) = true) := Lib.hid (by simp [hc0, hm0])
          clear hc0 hm0 hns hk
          go_enter Tryz.func69, Tryz.ntmps69
          go_wp2_with fail
          go_ret
          exact ⟨by rw [R.out]; rfl, hbW _ _⟩
        · have tm : ((m : Int) == 1) = false := by simp; omega
          have R : Hid ((decide (c = 0) && decide (m = 1)) = false) := Lib.hid (by simp [hm0])
          clear hc0 hm0 hns hk
          go_enter Tryz.func69, Tryz.ntmps69
          go_wp2_with fail
          go_ret
          exact ⟨by rw [R.out]; rfl, hbW _ _⟩
      · have tc : ((c : Int) == 0) = false := by simp; omega
        have R : Hid ((decide (c = 0) && decide (m = 1)) = false) := Lib.hid (by simp [hc0])
        clear hc0 hns hk
        go_enter Tryz.func69, Tryz.ntmps69
        go_wp2_with fail
        go_ret
        exact ⟨by rw [R.out]; rfl, hbW _ _⟩
    · rw [if_neg h5]
      by_cases h6 : k = 6
      · rw [if_pos h6]
        have M := names_f (ca := ca) (n := (m : Int)) (strs_keep hns (hbW #[.int .i64 6, .slice A c ca, .slice B m cb] 25)) (hsW _ _) hc
        subst h6
        generalize (((c : Int) == (m : Int)) && riseB c ns) = r at *
        clear hk h5 hns
        go_enter Tryz.func69, Tryz.ntmps69
        go_wp2_with (go_at_call 110; refine M.mono ?_; rintro e w1 ⟨rfl, hb1⟩)
        go_ret
        exact ⟨rfl, (hbW _ _).trans (hb1.mono (hsW _ _))⟩
      · rw [if_neg h6]
        have k1 : (k == 1) = false := by simp; omega
        have k2 : (k == 2) = false := by simp; omega
        have k3 : (k == 3) = false := by simp; omega
        have k4 : (k == 4) = false := by simp; omega
        have k5 : (k == 5) = false := by simp; omega
        have k6 : (k == 6) = false := by simp; omega
        have k7 : (k == 7) = false := by simp; omega
        clear hk h5 h6 hns
        go_enter Tryz.func69, Tryz.ntmps69
        go_wp2_with fail
        go_ret
        exact ⟨rfl, hbW _ _⟩
end Go.Proofs.YtcmohggnehkjeaaGreat
namespace Go.Proofs.YtcmohggnehkjeaaGreat
open Go.RowKit

set_option maxHeartbeats 2000000 in
theorem twithin_any : ∀ (t : TT) (v : Array Value) (far : Int) (w : World), TVal w w.heap.size v t → 0 ≤ far → far ≤ 1000 →
    Calls Tryz.prog 109 #[.agg v, .int .i64 far, .func (.func 68) #[] #[], .func (.func 69) #[] #[]] w fun e w' => e = .returned (.bool (trightV t far)) ∧ Below w.heap.size w w' := by
  intro t
  induction t with
  | bad => intro v q w hv; cases hv
  | mk k c ns m xs ih =>
    intro v far w hv h0 h9
    cases hv with
    | mk _ A _ ca B _ cb _ _ vs hk hc hm hns hB hxs =>
      have hmx : m ≤ 9223372036854775807 := by have := hm; unfold maxLen at this; omega
      have hcx : c ≤ 9223372036854775807 := by have := hc; unfold maxLen at this; omega
      have hbW : Below w.heap.size w (w.alloc (.cells (tfields k A c ca B m cb) 25)) := (Below.refl _ _).alloc (Nat.le_refl _) _
      have HK := box3_stays (w := w) (a0 := .int .i64 k) (a1 := .slice A c ca) (a2 := .slice B m cb) (t := 25)
      have I := fun W => titems_any (k := k) (A := A) (c := c) (ca := ca) (B := B) (m := m) (cb := cb) W
      have AL := talone_f (k := k) (A := A) (c := c) (ca := ca) (B := B) (m := m) (cb := cb) (ns := ns) (strs_mono (strs_keep hns hbW) hbW.size) hcx
      unfold tfields at *
      by_cases hz : far = 0
      · have R : Hid (trightV (.mk k c ns m xs) far = false) := Lib.hid (by unfold trightV; rw [decide_eq_false (by omega), Bool.false_and])
        subst hz
        clear ih hxs hB AL I hns
        go_enter Tryz.func109, Tryz.ntmps109
        go_wp2_with fail
        go_ret
        exact ⟨by rw [R.out]; rfl, hbW⟩
      · have tz : (far == 0) = false := by simpa using hz
        have RM := tright_mk k c ns m xs (show 1 ≤ far by omega)
        cases ha : taloneB k c ns m with
        | false =>
          rw [ha] at AL
          have R : Hid (trightV (.mk k c ns m xs) far = false) := Lib.hid (by rw [RM, ha, Bool.false_and])
          clear ih hxs hB I hns RM ha
          go_enter Tryz.func109, Tryz.ntmps109
          go_wp2_with (go_at_call 69; refine AL.mono ?_; rintro e w1 ⟨rfl, hb1⟩)
          go_ret
          exact ⟨by rw [R.out]; rfl, hbW.trans (hb1.mono hbW.size)⟩
        | true =>
          rw [ha] at AL RM
          rw [Bool.true_and] at RM
          have HR := Lib.hid RM
          clear RM ha
          go_enter Tryz.func109, Tryz.ntmps109
          go_wp2_with (first | (go_at_call 69; refine AL.mono ?_; rintro e w1 ⟨rfl, hb1⟩; obtain ⟨q0, q1, q2⟩ := HK.out w1 hb1) | (go_at_call 68; refine (I _).mono ?_; rintro e w2 ⟨rfl, hb2⟩))
          have hW1 : Below w.heap.size w w1 := hbW.trans (hb1.mono hbW.size)
          have hW2 : Below w.heap.size w w2 := hW1.trans (hb2.mono hW1.size)
          clear hbW hb1 I AL hW1 hb2 q0 q1 q2
          go_loopw [23] (fun iv wr => ∃ (i : Nat), i ≤ m ∧ iv = .int .i64 i ∧ Hid (∀ j, j < i → trightV (xs j) (far - 1) = true) ∧ Below w2.heap.size w2 wr) (fun iv _ => m - (intOf iv).toNat)
          case atStart => exact ⟨0, Nat.zero_le _, rfl, Lib.hid fun j hj => absurd hj (by omega), Below.refl _ _⟩
          case round =>
            obtain ⟨i, hi, rfl, hh, hb⟩ := hrel
            have hfin : Below w.heap.size w wr := hW2.trans (hb.mono hW2.size)
            by_cases hlt : i < m
            · obtain ⟨g, o, rfl, hg, hx⟩ := hB (by omega)
              have hsix := (hx i hlt).keep (w' := wr) fun o => hfin.cell (p := ⟨g, o, none⟩) hg
              have hvr := ((hxs i hlt).stay hfin).mono hfin.size
              have hcall := fun (V : World) (hV : Below wr.heap.size wr V) => ih i (vs i) (far - 1) V ((hvr.stay hV).mono hV.size) (by omega) (by omega)
              obtain ⟨b0, b1, b2, b3, b4, b5, b6, hv0⟩ := (hxs i hlt).four
              rw [hv0] at hsix hcall
              obtain ⟨e0, e1, e2⟩ := hsix.cells
              have hbN : ∀ x, Below wr.heap.size wr (wr.alloc x) := fun x => (Below.refl _ _).alloc (Nat.le_refl _) x
              cases hr : trightV (xs i) (far - 1) with
              | false =>
                have R : Hid (trightV (.mk k c ns m xs) far = false) := Lib.hid (by
                  rw [HR.out, List.all_eq_false]
                  exact ⟨i, List.mem_range.2 hlt, by rw [hr]; simp⟩)
                rw [hr] at hcall
                have HF := Lib.hid hfin
                clear hv0 hsix hvr hx hB ih hxs hns hfin hr hh
                go_wp2_with (go_at_call 109; refine (hcall _ (hbN _)).mono ?_; rintro e w3 ⟨rfl, hb3⟩)
                go_ret
                have h2 := (hbN _).trans (hb3.mono (hbN _).size)
                exact ⟨by rw [R.out]; rfl, HF.out.trans (h2.mono HF.out.size)⟩
              | true =>
                have hN : Hid (∀ j, j < i + 1 → trightV (xs j) (far - 1) = true) := Lib.hid fun j hj => by
                  by_cases e : j = i
                  · subst e; exact hr
                  · exact hh.out j (by omega)
                rw [hr] at hcall
                have HF := Lib.hid hfin
                clear hv0 hsix hvr hx hB ih hxs hns hfin hr hh
                go_wp2_with (go_at_call 109; refine (hcall _ (hbN _)).mono ?_; rintro e w3 ⟨rfl, hb3⟩)
                go_roundw
                case rel => exact ⟨i + 1, by omega, by go_num, hN, hb.trans (((hbN _).trans (hb3.mono (hbN _).size)).mono hb.size)⟩
                case measure => simp [intOf]; omega
            · have R : Hid (trightV (.mk k c ns m xs) far = true) := Lib.hid (by
                rw [HR.out, List.all_eq_true]
                exact fun j hj => hh.out j (by have := List.mem_range.1 hj; omega))
              clear hB hxs ih hns hh
              go_wp2_with fail
              go_ret
              exact ⟨by rw [R.out]; rfl, hfin⟩
theorem tisright_any {t : TT} {v : Array Value} {w : World} (hv : TVal w w.heap.size v t) :
    Calls Tryz.prog 67 #[.agg v, .func (.func 68) #[] #[], .func (.func 69) #[] #[]] w fun e w' => e = .returned (.bool (tokV t)) ∧ Below w.heap.size w w' := by
  have hbW : Below w.heap.size w (w.alloc (.cells v 25)) := (Below.refl _ _).alloc (Nat.le_refl _) _
  have hvW := (hv.stay hbW).mono hbW.size
  have P := tcap_any t v 201 _ hvW (by omega) (by omega)
  have R := fun w' (hb : Below (w.alloc (.cells v 25)).heap.size (w.alloc (.cells v 25)) w') => twithin_any t v 12 w' ((hvW.stay hb).mono hb.size) (by omega) (by omega)
  have hcnt := tcnt_tot hv 0 (by omega) (by omega)
  obtain ⟨a0, a1, a2, rfl⟩ := hv.three
  have HK := box3_stays (w := w) (a0 := a0) (a1 := a1) (a2 := a2) (t := 25)
  have HR := Lib.hid R
  have hok : tokV t = (decide (ttot t ≤ 200) && trightV t 12) := by
    unfold tokV; rw [hcnt]
    congr 1
    rw [decide_eq_decide]
    omega
  rw [hok]
  generalize trightV t 12 = r at *
  clear hv hvW R hcnt hok
  by_cases hp : ttot t ≤ 200
  · have e1 : min (ttot t : Int) 201 = ttot t := by omega
    rw [e1] at P
    generalize ttot t = z at *
    go_enter Tryz.func67, Tryz.ntmps67
    go_wp2_with (first | (go_at_call 108; refine P.mono ?_; rintro e w1 ⟨rfl, hb1⟩; obtain ⟨c0, c1, c2⟩ := HK.out w1 hb1) | (go_at_call 109; refine (HR.out w1 hb1).mono ?_; rintro e w2 ⟨rfl, hb2⟩))
    go_ret
    have hfin := hbW.trans (hb1.mono hbW.size)
    exact ⟨by rw [decide_eq_true hp, Bool.true_and]; rfl, hfin.trans (hb2.mono hfin.size)⟩
  · have e1 : min (ttot t : Int) 201 = 201 := by omega
    rw [e1] at P
    generalize ttot t = z at *
    go_enter Tryz.func67, Tryz.ntmps67
    go_wp2_with (first | (go_at_call 108; refine P.mono ?_; rintro e w1 ⟨rfl, hb1⟩; obtain ⟨c0, c1, c2⟩ := HK.out w1 hb1) | (go_at_call 109; refine (HR.out w1 hb1).mono ?_; rintro e w2 ⟨rfl, hb2⟩))
    go_ret
    have hfin := hbW.trans (hb1.mono hbW.size)
    exact ⟨by rw [decide_eq_false hp, Bool.false_and]; rfl, hfin⟩
theorem typeright_f {t : TT} {v : Array Value} {w : World} (hv : TVal w w.heap.size v t) : Calls Tryz.prog 32 #[.agg v] w fun e w' => e = .returned (.bool (tokV t)) ∧ Below w.heap.size w w' := by
  have hbW : Below w.heap.size w (w.alloc (.cells v 25)) := (Below.refl _ _).alloc (Nat.le_refl _) _
  have P := tisright_any ((hv.stay hbW).mono hbW.size)
  obtain ⟨a0, a1, a2, rfl⟩ := hv.three
  clear hv
  go_enter Tryz.func32, Tryz.ntmps32
  go_wp2_with (go_at_call 67; refine P.mono ?_; rintro e w1 ⟨rfl, hb1⟩)
  go_ret
  exact ⟨rfl, hbW.trans (hb1.mono hbW.size)⟩
end Go.Proofs.YtcmohggnehkjeaaGreat

/-
  Contracts of basculeref04's Name, names.
-/
import Derived.Test.YtcmohggnehkjeaaGreatVr
namespace Go.Proofs.YtcmohggnehkjeaaGreat
open Go.RowKit

def letterB (c : UInt8) : Bool := decide (97 ≤ c.toNat) && decide (c.toNat ≤ 122)
def digitB (c : UInt8) : Bool := decide (48 ≤ c.toNat) && decide (c.toNat ≤ 57)
/-- May this byte stand at this place of a name? -/
def atB (i : Nat) (c : UInt8) : Bool := letterB c || (decide (0 < i) && (digitB c || decide (c.toNat = 95)))
def nameB (s : ByteArray) : Bool := decide (1 ≤ s.size) && decide (s.size ≤ 30) && (List.range s.size).all fun j => atB j (s.data.toList.getD j 0)
theorem nameB_no {s : ByteArray} {k : Nat} (hk : k < s.size) (h : atB k s[k] = false) : nameB s = false := by
  unfold nameB
  have : (List.range s.size).all (fun j => atB j (s.data.toList.getD j 0)) = false := by
    rw [List.all_eq_false]
    refine ⟨k, List.mem_range.2 hk, ?_⟩
    have e : s.data.toList.getD k 0 = s[k] := by
      rw [List.getD_eq_getElem?_getD, List.getElem?_eq_getElem (by simpa using hk)]; rfl
    rw [e, h]; simp
  rw [this, Bool.and_false]
theorem nameB_yes {s : ByteArray} (h1 : 1 ≤ s.size) (h2 : s.size ≤ 30) (h : ∀ j (h : j < s.size), atB j s[j] = true) : nameB s = true := by
  unfold nameB
  rw [decide_eq_true h1, decide_eq_true h2]
  simp only [Bool.true_and, List.all_eq_true]
  intro j hj
  have hj' := List.mem_range.1 hj
  have e : s.data.toList.getD j 0 = s[j] := by
    rw [List.getD_eq_getElem?_getD, List.getElem?_eq_getElem (by simpa using hj')]; rfl
  rw [e]; exact h j hj'

set_option maxHeartbeats 1000000 in
theorem name_any {s : ByteArray} (hs : s.size ≤ 9223372036854775807) (w : World) : Calls Tryz.prog 99 #[.string s] w fun e w' => e = .returned (.bool (nameB s)) ∧ w' = w := by
  by_cases h1 : s.size < 1
  · have R : Hid (nameB s = false) := Lib.hid (by unfold nameB; rw [decide_eq_false (by omega)]; rfl)
    go_enter Tryz.func99, Tryz.ntmps99
    go_wp2
    go_ret
    exact ⟨by rw [R.out]; rfl, rfl⟩
  · by_cases h2 : 30 < s.size
    · have R : Hid (nameB s = false) := Lib.hid (by unfold nameB; rw [decide_eq_false (show ¬ s.size ≤ 30 by omega)]; simp)
      go_enter Tryz.func99, Tryz.ntmps99
      go_wp2
      go_ret
      exact ⟨by rw [R.out]; rfl, rfl⟩
    · go_enter Tryz.func99, Tryz.ntmps99
      go_wp2
      go_loop [3] (fun iv => ∃ k : Nat, k ≤ s.size ∧ iv = .int .i64 k ∧ Hid (∀ j (_ : j < k) (h : j < s.size), atB j s[j] = true)) (fun iv => s.size - (intOf iv).toNat)
      case atStart => exact ⟨0, Nat.zero_le _, rfl, Lib.hid fun j hj _ => absurd hj (by omega)⟩
      case round =>
        obtain ⟨k, hk, rfl, hh⟩ := hrel
        by_cases hlt : k < s.size
        · obtain ⟨c, hc⟩ : ∃ c, s[k] = c := ⟨_, rfl⟩
          have yes : atB k c = true → Hid (∀ j (_ : j < k + 1) (h : j < s.size), atB j s[j] = true) := fun hy => Lib.hid fun j hj h => by
            by_cases e : j = k
            · subst e; rw [hc]; exact hy
            · exact hh.out j (by omega) h
          have no : atB k c = false → Hid (nameB s = false) := fun hn => Lib.hid (nameB_no hlt (by rw [hc]; exact hn))
          clear hh
          by_cases l1 : 97 ≤ c.toNat
          · by_cases l2 : c.toNat ≤ 122
            · have Y := yes (by unfold atB letterB; rw [decide_eq_true l1, decide_eq_true l2]; rfl)
              have t1 : decide ((97 : Int) ≤ (c.toNat : Int)) = true := by simp; omega
              have t2 : decide ((c.toNat : Int) ≤ 122) = true := by simp; omega
              clear yes no
              go_wp2
              go_round
              case rel => exact ⟨k + 1, by omega, by go_num, Y⟩
              case measure => simp [intOf]; omega
            · have N := no (by unfold atB letterB digitB; rw [decide_eq_false l2, decide_eq_false (show ¬ c.toNat ≤ 57 by omega), decide_eq_false (show ¬ c.toNat = 95 by omega)]; simp)
              have n1 : ((c.toNat : Int) != 95) = true := by simp; omega
              have t1 : decide ((97 : Int) ≤ (c.toNat : Int)) = true := by simp; omega
              have t2 : decide ((c.toNat : Int) ≤ 122) = false := by simp; omega
              have t3 : decide ((48 : Int) ≤ (c.toNat : Int)) = true := by simp; omega
              have t4 : decide ((c.toNat : Int) ≤ 57) = false := by simp; omega
              clear yes no
              by_cases k0 : k = 0
              · subst k0
                go_wp2
                go_ret
                exact ⟨by rw [N.out]; rfl, rfl⟩
              · have k1 : ((k : Int) == 0) = false := by simp; omega
                go_wp2
                go_ret
                exact ⟨by rw [N.out]; rfl, rfl⟩
          · by_cases k0 : k = 0
            · have N := no (by unfold atB letterB; rw [decide_eq_false l1, k0]; rfl)
              subst k0
              have t1 : decide ((97 : Int) ≤ (c.toNat : Int)) = false := by simp; omega
              clear yes no
              go_wp2
              go_ret
              exact ⟨by rw [N.out]; rfl, rfl⟩
            · have k1 : ((k : Int) == 0) = false := by simp; omega
              by_cases d1 : 48 ≤ c.toNat
              · by_cases d2 : c.toNat ≤ 57
                · have Y := yes (by unfold atB digitB; rw [decide_eq_true d1, decide_eq_true d2, decide_eq_true (show 0 < k by omega)]; simp)
                  have t1 : decide ((97 : Int) ≤ (c.toNat : Int)) = false := by simp; omega
                  have t3 : decide ((48 : Int) ≤ (c.toNat : Int)) = true := by simp; omega
                  have t4 : decide ((c.toNat : Int) ≤ 57) = true := by simp; omega
                  clear yes no
                  go_wp2
                  go_round
                  case rel => exact ⟨k + 1, by omega, by go_num, Y⟩
                  case measure => simp [intOf]; omega
                · by_cases u : c.toNat = 95
                  · have Y := yes (by unfold atB; rw [decide_eq_true u, decide_eq_true (show 0 < k by omega)]; simp)
                    have n1 : ((c.toNat : Int) != 95) = false := by simp; omega
                    have hu := Lib.hid u
                    have t1 : decide ((97 : Int) ≤ (c.toNat : Int)) = false := by simp; omega
                    have t3 : decide ((48 : Int) ≤ (c.toNat : Int)) = true := by simp; omega
                    have t4 : decide ((c.toNat : Int) ≤ 57) = false := by simp; omega
                    clear yes no u
                    go_wp2
                    go_round
                    case rel => exact ⟨k + 1, by omega, by go_num, Y⟩
                    case measure => simp [intOf]; omega
                  · have N := no (by unfold atB letterB digitB; rw [decide_eq_false l1, decide_eq_false d2, decide_eq_false u]; simp)
                    have n1 : ((c.toNat : Int) != 95) = true := by simp; omega
                    have t1 : decide ((97 : Int) ≤ (c.toNat : Int)) = false := by simp; omega
                    have t3 : decide ((48 : Int) ≤ (c.toNat : Int)) = true := by simp; omega
                    have t4 : decide ((c.toNat : Int) ≤ 57) = false := by simp; omega
                    clear yes no u
                    go_wp2
                    go_ret
                    exact ⟨by rw [N.out]; rfl, rfl⟩
              · have N := no (by unfold atB letterB digitB; rw [decide_eq_false l1, decide_eq_false d1, decide_eq_false (show ¬ c.toNat = 95 by omega)]; simp)
                have n1 : ((c.toNat : Int) != 95) = true := by simp; omega
                have t1 : decide ((97 : Int) ≤ (c.toNat : Int)) = false := by simp; omega
                have t3 : decide ((48 : Int) ≤ (c.toNat : Int)) = false := by simp; omega
                clear yes no
                go_wp2
                go_ret
                exact ⟨by rw [N.out]; rfl, rfl⟩
        · have R : Hid (nameB s = true) := Lib.hid (nameB_yes (by omega) (by omega) fun j h => hh.out j (by omega) h)
          clear hh
          go_wp2
          go_ret
          exact ⟨by rw [R.out]; rfl, rfl⟩

/-! ### Rising names -/
def riseAt (ns : Nat → ByteArray) (i : Nat) : Bool := nameB (ns i) && (decide (i = 0) || lessS (ns (i - 1)) (ns i))
def riseB (c : Nat) (ns : Nat → ByteArray) : Bool := (List.range c).all (riseAt ns)
theorem riseB_no {c : Nat} {ns : Nat → ByteArray} {i : Nat} (hi : i < c) (h : riseAt ns i = false) : riseB c ns = false := by
  unfold riseB
  rw [List.all_eq_false]
  exact ⟨i, List.mem_range.2 hi, by rw [h]; simp⟩
theorem riseB_yes {c : Nat} {ns : Nat → ByteArray} (h : ∀ i, i < c → riseAt ns i = true) : riseB c ns = true := by
  unfold riseB
  rw [List.all_eq_true]
  exact fun i hi => h i (List.mem_range.1 hi)

set_option maxHeartbeats 1000000 in
theorem names_any {A : Option Addr} {c ca : Nat} {ns : Nat → ByteArray} {lim : Nat} {w : World} {n : Int} (h1 : Strs w lim A c ns) (hlim : lim ≤ w.heap.size) (hc : c ≤ 9223372036854775807) :
    Calls Tryz.prog 73 #[.slice A c ca, .int .i64 n] w fun e w' => e = .returned (.bool (riseB c ns && ((c : Int) == n))) ∧ Below w.heap.size w w' := by
  go_enter Tryz.func73, Tryz.ntmps73
  go_wp2_with fail
  go_loopw [5] (fun iv wr => ∃ i : Nat, i ≤ c ∧ iv = .int .i64 i ∧ Hid (∀ j, j < i → riseAt ns j = true) ∧ Below w.heap.size w wr) (fun iv _ => c - (intOf iv).toNat)
  case atStart => exact ⟨0, Nat.zero_le _, rfl, Lib.hid fun j hj => absurd hj (by omega), Below.refl _ _⟩
  case round =>
    obtain ⟨i, hi, rfl, hh, hb⟩ := hrel
    by_cases hlt : i < c
    · obtain ⟨g, o, rfl, hg, hx⟩ := h1 (by omega)
      have x1 : wr.cell? ⟨g, o + i, none⟩ = _ := (hb.cell (p := ⟨g, o + i, none⟩) (show g < _ by omega)).trans (hx i hlt).1
      have T := name_any (s := ns i) (by have := (hx i hlt).2; unfold maxLen at this; exact this)
      have yes : riseAt ns i = true → Hid (∀ j, j < i + 1 → riseAt ns j = true) := fun hy => Lib.hid fun j hj => by
        by_cases e : j = i
        · subst e; exact hy
        · exact hh.out j (by omega)
      have no : riseAt ns i = false → Hid (riseB c ns = false) := fun hn => Lib.hid (riseB_no hlt hn)
      clear hh
      cases hn : nameB (ns i)
      · have N := no (by unfold riseAt; rw [hn]; rfl)
        rw [hn] at T
        clear yes no hx h1 hn
        go_wp2_with fail
        go_quiet ((go_at_call 99; exact Calls.quiet_of_same (T _)))
        go_wp2_with fail
        go_ret
        exact ⟨by rw [N.out]; rfl, below_drewN hb _⟩
      · rw [hn] at T
        by_cases k0 : i = 0
        · have Y := yes (by unfold riseAt; rw [hn, decide_eq_true k0]; rfl)
          subst k0
          have x1z : wr.cell? ⟨g, o, none⟩ = some (.string (ns 0)) := x1
          clear yes no hx h1 hn x1
          go_wp2_with fail
          go_quiet ((go_at_call 99; exact Calls.quiet_of_same (T _)))
          go_wp2_with fail
          go_roundw
          case rel => exact ⟨0 + 1, by omega, by go_num, Y, below_drewN hb _⟩
          case measure => simp [intOf]; omega
        · obtain ⟨p, rfl⟩ : ∃ p, i = p + 1 := ⟨i - 1, by omega⟩
          have x0 : wr.cell? ⟨g, o + p, none⟩ = _ := (hb.cell (p := ⟨g, o + p, none⟩) (show g < _ by omega)).trans (hx p (by omega)).1
          cases hless : Op.bytesLess (ns p).toList (ns (p + 1)).toList
          · have N := no (by unfold riseAt lessS; rw [show p + 1 - 1 = p by omega, hless, decide_eq_false (by omega)]; simp)
            clear yes no hx h1 hn
            go_wp2_with fail
            go_quiet ((go_at_call 99; exact Calls.quiet_of_same (T _)))
            go_wp2_with fail
            go_ret
            exact ⟨by rw [N.out]; rfl, below_drewN hb _⟩
          · have Y := yes (by unfold riseAt lessS; rw [hn, show p + 1 - 1 = p by omega, hless]; simp)
            clear yes no hx h1 hn
            go_wp2_with fail
            go_quiet ((go_at_call 99; exact Calls.quiet_of_same (T _)))
            go_wp2_with fail
            go_roundw
            case rel => exact ⟨p + 1 + 1, by omega, by go_num, Y, below_drewN hb _⟩
            case measure => simp [intOf]; omega
    · have R : Hid (riseB c ns = true) := Lib.hid (riseB_yes fun i h => hh.out i (by omega))
      clear hh h1
      go_wp2_with fail
      go_ret
      exact ⟨by rw [R.out]; rfl, hb⟩
end Go.Proofs.YtcmohggnehkjeaaGreat

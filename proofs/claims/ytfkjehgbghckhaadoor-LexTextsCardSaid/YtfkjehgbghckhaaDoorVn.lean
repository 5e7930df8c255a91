/-
  Contracts of basculeref04's Name, names.
-/
import Derived.Test.YtfkjehgbghckhaaDoorUw
namespace Go.Proofs.YtfkjehgbghckhaaDoor
open Go.RowKit

def letterB (c : UInt8) : Bool := decide (97 ≤ c.toNat) && decide (c.toNat ≤ 122)
def digitB (c : UInt8) : Bool := decide (48 ≤ c.toNat) && decide (c.toNat ≤ 57)
/-- May this byte stand at this place of a name? -/
def atB (i : Nat) (c : UInt8) : Bool := letterB c || (decide (0 < i) && (digitB c || decide (c.toNat = 95)))
def nameB (s : ByteArray) : Bool := decide (1 ≤ s.size) && decide (s.size ≤ 30) && (List.range s.size).all fun j => atB j (s.data.toList.getD j 0)
theorem nameB_no {s : ByteArray} {k : Nat} (hk : k < s.size) (h : atB k s[k] = false) : nameB s = false := by
  unfold nameB
  have : (List.range s.size).all (fun j => atB j (s.data.toList.getD j 0)) = false := by
    rw [List.all_eq_false]
    refine ⟨k, List.mem_range.2 hk, ?_⟩
    have e : s.data.toList.getD k 0 = s[k] := by
      rw [List.getD_eq_getElem?_getD, List.getElem?_eq_getElem (by simpa using hk)]; rfl
    rw [e, h]; simp
  rw [this, Bool.and_false]
theorem nameB_yes {s : ByteArray} (h1 : 1 ≤ s.size) (h2 : s.size ≤ 30) (h : ∀ j (h : j < s.size), atB j s[j] = true) : nameB s = true := by
  unfold nameB
  rw [decide_eq_true h1, decide_eq_true h2]
  simp only [Bool.true_and, List.all_eq_true]
  intro j hj
  have hj' := List.mem_range.1 hj
  have e : s.data.toList.getD j 0 = s[j] := by
    rw [List.getD_eq_getElem?_getD, List.getElem?_eq_getElem (by simpa using hj')]; rfl
  rw [e]; exact h j hj'

set_option maxHeartbeats 1000000 in
theorem name_any {s : ByteArray} (hs : s.size ≤ 9223372036854775807) (w : World) : Calls Tryd.prog 12 #[.string s] w fun e w' => e = .returned (.bool (nameB s)) ∧ w' = w := by
  by_cases h1 : s.size < 1
  · have R : Hid (nameB s = false) := Lib.hid (by unfold nameB; rw [decide_eq_false (by omega)]; rfl)
    go_enter Tryd.func12, Tryd.ntmps12
    go_wp2
    go_ret
    exact ⟨by rw [R.out]; rfl, rfl⟩
  · by_cases h2 : 30 < s.size
    · have R : Hid (nameB s = false) := Lib.hid (by unfold nameB; rw [decide_eq_false (show ¬ s.size ≤ 30 by omega)]; simp)
      go_enter Tryd.func12, Tryd.ntmps12
      go_wp2
      go_ret
      exact ⟨by rw [R.out]; rfl, rfl⟩
    · go_enter Tryd.func12, Tryd.ntmps12
      go_wp2
      go_loop [3] (fun iv => ∃ k : Nat, k ≤ s.size ∧ iv = .int .i64 k ∧ Hid (∀ j (_ : j < k) (h : j < s.size), atB j s[j] = true)) (fun iv => s.size - (intOf iv).toNat)
      case atStart => exact ⟨0, Nat.zero_le _, rfl, Lib.hid fun j hj _ => absurd hj (by omega)⟩
      case round =>
        obtain ⟨k, hk, rfl, hh⟩ := hrel
        by_cases hlt : k < s.size
        · obtain ⟨c, hc⟩ : ∃ c, s[k] = c := ⟨_, rfl⟩
          have yes : atB k c = true → Hid (∀ j (_ : j < k + 1) (h : j < s.size), atB j s[j] = true) := fun hy => Lib.hid fun j hj h => by
            by_cases e : j = k
            · subst e; rw [hc]; exact hy
            · exact hh.out j (by omega) h
          have no : atB k c = false → Hid (nameB s = false) := fun hn => Lib.hid (nameB_no hlt (by rw [hc]; exact hn))
          clear hh
          by_cases l1 : 97 ≤ c.toNat
          · by_cases l2 : c.toNat ≤ 122
            · have Y := yes (by unfold atB letterB; rw [decide_eq_true l1, decide_eq_true l2]; rfl)
              have t1 : decide ((97 : Int) ≤ (c.toNat : Int)) = true := by simp; omega
              have t2 : decide ((c.toNat : Int) ≤ 122) = true := by simp; omega
              clear yes no
              go_wp2
              go_round
              case rel => exact ⟨k + 1, by omega, by go_num, Y⟩
              case measure => simp [intOf]; omega
            · have N := no (by unfold atB letterB digitB; rw [decide_eq_false l2, decide_eq_false (show ¬ c.toNat ≤ 57 by omega), decide_eq_false (show ¬ c.toNat = 95 by omega)]; simp)
              have n1 : ((c.toNat : Int) != 95) = true := by simp; omega
              have t1 : decide ((97 : Int) ≤ (c.toNat : Int)) = true := by simp; omega
              have t2 : decide ((c.toNat : Int) ≤ 122) = false := by simp; omega
              have t3 : decide ((48 : Int) ≤ (c.toNat : Int)) = true := by simp; omega
              have t4 : decide ((c.toNat : Int) ≤ 57) = false := by simp; omega
              clear yes no
              by_cases k0 : k = 0
              · subst k0
                go_wp2
                go_ret
                exact ⟨by rw [N.out]; rfl, rfl⟩
              · have k1 : ((k : Int) == 0) = false := by simp; omega
                go_wp2
                go_ret
                exact ⟨by rw [N.out]; rfl, rfl⟩
          · by_cases k0 : k = 0
            · have N := no (by unfold atB letterB; rw [decide_eq_false l1, k0]; rfl)
              subst k0
              have t1 : decide ((97 : Int) ≤ (c.toNat : Int)) = false := by simp; omega
              clear yes no
              go_wp2
              go_ret
              exact ⟨by rw [N.out]; rfl, rfl⟩
            · have k1 : ((k : Int) == 0) = false := by simp; omega
              by_cases d1 : 48 ≤ c.toNat
              · by_cases d2 : c.toNat ≤ 57
                · have Y := yes (by unfold atB digitB; rw [decide_eq_true d1, decide_eq_true d2, decide_eq_true (show 0 < k by omega)]; simp)
                  have t1 : decide ((97 : Int) ≤ (c.toNat : Int)) = false := by simp; omega
                  have t3 : decide ((48 : Int) ≤ (c.toNat : Int)) = true := by simp; omega
                  have t4 : decide ((c.toNat : Int) ≤ 57) = true := by simp; omega
                  clear yes no
                  go_wp2
                  go_round
                  case rel => exact ⟨k + 1, by omega, by go_num, Y⟩
                  case measure => simp [intOf]; omega
                · by_cases u : c.toNat = 95
                  · have Y := yes (by unfold atB; rw [decide_eq_true u, decide_eq_true (show 0 < k by omega)]; simp)
                    have n1 : ((c.toNat : Int) != 95) = false := by simp; omega
                    have hu := Lib.hid u
                    have t1 : decide ((97 : Int) ≤ (c.toNat : Int)) = false := by simp; omega
                    have t3 : decide ((48 : Int) ≤ (c.toNat : Int)) = true := by simp; omega
                    have t4 : decide ((c.toNat : Int) ≤ 57) = false := by simp; omega
                    clear yes no u
                    go_wp2
                    go_round
                    case rel => exact ⟨k + 1, by omega, by go_num, Y⟩
                    case measure => simp [intOf]; omega
                  · have N := no (by unfold atB letterB digitB; rw [decide_eq_false l1, decide_eq_false d2, decide_eq_false u]; simp)
                    have n1 : ((c.toNat : Int) != 95) = true := by simp; omega
                    have t1 : decide ((97 : Int) ≤ (c.toNat : Int)) = false := by simp; omega
                    have t3 : decide ((48 : Int) ≤ (c.toNat : Int)) = true := by simp; omega
                    have t4 : decide ((c.toNat : Int) ≤ 57) = false := by simp; omega
                    clear yes no u
                    go_wp2
                    go_ret
                    exact ⟨by rw [N.out]; rfl, rfl⟩
              · have N := no (by unfold atB letterB digitB; rw [decide_eq_false l1, decide_eq_false d1, decide_eq_false (show ¬ c.toNat = 95 by omega)]; simp)
                have n1 : ((c.toNat : Int) != 95) = true := by simp; omega
                have t1 : decide ((97 : Int) ≤ (c.toNat : Int)) = false := by simp; omega
                have t3 : decide ((48 : Int) ≤ (c.toNat : Int)) = false := by simp; omega
                clear yes no
                go_wp2
                go_ret
                exact ⟨by rw [N.out]; rfl, rfl⟩
        · have R : Hid (nameB s = true) := Lib.hid (nameB_yes (by omega) (by omega) fun j h => hh.out j (by omega) h)
          clear hh
          go_wp2
          go_ret
          exact ⟨by rw [R.out]; rfl, rfl⟩

end Go.Proofs.YtfkjehgbghckhaaDoor

/-
  Contract of basculeref05's Value, of any right value.
-/
import Derived.Test.YtdmbfajhcihfgaaCw
import Derived.Test.YtdmbfajhcihfgaaPw
namespace Go.Proofs.Ytdmbfajhcihfgaa
open Go.RowKit

theorem wordL_size (b : Nat) : (strL (wordL b 8)).size = 8 := by rw [strL_size, wordL_len]
theorem wt_item {g : Nat → Nat} {m i : Nat} (hi : i < m) : g i ≤ sumTo g m := by
  have h := sumTo_mono g (show i + 1 ≤ m by omega)
  have e : sumTo g (i + 1) = sumTo g i + g i := rfl
  omega
theorem wt_many {g : Nat → Nat} : ∀ m, 20 * m ≤ sumTo (fun i => g i + 20) m := by
  intro m
  induction m with
  | zero => exact Nat.le_refl _
  | succ m ih =>
    have e : sumTo (fun i => g i + 20) (m + 1) = sumTo (fun i => g i + 20) m + (g m + 20) := rfl
    omega
theorem valB_size : ∀ (t : VT) (v : Array Value) (w : World) (lim : Nat), Val w lim v t → wtC t ≤ 1000000000 → (valB t).size ≤ wtC t := by
  intro t
  induction t with
  | bad => intro v w lim hv; cases hv
  | mk k n f s c ns m xs ih =>
    intro v w lim hv hw
    cases hv with
    | mk _ _ _ _ A _ ca B _ cb _ _ vs hk hn hf hs hc hm hns hB hxs =>
      have b1 : ∀ n, (byteB n).size = 1 := fun _ => rfl
      rw [wtC] at hw
      by_cases h4 : k = 1 ∨ k = 2 ∨ k = 3 ∨ k = 4
      · rw [valB, if_pos h4, size_cat, b1, wtC]
        have : (plainC k n f s).size ≤ 10 + s.size := by
          unfold plainC
          split
          · rw [b1]; omega
          · split
            · rw [strL_size]
              have := uintL_len10 (zig_lt hn)
              omega
            · split
              · rw [wordL_size]; omega
              · have := strB_size (t := s) (by omega)
                omega
        omega
      · rw [valB, if_neg h4, wtC]
        have hW : ∀ i, i < m → (valB (xs i)).size ≤ wtC (xs i) := fun i hi => by
          have h := wt_item (g := fun i => wtC (xs i) + (nz k ns i).size + 20) hi
          exact ih i (vs i) w lim (hxs i hi) (by omega)
        have hN : ∀ i, i < m → (nz k ns i).size ≤ 1000000000 := fun i hi => by
          have h := wt_item (g := fun i => wtC (xs i) + (nz k ns i).size + 20) hi
          omega
        have hm9 : 20 * m ≤ sumTo (fun i => wtC (xs i) + (nz k ns i).size + 20) m := wt_many (g := fun i => wtC (xs i) + (nz k ns i).size) m
        have h := joinC_size (byteB k.toNat ++ strL (uintL m)) k (nz k ns) (fun i => valB (xs i)) (fun i => wtC (xs i)) m hW hN m (Nat.le_refl _)
        have hl := uintL_len10 (n := m) (by omega)
        rw [size_cat, b1, strL_size] at h
        omega
theorem bytes_ref : ∀ (t : VT) (v : Array Value) (w : World), Val w w.heap.size v t → (∃ a, rightV t a = true) → wtC t ≤ 1000000000 →
    Calls Try.prog 15 #[.agg v] w fun e w' => e = .returned (.string (valB t)) ∧ Below w.heap.size w w' := by
  intro t
  induction t with
  | bad => intro v w hv; cases hv
  | mk k n f s c ns m xs ih =>
    intro v w hv hr hw
    obtain ⟨a, hr⟩ := hr
    rw [rightV, Bool.and_eq_true] at hr
    obtain ⟨_, hr⟩ := hr
    have hw0 := hw
    rw [wtC] at hw
    cases hv with
    | mk _ _ _ _ A _ ca B _ cb _ _ vs hk hn hf hs hc hm hns hB hxs =>
      have hcx : c ≤ 9223372036854775807 := by have := hc; unfold maxLen at this; omega
      have hW : ∀ i, i < m → (valB (xs i)).size ≤ wtC (xs i) := fun i hi => by
        have h := wt_item (g := fun i => wtC (xs i) + (nz k ns i).size + 20) hi
        exact valB_size (xs i) (vs i) w _ (hxs i hi) (by omega)
      have hN : ∀ i, i < m → (nz k ns i).size ≤ 1000000000 := fun i hi => by
        have h := wt_item (g := fun i => wtC (xs i) + (nz k ns i).size + 20) hi
        omega
      have hm9 : 20 * m ≤ sumTo (fun i => wtC (xs i) + (nz k ns i).size + 20) m := wt_many (g := fun i => wtC (xs i) + (nz k ns i).size) m
      by_cases h56 : k = 5 ∨ k = 6
      · rw [if_pos h56, Bool.and_eq_true] at hr
        obtain ⟨hh, hall⟩ := hr
        have hitem : ∀ i, i < m → rightV (xs i) (a - 1) = true := fun i hi => List.all_eq_true.1 hall i (List.mem_range.2 hi)
        have ih' : ∀ (i : Nat), i < m → ∀ (v : Array Value) (w : World), Val w w.heap.size v (xs i) → Calls Try.prog 15 #[.agg v] w fun e w' => e = .returned (.string (valB (xs i))) ∧ Below w.heap.size w w' := fun i hi v w hv => by
          have h := wt_item (g := fun i => wtC (xs i) + (nz k ns i).size + 20) hi
          exact ih i v w hv ⟨_, hitem i hi⟩ (by omega)
        rw [valB, if_neg (by omega)]
        rcases h56 with rfl | rfl
        · exact value_5 (ns := nz 5 ns) (by omega) hN hW (by omega) hB hxs ih'
        · have hcm : m ≤ c := by
            unfold headB at hh
            simp at hh
            omega
          simp only [nz_6] at hN hw hm9 ⊢
          exact value_6 (by omega) hns hcm hcx hN hW (by omega) hB hxs ih'
      · rw [if_neg h56] at hr
        unfold plainB at hr
        by_cases k1 : k = 1
        · subst k1
          rw [if_pos rfl] at hr
          rw [valB, if_pos (by omega)]
          exact value_1 (by simp at hr; omega)
        rw [if_neg k1] at hr
        by_cases k2 : k = 2
        · subst k2
          rw [valB, if_pos (by omega)]
          exact value_2 hn
        rw [if_neg k2] at hr
        by_cases k3 : k = 3
        · subst k3
          rw [valB, if_pos (by omega)]
          exact value_3
        rw [if_neg k3] at hr
        by_cases k4 : k = 4
        · subst k4
          rw [valB, if_pos (by omega)]
          rw [if_pos rfl] at hr
          simp at hr
          exact value_4 (by omega)
        rw [if_neg k4] at hr
        exact absurd hr (by decide)
/-- A right value takes few bytes. -/
theorem wt_right : ∀ (t : VT) (a : Int), rightV t a = true → wtC t + 50 ≤ 650 * tot t := by
  intro t
  induction t with
  | bad => intro a h; simp [rightV] at h
  | mk k n f s c ns m xs ih =>
    intro a hr
    rw [rightV, Bool.and_eq_true] at hr
    obtain ⟨_, hr⟩ := hr
    have emp : ∀ s, emptyB s = true → s.size = 0 := fun s h => by
      unfold emptyB at h
      rw [ByteArray.toList_eq] at h
      have h' : s.data = #[] := by simpa using h
      show s.data.size = 0
      rw [h']; rfl
    rw [wtC, tot]
    by_cases h56 : k = 5 ∨ k = 6
    · rw [if_pos h56, Bool.and_eq_true] at hr
      obtain ⟨hh, hall⟩ := hr
      have hitem : ∀ i, i < m → wtC (xs i) + 50 ≤ 650 * tot (xs i) := fun i hi => ih i _ (List.all_eq_true.1 hall i (List.mem_range.2 hi))
      have htot : ∀ i, i < m → 1 ≤ tot (xs i) := fun i hi => by
        have h := List.all_eq_true.1 hall i (List.mem_range.2 hi)
        cases e : xs i with
        | bad => simp only [e, rightV] at h; exact absurd h (by decide)
        | mk => rw [tot]; omega
      unfold headB at hh
      simp only [Bool.and_eq_true] at hh
      have hs0 := emp s hh.2.2.1
      have hnm : ∀ i, i < m → (nz k ns i).size ≤ 30 := fun i hi => by
        unfold nz
        split
        · rename_i k6
          subst k6
          have h4 := hh.2.2.2
          rw [if_neg (by decide), Bool.and_eq_true] at h4
          have hc : (c : Int) = m := by simpa using h4.2
          have h5 := List.all_eq_true.1 h4.1 i (List.mem_range.2 (by omega))
          unfold riseAt nameB at h5
          simp at h5
          omega
        · exact Nat.zero_le _
      have hsum : ∀ j, j ≤ m → sumTo (fun i => wtC (xs i) + (nz k ns i).size + 20) j ≤ 650 * sumN (fun i => tot (xs i)) j := by
        intro j
        induction j with
        | zero => intro _; exact Nat.zero_le _
        | succ j ihj =>
          intro hj
          have h1 := ihj (by omega)
          have h2 := hitem j (by omega)
          have h3 := hnm j (by omega)
          have h4 := htot j (by omega)
          have e1 : sumTo (fun i => wtC (xs i) + (nz k ns i).size + 20) (j + 1) = sumTo (fun i => wtC (xs i) + (nz k ns i).size + 20) j + (wtC (xs j) + (nz k ns j).size + 20) := rfl
          have e2 : sumN (fun i => tot (xs i)) (j + 1) = sumN (fun i => tot (xs i)) j + tot (xs j) := rfl
          rw [e1, e2]
          omega
      have := hsum m (Nat.le_refl _)
      omega
    · rw [if_neg h56] at hr
      obtain rfl := plain_none hr
      have e0 : sumTo (fun i => wtC (xs i) + (nz k ns i).size + 20) 0 = 0 := rfl
      have hs : s.size ≤ 200 := by
        unfold plainB at hr
        split at hr
        · simp only [Bool.and_eq_true] at hr
          rw [emp s hr.2.2.2.1]; omega
        · split at hr
          · simp only [Bool.and_eq_true] at hr
            rw [emp s hr.2.2.2]; omega
          · split at hr
            · simp only [Bool.and_eq_true] at hr
              rw [emp s hr.2.2.2]; omega
            · split at hr
              · simp only [Bool.and_eq_true] at hr
                simpa using hr.2.2.2.2
              · exact absurd hr (by decide)
      omega
end Go.Proofs.Ytdmbfajhcihfgaa

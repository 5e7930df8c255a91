/-
  The plain mathematics: the program's bits and the document's table say one order.
-/
import Derived.Test.YtmnbalmihehodaaRest
namespace Go.Proofs.Ytmnbalmihehodaa

theorem bt_bit (k y : Nat) : (bt k).testBit y = decide (k = y) := by
  unfold bt
  rw [Nat.testBit_two_pow]

theorem upd_at (A : Nat → Nat) (i v j : Nat) : upd A i v j = if j = i then v else A j := rfl

/-! ### The bits -/

theorem iniK_bit (k x y : Nat) : (iniK k x).testBit y = (decide (x < k) && decide (x = y)) := by
  induction k with
  | zero => simp [iniK]
  | succ k ih =>
    rw [iniK, upd_at]
    by_cases e : x = k
    · subst e; simp [bt_bit]
    · rw [if_neg e, ih]
      have : decide (x < k + 1) = decide (x < k) := by simp; omega
      rw [this]

theorem idK_at (k x y : Nat) : idK k x y = (decide (x < k) && decide (x = y)) := by
  induction k with
  | zero => simp [idK]
  | succ k ih =>
    rw [idK]
    unfold setL
    by_cases e : x = k ∧ y = k
    · obtain ⟨rfl, rfl⟩ := e; simp
    · rw [if_neg e, ih]
      rw [Bool.eq_iff_iff]
      simp
      omega

theorem prsK_bit (p q : Nat → Int) (R : Nat → Nat) (L : Nat → Nat → Bool) (h : ∀ x y, (R x).testBit y = L x y) (k x y : Nat) : (prsK p q R k x).testBit y = prL p q L k x y := by
  induction k generalizing x y with
  | zero => exact h x y
  | succ k ih =>
    rw [prsK, prL, upd_at]
    unfold setL
    by_cases e : x = (p k).toNat
    · rw [if_pos e, Nat.testBit_or, bt_bit, ih, e]
      by_cases e2 : y = (q k).toNat
      · simp [e2]
      · have : ¬ (q k).toNat = y := fun h => e2 h.symm
        simp [e2, this]
    · rw [if_neg e, if_neg (fun hh => e hh.1), ih]

/-- One round of Warshall's, as the sets have it. -/
theorem warIn_bit (m : Nat) (R : Nat → Nat) (k x y : Nat) : (warIn m R k x).testBit y = if x < k then ((R x).testBit y || ((R x).testBit m && (R m).testBit y)) else (R x).testBit y := by
  induction k generalizing x y with
  | zero => simp [warIn]
  | succ k ih =>
    have hk : ∀ z, (warIn m R k k).testBit z = (R k).testBit z := fun z => by rw [ih, if_neg (Nat.lt_irrefl k)]
    have hm : ∀ z, (warIn m R k m).testBit z = (R m).testBit z := fun z => by
      rw [ih]
      split
      · cases (R m).testBit m <;> cases (R m).testBit z <;> rfl
      · rfl
    have hstep : (warIn m R (k + 1) x).testBit y = if x = k then ((R k).testBit y || ((R k).testBit m && (R m).testBit y)) else (warIn m R k x).testBit y := by
      rw [warIn, hk]
      cases hb : (R k).testBit m
      · by_cases e : x = k
        · subst e; simp [hk]
        · simp [e]
      · simp only [if_true, upd_at]
        by_cases e : x = k
        · rw [if_pos e, if_pos e, Nat.testBit_or, hk, hm]; simp
        · rw [if_neg e, if_neg e]
    rw [hstep]
    by_cases e : x = k
    · subst e; simp
    · rw [if_neg e, ih]
      by_cases h1 : x < k
      · rw [if_pos h1, if_pos (by omega)]
      · rw [if_neg h1, if_neg (by omega)]

/-- Warshall's rounds as a table. -/
def wk (L : Nat → Nat → Bool) : Nat → (Nat → Nat → Bool)
  | 0 => L
  | m + 1 => fun x y => wk L m x y || (wk L m x m && wk L m m y)

theorem warK_bit (n : Nat) (R : Nat → Nat) (L : Nat → Nat → Bool) (h : ∀ x y, (R x).testBit y = L x y) (m : Nat) (hm : m ≤ n) (x y : Nat) (hx : x < n) : (warK n R m x).testBit y = wk L m x y := by
  induction m generalizing x y with
  | zero => exact h x y
  | succ m ih =>
    rw [warK, warIn_bit, if_pos hx, ih (by omega) x y hx, ih (by omega) x m hx, ih (by omega) m y (by omega)]
    rfl

theorem wk_trans (L : Nat → Nat → Bool) (m x y z : Nat) (hy : y < m) (h1 : wk L m x y = true) (h2 : wk L m y z = true) : wk L m x z = true := by
  induction m generalizing x y z with
  | zero => omega
  | succ m ih =>
    simp only [wk, Bool.or_eq_true, Bool.and_eq_true] at h1 h2 ⊢
    by_cases e : y = m
    · subst e
      have a : wk L y x y = true := by rcases h1 with h | h; exact h; exact h.1
      have b : wk L y y z = true := by rcases h2 with h | h; exact h; exact h.2
      exact .inr ⟨a, b⟩
    · have hy' : y < m := by omega
      rcases h1 with h1 | ⟨h1, h1'⟩
      · rcases h2 with h2 | ⟨h2, h2'⟩
        · exact .inl (ih x y z hy' h1 h2)
        · exact .inr ⟨ih x y m hy' h1 h2, h2'⟩
      · rcases h2 with h2 | ⟨h2, h2'⟩
        · exact .inr ⟨h1, ih m y z hy' h1' h2⟩
        · exact .inr ⟨h1, h2'⟩

theorem wk_base (L : Nat → Nat → Bool) (m x y : Nat) (h : L x y = true) : wk L m x y = true := by
  induction m with
  | zero => exact h
  | succ m ih => simp only [wk, ih, Bool.true_or]

/-- What is transitive and holds the pairs holds what Warshall's rounds have. -/
theorem wk_least (n : Nat) (L T : Nat → Nat → Bool) (hL : ∀ x y, L x y = true → T x y = true) (hT : ∀ x y z, y < n → T x y = true → T y z = true → T x z = true) (m : Nat) (hm : m ≤ n) (x y : Nat) (h : wk L m x y = true) : T x y = true := by
  induction m generalizing x y with
  | zero => exact hL x y h
  | succ m ih =>
    simp only [wk, Bool.or_eq_true, Bool.and_eq_true] at h
    rcases h with h | ⟨h1, h2⟩
    · exact ih (by omega) x y h
    · exact hT x m y (by omega) (ih (by omega) x m h1) (ih (by omega) m y h2)

/-! ### The document's close -/

theorem setL_mono {L : Nat → Nat → Bool} {a c x y : Nat} (h : L x y = true) : setL L a c x y = true := by
  unfold setL; split; rfl; exact h
theorem clIn_mono (L : Nat → Nat → Bool) (a b k x y : Nat) (h : L x y = true) : clIn L a b k x y = true := by
  induction k with
  | zero => exact h
  | succ k ih =>
    rw [clIn]
    split
    · exact setL_mono ih
    · exact ih
theorem clIn_step (L : Nat → Nat → Bool) (a b k c : Nat) (hc : c < k) (h1 : L a b = true) (h2 : L b c = true) : clIn L a b k a c = true := by
  induction k with
  | zero => omega
  | succ k ih =>
    rw [clIn]
    by_cases e : c = k
    · subst e
      rw [clIn_mono L a b c a b h1, clIn_mono L a b c b c h2]
      simp [setL]
    · have := ih (by omega)
      split
      · exact setL_mono this
      · exact this
theorem clIn_sound (L T : Nat → Nat → Bool) (hL : ∀ x y, L x y = true → T x y = true) (n : Nat) (hT : ∀ x y z, y < n → T x y = true → T y z = true → T x z = true) (a b : Nat) (hb : b < n) (k x y : Nat)
    (h : clIn L a b k x y = true) : T x y = true := by
  induction k generalizing x y with
  | zero => exact hL x y h
  | succ k ih =>
    rw [clIn] at h
    split at h
    · rename_i hc
      simp only [Bool.and_eq_true] at hc
      unfold setL at h
      split at h
      · rename_i e
        rw [e.1, e.2]
        exact hT a b k hb (ih a b hc.1) (ih b k hc.2)
      · exact ih x y h
    · exact ih x y h

theorem clB_mono (n : Nat) (L : Nat → Nat → Bool) (a k x y : Nat) (h : L x y = true) : clB n L a k x y = true := by
  induction k with
  | zero => exact h
  | succ k ih => exact clIn_mono _ _ _ _ _ _ ih
theorem clB_step (n : Nat) (L : Nat → Nat → Bool) (a k b c : Nat) (hb : b < k) (hc : c < n) (h1 : L a b = true) (h2 : L b c = true) : clB n L a k a c = true := by
  induction k with
  | zero => omega
  | succ k ih =>
    rw [clB]
    by_cases e : b = k
    · subst e
      exact clIn_step _ _ _ _ _ hc (clB_mono n L a b a b h1) (clB_mono n L a b b c h2)
    · exact clIn_mono _ _ _ _ _ _ (ih (by omega))
theorem clB_sound (n : Nat) (L T : Nat → Nat → Bool) (hL : ∀ x y, L x y = true → T x y = true) (hT : ∀ x y z, y < n → T x y = true → T y z = true → T x z = true) (a k : Nat) (hk : k ≤ n) (x y : Nat)
    (h : clB n L a k x y = true) : T x y = true := by
  induction k generalizing x y with
  | zero => exact hL x y h
  | succ k ih => exact clIn_sound _ T (fun x y => ih (by omega) x y) n hT a k (by omega) n x y h

theorem clA_mono (n : Nat) (L : Nat → Nat → Bool) (k x y : Nat) (h : L x y = true) : clA n L k x y = true := by
  induction k with
  | zero => exact h
  | succ k ih => exact clB_mono _ _ _ _ _ _ ih
theorem clA_step (n : Nat) (L : Nat → Nat → Bool) (k a b c : Nat) (ha : a < k) (hb : b < n) (hc : c < n) (h1 : L a b = true) (h2 : L b c = true) : clA n L k a c = true := by
  induction k with
  | zero => omega
  | succ k ih =>
    rw [clA]
    by_cases e : a = k
    · subst e
      exact clB_step _ _ _ _ _ _ hb hc (clA_mono n L a a b h1) (clA_mono n L a b c h2)
    · exact clB_mono _ _ _ _ _ _ (ih (by omega))
theorem clA_sound (n : Nat) (L T : Nat → Nat → Bool) (hL : ∀ x y, L x y = true → T x y = true) (hT : ∀ x y z, y < n → T x y = true → T y z = true → T x z = true) (k : Nat) (x y : Nat)
    (h : clA n L k x y = true) : T x y = true := by
  induction k generalizing x y with
  | zero => exact hL x y h
  | succ k ih => exact clB_sound n _ T (fun x y => ih x y) hT k n (Nat.le_refl n) x y h

theorem clR_mono (n : Nat) (L : Nat → Nat → Bool) (r s x y : Nat) (hrs : r ≤ s) (h : clR n L r x y = true) : clR n L s x y = true := by
  induction s with
  | zero => rw [Nat.le_zero.1 hrs] at h; exact h
  | succ s ih =>
    by_cases e : r = s + 1
    · rw [e] at h; exact h
    · exact clA_mono _ _ _ _ _ (ih (by omega))
theorem clR_sound (n : Nat) (L T : Nat → Nat → Bool) (hL : ∀ x y, L x y = true → T x y = true) (hT : ∀ x y z, y < n → T x y = true → T y z = true → T x z = true) (r x y : Nat)
    (h : clR n L r x y = true) : T x y = true := by
  induction r generalizing x y with
  | zero => exact hL x y h
  | succ r ih => exact clA_sound n _ T (fun x y => ih x y) hT n x y h

/-- So many rounds of close have what so many of Warshall's have. -/
theorem wk_le_clR (n : Nat) (L : Nat → Nat → Bool) (m : Nat) (hm : m ≤ n) (x y : Nat) (hx : x < n) (hy : y < n) (h : wk L m x y = true) : clR n L m x y = true := by
  induction m generalizing x y with
  | zero => exact h
  | succ m ih =>
    simp only [wk, Bool.or_eq_true, Bool.and_eq_true] at h
    rcases h with h | ⟨h1, h2⟩
    · exact clA_mono _ _ _ _ _ (ih (by omega) x y hx hy h)
    · exact clA_step n _ n x m y hx (by omega) hy (ih (by omega) x m hx (by omega) h1) (ih (by omega) m y (by omega) hy h2)

/-- Both closings are one. -/
theorem close_one (n : Nat) (hn : n ≤ 8) (L : Nat → Nat → Bool) (x y : Nat) (hx : x < n) (hy : y < n) : wk L n x y = clR n L 8 x y := by
  rw [Bool.eq_iff_iff]
  constructor
  · intro h
    exact clR_mono n L n 8 x y hn (wk_le_clR n L n (Nat.le_refl n) x y hx hy h)
  · intro h
    exact clR_sound n L (wk L n) (fun x y h => wk_base L n x y h) (fun x y z hy h1 h2 => wk_trans L n x y z hy h1 h2) 8 x y h

/-- Where the pairs are of labels, so is all that close makes of them. -/
theorem wk_dom (n : Nat) (L : Nat → Nat → Bool) (hL : ∀ x y, L x y = true → y < n) (m x y : Nat) (h : wk L m x y = true) : y < n := by
  induction m generalizing x y with
  | zero => exact hL x y h
  | succ m ih =>
    simp only [wk, Bool.or_eq_true, Bool.and_eq_true] at h
    rcases h with h | ⟨_, h2⟩
    · exact ih x y h
    · exact ih m y h2
end Go.Proofs.Ytmnbalmihehodaa

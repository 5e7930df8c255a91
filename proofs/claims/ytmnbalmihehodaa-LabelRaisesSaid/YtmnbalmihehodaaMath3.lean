/-
  The plain mathematics, on: what Make has is what the document has; ends, near labels, and the laws of joins.
-/
import Derived.Test.YtmnbalmihehodaaMath2
namespace Go.Proofs.Ytmnbalmihehodaa

theorem prL_dom {p q : Nat → Int} {n k : Nat} (hq : ∀ i, i < k → (q i).toNat < n) (x y : Nat) (h : prL p q (idK n) k x y = true) : y < n := by
  induction k generalizing x y with
  | zero =>
    rw [prL, idK_at] at h
    simp at h
    omega
  | succ k ih =>
    rw [prL] at h
    unfold setL at h
    split at h
    · rename_i e; rw [e.2]; exact hq k (by omega)
    · exact ih (fun i hi => hq i (by omega)) x y h
theorem prL_refl (p q : Nat → Int) (n k x : Nat) (hx : x < n) : prL p q (idK n) k x x = true := by
  induction k with
  | zero => rw [prL, idK_at]; simp [hx]
  | succ k ih => rw [prL]; exact setL_mono ih
theorem prL_pair (p q : Nat → Int) (L : Nat → Nat → Bool) (k i : Nat) (hi : i < k) : prL p q L k (p i).toNat (q i).toNat = true := by
  induction k with
  | zero => omega
  | succ k ih =>
    rw [prL]
    by_cases e : i = k
    · subst e; simp [setL]
    · exact setL_mono (ih (by omega))

theorem rcl_trans {n len : Nat} {p q : Nat → Int} (hn : n ≤ 8) (x y z : Nat) (hx : x < n) (hy : y < n) (hz : z < n) (h1 : rcl n len p q x y = true) (h2 : rcl n len p q y z = true) : rcl n len p q x z = true := by
  unfold rcl at *
  rw [← close_one n hn _ _ _ hx hy] at h1
  rw [← close_one n hn _ _ _ hy hz] at h2
  rw [← close_one n hn _ _ _ hx hz]
  exact wk_trans _ n x y z hy h1 h2
theorem rcl_base {n len : Nat} {p q : Nat → Int} (x y : Nat) (h : prL p q (idK n) len x y = true) : rcl n len p q x y = true := clR_mono n _ 0 8 x y (by omega) h

theorem closed_rel {n len : Nat} {p q : Nat → Int} (hn : n ≤ 8) (hok : okK n p q len = true) : Rel n (closed n len p q) (rcl n len p q) := by
  refine ⟨fun x y hx => ?_, fun x hx => rcl_base x x (prL_refl p q n len x hx), fun x y z hx hy hz => rcl_trans hn x y z hx hy hz⟩
  unfold closed
  rw [warK_bit n _ (prL p q (idK n) len) (fun x y => prsK_bit p q (iniK n) (idK n) (fun x y => by rw [iniK_bit, idK_at]) len x y) n (Nat.le_refl n) x y hx]
  by_cases hy : y < n
  · simp only [hy, decide_true, Bool.true_and]
    exact close_one n hn _ x y hx hy
  · simp only [hy, decide_false, Bool.false_and]
    cases h : wk (prL p q (idK n) len) n x y
    · rfl
    · exact absurd (wk_dom n _ (fun x y h => prL_dom (fun i hi => by have := okK_at hok hi; omega) x y h) n x y h) hy

/-- What Make has, where it has anything. -/
theorem mk_rel {n : Int} {len : Nat} {p q : Nat → Int} (h : mbo n len p q = true) :
    Rel n.toNat (mkA n len p q) (rcl n.toNat len p q) ∧ Rel n.toNat (mkB n len p q) (flip (rcl n.toNat len p q)) := by
  obtain ⟨h1, h2, _, h4⟩ := mbo_iff h
  obtain ⟨k, rfl⟩ := Int.eq_ofNat_of_zero_le (show 0 ≤ n by omega)
  have hr : Rel k (closed k len p q) (rcl k len p q) := closed_rel (by omega) h4
  refine ⟨hr, hr.flip fun x y hx => ?_⟩
  show (turnK k (closed k len p q) k x).testBit y = _
  rw [turnK_bit]
  by_cases hy : y < k
  · rw [hr.bit y x hy]; simp [hx, hy]
  · simp [hy]

theorem mkL_iff {n : Int} {len : Nat} {p q : Nat → Int} (h : mbo n len p q = true) : mkL n len p q = true ↔ IsLat n.toNat (rcl n.toNat len p q) :=
  lat_iff (mk_rel h).1 (mk_rel h).2

theorem mkL_eq {n : Int} {len : Nat} {p q : Nat → Int} (h : mbo n len p q = true) : mkL n len p q = rlatK n.toNat (rcl n.toNat len p q) n.toNat := by
  rw [Bool.eq_iff_iff, mkL_iff h, rlat_iff (mk_rel h).1]

/-! ### Ends -/
section
variable {n : Nat} {L : Nat → Nat → Bool}

theorem IsLat.dual (h : IsLat n L) : IsLat n (flip L) :=
  ⟨h.refl, fun x y z hx hy hz h1 h2 => h.trans z y x hz hy hx h2 h1, fun x y hx hy h1 h2 => h.anti x y hx hy h2 h1, h.meet, h.join⟩

/-- The document's top (of the order turned round: its bottom) is at or above all. -/
theorem IsLat.rb_top (h : IsLat n L) (hn : 1 ≤ n) (k : Nat) (hk : k < n) : ∀ j, j ≤ k → L j (rbF n L k) = true := by
  induction k with
  | zero =>
    intro j hj
    rw [Nat.le_zero.1 hj]
    exact h.refl 0 hk
  | succ k ih =>
    intro j hj
    have hx := rbF_lt (L := L) hn k
    obtain ⟨c, hc⟩ := Option.isSome_iff_exists.1 (h.join (rbF n L k) (k + 1) hx hk)
    obtain ⟨hcn, hci⟩ := rJ_is hc
    obtain ⟨c1, c2, _⟩ := isJ_iff.1 hci
    rw [rbF, hc]
    show L j c = true
    by_cases e : j = k + 1
    · rw [e]; exact c2
    · exact h.trans j _ c (by omega) hx hcn (ih (by omega) j (by omega)) c1

theorem rleq_nat (n : Nat) (L : Nat → Nat → Bool) (a b : Nat) (ha : a < n) (hb : b < n) : rleq n L a b = L a b := by
  have i1 : isL n (a : Int) = true := isL_iff.2 ⟨by omega, by omega⟩
  have i2 : isL n (b : Int) = true := isL_iff.2 ⟨by omega, by omega⟩
  simp [rleq, i1, i2]

theorem topK_eq {A : Nat → Nat} (hr : Rel n A L) (h : IsLat n L) (hn : 1 ≤ n) : topK n A n = rbF n L (n - 1) := by
  have hz := rbF_lt (L := L) hn (n - 1)
  have htop := h.rb_top hn (n - 1) (by omega)
  generalize rbF n L (n - 1) = z at *
  have hlt : ∀ k, k ≤ n → topK n A k < n := by
    intro k
    induction k with
    | zero => intro _; simp [topK]; omega
    | succ k ih =>
      intro hk
      rw [topK]
      split
      · omega
      · exact ih (by omega)
  have key : ∀ k, k ≤ n → z < k → topK n A k = z := by
    intro k
    induction k with
    | zero => intro _ h0; omega
    | succ k ih =>
      intro hk hzk
      have hl := hlt k (by omega)
      rw [topK, hr.leq_eq, rleq_nat n L _ k hl (by omega)]
      by_cases e : z = k
      · subst e
        rw [htop (topK n A z) (by omega)]
        rfl
      · rw [ih (by omega) (by omega)]
        cases hc : L z k
        · rfl
        · exact absurd (h.anti z k hz (by omega) hc (htop k (by omega))) e
  exact key n (Nat.le_refl n) hz

theorem botK_eq {A : Nat → Nat} (hr : Rel n A L) (h : IsLat n L) (hn : 1 ≤ n) : botK n A n = rbF n (flip L) (n - 1) := by
  have hz := rbF_lt (L := flip L) hn (n - 1)
  have hbot := h.dual.rb_top hn (n - 1) (by omega)
  generalize rbF n (flip L) (n - 1) = z at *
  have hbot' : ∀ j, j ≤ n - 1 → L z j = true := hbot
  have hlt : ∀ k, k ≤ n → botK n A k < n := by
    intro k
    induction k with
    | zero => intro _; simp [botK]; omega
    | succ k ih =>
      intro hk
      rw [botK]
      split
      · omega
      · exact ih (by omega)
  have key : ∀ k, k ≤ n → z < k → botK n A k = z := by
    intro k
    induction k with
    | zero => intro _ h0; omega
    | succ k ih =>
      intro hk hzk
      have hl := hlt k (by omega)
      rw [botK, hr.leq_eq, rleq_nat n L k _ (by omega) hl]
      by_cases e : z = k
      · subst e
        rw [hbot' (botK n A z) (by omega)]
        rfl
      · rw [ih (by omega) (by omega)]
        cases hc : L k z
        · rfl
        · exact absurd (h.anti k z (by omega) hz hc (hbot' k (by omega))) (fun e' => e e'.symm)
  exact key n (Nat.le_refl n) hz

/-! ### Near labels -/
theorem filter_more (P Q : Nat → Bool) (n : Nat) : ∀ m, n ≤ m → (∀ i, i < n → P i = Q i) → (∀ i, n ≤ i → i < m → P i = false) → (List.range m).filter P = (List.range n).filter Q := by
  intro m
  induction m with
  | zero => intro h _ _; rw [Nat.le_zero.1 h]; rfl
  | succ m ih =>
    intro h h1 h2
    by_cases e : n = m + 1
    · subst e
      exact List.filter_congr fun i hi => h1 i (List.mem_range.1 hi)
    · rw [List.range_succ, List.filter_append, ih (by omega) h1 fun i hi hm => h2 i hi (by omega)]
      simp [h2 m (by omega) (by omega)]

theorem near_up {A : Nat → Nat} (hr : Rel n A L) (h8 : n ≤ 8) (a : Int) (ha : isL n a = true) : mem (A a.toNat) 8 = nearK n L a true n := by
  have h1 := isL_iff.1 ha
  unfold mem nearK
  refine filter_more _ _ n 8 h8 (fun i hi => ?_) (fun i hi _ => ?_)
  · have i2 : isL n (i : Int) = true := isL_iff.2 ⟨by omega, by omega⟩
    rw [hr.bit _ _ (by omega)]
    simp [rleq, ha, i2, hi]
  · rw [hr.bit _ _ (by omega)]
    have : ¬ i < n := by omega
    simp [this]
theorem near_down {B : Nat → Nat} (hr : Rel n B (flip L)) (h8 : n ≤ 8) (a : Int) (ha : isL n a = true) : mem (B a.toNat) 8 = nearK n L a false n := by
  have h1 := isL_iff.1 ha
  unfold mem nearK
  refine filter_more _ _ n 8 h8 (fun i hi => ?_) (fun i hi _ => ?_)
  · have i2 : isL n (i : Int) = true := isL_iff.2 ⟨by omega, by omega⟩
    rw [hr.bit _ _ (by omega)]
    simp [rleq, ha, i2, hi, flip]
  · rw [hr.bit _ _ (by omega)]
    have : ¬ i < n := by omega
    simp [this]
theorem near_none (a : Int) (up : Bool) (ha : isL n a = false) (k : Nat) : nearK n L a up k = [] := by
  unfold nearK
  rw [List.filter_eq_nil_iff]
  intro i _
  simp [rleq, ha]
end
end Go.Proofs.Ytmnbalmihehodaa

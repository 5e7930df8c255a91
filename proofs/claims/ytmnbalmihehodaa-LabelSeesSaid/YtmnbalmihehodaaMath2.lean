/-
  The plain mathematics, on: joins, meets and ends of the bits and of the table are the same.
-/
import Derived.Test.YtmnbalmihehodaaMath
namespace Go.Proofs.Ytmnbalmihehodaa

theorem turnIn_bit (A : Nat → Nat) (a k : Nat) (R : Nat → Nat) (y x : Nat) : (turnIn A a k R y).testBit x = ((R y).testBit x || (decide (y < k) && ((A a).testBit y && decide (a = x)))) := by
  induction k generalizing y x with
  | zero => simp [turnIn]
  | succ k ih =>
    rw [turnIn]
    by_cases e : y = k
    · subst e
      cases h : (A a).testBit y
      · simp [ih]
      · simp only [if_true, upd_at, Nat.testBit_or, ih, bt_bit]
        simp
    · have hk : decide (y < k + 1) = decide (y < k) := by simp; omega
      rw [hk]
      cases h : (A a).testBit k
      · simp only [Bool.false_eq_true, if_false]; exact ih y x
      · simp only [if_true, upd_at, if_neg e]; exact ih y x
theorem turnK_bit (n : Nat) (A : Nat → Nat) (k y x : Nat) : (turnK n A k y).testBit x = (decide (x < k) && (decide (y < n) && (A x).testBit y)) := by
  induction k generalizing y x with
  | zero => simp [turnK]
  | succ k ih =>
    rw [turnK, turnIn_bit, ih]
    by_cases e : k = x
    · subst e; simp
    · have hk : decide (x < k + 1) = decide (x < k) := by simp; omega
      rw [hk]
      simp [e]

/-- The sets A tell the order L of n labels. -/
structure Rel (n : Nat) (A : Nat → Nat) (L : Nat → Nat → Bool) : Prop where
  bit : ∀ x y, x < n → (A x).testBit y = (decide (y < n) && L x y)
  refl : ∀ x, x < n → L x x = true
  trans : ∀ x y z, x < n → y < n → z < n → L x y = true → L y z = true → L x z = true

section
variable {n : Nat} {A : Nat → Nat} {L : Nat → Nat → Bool}

theorem Rel.flip (h : Rel n A L) {B : Nat → Nat} (hB : ∀ x y, x < n → (B x).testBit y = (decide (y < n) && L y x)) : Rel n B (flip L) :=
  ⟨hB, h.refl, fun x y z hx hy hz h1 h2 => h.trans z y x hz hy hx h2 h1⟩

theorem Rel.eq_isJ (h : Rel n A L) {a b c : Nat} (ha : a < n) (hb : b < n) (hc : c < n) : (A c == (A a &&& A b)) = isJ n L a b c := by
  rw [Bool.eq_iff_iff, beq_iff_eq]
  unfold isJ lstK
  simp only [Bool.and_eq_true, List.all_eq_true, List.mem_range, Bool.not_eq_true', Bool.and_eq_false_iff, Bool.not_eq_false']
  constructor
  · intro e
    have key : ∀ d, d < n → (L c d = (L a d && L b d)) := fun d hd => by
      have := congrArg (fun s => s.testBit d) e
      simp only [Nat.testBit_and, h.bit c d hc, h.bit a d ha, h.bit b d hb, hd, decide_true, Bool.true_and] at this
      exact this
    have hcc := key c hc
    rw [h.refl c hc] at hcc
    have hcc := hcc.symm
    simp only [Bool.and_eq_true] at hcc
    refine ⟨hcc.1, hcc.2, fun d hd => ?_⟩
    have := key d hd
    cases h1 : L a d <;> cases h2 : L b d <;> simp_all
  · rintro ⟨h1, h2, h3⟩
    apply Nat.eq_of_testBit_eq
    intro d
    rw [Nat.testBit_and, h.bit c d hc, h.bit a d ha, h.bit b d hb]
    by_cases hd : d < n
    · simp only [hd, decide_true, Bool.true_and]
      rw [Bool.eq_iff_iff, Bool.and_eq_true]
      constructor
      · intro hcd
        exact ⟨h.trans a c d ha hc hd h1 hcd, h.trans b c d hb hc hd h2 hcd⟩
      · rintro ⟨k1, k2⟩
        rcases h3 d hd with h3 | h3
        · rcases h3 with h3 | h3
          · rw [k1] at h3; cases h3
          · rw [k2] at h3; cases h3
        · exact h3
    · simp [hd]

theorem find_congr {P Q : Nat → Bool} : ∀ {l : List Nat}, (∀ i, i ∈ l → P i = Q i) → l.find? P = l.find? Q
  | [], _ => rfl
  | a :: l, h => by
    simp only [List.find?_cons, h a List.mem_cons_self]
    rw [find_congr fun i hi => h i (List.mem_cons_of_mem _ hi)]

theorem Rel.fnd_eq (h : Rel n A L) {a b : Nat} (ha : a < n) (hb : b < n) : fnd n A (A a &&& A b) = rJ n L a b := by
  unfold fnd rJ
  exact find_congr fun i hi => h.eq_isJ ha hb (List.mem_range.1 hi)

theorem Rel.leq_eq (h : Rel n A L) (a b : Int) : leqB n A a b = rleq n L a b := by
  unfold leqB rleq
  cases ha : isL n a
  · rfl
  cases hb : isL n b
  · rfl
  have h1 := isL_iff.1 ha
  have h2 := isL_iff.1 hb
  have : b.toNat < n := by omega
  rw [h.bit _ _ (by omega)]
  simp [this]
end

section
variable {n : Nat} {L : Nat → Nat → Bool}
theorem rJ_is {a b c : Nat} (h : rJ n L a b = some c) : c < n ∧ isJ n L a b c = true := by
  unfold rJ at h
  rw [List.find?_range_eq_some] at h
  exact ⟨by simpa using h.2.1, h.1⟩
theorem rJ_exists {a b c : Nat} (hc : c < n) (h : isJ n L a b c = true) : (rJ n L a b).isSome = true := by
  unfold rJ
  rw [List.find?_isSome]
  exact ⟨c, by simpa using hc, h⟩
theorem isJ_iff {a b c : Nat} : isJ n L a b c = true ↔ L a c = true ∧ L b c = true ∧ ∀ d, d < n → L a d = true → L b d = true → L c d = true := by
  unfold isJ lstK
  simp only [Bool.and_eq_true, List.all_eq_true, List.mem_range, Bool.not_eq_true', Bool.and_eq_false_iff, Bool.not_eq_false']
  constructor
  · rintro ⟨h1, h2, h3⟩
    refine ⟨h1, h2, fun d hd k1 k2 => ?_⟩
    rcases h3 d hd with h | h
    · rcases h with h | h
      · rw [k1] at h; cases h
      · rw [k2] at h; cases h
    · exact h
  · rintro ⟨h1, h2, h3⟩
    refine ⟨h1, h2, fun d hd => ?_⟩
    cases k1 : L a d
    · exact .inl (.inl rfl)
    cases k2 : L b d
    · exact .inl (.inr rfl)
    · exact .inr (h3 d hd k1 k2)
theorem isJ_comm (a b c : Nat) : isJ n L a b c = isJ n L b a c := by
  rw [Bool.eq_iff_iff, isJ_iff, isJ_iff]
  constructor
  · rintro ⟨h1, h2, h3⟩; exact ⟨h2, h1, fun d hd k1 k2 => h3 d hd k2 k1⟩
  · rintro ⟨h1, h2, h3⟩; exact ⟨h2, h1, fun d hd k1 k2 => h3 d hd k2 k1⟩
theorem rJ_comm (a b : Nat) : rJ n L a b = rJ n L b a := by
  unfold rJ
  exact find_congr fun i _ => isJ_comm a b i
end

/-- The order is a lattice. -/
structure IsLat (n : Nat) (L : Nat → Nat → Bool) : Prop where
  refl : ∀ x, x < n → L x x = true
  trans : ∀ x y z, x < n → y < n → z < n → L x y = true → L y z = true → L x z = true
  anti : ∀ x y, x < n → y < n → L x y = true → L y x = true → x = y
  join : ∀ a b, a < n → b < n → (rJ n L a b).isSome = true
  meet : ∀ a b, a < n → b < n → (rJ n (flip L) a b).isSome = true

theorem rlat_iff {n : Nat} {A : Nat → Nat} {L : Nat → Nat → Bool} (h : Rel n A L) : rlatK n L n = true ↔ IsLat n L := by
  have e : rlatK n L n = true ↔ ∀ a, a < n → ∀ b, b < n → rgood n L a b = true := by
    simp only [rlatK, rgoodIn, List.all_eq_true, List.mem_range]
  rw [e]
  constructor
  · intro hg
    have hj := fun a b ha hb => (show (a != b && (L a b && L b a)) = false ∧ (rJ n L a b).isSome = true ∧ (rJ n (flip L) a b).isSome = true by
      have := hg a ha b hb
      simp only [rgood, Bool.and_eq_true, Bool.not_eq_true'] at this
      exact this)
    refine ⟨h.refl, h.trans, fun x y hx hy h1 h2 => ?_, fun a b ha hb => (hj a b ha hb).2.1, fun a b ha hb => (hj a b ha hb).2.2⟩
    have := (hj x y hx hy).1
    rw [h1, h2] at this
    simpa using this
  · intro hl a ha b hb
    simp only [rgood, Bool.and_eq_true, Bool.not_eq_true']
    refine ⟨?_, hl.join a b ha hb, hl.meet a b ha hb⟩
    by_cases hab : a = b
    · simp [hab]
    · cases h1 : L a b
      · simp
      cases h2 : L b a
      · simp
      · exact absurd (hl.anti a b ha hb h1 h2) hab

theorem lat_iff {n : Nat} {A B : Nat → Nat} {L : Nat → Nat → Bool} (h : Rel n A L) (h' : Rel n B (flip L)) : latK n A B n = true ↔ IsLat n L := by
  have hgood : ∀ a b, a < n → b < n → good n A B a b = ((rJ n L a b).isSome && ((rJ n (flip L) a b).isSome && !(L a b && L b a))) := by
    intro a b ha hb
    have i1 : isL n (a : Int) = true := isL_iff.2 ⟨by omega, by omega⟩
    have i2 : isL n (b : Int) = true := isL_iff.2 ⟨by omega, by omega⟩
    rw [good, h.fnd_eq ha hb, h'.fnd_eq ha hb, h.leq_eq, h.leq_eq]
    simp [rleq, i1, i2]
  have e : latK n A B n = true ↔ ∀ a, a < n → ∀ b, b < a → good n A B a b = true := by
    simp only [latK, goodIn, List.all_eq_true, List.mem_range]
  rw [e]
  have self : ∀ (M : Nat → Nat → Bool) a, a < n → (∀ x, x < n → M x x = true) → (rJ n M a a).isSome = true := fun M a ha hr =>
    rJ_exists ha (isJ_iff.2 ⟨hr a ha, hr a ha, fun _ _ k _ => k⟩)
  constructor
  · intro hg
    have hj : ∀ a b, a < n → b < n → a ≠ b → (rJ n L a b).isSome = true ∧ (rJ n (flip L) a b).isSome = true ∧ (L a b && L b a) = false := by
      intro a b ha hb hab
      rcases Nat.lt_or_ge b a with hlt | hge
      · have := hg a ha b hlt
        rw [hgood a b ha hb] at this
        simp only [Bool.and_eq_true, Bool.not_eq_true'] at this
        exact this
      · have := hg b hb a (by omega)
        rw [hgood b a hb ha] at this
        simp only [Bool.and_eq_true, Bool.not_eq_true'] at this
        rw [rJ_comm a b, rJ_comm a b, Bool.and_comm]
        exact this
    refine ⟨h.refl, h.trans, fun x y hx hy h1 h2 => ?_, fun a b ha hb => ?_, fun a b ha hb => ?_⟩
    · by_cases hxy : x = y
      · exact hxy
      · have := (hj x y hx hy hxy).2.2
        rw [h1, h2] at this
        cases this
    · by_cases hab : a = b
      · subst hab; exact self L a ha h.refl
      · exact (hj a b ha hb hab).1
    · by_cases hab : a = b
      · subst hab; exact self (flip L) a ha h.refl
      · exact (hj a b ha hb hab).2.1
  · intro hl a ha b hb
    rw [hgood a b ha (by omega), hl.join a b ha (by omega), hl.meet a b ha (by omega)]
    simp only [Bool.true_and, Bool.not_eq_true']
    cases h1 : L a b
    · rfl
    cases h2 : L b a
    · rfl
    · exact absurd (hl.anti a b ha (by omega) h1 h2) (by omega)
end Go.Proofs.Ytmnbalmihehodaa

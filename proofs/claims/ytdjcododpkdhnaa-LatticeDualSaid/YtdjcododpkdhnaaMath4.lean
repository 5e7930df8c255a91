/-
  The plain mathematics of an order turned round.
-/
import Derived.Test.YtdjcododpkdhnaaMath3
import Derived.Test.YtdjcododpkdhnaaBoth
namespace Go.Proofs.Ytdjcododpkdhnaa

theorem prL_flip (p q : Nat → Int) (n k x y : Nat) : prL q p (idK n) k x y = prL p q (idK n) k y x := by
  induction k with
  | zero =>
    rw [prL, prL, idK_at, idK_at]
    rw [Bool.eq_iff_iff]
    simp
    omega
  | succ k ih =>
    rw [prL, prL]
    unfold setL
    rw [ih]
    by_cases h : x = (q k).toNat ∧ y = (p k).toNat
    · rw [if_pos h, if_pos ⟨h.2, h.1⟩]
    · rw [if_neg h, if_neg (fun hh => h ⟨hh.2, hh.1⟩)]

theorem rcl_flip_le {n len : Nat} {p q : Nat → Int} (hn : n ≤ 8) (hp : ∀ i, i < len → (p i).toNat < n) (hq : ∀ i, i < len → (q i).toNat < n) (x y : Nat) (h : rcl n len q p x y = true) : rcl n len p q y x = true := by
  have := clR_sound n (prL q p (idK n) len) (fun x y => decide (x < n) && (decide (y < n) && rcl n len p q y x)) (fun x y h => by
      have hy := prL_dom hp x y h
      rw [prL_flip] at h
      have hx := prL_dom hq y x h
      simp only [hx, hy, decide_true, Bool.true_and]
      exact rcl_base y x h)
    (fun x y z hy h1 h2 => by
      simp only [Bool.and_eq_true, decide_eq_true_eq] at h1 h2 ⊢
      exact ⟨h1.1, h2.2.1, rcl_trans hn z y x h2.2.1 hy h1.1 h2.2.2 h1.2.2⟩) 8 x y h
  simp only [Bool.and_eq_true, decide_eq_true_eq] at this
  exact this.2.2

theorem rcl_flip {n len : Nat} {p q : Nat → Int} (hn : n ≤ 8) (hok : okK n p q len = true) (x y : Nat) : rcl n len q p x y = rcl n len p q y x := by
  have hp : ∀ i, i < len → (p i).toNat < n := fun i hi => by have := okK_at hok hi; omega
  have hq : ∀ i, i < len → (q i).toNat < n := fun i hi => by have := okK_at hok hi; omega
  rw [Bool.eq_iff_iff]
  exact ⟨rcl_flip_le hn hp hq x y, rcl_flip_le hn hq hp y x⟩

theorem okK_flip (n : Int) (p q : Nat → Int) (len : Nat) : okK n q p len = okK n p q len := by
  unfold okK
  congr 1
  funext i
  rw [Bool.and_comm]
theorem mbo_flip (n : Int) (len : Nat) (p q : Nat → Int) : mbo n len q p = mbo n len p q := by
  unfold mbo
  rw [okK_flip]

theorem tab_eq {L M : Nat → Nat → Bool} (h : ∀ x y, L x y = M x y) : L = M := by
  funext x y
  exact h x y

/-- The table of the order turned round. -/
theorem rcl_turned {n : Int} {len : Nat} {p q : Nat → Int} (h : mbo n len p q = true) : rcl n.toNat len q p = flip (rcl n.toNat len p q) := by
  obtain ⟨h1, h2, _, h4⟩ := mbo_iff h
  obtain ⟨k, rfl⟩ := Int.eq_ofNat_of_zero_le (show 0 ≤ n by omega)
  rw [Int.toNat_natCast]
  exact tab_eq fun x y => rcl_flip (by omega) h4 x y

theorem IsLat.dual_iff {n : Nat} {L : Nat → Nat → Bool} : IsLat n (flip L) ↔ IsLat n L := ⟨fun h => h.dual, fun h => h.dual⟩

theorem mkL_flip {n : Int} {len : Nat} {p q : Nat → Int} (h : mbo n len p q = true) : mkL n len q p = mkL n len p q := by
  have h' : mbo n len q p = true := by rw [mbo_flip]; exact h
  rw [Bool.eq_iff_iff, mkL_iff h, mkL_iff h', rcl_turned h]
  exact IsLat.dual_iff

theorem jn_rJ {n : Nat} {A : Nat → Nat} {L : Nat → Nat → Bool} (hr : Rel n A L) {a b : Nat} (ha : a < n) (hb : b < n) : jn n A a b = (rJ n L a b).getD 0 := by
  unfold jn
  rw [hr.fnd_eq ha hb]

theorem dual_join {n : Int} {len : Nat} {p q : Nat → Int} (h : mbo n len p q = true) {a b : Nat} (ha : a < n.toNat) (hb : b < n.toNat) : jn n.toNat (mkA n len p q) a b = jn n.toNat (mkB n len q p) a b := by
  have h' : mbo n len q p = true := by rw [mbo_flip]; exact h
  rw [jn_rJ (mk_rel h).1 ha hb, jn_rJ (mk_rel h').2 ha hb, rcl_turned h]
  rfl
theorem dual_leq {n : Int} {len : Nat} {p q : Nat → Int} (h : mbo n len p q = true) (a b : Int) : leqB n.toNat (mkA n len p q) a b = leqB n.toNat (mkA n len q p) b a := by
  have h' : mbo n len q p = true := by rw [mbo_flip]; exact h
  rw [(mk_rel h).1.leq_eq, (mk_rel h').1.leq_eq, rcl_turned h]
  unfold rleq flip
  cases isL n.toNat a <;> cases isL n.toNat b <;> rfl
theorem dual_ends {n : Int} {len : Nat} {p q : Nat → Int} (h : mbo n len p q = true) (hl : mkL n len p q = true) : botK n.toNat (mkA n len p q) n.toNat = topK n.toNat (mkA n len q p) n.toNat := by
  have h' : mbo n len q p = true := by rw [mbo_flip]; exact h
  have hl' : mkL n len q p = true := by rw [mkL_flip h]; exact hl
  have hn : 1 ≤ n.toNat := by have := mbo_iff h; omega
  rw [botK_eq (mk_rel h).1 ((mkL_iff h).1 hl) hn, topK_eq (mk_rel h').1 ((mkL_iff h').1 hl') hn, rcl_turned h]

theorem prCells_succ (k : Nat) (p q : Nat → Int) : prCells (k + 1) p q = prCells k p q ++ [.int .i64 (p k), .int .i64 (q k)] := by
  apply List.ext_getElem?
  intro j
  by_cases h : j < k * 2
  · rw [prCells_at _ _ _ _ (by omega), List.getElem?_append_left (by rw [prCells_len]; exact h), prCells_at _ _ _ _ h]
  · rw [List.getElem?_append_right (by rw [prCells_len]; omega), prCells_len]
    by_cases h2 : j < (k + 1) * 2
    · rw [prCells_at _ _ _ _ h2]
      obtain rfl | rfl : j = k * 2 ∨ j = k * 2 + 1 := by omega
      · rw [if_pos (by omega), show k * 2 / 2 = k by omega, Nat.sub_self]; rfl
      · rw [if_neg (by omega), show (k * 2 + 1) / 2 = k by omega, show k * 2 + 1 - k * 2 = 1 by omega]; rfl
    · rw [List.getElem?_eq_none (by rw [prCells_len]; omega), List.getElem?_eq_none (by simp; omega)]
end Go.Proofs.Ytdjcododpkdhnaa

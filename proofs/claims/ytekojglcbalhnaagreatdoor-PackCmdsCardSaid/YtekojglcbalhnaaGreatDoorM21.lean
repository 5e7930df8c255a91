/-
  Plain facts on numbers as bytes: what is written is read again, cut off it is none, and each has one way.
  Plain facts on values as bytes: what is written is read again, cut off it is none, and each has one way.
  Plain facts on values as bytes: what is written is read as it was.
  Plain facts on values as bytes: what is cut off is none; each has one way.
-/
import Derived.Test.YtekojglcbalhnaaGreatDoorM11
import Derived.Test.YtekojglcbalhnaaGreatDoorM10
import Derived.Test.YtekojglcbalhnaaGreatDoorM15
namespace Go.Proofs.YtekojglcbalhnaaGreatDoor
open Go.RowKit

theorem pow7 (i : Nat) : 2 ^ (7 * (i + 1)) = 128 * 2 ^ (7 * i) := by
  rw [Nat.mul_add, Nat.pow_add]; omega
theorem byte_lo {m : Nat} (h : m < 128) : (UInt8.ofNat m).toNat = m := by simp; omega
theorem byte_hi (m : Nat) : (UInt8.ofNat (m % 128 + 128)).toNat = m % 128 + 128 := by simp; omega
theorem split128 (m P : Nat) : m % 128 * P + m / 128 * (128 * P) = m * P := by
  have h := Nat.div_add_mod m 128
  calc m % 128 * P + m / 128 * (128 * P) = (128 * (m / 128) + m % 128) * P := by rw [Nat.add_mul, Nat.mul_comm 128 (m / 128), Nat.mul_assoc]; omega
    _ = m * P := by rw [h]
/-- What stands in the way of a group. -/
theorem group_ok {i n m : Nat} (hi : i ≤ 9) (h64 : n + m * 2 ^ (7 * i) < 18446744073709551616) (h0 : 0 < m ∨ i = 0) :
    (m < 128 → ¬ (9 < i ∨ (i = 9 ∧ 1 < m) ∨ (0 < i ∧ m = 0))) ∧ (¬ m < 128 → i + 1 ≤ 9 ∧ ¬ (9 < i ∨ (i = 9 ∧ 1 < m % 128 + 128) ∨ (0 < i ∧ m % 128 + 128 = 0))) := by
  by_cases h9 : i = 9
  · subst h9
    simp only [Nat.reduceMul, Nat.reducePow] at h64
    constructor
    · intro h; omega
    · intro h; omega
  · exact ⟨fun h => by omega, fun h => by omega⟩
theorem u_back : ∀ (k m i n : Nat) (r : List UInt8), m ≤ k → i ≤ 9 → n + m * 2 ^ (7 * i) < 18446744073709551616 → (0 < m ∨ i = 0) → uP i n (uintL m ++ r) = .ok (n + m * 2 ^ (7 * i), r) := by
  intro k
  induction k with
  | zero =>
    intro m i n r hk hi h64 h0
    obtain rfl : m = 0 := by omega
    have g := (group_ok hi h64 h0).1 (by omega)
    rw [uintL_last (by omega), List.cons_append, List.nil_append]
    rw [uP_last (by rw [byte_lo (by omega)]; exact g) (by rw [byte_lo (by omega)]; omega), byte_lo (by omega)]
  | succ k ih =>
    intro m i n r hk hi h64 h0
    have g := group_ok hi h64 h0
    by_cases h : m < 128
    · rw [uintL_last h, List.cons_append, List.nil_append]
      rw [uP_last (by rw [byte_lo h]; exact g.1 h) (by rw [byte_lo h]; exact h), byte_lo h, Nat.mod_eq_of_lt h]
    · obtain ⟨g1, g2⟩ := g.2 h
      have hs := split128 m (2 ^ (7 * i))
      have e : n + (m % 128 + 128) % 128 * 2 ^ (7 * i) + m / 128 * 2 ^ (7 * (i + 1)) = n + m * 2 ^ (7 * i) := by
        rw [pow7]
        have : (m % 128 + 128) % 128 = m % 128 := by omega
        rw [this]; omega
      rw [uintL_more h, List.cons_append]
      rw [uP_more (by rw [byte_hi]; exact g2) (by rw [byte_hi]; omega), byte_hi]
      rw [ih (m / 128) (i + 1) _ r (by omega) g1 (by rw [e]; exact h64) (.inl (by omega)), e]
theorem u_cut : ∀ (k m i n j : Nat), m ≤ k → i ≤ 9 → n + m * 2 ^ (7 * i) < 18446744073709551616 → (0 < m ∨ i = 0) → j < (uintL m).length → uP i n ((uintL m).take j) = .error 14 := by
  intro k
  induction k with
  | zero =>
    intro m i n j hk hi h64 h0 hj
    obtain rfl : m = 0 := by omega
    rw [uintL_last (by omega)] at hj ⊢
    obtain rfl : j = 0 := by simpa using hj
    exact uP_nil _ _
  | succ k ih =>
    intro m i n j hk hi h64 h0 hj
    have g := group_ok hi h64 h0
    by_cases h : m < 128
    · rw [uintL_last h] at hj ⊢
      obtain rfl : j = 0 := by simpa using hj
      exact uP_nil _ _
    · obtain ⟨g1, g2⟩ := g.2 h
      have hs := split128 m (2 ^ (7 * i))
      have e : n + (m % 128 + 128) % 128 * 2 ^ (7 * i) + m / 128 * 2 ^ (7 * (i + 1)) = n + m * 2 ^ (7 * i) := by
        rw [pow7]
        have : (m % 128 + 128) % 128 = m % 128 := by omega
        rw [this]; omega
      rw [uintL_more h] at hj ⊢
      cases j with
      | zero => exact uP_nil _ _
      | succ j =>
        rw [List.take_succ_cons]
        rw [uP_more (by rw [byte_hi]; exact g2) (by rw [byte_hi]; omega), byte_hi]
        exact ih (m / 128) (i + 1) _ j (by omega) g1 (by rw [e]; exact h64) (.inl (by omega)) (by simpa using hj)
theorem ofNat_toNat8 (b : UInt8) : UInt8.ofNat b.toNat = b := by simp
theorem u_one : ∀ (l : List UInt8) (i n v : Nat) (r : List UInt8), uP i n l = .ok (v, r) → ∃ m, l = uintL m ++ r ∧ v = n + m * 2 ^ (7 * i) ∧ (0 < m ∨ i = 0) := by
  intro l
  induction l with
  | nil => intro i n v r h; rw [uP_nil] at h; cases h
  | cons b l ih =>
    intro i n v r h
    have hb := b.toNat_lt
    by_cases hbad : 9 < i ∨ (i = 9 ∧ 1 < b.toNat) ∨ (0 < i ∧ b.toNat = 0)
    · rw [uP_bad hbad] at h; cases h
    · by_cases hl : b.toNat < 128
      · rw [uP_last hbad hl] at h
        injection h with h
        injection h with h1 h2
        subst h1 h2
        refine ⟨b.toNat, ?_, by rw [Nat.mod_eq_of_lt hl], by omega⟩
        rw [uintL_last hl, ofNat_toNat8]; rfl
      · rw [uP_more hbad hl] at h
        obtain ⟨m, h1, h2, h3⟩ := ih _ _ _ _ h
        refine ⟨b.toNat % 128 + 128 * m, ?_, ?_, .inl (by omega)⟩
        · rw [uintL_more (by omega), h1]
          have e1 : (b.toNat % 128 + 128 * m) % 128 + 128 = b.toNat := by omega
          have e2 : (b.toNat % 128 + 128 * m) / 128 = m := by omega
          rw [e1, e2, ofNat_toNat8]; rfl
        · rw [h2, pow7, Nat.add_mul, Nat.mul_comm 128 m, Nat.mul_assoc]; omega
/-- The three at a number's beginning. -/
theorem U_back {n : Nat} (h : n < 18446744073709551616) (r : List UInt8) : uP 0 0 (uintL n ++ r) = .ok (n, r) := by
  have := u_back n n 0 0 r (Nat.le_refl _) (by omega) (by simpa using h) (.inr rfl)
  simpa using this
theorem U_cut {n j : Nat} (h : n < 18446744073709551616) (hj : j < (uintL n).length) : uP 0 0 ((uintL n).take j) = .error 14 :=
  u_cut n n 0 0 j (Nat.le_refl _) (by omega) (by simpa using h) (.inr rfl) hj
theorem U_one {l r : List UInt8} {n : Nat} (h : uP 0 0 l = .ok (n, r)) : l = uintL n ++ r := by
  obtain ⟨m, h1, h2, _⟩ := u_one l 0 0 n r h
  have : n = m := by simpa using h2
  rw [this]; exact h1
theorem zag_zig {n : Int} (h : -9223372036854775808 ≤ n ∧ n ≤ 9223372036854775807) : zag (zig n) = n := by
  unfold zag zig; split <;> split <;> omega
theorem zig_zag {n : Nat} (h : n < 18446744073709551616) : zig (zag n) = n := by
  unfold zag zig; split <;> split <;> omega
theorem zag_in {n : Nat} (h : n < 18446744073709551616) : -9223372036854775808 ≤ zag n ∧ zag n ≤ 9223372036854775807 := by
  unfold zag; split <;> omega
theorem I_back {n : Int} (h : -9223372036854775808 ≤ n ∧ n ≤ 9223372036854775807) (r : List UInt8) : iP (uintL (zig n) ++ r) = .ok (n, r) := by
  unfold iP
  rw [U_back (zig_lt h)]
  show Except.ok (zag (zig n), r) = _
  rw [zag_zig h]
theorem I_cut {n : Int} {j : Nat} (h : -9223372036854775808 ≤ n ∧ n ≤ 9223372036854775807) (hj : j < (uintL (zig n)).length) : iP ((uintL (zig n)).take j) = .error 14 := by
  unfold iP
  rw [U_cut (zig_lt h) hj]
theorem U_in {l r : List UInt8} {n : Nat} (h : uP 0 0 l = .ok (n, r)) : n < 18446744073709551616 := uP_lt l 0 0 n r (fun _ => by decide) h
theorem I_one {l r : List UInt8} {n : Int} (h : iP l = .ok (n, r)) : l = uintL (zig n) ++ r ∧ -9223372036854775808 ≤ n ∧ n ≤ 9223372036854775807 := by
  unfold iP at h
  split at h
  · cases h
  · rename_i m r' hu
    injection h with h
    injection h with h1 h2
    subst h1 h2
    rw [zig_zag (U_in hu)]
    exact ⟨U_one hu, zag_in (U_in hu)⟩
/-- A string. -/
theorem strL_self (b : ByteArray) : strL b.data.toList = b := by unfold strL; cases b; simp
theorem lst_len (t : ByteArray) : t.data.toList.length = t.size := by rw [Array.length_toList]; rfl
theorem lst_strL (l : List UInt8) : (strL l).data.toList = l := by unfold strL; simp
theorem S_back {t : ByteArray} {most : Int} (h : (t.size : Int) ≤ most) (h9 : t.size ≤ 1000000000) (r : List UInt8) : sP most (uintL t.size ++ t.data.toList ++ r) = .ok (t, r) := by
  have e := lst_len t
  unfold sP
  rw [List.append_assoc, U_back (by omega)]
  show (if most < 0 ∨ most < (t.size : Int) then Except.error 5 else if (t.data.toList ++ r).length < t.size then .error 14 else .ok (strL ((t.data.toList ++ r).take t.size), (t.data.toList ++ r).drop t.size)) = _
  rw [if_neg (by omega), if_neg (by rw [List.length_append]; omega), List.take_left' e, List.drop_left' e, strL_self]
theorem take_cat (A B : List UInt8) (j : Nat) : (j < A.length ∧ (A ++ B).take j = A.take j) ∨ (A.length ≤ j ∧ (A ++ B).take j = A ++ B.take (j - A.length)) := by
  by_cases h : j < A.length
  · exact .inl ⟨h, List.take_append_of_le_length (by omega)⟩
  · exact .inr ⟨by omega, by rw [List.take_append, List.take_of_length_le (by omega)]⟩
theorem S_cut {t : ByteArray} {most : Int} {j : Nat} (h : (t.size : Int) ≤ most) (h9 : t.size ≤ 1000000000) (hj : j < (uintL t.size ++ t.data.toList).length) : sP most ((uintL t.size ++ t.data.toList).take j) = .error 14 := by
  have e := lst_len t
  unfold sP
  rcases take_cat (uintL t.size) t.data.toList j with ⟨h1, h2⟩ | ⟨h1, h2⟩
  · rw [h2, U_cut (by omega) h1]
  · rw [h2, U_back (by omega)]
    rw [List.length_append] at hj
    show (if most < 0 ∨ most < (t.size : Int) then Except.error 5 else if (t.data.toList.take (j - (uintL t.size).length)).length < t.size then .error 14 else .ok (strL ((t.data.toList.take (j - (uintL t.size).length)).take t.size), (t.data.toList.take (j - (uintL t.size).length)).drop t.size)) = _
    rw [if_neg (by omega), if_pos (by rw [List.length_take]; omega)]
theorem S_one {t : ByteArray} {most : Int} {l r : List UInt8} (h : sP most l = .ok (t, r)) : l = uintL t.size ++ t.data.toList ++ r ∧ (t.size : Int) ≤ most := by
  unfold sP at h
  split at h
  · cases h
  · rename_i n q hu
    split at h
    · cases h
    · split at h
      · cases h
      · rename_i h1 h2
        injection h with h
        injection h with h3 h4
        subst h3 h4
        have e : (strL (q.take n)).size = n := by
          show (q.take n).toArray.size = n
          simp; omega
        rw [e, lst_strL]
        refine ⟨?_, by omega⟩
        rw [List.append_assoc, List.take_append_drop]
        exact U_one hu
end Go.Proofs.YtekojglcbalhnaaGreatDoor
namespace Go.Proofs.YtekojglcbalhnaaGreatDoor
open Go.RowKit

/-! ### Words -/
theorem wordL_8 (b : Nat) : wordL b 8 = [UInt8.ofNat (b / 2 ^ 56 % 256), UInt8.ofNat (b / 2 ^ 48 % 256), UInt8.ofNat (b / 2 ^ 40 % 256), UInt8.ofNat (b / 2 ^ 32 % 256), UInt8.ofNat (b / 2 ^ 24 % 256), UInt8.ofNat (b / 2 ^ 16 % 256), UInt8.ofNat (b / 2 ^ 8 % 256), UInt8.ofNat (b / 2 ^ 0 % 256)] := rfl
theorem byte_mod (n : Nat) : (UInt8.ofNat (n % 256)).toNat = n % 256 := by simp
theorem W_back {b : Nat} (h : b < 18446744073709551616) (r : List UInt8) : wP 8 0 (wordL b 8 ++ r) = .ok (b, r) := by
  rw [wordL_8]
  simp only [List.cons_append, List.nil_append, wP, byte_mod]
  congr 2
  simp only [Nat.reducePow, Nat.zero_mul, Nat.zero_add, Nat.div_one]
  omega
theorem wP_short : ∀ (k b : Nat) (l : List UInt8), l.length < k → wP k b l = .error 14 := by
  intro k
  induction k with
  | zero => intro b l h; omega
  | succ k ih =>
    intro b l h
    cases l with
    | nil => rfl
    | cons c l => rw [wP]; exact ih _ _ (by simpa using h)
theorem W_cut {b j : Nat} (hj : j < (wordL b 8).length) : wP 8 0 ((wordL b 8).take j) = .error 14 :=
  wP_short 8 0 _ (by rw [List.length_take]; rw [wordL_len] at hj ⊢; omega)
theorem W_one {l r : List UInt8} {b : Nat} (h : wP 8 0 l = .ok (b, r)) : l = wordL b 8 ++ r ∧ b < 18446744073709551616 := by
  match l, h with
  | [], h => cases h
  | [_], h => cases h
  | [_, _], h => cases h
  | [_, _, _], h => cases h
  | [_, _, _, _], h => cases h
  | [_, _, _, _, _], h => cases h
  | [_, _, _, _, _, _], h => cases h
  | [_, _, _, _, _, _, _], h => cases h
  | c0 :: c1 :: c2 :: c3 :: c4 :: c5 :: c6 :: c7 :: q, h =>
    simp only [wP] at h
    injection h with h
    injection h with h1 h2
    have g0 := c0.toNat_lt
    have g1 := c1.toNat_lt
    have g2 := c2.toNat_lt
    have g3 := c3.toNat_lt
    have g4 := c4.toNat_lt
    have g5 := c5.toNat_lt
    have g6 := c6.toNat_lt
    have g7 := c7.toNat_lt
    simp only [Nat.reducePow, Nat.zero_mul, Nat.zero_add] at *
    have e (c : UInt8) (n : Nat) (h : n = c.toNat) : UInt8.ofNat n = c := by rw [h]; simp
    subst h2
    refine ⟨?_, by omega⟩
    rw [wordL_8, ← h1]
    simp only [Nat.reducePow, Nat.div_one]
    rw [e c0 _ (by omega), e c1 _ (by omega), e c2 _ (by omega), e c3 _ (by omega), e c4 _ (by omega), e c5 _ (by omega), e c6 _ (by omega), e c7 _ (by omega)]
    rfl
theorem canon_in {f : Nat} (h : f < 18446744073709551616) : canonW f < 18446744073709551616 := by unfold canonW; split <;> omega
theorem canon_twice (f : Nat) : canonW (canonW f) = canonW f := by
  unfold canonW
  by_cases h : nanB f = true
  · rw [if_pos h]; decide
  · rw [if_neg h, if_neg h]
end Go.Proofs.YtekojglcbalhnaaGreatDoor
namespace Go.Proofs.YtekojglcbalhnaaGreatDoor
open Go.RowKit

/-- The items from i on, so many: their bytes, and what they are. -/
def sufL (nm : Bool) (ns : Nat → ByteArray) (G : Nat → List UInt8) : Nat → Nat → List UInt8
  | 0, _ => []
  | r + 1, i => ((if nm = true then strBL (ns i) else []) ++ G i) ++ sufL nm ns G r (i + 1)
def itmL (ns : Nat → ByteArray) (H : Nat → VT) : Nat → Nat → List (ByteArray × VT)
  | 0, _ => []
  | r + 1, i => (ns i, H i) :: itmL ns H r (i + 1)
def sufN (T : Nat → Nat) : Nat → Nat → Nat
  | 0, _ => 0
  | r + 1, i => T i + sufN T r (i + 1)
theorem suf_it (nm : Bool) (ns : Nat → ByteArray) (G : Nat → List UInt8) : ∀ r i, itL nm ns G i ++ sufL nm ns G r i = itL nm ns G (i + r) := by
  intro r
  induction r with
  | zero => intro i; simp [sufL]
  | succ r ih =>
    intro i
    have h := ih (i + 1)
    rw [itL] at h
    rw [sufL, show i + (r + 1) = i + 1 + r by omega, ← h]
    simp
theorem suf_all (nm : Bool) (ns : Nat → ByteArray) (G : Nat → List UInt8) (m : Nat) : sufL nm ns G m 0 = itL nm ns G m := by
  have h := suf_it nm ns G m 0
  simpa [itL] using h
theorem sufN_it (T : Nat → Nat) : ∀ r i, sumN T i + sufN T r i = sumN T (i + r) := by
  intro r
  induction r with
  | zero => intro i; simp [sufN]
  | succ r ih =>
    intro i
    have h := ih (i + 1)
    have e : sumN T (i + 1) = sumN T i + T i := rfl
    rw [sufN, show i + (r + 1) = i + 1 + r by omega, ← h]
    omega
theorem sufN_all (T : Nat → Nat) (m : Nat) : sufN T m 0 = sumN T m := by
  have h := sufN_it T m 0
  have e : sumN T 0 = 0 := rfl
  rw [e] at h
  simpa using h
theorem itm_len (ns : Nat → ByteArray) (H : Nat → VT) : ∀ r i, (itmL ns H r i).length = r := by
  intro r
  induction r with
  | zero => intro i; rfl
  | succ r ih => intro i; rw [itmL, List.length_cons, ih]
theorem itm_get (ns : Nat → ByteArray) (H : Nat → VT) (d : ByteArray × VT) : ∀ r i j, j < r → (itmL ns H r i).getD j d = (ns (i + j), H (i + j)) := by
  intro r
  induction r with
  | zero => intro i j h; omega
  | succ r ih =>
    intro i j h
    rw [itmL]
    cases j with
    | zero => rfl
    | succ j =>
      rw [List.getD_cons_succ, ih (i + 1) j (by omega), show i + 1 + j = i + (j + 1) by omega]
/-- A value as it is read again. -/
def norm : VT → VT
  | .bad => .bad
  | .mk k n f s _ ns m xs =>
    if k = 1 ∨ k = 2 ∨ k = 3 ∨ k = 4 then leaf k (if k = 1 ∨ k = 2 then n else 0) (if k = 3 then canonW f else 0) (if k = 4 then s else ⟨#[]⟩)
    else treeOf k.toNat (itmL (nz k ns) (fun i => norm (xs i)) m 0)
/-- Floats of 64 bits, all through. -/
def floatsIn : VT → Prop
  | .bad => True
  | .mk _ _ f _ _ _ m xs => f < 18446744073709551616 ∧ ∀ i, i < m → floatsIn (xs i)
/-- Numbers of 64 bits, all through. -/
def numsIn : VT → Prop
  | .bad => True
  | .mk _ n _ _ _ _ m xs => (-9223372036854775808 ≤ n ∧ n ≤ 9223372036854775807) ∧ ∀ i, i < m → numsIn (xs i)
theorem Val.fin {w : World} {lim : Nat} {v : Array Value} {t : VT} (h : Val w lim v t) : floatsIn t ∧ numsIn t := by
  induction h with
  | mk k n f s A c ca B m cb ns xs vs hk hn hf hs hc hm hns hB hxs ih => exact ⟨⟨hf, fun i hi => (ih i hi).1⟩, ⟨hn, fun i hi => (ih i hi).2⟩⟩
/-- What a right value's head says. -/
theorem right_head {k n : Int} {f : Nat} {s : ByteArray} {c : Nat} {ns : Nat → ByteArray} {m : Nat} {xs : Nat → VT} {far : Int} (h : rightV (.mk k n f s c ns m xs) far = true) :
    1 ≤ far ∧ ((k = 1 ∧ (n = 0 ∨ n = 1) ∧ m = 0) ∨ (k = 2 ∧ m = 0) ∨ (k = 3 ∧ m = 0) ∨ (k = 4 ∧ s.size ≤ 200 ∧ m = 0) ∨
      (k = 5 ∧ c = 0 ∧ ∀ i, i < m → rightV (xs i) (far - 1) = true) ∨ (k = 6 ∧ c = m ∧ (∀ i, i < m → (ns i).size ≤ 30) ∧ ∀ i, i < m → rightV (xs i) (far - 1) = true)) := by
  rw [rightV, Bool.and_eq_true] at h
  obtain ⟨h1, hr⟩ := h
  refine ⟨of_decide_eq_true h1, ?_⟩
  by_cases h56 : k = 5 ∨ k = 6
  · rw [if_pos h56, Bool.and_eq_true] at hr
    obtain ⟨hh, hall⟩ := hr
    have hitem : ∀ i, i < m → rightV (xs i) (far - 1) = true := fun i hi => List.all_eq_true.1 hall i (List.mem_range.2 hi)
    rcases h56 with rfl | rfl
    · have hc0 : c = 0 := by unfold headB at hh; simp at hh; omega
      exact .inr (.inr (.inr (.inr (.inl ⟨rfl, hc0, hitem⟩))))
    · unfold headB at hh
      simp only [show ¬ ((6 : Int) = 5) by omega, if_false, Bool.and_eq_true] at hh
      obtain ⟨_, _, _, hrise, hcm⟩ := hh
      have hcm : (c : Int) = m := by simpa using hcm
      have hcm : c = m := by omega
      refine .inr (.inr (.inr (.inr (.inr ⟨rfl, hcm, fun i hi => ?_, hitem⟩))))
      have hat := List.all_eq_true.1 hrise i (List.mem_range.2 (by omega))
      unfold riseAt nameB at hat
      simp at hat
      omega
  · rw [if_neg h56] at hr
    unfold plainB at hr
    by_cases k1 : k = 1
    · subst k1; rw [if_pos rfl] at hr; simp at hr; exact .inl ⟨rfl, by omega, by omega⟩
    rw [if_neg k1] at hr
    by_cases k2 : k = 2
    · subst k2; rw [if_pos rfl] at hr; simp at hr; exact .inr (.inl ⟨rfl, by omega⟩)
    rw [if_neg k2] at hr
    by_cases k3 : k = 3
    · subst k3; rw [if_pos rfl] at hr; simp at hr; exact .inr (.inr (.inl ⟨rfl, by omega⟩))
    rw [if_neg k3] at hr
    by_cases k4 : k = 4
    · subst k4; rw [if_pos rfl] at hr; simp at hr; exact .inr (.inr (.inr (.inl ⟨rfl, by omega, by omega⟩)))
    rw [if_neg k4] at hr
    exact absurd hr (by decide)
theorem tot_1 {t : VT} {far : Int} (h : rightV t far = true) : 1 ≤ tot t := by
  cases t with
  | bad => rw [rightV] at h; exact absurd h (by decide)
  | mk k n f s c ns m xs => rw [tot]; omega
theorem itemsP_step (F : Nat → List UInt8 → Except Nat (VT × Nat × List UInt8)) (k n p : Nat) (l : List UInt8) :
    itemsP F k (n + 1) p l = (if k = 6 then sP 30 l else .ok (⟨#[]⟩, l)).bind fun a => (F p a.2).bind fun b => (itemsP F k n b.2.1 b.2.2).bind fun c => .ok ((a.1, b.1) :: c.1, c.2.1, c.2.2) := by
  rw [itemsP]
  cases (if k = 6 then sP 30 l else .ok (⟨#[]⟩, l)) with
  | error c => rfl
  | ok a =>
    obtain ⟨nm, l1⟩ := a
    show (match F p l1 with
      | .error c => Except.error c
      | .ok (t, p1, l2) => match itemsP F k n p1 l2 with
        | .error c => Except.error c
        | .ok (xs, p2, l3) => Except.ok ((nm, t) :: xs, p2, l3)) = (F p l1).bind _
    cases F p l1 with
    | error c => rfl
    | ok b =>
      obtain ⟨t, p1, l2⟩ := b
      show (match itemsP F k n p1 l2 with
        | .error c => Except.error c
        | .ok (xs, p2, l3) => Except.ok ((nm, t) :: xs, p2, l3)) = (itemsP F k n p1 l2).bind _
      cases itemsP F k n p1 l2 with
      | error c => rfl
      | ok c => rfl
theorem vP_plain {q p k : Nat} {l : List UInt8} (h1 : 1 ≤ k) (h4 : k ≤ 4) (hp : p + 1 ≤ 200) : vP (q + 1) p (UInt8.ofNat k :: l) = (plainP k l).bind (fun z => .ok (z.1, p + 1, z.2)) := by
  have e := byte_lo (m := k) (by omega)
  rw [vP, if_neg (by omega)]
  show (if (UInt8.ofNat k).toNat < 1 ∨ 6 < (UInt8.ofNat k).toNat then _ else _) = _
  rw [e, if_neg (by omega), if_pos h4]
  cases plainP k l <;> rfl
theorem vP_items {q p k : Nat} {l : List UInt8} (h1 : 5 ≤ k) (h4 : k ≤ 6) (hp : p + 1 ≤ 200) : vP (q + 1) p (UInt8.ofNat k :: l) = (mP l).bind fun a => (itemsP (vP q) k a.1 (p + 1) a.2).bind fun b => .ok (treeOf k b.1, b.2.1, b.2.2) := by
  have e := byte_lo (m := k) (by omega)
  rw [vP, if_neg (by omega)]
  show (if (UInt8.ofNat k).toNat < 1 ∨ 6 < (UInt8.ofNat k).toNat then _ else _) = _
  rw [e, if_neg (by omega), if_neg (by omega)]
  cases mP l with
  | error c => rfl
  | ok a =>
    obtain ⟨n, r⟩ := a
    show (match itemsP (vP q) k n (p + 1) r with
          | .error c => Except.error c
          | .ok (xs, p', r) => Except.ok (treeOf k xs, p', r)) = (itemsP (vP q) k n (p + 1) r).bind _
    cases itemsP (vP q) k n (p + 1) r <;> rfl
theorem M_back {n : Nat} (h : n ≤ 200) (r : List UInt8) : mP (uintL n ++ r) = .ok (n, r) := by
  unfold mP
  rw [U_back (by omega)]
  show (if 200 < n then Except.error 5 else Except.ok (n, r)) = _
  rw [if_neg (by omega)]
/-- Items are read again. -/
theorem items_back (F : Nat → List UInt8 → Except Nat (VT × Nat × List UInt8)) (k : Nat) (ns : Nat → ByteArray) (G : Nat → List UInt8) (H : Nat → VT) (T : Nat → Nat) (m : Nat) (lim : Nat)
    (hn : ∀ i, i < m → (k = 6 → (ns i).size ≤ 30) ∧ (k ≠ 6 → ns i = ⟨#[]⟩))
    (hF : ∀ i, i < m → ∀ p r, p + T i ≤ lim → F p (G i ++ r) = .ok (H i, p + T i, r)) :
    ∀ r i p rest, i + r ≤ m → p + sufN T r i ≤ lim → itemsP F k r p (sufL (decide (k = 6)) ns G r i ++ rest) = .ok (itmL ns H r i, p + sufN T r i, rest) := by
  intro r
  induction r with
  | zero => intro i p rest _ _; rfl
  | succ r ih =>
    intro i p rest hi hp
    rw [sufN] at hp ⊢
    have hni := hn i (by omega)
    have hnm : (if k = 6 then sP 30 (sufL (decide (k = 6)) ns G (r + 1) i ++ rest) else Except.ok (⟨#[]⟩, sufL (decide (k = 6)) ns G (r + 1) i ++ rest)) = .ok (ns i, G i ++ (sufL (decide (k = 6)) ns G r (i + 1) ++ rest)) := by
      rw [sufL]
      by_cases h6 : k = 6
      · rw [if_pos h6, if_pos (by simpa using h6)]
        have := S_back (t := ns i) (most := 30) (by have := hni.1 h6; omega) (by have := hni.1 h6; omega) (G i ++ (sufL (decide (k = 6)) ns G r (i + 1) ++ rest))
        rw [← this]
        unfold strBL
        simp
      · rw [if_neg h6, if_neg (by simpa using h6), hni.2 h6]; simp
    rw [itemsP_step, hnm]
    show (F p (G i ++ (sufL (decide (k = 6)) ns G r (i + 1) ++ rest))).bind _ = _
    rw [hF i (by omega) p _ (by omega)]
    show (itemsP F k r (p + T i) (sufL (decide (k = 6)) ns G r (i + 1) ++ rest)).bind _ = _
    rw [ih (i + 1) (p + T i) rest (by omega) (by omega)]
    show Except.ok _ = Except.ok _
    rw [itmL, show p + T i + sufN T r (i + 1) = p + (T i + sufN T r (i + 1)) by omega]
theorem sumN_item {T : Nat → Nat} : ∀ {m : Nat}, (∀ i, i < m → 1 ≤ T i) → m ≤ sumN T m := by
  intro m
  induction m with
  | zero => intro _; omega
  | succ m ih =>
    intro h
    have h1 := ih (fun i hi => h i (by omega))
    have h2 := h m (by omega)
    have e : sumN T (m + 1) = sumN T m + T m := rfl
    omega
theorem v_back : ∀ (t : VT) (q p : Nat) (r : List UInt8), rightV t q = true → floatsIn t → numsIn t → p + tot t ≤ 200 → vP q p (valL t ++ r) = .ok (norm t, p + tot t, r) := by
  intro t
  induction t with
  | bad => intro q p r h; rw [rightV] at h; exact absurd h (by decide)
  | mk k n f s c ns m xs ih =>
    intro q p r h hf hn hp
    obtain ⟨hq, hh⟩ := right_head h
    obtain ⟨q, rfl⟩ : ∃ q', q = q' + 1 := ⟨q - 1, by omega⟩
    rw [tot] at hp ⊢
    have hT : ∀ m0, m0 = 0 → 1 + sumN (fun i => tot (xs i)) m0 = 1 := fun m0 h => by rw [h]; rfl
    rcases hh with ⟨rfl, hn01, hm⟩ | ⟨rfl, hm⟩ | ⟨rfl, hm⟩ | ⟨rfl, hs, hm⟩ | ⟨rfl, hc, hx⟩ | ⟨rfl, hc, hnn, hx⟩
    · rw [valL_plain (by omega), hT m hm]
      unfold plainL tailL norm
      rw [if_pos rfl, if_pos (by omega), if_pos (by omega), if_neg (by omega), if_neg (by omega), List.append_assoc, List.cons_append, List.nil_append]
      refine (vP_plain (k := 1) (by omega) (by omega) (by omega)).trans ?_
      unfold plainP
      rw [if_pos rfl]
      rcases hn01 with rfl | rfl <;> rfl
    · rw [valL_plain (by omega), hT m hm]
      unfold plainL tailL norm
      rw [if_neg (by omega), if_pos rfl, if_pos (by omega), if_pos (by omega), if_neg (by omega), if_neg (by omega), List.append_assoc, List.cons_append, List.nil_append]
      refine (vP_plain (k := 2) (by omega) (by omega) (by omega)).trans ?_
      unfold plainP
      rw [if_neg (by omega), if_pos rfl, I_back hn.1]
      rfl
    · rw [valL_plain (by omega), hT m hm]
      unfold plainL tailL norm
      rw [if_neg (by omega), if_neg (by omega), if_pos rfl, if_pos (by omega), if_neg (by omega), if_pos rfl, if_neg (by omega), List.append_assoc, List.cons_append, List.nil_append]
      refine (vP_plain (k := 3) (by omega) (by omega) (by omega)).trans ?_
      unfold plainP
      rw [if_neg (by omega), if_neg (by omega), if_pos rfl, W_back (canon_in hf.1)]
      show (if canonW (canonW f) = canonW f then Except.ok (leaf 3 0 (canonW f) ⟨#[]⟩, r) else Except.error 5).bind _ = _
      rw [if_pos (canon_twice f)]
      rfl
    · rw [valL_plain (by omega), hT m hm]
      unfold plainL tailL norm
      rw [if_neg (by omega), if_neg (by omega), if_neg (by omega), if_pos (by omega), if_neg (by omega), if_neg (by omega), if_pos rfl, List.append_assoc, List.cons_append, List.nil_append]
      refine (vP_plain (k := 4) (by omega) (by omega) (by omega)).trans ?_
      unfold plainP
      rw [if_neg (by omega), if_neg (by omega), if_neg (by omega)]
      unfold strBL
      rw [S_back (by omega) (by omega)]
      rfl
    · have hsum := sumN_item (T := fun i => tot (xs i)) (m := m) (fun i hi => tot_1 (hx i hi))
      rw [valL_items (by omega)]
      unfold norm
      rw [if_neg (by omega), ← suf_all, List.append_assoc, List.append_assoc, List.cons_append, List.nil_append]
      refine (vP_items (k := 5) (by omega) (by omega) (by omega)).trans ?_
      rw [M_back (by omega)]
      have hI := items_back (vP q) 5 (nz 5 ns) (fun i => valL (xs i)) (fun i => norm (xs i)) (fun i => tot (xs i)) m 200 (fun i hi => ⟨fun h => absurd h (by omega), fun _ => by unfold nz; rw [if_neg (by omega)]; rfl⟩)
        (fun i hi p r hp => ih i q p r (by have := hx i hi; rwa [show ((q + 1 : Nat) : Int) - 1 = (q : Nat) by omega] at this) (hf.2 i hi) (hn.2 i hi) hp) m 0 (p + 1) r (by omega) (by rw [sufN_all]; omega)
      show (itemsP (vP q) 5 m (p + 1) (sufL (decide ((5 : Nat) = 6)) (nz 5 ns) (fun i => valL (xs i)) m 0 ++ r)).bind _ = _
      rw [hI, sufN_all]
      show Except.ok _ = Except.ok _
      rw [show p + 1 + sumN (fun i => tot (xs i)) m = p + (1 + sumN (fun i => tot (xs i)) m) by omega]
      rfl
    · have hsum := sumN_item (T := fun i => tot (xs i)) (m := m) (fun i hi => tot_1 (hx i hi))
      rw [valL_items (by omega)]
      unfold norm
      rw [if_neg (by omega), ← suf_all, List.append_assoc, List.append_assoc, List.cons_append, List.nil_append]
      refine (vP_items (k := 6) (by omega) (by omega) (by omega)).trans ?_
      rw [M_back (by omega)]
      have hI := items_back (vP q) 6 (nz 6 ns) (fun i => valL (xs i)) (fun i => norm (xs i)) (fun i => tot (xs i)) m 200 (fun i hi => ⟨fun _ => by rw [nz_6]; exact hnn i hi, fun h => absurd rfl h⟩)
        (fun i hi p r hp => ih i q p r (by have := hx i hi; rwa [show ((q + 1 : Nat) : Int) - 1 = (q : Nat) by omega] at this) (hf.2 i hi) (hn.2 i hi) hp) m 0 (p + 1) r (by omega) (by rw [sufN_all]; omega)
      show (itemsP (vP q) 6 m (p + 1) (sufL (decide ((6 : Nat) = 6)) (nz 6 ns) (fun i => valL (xs i)) m 0 ++ r)).bind _ = _
      rw [hI, sufN_all]
      show Except.ok _ = Except.ok _
      rw [show p + 1 + sumN (fun i => tot (xs i)) m = p + (1 + sumN (fun i => tot (xs i)) m) by omega]
      rfl
end Go.Proofs.YtekojglcbalhnaaGreatDoor
namespace Go.Proofs.YtekojglcbalhnaaGreatDoor
open Go.RowKit

theorem M_cut {n j : Nat} (h : n ≤ 200) (hj : j < (uintL n).length) : mP ((uintL n).take j) = .error 14 := by
  unfold mP
  rw [U_cut (by omega) hj]
theorem items_cut (F : Nat → List UInt8 → Except Nat (VT × Nat × List UInt8)) (k : Nat) (ns : Nat → ByteArray) (G : Nat → List UInt8) (H : Nat → VT) (T : Nat → Nat) (m : Nat) (lim : Nat)
    (hn : ∀ i, i < m → (k = 6 → (ns i).size ≤ 30) ∧ (k ≠ 6 → ns i = ⟨#[]⟩))
    (hF : ∀ i, i < m → ∀ p r, p + T i ≤ lim → F p (G i ++ r) = .ok (H i, p + T i, r))
    (hC : ∀ i, i < m → ∀ p j, p + T i ≤ lim → j < (G i).length → F p ((G i).take j) = .error 14) :
    ∀ r i p j, i + r ≤ m → p + sufN T r i ≤ lim → j < (sufL (decide (k = 6)) ns G r i).length → itemsP F k r p ((sufL (decide (k = 6)) ns G r i).take j) = .error 14 := by
  intro r
  induction r with
  | zero => intro i p j _ _ hj; simp [sufL] at hj
  | succ r ih =>
    intro i p j hi hp hj
    rw [sufN] at hp
    have hni := hn i (by omega)
    rw [sufL] at hj ⊢
    have rest : ∀ nm l1 j', (if k = 6 then sP 30 l1 else Except.ok (⟨#[]⟩, l1)) = .ok (nm, (G i ++ sufL (decide (k = 6)) ns G r (i + 1)).take j') → j' < (G i ++ sufL (decide (k = 6)) ns G r (i + 1)).length → itemsP F k (r + 1) p l1 = .error 14 := by
      intro nm l1 j' hl hj'
      rw [itemsP_step, hl]
      show (F p ((G i ++ sufL (decide (k = 6)) ns G r (i + 1)).take j')).bind _ = _
      rcases take_cat (G i) (sufL (decide (k = 6)) ns G r (i + 1)) j' with ⟨h1, h2⟩ | ⟨h1, h2⟩
      · rw [h2, hC i (by omega) p j' (by omega) h1]; rfl
      · rw [h2, hF i (by omega) p _ (by omega)]
        show (itemsP F k r (p + T i) ((sufL (decide (k = 6)) ns G r (i + 1)).take (j' - (G i).length))).bind _ = _
        rw [List.length_append] at hj'
        rw [ih (i + 1) (p + T i) _ (by omega) (by omega) (by omega)]; rfl
    by_cases h6 : k = 6
    · rw [if_pos (by simpa using h6)] at hj ⊢
      rw [List.append_assoc] at hj ⊢
      rcases take_cat (strBL (ns i)) (G i ++ sufL (decide (k = 6)) ns G r (i + 1)) j with ⟨h1, h2⟩ | ⟨h1, h2⟩
      · rw [h2, itemsP_step, if_pos h6]
        have := S_cut (t := ns i) (most := 30) (j := j) (by have := hni.1 h6; omega) (by have := hni.1 h6; omega) h1
        have e : sP 30 ((strBL (ns i)).take j) = .error 14 := this
        rw [e]; rfl
      · rw [h2]
        rw [List.length_append] at hj
        refine rest (ns i) _ (j - (strBL (ns i)).length) ?_ (by omega)
        rw [if_pos h6]
        exact S_back (t := ns i) (most := 30) (by have := hni.1 h6; omega) (by have := hni.1 h6; omega) _
    · rw [if_neg (by simpa using h6), List.nil_append] at hj ⊢
      exact rest ⟨#[]⟩ _ j (by rw [if_neg h6]) hj
theorem v_cut : ∀ (t : VT) (q p j : Nat), rightV t q = true → floatsIn t → numsIn t → p + tot t ≤ 200 → j < (valL t).length → vP q p ((valL t).take j) = .error 14 := by
  intro t
  induction t with
  | bad => intro q p j h; rw [rightV] at h; exact absurd h (by decide)
  | mk k n f s c ns m xs ih =>
    intro q p j h hf hn hp hj
    obtain ⟨hq, hh⟩ := right_head h
    obtain ⟨q, rfl⟩ : ∃ q', q = q' + 1 := ⟨q - 1, by omega⟩
    have hp1 : p + 1 ≤ 200 := by rw [tot] at hp; omega
    have h0 : vP (q + 1) p [] = .error 14 := by rw [vP, if_neg (by omega)]
    cases j with
    | zero => exact h0
    | succ j =>
      have plain : ∀ (k0 : Nat) (L : List UInt8), valL (.mk k n f s c ns m xs) = [UInt8.ofNat k0] ++ L → 1 ≤ k0 → k0 ≤ 4 → (j < L.length → plainP k0 (L.take j) = .error 14) → vP (q + 1) p ((valL (.mk k n f s c ns m xs)).take (j + 1)) = .error 14 := by
        intro k0 L e h1 h4 hL
        rw [e] at hj ⊢
        rw [List.cons_append, List.nil_append, List.take_succ_cons, vP_plain h1 h4 hp1, hL (by simpa using hj)]
        rfl
      rcases hh with ⟨rfl, hn01, hm⟩ | ⟨rfl, hm⟩ | ⟨rfl, hm⟩ | ⟨rfl, hs, hm⟩ | ⟨rfl, hc, hx⟩ | ⟨rfl, hc, hnn, hx⟩
      · refine plain 1 [UInt8.ofNat n.toNat] (by rw [valL_plain (by omega)]; unfold plainL tailL; rw [if_pos rfl]; rfl) (by omega) (by omega) (fun hj => ?_)
        obtain rfl : j = 0 := by simpa using hj
        rfl
      · refine plain 2 (uintL (zig n)) (by rw [valL_plain (by omega)]; unfold plainL tailL; rw [if_neg (by omega), if_pos rfl]; rfl) (by omega) (by omega) (fun hj => ?_)
        unfold plainP
        rw [if_neg (by omega), if_pos rfl, I_cut hn.1 hj]
      · refine plain 3 (wordL (canonW f) 8) (by rw [valL_plain (by omega)]; unfold plainL tailL; rw [if_neg (by omega), if_neg (by omega), if_pos rfl]; rfl) (by omega) (by omega) (fun hj => ?_)
        unfold plainP
        rw [if_neg (by omega), if_neg (by omega), if_pos rfl, W_cut hj]
      · refine plain 4 (strBL s) (by rw [valL_plain (by omega)]; unfold plainL tailL; rw [if_neg (by omega), if_neg (by omega), if_neg (by omega)]; rfl) (by omega) (by omega) (fun hj => ?_)
        unfold plainP
        rw [if_neg (by omega), if_neg (by omega), if_neg (by omega)]
        have e : sP 200 ((strBL s).take j) = .error 14 := S_cut (by omega) (by omega) hj
        rw [e]
      · have hsum := sumN_item (T := fun i => tot (xs i)) (m := m) (fun i hi => tot_1 (hx i hi))
        rw [tot] at hp
        rw [valL_items (by omega), ← suf_all, List.append_assoc, List.cons_append, List.nil_append] at hj ⊢
        rw [List.take_succ_cons]
        refine (vP_items (k := 5) (by omega) (by omega) (by omega)).trans ?_
        have hj' : j < (uintL m ++ sufL (decide ((5 : Int) = 6)) (nz 5 ns) (fun i => valL (xs i)) m 0).length := by simpa using hj
        rcases take_cat (uintL m) (sufL (decide ((5 : Int) = 6)) (nz 5 ns) (fun i => valL (xs i)) m 0) j with ⟨h1, h2⟩ | ⟨h1, h2⟩
        · rw [h2, M_cut (by omega) h1]; rfl
        · rw [h2, M_back (by omega)]
          rw [List.length_append] at hj'
          have hr : ∀ i, i < m → rightV (xs i) (q : Nat) = true := fun i hi => by have := hx i hi; rwa [show ((q + 1 : Nat) : Int) - 1 = (q : Nat) by omega] at this
          have hI := items_cut (vP q) 5 (nz 5 ns) (fun i => valL (xs i)) (fun i => norm (xs i)) (fun i => tot (xs i)) m 200 (fun i hi => ⟨fun h => absurd h (by omega), fun _ => by unfold nz; rw [if_neg (by omega)]; rfl⟩)
            (fun i hi p r hp => v_back (xs i) q p r (hr i hi) (hf.2 i hi) (hn.2 i hi) hp) (fun i hi p j hp hj => ih i q p j (hr i hi) (hf.2 i hi) (hn.2 i hi) hp hj) m 0 (p + 1) (j - (uintL m).length) (by omega) (by rw [sufN_all]; omega) (by show j - (uintL m).length < (sufL (decide ((5 : Int) = 6)) (nz 5 ns) (fun i => valL (xs i)) m 0).length; omega)
          show (itemsP (vP q) 5 m (p + 1) ((sufL (decide ((5 : Nat) = 6)) (nz 5 ns) (fun i => valL (xs i)) m 0).take (j - (uintL m).length))).bind _ = _
          rw [hI]; rfl
      · have hsum := sumN_item (T := fun i => tot (xs i)) (m := m) (fun i hi => tot_1 (hx i hi))
        rw [tot] at hp
        rw [valL_items (by omega), ← suf_all, List.append_assoc, List.cons_append, List.nil_append] at hj ⊢
        rw [List.take_succ_cons]
        refine (vP_items (k := 6) (by omega) (by omega) (by omega)).trans ?_
        have hj' : j < (uintL m ++ sufL (decide ((6 : Int) = 6)) (nz 6 ns) (fun i => valL (xs i)) m 0).length := by simpa using hj
        rcases take_cat (uintL m) (sufL (decide ((6 : Int) = 6)) (nz 6 ns) (fun i => valL (xs i)) m 0) j with ⟨h1, h2⟩ | ⟨h1, h2⟩
        · rw [h2, M_cut (by omega) h1]; rfl
        · rw [h2, M_back (by omega)]
          rw [List.length_append] at hj'
          have hr : ∀ i, i < m → rightV (xs i) (q : Nat) = true := fun i hi => by have := hx i hi; rwa [show ((q + 1 : Nat) : Int) - 1 = (q : Nat) by omega] at this
          have hI := items_cut (vP q) 6 (nz 6 ns) (fun i => valL (xs i)) (fun i => norm (xs i)) (fun i => tot (xs i)) m 200 (fun i hi => ⟨fun _ => by rw [nz_6]; exact hnn i hi, fun h => absurd rfl h⟩)
            (fun i hi p r hp => v_back (xs i) q p r (hr i hi) (hf.2 i hi) (hn.2 i hi) hp) (fun i hi p j hp hj => ih i q p j (hr i hi) (hf.2 i hi) (hn.2 i hi) hp hj) m 0 (p + 1) (j - (uintL m).length) (by omega) (by rw [sufN_all]; omega) (by show j - (uintL m).length < (sufL (decide ((6 : Int) = 6)) (nz 6 ns) (fun i => valL (xs i)) m 0).length; omega)
          show (itemsP (vP q) 6 m (p + 1) ((sufL (decide ((6 : Nat) = 6)) (nz 6 ns) (fun i => valL (xs i)) m 0).take (j - (uintL m).length))).bind _ = _
          rw [hI]; rfl
end Go.Proofs.YtekojglcbalhnaaGreatDoor

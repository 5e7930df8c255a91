/-
  The document's reader: Value, whole.
  Plain facts on values as bytes: what is written is read again, cut off it is none, and each has one way.
  Plain facts on values as bytes: what is written is read as it was.
-/
import Derived.Test.YteclpehbpicpaaaM19
import Derived.Test.YteclpehbpicpaaaM03
import Derived.Test.YteclpehbpicpaaaM15
namespace Go.Proofs.Yteclpehbpicpaaa
open Go.RowKit

theorem sP_size200 {l r : List UInt8} {t : ByteArray} (h : sP 200 l = .ok (t, r)) : t.size ≤ maxLen := by
  unfold sP at h
  cases hu : uP 0 0 l with
  | error c => rw [hu] at h; cases h
  | ok q =>
    obtain ⟨n, r0⟩ := q
    rw [hu] at h
    dsimp only at h
    by_cases h1 : (200 : Int) < 0 ∨ (200 : Int) < n
    · rw [if_pos h1] at h; cases h
    · rw [if_neg h1] at h
      by_cases h2 : r0.length < n
      · rw [if_pos h2] at h; cases h
      · rw [if_neg h2] at h
        cases h
        have e : (strL (r0.take n)).size = (r0.take n).length := rfl
        rw [e, List.length_take]
        unfold maxLen
        omega
theorem itemsP_parts {F : Nat → List UInt8 → Except Nat (VT × Nat × List UInt8)} {k : Nat} (hF : ∀ p l t p' r, F p l = .ok (t, p', r) → p' ≤ 200) : ∀ (n p : Nat) (l : List UInt8) xs p' r, p ≤ 200 → itemsP F k n p l = .ok (xs, p', r) → p' ≤ 200 := by
  intro n
  induction n with
  | zero => intro p l xs p' r hp h; rw [itemsP] at h; cases h; exact hp
  | succ n ih =>
    intro p l xs p' r hp h
    rw [itemsP] at h
    generalize (if k = 6 then sP 30 l else .ok (⟨#[]⟩, l)) = z at h
    cases z with
    | error c => cases h
    | ok q =>
      obtain ⟨nm, l1⟩ := q
      dsimp only at h
      cases hf : F p l1 with
      | error c => rw [hf] at h; cases h
      | ok q =>
        obtain ⟨t, p1, l2⟩ := q
        rw [hf] at h
        dsimp only at h
        cases hi : itemsP F k n p1 l2 with
        | error c => rw [hi] at h; cases h
        | ok q =>
          obtain ⟨xs2, p2, l3⟩ := q
          rw [hi] at h
          cases h
          exact ih p1 l2 _ _ _ (hF _ _ _ _ _ hf) hi
theorem mP_le {l r : List UInt8} {n : Nat} (h : mP l = .ok (n, r)) : n ≤ 200 := by
  unfold mP at h
  cases hu : uP 0 0 l with
  | error c => rw [hu] at h; cases h
  | ok q =>
    obtain ⟨m, r0⟩ := q
    rw [hu] at h
    dsimp only at h
    by_cases h1 : 200 < m
    · rw [if_pos h1] at h; cases h
    · rw [if_neg h1] at h; cases h; omega
theorem vP_nil (q p : Nat) : vP (q + 1) p [] = if 200 < p + 1 then .error 5 else .error 14 := rfl
theorem vP_cons (q p : Nat) (b : UInt8) (r : List UInt8) : vP (q + 1) p (b :: r) = if 200 < p + 1 then .error 5 else
      if b.toNat < 1 ∨ 6 < b.toNat then .error 5
      else if b.toNat ≤ 4 then (match plainP b.toNat r with | .error c => .error c | .ok (t, r) => .ok (t, p + 1, r))
      else match mP r with
        | .error c => .error c
        | .ok (n, r) => match itemsP (vP q) b.toNat n (p + 1) r with
          | .error c => .error c
          | .ok (xs, p', r) => .ok (treeOf b.toNat xs, p', r) := rfl
theorem vP_parts : ∀ (q p : Nat) (l : List UInt8) t p' r, vP q p l = .ok (t, p', r) → p' ≤ 200 := by
  intro q
  induction q with
  | zero => intro p l t p' r h; rw [vP] at h; cases h
  | succ q ih =>
    intro p l t p' r h
    cases l with
    | nil =>
      rw [vP_nil] at h
      by_cases h1 : 200 < p + 1
      · rw [if_pos h1] at h; cases h
      · rw [if_neg h1] at h; cases h
    | cons b l =>
      rw [vP_cons] at h
      by_cases h1 : 200 < p + 1
      · rw [if_pos h1] at h; cases h
      · rw [if_neg h1] at h
        by_cases h2 : b.toNat < 1 ∨ 6 < b.toNat
        · rw [if_pos h2] at h; cases h
        · rw [if_neg h2] at h
          by_cases h3 : b.toNat ≤ 4
          · rw [if_pos h3] at h
            cases hp : plainP b.toNat l with
            | error c => rw [hp] at h; cases h
            | ok z => obtain ⟨t1, r1⟩ := z; rw [hp] at h; cases h; omega
          · rw [if_neg h3] at h
            cases hm : mP l with
            | error c => rw [hm] at h; cases h
            | ok z =>
              obtain ⟨n, r1⟩ := z
              rw [hm] at h
              dsimp only at h
              cases hi : itemsP (vP q) b.toNat n (p + 1) r1 with
              | error c => rw [hi] at h; cases h
              | ok z =>
                obtain ⟨xs, p2, r2⟩ := z
                rw [hi] at h
                cases h
                exact itemsP_parts ih _ _ _ _ _ _ (by omega) hi
theorem iP_bound {l r : List UInt8} {n : Int} (h : iP l = .ok (n, r)) : -9223372036854775808 ≤ n ∧ n ≤ 9223372036854775807 := by
  unfold iP at h
  cases hu : uP 0 0 l with
  | error c => rw [hu] at h; cases h
  | ok q =>
    obtain ⟨m, r0⟩ := q
    have := uP_lt l 0 0 m r0 (fun _ => by decide) hu
    rw [hu] at h
    cases h
    unfold zag
    split <;> omega
theorem plainP_1 (l : List UInt8) : plainP 1 l = (match l with | [] => .error 14 | c :: r => if 1 < c.toNat then .error 5 else .ok (leaf 1 c.toNat 0 ⟨#[]⟩, r)) := rfl
theorem plainP_2 (l : List UInt8) : plainP 2 l = (match iP l with | .error c => .error c | .ok (n, r) => .ok (leaf 2 n 0 ⟨#[]⟩, r)) := rfl
theorem plainP_3 (l : List UInt8) : plainP 3 l = (match wP 8 0 l with | .error c => .error c | .ok (b, r) => if canonW b = b then .ok (leaf 3 0 b ⟨#[]⟩, r) else .error 5) := rfl
theorem plainP_4 (l : List UInt8) : plainP 4 l = (match sP 200 l with | .error c => .error c | .ok (t, r) => .ok (leaf 4 0 0 t, r)) := rfl
theorem RValue_plain {w : World} {g : Nat} {s : ByteArray} {a p : Nat} {d : Int} (h : Rdr w g s a 0 p) (hp : ¬ (12 < d ∨ 200 < p + 1)) (ha : a < s.size) (hs : s.size ≤ 1000000000) (h1 : 1 ≤ s[a].toNat) (h4 : s[a].toNat ≤ 4) :
    Calls Try.prog 62 #[.pointer (some ⟨g, 0, none⟩), .int .i64 d] w fun x w' => VEnds s w g (match plainP s[a].toNat (left s (a + 1)) with | .error c => .error c | .ok (t, r) => .ok (t, p + 1, r)) x w' := by
  obtain hk | hk | hk | hk : s[a].toNat = 1 ∨ s[a].toNat = 2 ∨ s[a].toNat = 3 ∨ s[a].toNat = 4 := by omega
  · rw [hk, plainP_1]
    by_cases hi : a + 1 < s.size
    · rw [left_cons hi]
      dsimp only
      by_cases h1c : 1 < s[a + 1].toNat
      · rw [if_pos h1c]
        exact RValue_1b hi rfl (by omega) h hp ha hs (by rw [hk]; rfl)
      · rw [if_neg h1c]
        exact RValue_1 hi rfl (by omega) h hp ha hs (by rw [hk]; rfl)
    · rw [left_nil (by omega)]
      exact RValue_1t (by omega) h hp ha hs (by rw [hk]; rfl)
  · rw [hk, plainP_2]
    cases hi : iP (left s (a + 1)) with
    | error c => exact RValue_2e hi h hp ha hs (by rw [hk]; rfl)
    | ok q =>
      obtain ⟨n, r⟩ := q
      exact RValue_2 hi (iP_bound hi) h hp ha hs (by rw [hk]; rfl)
  · rw [hk, plainP_3]
    cases hi : wP 8 0 (left s (a + 1)) with
    | error c =>
      obtain ⟨rfl, hl⟩ := wP_err _ _ _ _ hi
      exact RValue_3e hl h hp ha hs (by rw [hk]; rfl)
    | ok q =>
      obtain ⟨b, r⟩ := q
      dsimp only
      by_cases hc : canonW b = b
      · rw [if_pos hc]
        exact RValue_3 hi hc h hp ha hs (by rw [hk]; rfl)
      · rw [if_neg hc]
        exact RValue_3n hi hc h hp ha hs (by rw [hk]; rfl)
  · rw [hk, plainP_4]
    cases hi : sP 200 (left s (a + 1)) with
    | error c => exact RValue_4e hi h hp ha hs (by rw [hk]; rfl)
    | ok q =>
      obtain ⟨t, r⟩ := q
      exact RValue_4 hi (sP_size200 hi) h hp ha hs (by rw [hk]; rfl)
theorem endP_eq (k : Nat) (r : Except Nat (List (ByteArray × VT) × Nat × List UInt8)) : endP k r = (match r with | .error c => .error c | .ok (xs, p', r) => .ok (treeOf k xs, p', r)) := by
  cases r with
  | error c => rfl
  | ok q => obtain ⟨xs, p, l⟩ := q; rfl
/-- The document's reader of a value answers vP. -/
theorem RValue_any {g : Nat} {s : ByteArray} (hs : s.size ≤ 1000000000) : ∀ (q : Nat) (w : World) (a p : Nat), q ≤ 13 → Rdr w g s a 0 p → a ≤ s.size → p ≤ 200 →
    Calls Try.prog 62 #[.pointer (some ⟨g, 0, none⟩), .int .i64 (13 - (q : Int))] w fun x w' => VEnds s w g (vP q p (left s a)) x w' := by
  intro q
  induction q with
  | zero =>
    intro w a p hq h ha hp
    exact RValue_begin h (by omega) (.inl (by omega))
  | succ q ih =>
    intro w a p hq h ha hp
    have hd : (13 - ((q + 1 : Nat) : Int)) + 1 = 13 - (q : Int) := by omega
    by_cases ha' : a < s.size
    · rw [left_cons ha', vP_cons]
      by_cases h1 : 200 < p + 1
      · rw [if_pos h1]
        exact RValue_begin h (by omega) (.inr h1)
      · have hb : ¬ (12 < 13 - ((q + 1 : Nat) : Int) ∨ 200 < p + 1) := by omega
        rw [if_neg h1]
        by_cases h2 : s[a].toNat < 1 ∨ 6 < s[a].toNat
        · rw [if_pos h2]
          exact RValue_kind h hb ha' hs rfl (by omega)
        · rw [if_neg h2]
          by_cases h3 : s[a].toNat ≤ 4
          · rw [if_pos h3]
            exact RValue_plain h hb ha' hs (by omega) h3
          · rw [if_neg h3]
            obtain hk | hk : s[a].toNat = 5 ∨ s[a].toNat = 6 := by omega
            · rw [hk]
              cases hm : mP (left s (a + 1)) with
              | error c => exact RValue_5e hm h hb ha' hs (by rw [hk]; rfl)
              | ok z =>
                obtain ⟨n, l0⟩ := z
                have := RValue_5 (F := vP q) (by omega) (vP_parts q) (fun w a p h1 h2 h3 => by rw [hd]; exact ih w a p (by omega) h1 h2 h3) hm (mP_le hm) h hb ha' hs (by rw [hk]; rfl)
                rw [endP_eq] at this
                exact this
            · rw [hk]
              cases hm : mP (left s (a + 1)) with
              | error c => exact RValue_6e hm h hb ha' hs (by rw [hk]; rfl)
              | ok z =>
                obtain ⟨n, l0⟩ := z
                have := RValue_6 (F := vP q) (by omega) (vP_parts q) (fun w a p h1 h2 h3 => by rw [hd]; exact ih w a p (by omega) h1 h2 h3) hm (mP_le hm) h hb ha' hs (by rw [hk]; rfl)
                rw [endP_eq] at this
                exact this
    · rw [left_nil (by omega), vP_nil]
      by_cases h1 : 200 < p + 1
      · rw [if_pos h1]
        exact RValue_begin h (by omega) (.inr h1)
      · rw [if_neg h1]
        exact RValue_end h (by omega) (by omega)
end Go.Proofs.Yteclpehbpicpaaa
namespace Go.Proofs.Yteclpehbpicpaaa
open Go.RowKit

/-! ### Words -/
theorem wordL_8 (b : Nat) : wordL b 8 = [UInt8.ofNat (b / 2 ^ 56 % 256), UInt8.ofNat (b / 2 ^ 48 % 256), UInt8.ofNat (b / 2 ^ 40 % 256), UInt8.ofNat (b / 2 ^ 32 % 256), UInt8.ofNat (b / 2 ^ 24 % 256), UInt8.ofNat (b / 2 ^ 16 % 256), UInt8.ofNat (b / 2 ^ 8 % 256), UInt8.ofNat (b / 2 ^ 0 % 256)] := rfl
theorem byte_mod (n : Nat) : (UInt8.ofNat (n % 256)).toNat = n % 256 := by simp
theorem W_back {b : Nat} (h : b < 18446744073709551616) (r : List UInt8) : wP 8 0 (wordL b 8 ++ r) = .ok (b, r) := by
  rw [wordL_8]
  simp only [List.cons_append, List.nil_append, wP, byte_mod]
  congr 2
  simp only [Nat.reducePow, Nat.zero_mul, Nat.zero_add, Nat.div_one]
  omega
theorem wP_short : ∀ (k b : Nat) (l : List UInt8), l.length < k → wP k b l = .error 14 := by
  intro k
  induction k with
  | zero => intro b l h; omega
  | succ k ih =>
    intro b l h
    cases l with
    | nil => rfl
    | cons c l => rw [wP]; exact ih _ _ (by simpa using h)
theorem W_cut {b j : Nat} (hj : j < (wordL b 8).length) : wP 8 0 ((wordL b 8).take j) = .error 14 :=
  wP_short 8 0 _ (by rw [List.length_take]; rw [wordL_len] at hj ⊢; omega)
theorem W_one {l r : List UInt8} {b : Nat} (h : wP 8 0 l = .ok (b, r)) : l = wordL b 8 ++ r ∧ b < 18446744073709551616 := by
  match l, h with
  | [], h => cases h
  | [_], h => cases h
  | [_, _], h => cases h
  | [_, _, _], h => cases h
  | [_, _, _, _], h => cases h
  | [_, _, _, _, _], h => cases h
  | [_, _, _, _, _, _], h => cases h
  | [_, _, _, _, _, _, _], h => cases h
  | c0 :: c1 :: c2 :: c3 :: c4 :: c5 :: c6 :: c7 :: q, h =>
    simp only [wP] at h
    injection h with h
    injection h with h1 h2
    have g0 := c0.toNat_lt
    have g1 := c1.toNat_lt
    have g2 := c2.toNat_lt
    have g3 := c3.toNat_lt
    have g4 := c4.toNat_lt
    have g5 := c5.toNat_lt
    have g6 := c6.toNat_lt
    have g7 := c7.toNat_lt
    simp only [Nat.reducePow, Nat.zero_mul, Nat.zero_add] at *
    have e (c : UInt8) (n : Nat) (h : n = c.toNat) : UInt8.ofNat n = c := by rw [h]; simp
    subst h2
    refine ⟨?_, by omega⟩
    rw [wordL_8, ← h1]
    simp only [Nat.reducePow, Nat.div_one]
    rw [e c0 _ (by omega), e c1 _ (by omega), e c2 _ (by omega), e c3 _ (by omega), e c4 _ (by omega), e c5 _ (by omega), e c6 _ (by omega), e c7 _ (by omega)]
    rfl
theorem canon_in {f : Nat} (h : f < 18446744073709551616) : canonW f < 18446744073709551616 := by unfold canonW; split <;> omega
theorem canon_twice (f : Nat) : canonW (canonW f) = canonW f := by
  unfold canonW
  by_cases h : nanB f = true
  · rw [if_pos h]; decide
  · rw [if_neg h, if_neg h]
end Go.Proofs.Yteclpehbpicpaaa
namespace Go.Proofs.Yteclpehbpicpaaa
open Go.RowKit

/-- The items from i on, so many: their bytes, and what they are. -/
def sufL (nm : Bool) (ns : Nat → ByteArray) (G : Nat → List UInt8) : Nat → Nat → List UInt8
  | 0, _ => []
  | r + 1, i => ((if nm = true then strBL (ns i) else []) ++ G i) ++ sufL nm ns G r (i + 1)
def itmL (ns : Nat → ByteArray) (H : Nat → VT) : Nat → Nat → List (ByteArray × VT)
  | 0, _ => []
  | r + 1, i => (ns i, H i) :: itmL ns H r (i + 1)
def sufN (T : Nat → Nat) : Nat → Nat → Nat
  | 0, _ => 0
  | r + 1, i => T i + sufN T r (i + 1)
theorem suf_it (nm : Bool) (ns : Nat → ByteArray) (G : Nat → List UInt8) : ∀ r i, itL nm ns G i ++ sufL nm ns G r i = itL nm ns G (i + r) := by
  intro r
  induction r with
  | zero => intro i; simp [sufL]
  | succ r ih =>
    intro i
    have h := ih (i + 1)
    rw [itL] at h
    rw [sufL, show i + (r + 1) = i + 1 + r by omega, ← h]
    simp
theorem suf_all (nm : Bool) (ns : Nat → ByteArray) (G : Nat → List UInt8) (m : Nat) : sufL nm ns G m 0 = itL nm ns G m := by
  have h := suf_it nm ns G m 0
  simpa [itL] using h
theorem sufN_it (T : Nat → Nat) : ∀ r i, sumN T i + sufN T r i = sumN T (i + r) := by
  intro r
  induction r with
  | zero => intro i; simp [sufN]
  | succ r ih =>
    intro i
    have h := ih (i + 1)
    have e : sumN T (i + 1) = sumN T i + T i := rfl
    rw [sufN, show i + (r + 1) = i + 1 + r by omega, ← h]
    omega
theorem sufN_all (T : Nat → Nat) (m : Nat) : sufN T m 0 = sumN T m := by
  have h := sufN_it T m 0
  have e : sumN T 0 = 0 := rfl
  rw [e] at h
  simpa using h
theorem itm_len (ns : Nat → ByteArray) (H : Nat → VT) : ∀ r i, (itmL ns H r i).length = r := by
  intro r
  induction r with
  | zero => intro i; rfl
  | succ r ih => intro i; rw [itmL, List.length_cons, ih]
theorem itm_get (ns : Nat → ByteArray) (H : Nat → VT) (d : ByteArray × VT) : ∀ r i j, j < r → (itmL ns H r i).getD j d = (ns (i + j), H (i + j)) := by
  intro r
  induction r with
  | zero => intro i j h; omega
  | succ r ih =>
    intro i j h
    rw [itmL]
    cases j with
    | zero => rfl
    | succ j =>
      rw [List.getD_cons_succ, ih (i + 1) j (by omega), show i + 1 + j = i + (j + 1) by omega]
/-- A value as it is read again. -/
def norm : VT → VT
  | .bad => .bad
  | .mk k n f s _ ns m xs =>
    if k = 1 ∨ k = 2 ∨ k = 3 ∨ k = 4 then leaf k (if k = 1 ∨ k = 2 then n else 0) (if k = 3 then canonW f else 0) (if k = 4 then s else ⟨#[]⟩)
    else treeOf k.toNat (itmL (nz k ns) (fun i => norm (xs i)) m 0)
/-- Floats of 64 bits, all through. -/
def floatsIn : VT → Prop
  | .bad => True
  | .mk _ _ f _ _ _ m xs => f < 18446744073709551616 ∧ ∀ i, i < m → floatsIn (xs i)
/-- Numbers of 64 bits, all through. -/
def numsIn : VT → Prop
  | .bad => True
  | .mk _ n _ _ _ _ m xs => (-9223372036854775808 ≤ n ∧ n ≤ 9223372036854775807) ∧ ∀ i, i < m → numsIn (xs i)
theorem Val.fin {w : World} {lim : Nat} {v : Array Value} {t : VT} (h : Val w lim v t) : floatsIn t ∧ numsIn t := by
  induction h with
  | mk k n f s A c ca B m cb ns xs vs hk hn hf hs hc hm hns hB hxs ih => exact ⟨⟨hf, fun i hi => (ih i hi).1⟩, ⟨hn, fun i hi => (ih i hi).2⟩⟩
/-- What a right value's head says. -/
theorem right_head {k n : Int} {f : Nat} {s : ByteArray} {c : Nat} {ns : Nat → ByteArray} {m : Nat} {xs : Nat → VT} {far : Int} (h : rightV (.mk k n f s c ns m xs) far = true) :
    1 ≤ far ∧ ((k = 1 ∧ (n = 0 ∨ n = 1) ∧ m = 0) ∨ (k = 2 ∧ m = 0) ∨ (k = 3 ∧ m = 0) ∨ (k = 4 ∧ s.size ≤ 200 ∧ m = 0) ∨
      (k = 5 ∧ c = 0 ∧ ∀ i, i < m → rightV (xs i) (far - 1) = true) ∨ (k = 6 ∧ c = m ∧ (∀ i, i < m → (ns i).size ≤ 30) ∧ ∀ i, i < m → rightV (xs i) (far - 1) = true)) := by
  rw [rightV, Bool.and_eq_true] at h
  obtain ⟨h1, hr⟩ := h
  refine ⟨of_decide_eq_true h1, ?_⟩
  by_cases h56 : k = 5 ∨ k = 6
  · rw [if_pos h56, Bool.and_eq_true] at hr
    obtain ⟨hh, hall⟩ := hr
    have hitem : ∀ i, i < m → rightV (xs i) (far - 1) = true := fun i hi => List.all_eq_true.1 hall i (List.mem_range.2 hi)
    rcases h56 with rfl | rfl
    · have hc0 : c = 0 := by unfold headB at hh; simp at hh; omega
      exact .inr (.inr (.inr (.inr (.inl ⟨rfl, hc0, hitem⟩))))
    · unfold headB at hh
      simp only [show ¬ ((6 : Int) = 5) by omega, if_false, Bool.and_eq_true] at hh
      obtain ⟨_, _, _, hrise, hcm⟩ := hh
      have hcm : (c : Int) = m := by simpa using hcm
      have hcm : c = m := by omega
      refine .inr (.inr (.inr (.inr (.inr ⟨rfl, hcm, fun i hi => ?_, hitem⟩))))
      have hat := List.all_eq_true.1 hrise i (List.mem_range.2 (by omega))
      unfold riseAt nameB at hat
      simp at hat
      omega
  · rw [if_neg h56] at hr
    unfold plainB at hr
    by_cases k1 : k = 1
    · subst k1; rw [if_pos rfl] at hr; simp at hr; exact .inl ⟨rfl, by omega, by omega⟩
    rw [if_neg k1] at hr
    by_cases k2 : k = 2
    · subst k2; rw [if_pos rfl] at hr; simp at hr; exact .inr (.inl ⟨rfl, by omega⟩)
    rw [if_neg k2] at hr
    by_cases k3 : k = 3
    · subst k3; rw [if_pos rfl] at hr; simp at hr; exact .inr (.inr (.inl ⟨rfl, by omega⟩))
    rw [if_neg k3] at hr
    by_cases k4 : k = 4
    · subst k4; rw [if_pos rfl] at hr; simp at hr; exact .inr (.inr (.inr (.inl ⟨rfl, by omega, by omega⟩)))
    rw [if_neg k4] at hr
    exact absurd hr (by decide)
theorem tot_1 {t : VT} {far : Int} (h : rightV t far = true) : 1 ≤ tot t := by
  cases t with
  | bad => rw [rightV] at h; exact absurd h (by decide)
  | mk k n f s c ns m xs => rw [tot]; omega
theorem itemsP_step (F : Nat → List UInt8 → Except Nat (VT × Nat × List UInt8)) (k n p : Nat) (l : List UInt8) :
    itemsP F k (n + 1) p l = (if k = 6 then sP 30 l else .ok (⟨#[]⟩, l)).bind fun a => (F p a.2).bind fun b => (itemsP F k n b.2.1 b.2.2).bind fun c => .ok ((a.1, b.1) :: c.1, c.2.1, c.2.2) := by
  rw [itemsP]
  cases (if k = 6 then sP 30 l else .ok (⟨#[]⟩, l)) with
  | error c => rfl
  | ok a =>
    obtain ⟨nm, l1⟩ := a
    show (match F p l1 with
      | .error c => Except.error c
      | .ok (t, p1, l2) => match itemsP F k n p1 l2 with
        | .error c => Except.error c
        | .ok (xs, p2, l3) => Except.ok ((nm, t) :: xs, p2, l3)) = (F p l1).bind _
    cases F p l1 with
    | error c => rfl
    | ok b =>
      obtain ⟨t, p1, l2⟩ := b
      show (match itemsP F k n p1 l2 with
        | .error c => Except.error c
        | .ok (xs, p2, l3) => Except.ok ((nm, t) :: xs, p2, l3)) = (itemsP F k n p1 l2).bind _
      cases itemsP F k n p1 l2 with
      | error c => rfl
      | ok c => rfl
theorem vP_plain {q p k : Nat} {l : List UInt8} (h1 : 1 ≤ k) (h4 : k ≤ 4) (hp : p + 1 ≤ 200) : vP (q + 1) p (UInt8.ofNat k :: l) = (plainP k l).bind (fun z => .ok (z.1, p + 1, z.2)) := by
  have e := byte_lo (m := k) (by omega)
  rw [vP, if_neg (by omega)]
  show (if (UInt8.ofNat k).toNat < 1 ∨ 6 < (UInt8.ofNat k).toNat then _ else _) = _
  rw [e, if_neg (by omega), if_pos h4]
  cases plainP k l <;> rfl
theorem vP_items {q p k : Nat} {l : List UInt8} (h1 : 5 ≤ k) (h4 : k ≤ 6) (hp : p + 1 ≤ 200) : vP (q + 1) p (UInt8.ofNat k :: l) = (mP l).bind fun a => (itemsP (vP q) k a.1 (p + 1) a.2).bind fun b => .ok (treeOf k b.1, b.2.1, b.2.2) := by
  have e := byte_lo (m := k) (by omega)
  rw [vP, if_neg (by omega)]
  show (if (UInt8.ofNat k).toNat < 1 ∨ 6 < (UInt8.ofNat k).toNat then _ else _) = _
  rw [e, if_neg (by omega), if_neg (by omega)]
  cases mP l with
  | error c => rfl
  | ok a =>
    obtain ⟨n, r⟩ := a
    show (match itemsP (vP q) k n (p + 1) r with
          | .error c => Except.error c
          | .ok (xs, p', r) => Except.ok (treeOf k xs, p', r)) = (itemsP (vP q) k n (p + 1) r).bind _
    cases itemsP (vP q) k n (p + 1) r <;> rfl
theorem M_back {n : Nat} (h : n ≤ 200) (r : List UInt8) : mP (uintL n ++ r) = .ok (n, r) := by
  unfold mP
  rw [U_back (by omega)]
  show (if 200 < n then Except.error 5 else Except.ok (n, r)) = _
  rw [if_neg (by omega)]
/-- Items are read again. -/
theorem items_back (F : Nat → List UInt8 → Except Nat (VT × Nat × List UInt8)) (k : Nat) (ns : Nat → ByteArray) (G : Nat → List UInt8) (H : Nat → VT) (T : Nat → Nat) (m : Nat) (lim : Nat)
    (hn : ∀ i, i < m → (k = 6 → (ns i).size ≤ 30) ∧ (k ≠ 6 → ns i = ⟨#[]⟩))
    (hF : ∀ i, i < m → ∀ p r, p + T i ≤ lim → F p (G i ++ r) = .ok (H i, p + T i, r)) :
    ∀ r i p rest, i + r ≤ m → p + sufN T r i ≤ lim → itemsP F k r p (sufL (decide (k = 6)) ns G r i ++ rest) = .ok (itmL ns H r i, p + sufN T r i, rest) := by
  intro r
  induction r with
  | zero => intro i p rest _ _; rfl
  | succ r ih =>
    intro i p rest hi hp
    rw [sufN] at hp ⊢
    have hni := hn i (by omega)
    have hnm : (if k = 6 then sP 30 (sufL (decide (k = 6)) ns G (r + 1) i ++ rest) else Except.ok (⟨#[]⟩, sufL (decide (k = 6)) ns G (r + 1) i ++ rest)) = .ok (ns i, G i ++ (sufL (decide (k = 6)) ns G r (i + 1) ++ rest)) := by
      rw [sufL]
      by_cases h6 : k = 6
      · rw [if_pos h6, if_pos (by simpa using h6)]
        have := S_back (t := ns i) (most := 30) (by have := hni.1 h6; omega) (by have := hni.1 h6; omega) (G i ++ (sufL (decide (k = 6)) ns G r (i + 1) ++ rest))
        rw [← this]
        unfold strBL
        simp
      · rw [if_neg h6, if_neg (by simpa using h6), hni.2 h6]; simp
    rw [itemsP_step, hnm]
    show (F p (G i ++ (sufL (decide (k = 6)) ns G r (i + 1) ++ rest))).bind _ = _
    rw [hF i (by omega) p _ (by omega)]
    show (itemsP F k r (p + T i) (sufL (decide (k = 6)) ns G r (i + 1) ++ rest)).bind _ = _
    rw [ih (i + 1) (p + T i) rest (by omega) (by omega)]
    show Except.ok _ = Except.ok _
    rw [itmL, show p + T i + sufN T r (i + 1) = p + (T i + sufN T r (i + 1)) by omega]
theorem sumN_item {T : Nat → Nat} : ∀ {m : Nat}, (∀ i, i < m → 1 ≤ T i) → m ≤ sumN T m := by
  intro m
  induction m with
  | zero => intro _; omega
  | succ m ih =>
    intro h
    have h1 := ih (fun i hi => h i (by omega))
    have h2 := h m (by omega)
    have e : sumN T (m + 1) = sumN T m + T m := rfl
    omega
theorem v_back : ∀ (t : VT) (q p : Nat) (r : List UInt8), rightV t q = true → floatsIn t → numsIn t → p + tot t ≤ 200 → vP q p (valL t ++ r) = .ok (norm t, p + tot t, r) := by
  intro t
  induction t with
  | bad => intro q p r h; rw [rightV] at h; exact absurd h (by decide)
  | mk k n f s c ns m xs ih =>
    intro q p r h hf hn hp
    obtain ⟨hq, hh⟩ := right_head h
    obtain ⟨q, rfl⟩ : ∃ q', q = q' + 1 := ⟨q - 1, by omega⟩
    rw [tot] at hp ⊢
    have hT : ∀ m0, m0 = 0 → 1 + sumN (fun i => tot (xs i)) m0 = 1 := fun m0 h => by rw [h]; rfl
    rcases hh with ⟨rfl, hn01, hm⟩ | ⟨rfl, hm⟩ | ⟨rfl, hm⟩ | ⟨rfl, hs, hm⟩ | ⟨rfl, hc, hx⟩ | ⟨rfl, hc, hnn, hx⟩
    · rw [valL_plain (by omega), hT m hm]
      unfold plainL tailL norm
      rw [if_pos rfl, if_pos (by omega), if_pos (by omega), if_neg (by omega), if_neg (by omega), List.append_assoc, List.cons_append, List.nil_append]
      refine (vP_plain (k := 1) (by omega) (by omega) (by omega)).trans ?_
      unfold plainP
      rw [if_pos rfl]
      rcases hn01 with rfl | rfl <;> rfl
    · rw [valL_plain (by omega), hT m hm]
      unfold plainL tailL norm
      rw [if_neg (by omega), if_pos rfl, if_pos (by omega), if_pos (by omega), if_neg (by omega), if_neg (by omega), List.append_assoc, List.cons_append, List.nil_append]
      refine (vP_plain (k := 2) (by omega) (by omega) (by omega)).trans ?_
      unfold plainP
      rw [if_neg (by omega), if_pos rfl, I_back hn.1]
      rfl
    · rw [valL_plain (by omega), hT m hm]
      unfold plainL tailL norm
      rw [if_neg (by omega), if_neg (by omega), if_pos rfl, if_pos (by omega), if_neg (by omega), if_pos rfl, if_neg (by omega), List.append_assoc, List.cons_append, List.nil_append]
      refine (vP_plain (k := 3) (by omega) (by omega) (by omega)).trans ?_
      unfold plainP
      rw [if_neg (by omega), if_neg (by omega), if_pos rfl, W_back (canon_in hf.1)]
      show (if canonW (canonW f) = canonW f then Except.ok (leaf 3 0 (canonW f) ⟨#[]⟩, r) else Except.error 5).bind _ = _
      rw [if_pos (canon_twice f)]
      rfl
    · rw [valL_plain (by omega), hT m hm]
      unfold plainL tailL norm
      rw [if_neg (by omega), if_neg (by omega), if_neg (by omega), if_pos (by omega), if_neg (by omega), if_neg (by omega), if_pos rfl, List.append_assoc, List.cons_append, List.nil_append]
      refine (vP_plain (k := 4) (by omega) (by omega) (by omega)).trans ?_
      unfold plainP
      rw [if_neg (by omega), if_neg (by omega), if_neg (by omega)]
      unfold strBL
      rw [S_back (by omega) (by omega)]
      rfl
    · have hsum := sumN_item (T := fun i => tot (xs i)) (m := m) (fun i hi => tot_1 (hx i hi))
      rw [valL_items (by omega)]
      unfold norm
      rw [if_neg (by omega), ← suf_all, List.append_assoc, List.append_assoc, List.cons_append, List.nil_append]
      refine (vP_items (k := 5) (by omega) (by omega) (by omega)).trans ?_
      rw [M_back (by omega)]
      have hI := items_back (vP q) 5 (nz 5 ns) (fun i => valL (xs i)) (fun i => norm (xs i)) (fun i => tot (xs i)) m 200 (fun i hi => ⟨fun h => absurd h (by omega), fun _ => by unfold nz; rw [if_neg (by omega)]; rfl⟩)
        (fun i hi p r hp => ih i q p r (by have := hx i hi; rwa [show ((q + 1 : Nat) : Int) - 1 = (q : Nat) by omega] at this) (hf.2 i hi) (hn.2 i hi) hp) m 0 (p + 1) r (by omega) (by rw [sufN_all]; omega)
      show (itemsP (vP q) 5 m (p + 1) (sufL (decide ((5 : Nat) = 6)) (nz 5 ns) (fun i => valL (xs i)) m 0 ++ r)).bind _ = _
      rw [hI, sufN_all]
      show Except.ok _ = Except.ok _
      rw [show p + 1 + sumN (fun i => tot (xs i)) m = p + (1 + sumN (fun i => tot (xs i)) m) by omega]
      rfl
    · have hsum := sumN_item (T := fun i => tot (xs i)) (m := m) (fun i hi => tot_1 (hx i hi))
      rw [valL_items (by omega)]
      unfold norm
      rw [if_neg (by omega), ← suf_all, List.append_assoc, List.append_assoc, List.cons_append, List.nil_append]
      refine (vP_items (k := 6) (by omega) (by omega) (by omega)).trans ?_
      rw [M_back (by omega)]
      have hI := items_back (vP q) 6 (nz 6 ns) (fun i => valL (xs i)) (fun i => norm (xs i)) (fun i => tot (xs i)) m 200 (fun i hi => ⟨fun _ => by rw [nz_6]; exact hnn i hi, fun h => absurd rfl h⟩)
        (fun i hi p r hp => ih i q p r (by have := hx i hi; rwa [show ((q + 1 : Nat) : Int) - 1 = (q : Nat) by omega] at this) (hf.2 i hi) (hn.2 i hi) hp) m 0 (p + 1) r (by omega) (by rw [sufN_all]; omega)
      show (itemsP (vP q) 6 m (p + 1) (sufL (decide ((6 : Nat) = 6)) (nz 6 ns) (fun i => valL (xs i)) m 0 ++ r)).bind _ = _
      rw [hI, sufN_all]
      show Except.ok _ = Except.ok _
      rw [show p + 1 + sumN (fun i => tot (xs i)) m = p + (1 + sumN (fun i => tot (xs i)) m) by omega]
      rfl
end Go.Proofs.Yteclpehbpicpaaa

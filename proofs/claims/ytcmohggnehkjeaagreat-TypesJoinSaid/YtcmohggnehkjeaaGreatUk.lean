/-
  All tokens, plainly.
-/
import Derived.Test.YtcmohggnehkjeaaGreatUj
namespace Go.Proofs.YtcmohggnehkjeaaGreat
open Go.RowKit

theorem dig_cons {c : UInt8} {R : List UInt8} (h : isD c = true) : 1 ≤ (dig (c :: R)).length := by
  unfold dig
  rw [tw_cons h]; omega
theorem floT_ok {R r : List UInt8} {d : Nat} {t : Tk} (h : floT R r d = .ok t) : t.k = 3 ∧ t.len = floL d r ∧ t.n = 0 ∧ t.f = floW (parseV (R.take (floL d r))) ∧ t.s = [] ∧ errW (parseV (R.take (floL d r))) = 0 ∧ (dig (r.drop (expM r))).length ≠ 0 := by
  unfold floT at h
  split at h
  · cases h
  · rename_i h1
    split at h
    · rename_i h2
      injection h with h
      subst h
      exact ⟨rfl, rfl, rfl, rfl, rfl, h2, h1⟩
    · cases h
theorem intT_ok {d : List UInt8} {t : Tk} (h : intT d = .ok t) : t = ⟨2, d.length, numN d, 0, []⟩ ∧ d.length ≤ 19 ∧ numN d < 9223372036854775808 := by
  unfold intT at h
  split at h
  · cases h
  · split at h
    · cases h
    · injection h with h
      exact ⟨h.symm, by omega, by omega⟩
theorem strR_ok : ∀ (l : List UInt8) {m : List UInt8} {k : Nat}, strR l = .ok m k → 1 ≤ k ∧ k ≤ l.length ∧ m.length < k
  | [], m, k, h => by unfold strR at h; cases h
  | [c], m, k, h => by
    unfold strR at h
    split at h
    · injection h with h1 h2
      subst h1 h2
      exact ⟨Nat.le_refl _, Nat.le_refl _, Nat.lt_succ_self _⟩
    · cases h
  | c :: x :: r, m, k, h => by
    unfold strR at h
    split at h
    · injection h with h1 h2
      subst h1 h2
      exact ⟨Nat.le_refl _, by simp, Nat.lt_succ_self _⟩
    · split at h
      · split at h
        · cases hr : strR r with
          | ok l j =>
            rw [hr] at h
            injection h with h1 h2
            obtain ⟨a1, a2, a3⟩ := strR_ok r hr
            subst h1 h2
            simp
            omega
          | err e' => rw [hr] at h; cases h
        · cases h
      · cases hr : strR (x :: r) with
        | ok l j =>
          rw [hr] at h
          injection h with h1 h2
          obtain ⟨a1, a2, a3⟩ := strR_ok (x :: r) hr
          subst h1 h2
          simp at a2 ⊢
          omega
        | err e' => rw [hr] at h; cases h
theorem strH_ok {r : Hs} {t : Tk} (h : strH r = .ok t) : ∃ l k, r = .ok l k ∧ l.length ≤ 200 ∧ t = ⟨4, k + 1, 0, 0, l⟩ := by
  cases r with
  | ok l k =>
    have h2 : (if 200 < l.length then Hd.err 3 else Hd.ok ⟨4, k + 1, 0, 0, l⟩) = .ok t := h
    split at h2
    · cases h2
    · injection h2 with h2
      exact ⟨l, k, rfl, by omega, h2.symm⟩
  | err y => cases h
theorem signT_ok {l : List UInt8} {c : UInt8} {t : Tk} (h : signT l c = .ok t) : (twoB (l.take 2) = true ∧ t = ⟨6, 2, 0, 0, l.take 2⟩) ∨ (twoB (l.take 2) = false ∧ c ∈ onesL ∧ t = ⟨6, 1, 0, 0, [c]⟩) := by
  unfold signT at h
  split at h
  · rename_i h1
    injection h with h
    exact .inl ⟨h1, h.symm⟩
  · rename_i h1
    unfold oneT at h
    split at h
    · rename_i h2
      injection h with h
      exact .inr ⟨by simpa using h1, h2, h.symm⟩
    · cases h
theorem wrdT_ok {w : List UInt8} {t : Tk} (h : wrdT w = .ok t) : ((w = nanL ∨ w = infL) ∧ t = ⟨3, w.length, 0, floW (parseV w), []⟩) ∨ (¬ (w = nanL ∨ w = infL) ∧ w.length ≤ 30 ∧ t = ⟨5, w.length, 0, 0, w⟩) := by
  unfold wrdT at h
  split at h
  · rename_i h1; injection h with h; exact .inl ⟨h1, h.symm⟩
  · rename_i h1
    split at h
    · cases h
    · injection h with h; exact .inr ⟨h1, by omega, h.symm⟩
theorem twoB_len {l : List UInt8} (h : twoB l = true) : l.length = 2 := by
  unfold twoB at h
  simp only [Bool.or_eq_true, decide_eq_true_eq] at h
  rcases h with ((h | h) | h) | h <;> rw [h] <;> rfl
theorem numT_len {l : List UInt8} {t : Tk} (h : numT l = .ok t) : (dig l).length ≤ t.len ∧ t.len ≤ l.length ∧ (t.k = 2 ∨ t.k = 3) := by
  unfold numT at h
  have hd := dig_le l
  split at h
  · rename_i h1
    obtain ⟨e1, e2, -, -, -, -, e7⟩ := floT_ok h
    have hlt := (List.getElem?_eq_some_iff.1 h1).1
    refine ⟨by rw [e2]; unfold floL; omega, ?_, .inr e1⟩
    rw [e2]
    unfold floL
    have h2 := dig_le ((l.drop ((dig l).length + 1)).drop (expM (l.drop ((dig l).length + 1))))
    rw [List.length_drop, List.length_drop] at h2
    omega
  · obtain ⟨rfl, -, -⟩ := intT_ok h
    exact ⟨Nat.le_refl _, hd, .inl rfl⟩
theorem headT_len {l : List UInt8} {t : Tk} (h : headT l = .ok t) : t.len ≤ l.length ∧ (t.k = 1 → l = []) ∧ (t.k ≠ 1 → 1 ≤ t.len) ∧ 1 ≤ t.k ∧ t.k ≤ 6 := by
  cases l with
  | nil => injection h with h; subst h; exact ⟨Nat.le_refl _, fun _ => rfl, fun h => absurd rfl h, by decide, by decide⟩
  | cons c R =>
    rw [headT_cons] at h
    split at h
    · rename_i h1
      have hc := dig_cons (R := R) h1
      obtain ⟨a, b, k⟩ := numT_len h
      exact ⟨b, by omega, by omega, by omega, by omega⟩
    · split at h
      · rename_i h1
        unfold nameT at h
        have h0 : 1 ≤ ((c :: R).takeWhile namB).length := by rw [tw_cons (by unfold namB; rw [h1]; rfl)]; omega
        have h2 : ((c :: R).takeWhile namB).length ≤ (c :: R).length := (List.takeWhile_sublist _).length_le
        rcases wrdT_ok h with ⟨_, rfl⟩ | ⟨_, _, rfl⟩
        · exact ⟨h2, by simp, fun _ => h0, by simp, by simp⟩
        · exact ⟨h2, by simp, fun _ => h0, by simp, by simp⟩
      · split at h
        · obtain ⟨m, k, h1, _, rfl⟩ := strH_ok h
          obtain ⟨a1, a2, _⟩ := strR_ok _ h1
          simp at a2 ⊢
          omega
        · rcases signT_ok h with ⟨h1, rfl⟩ | ⟨_, _, rfl⟩
          · have h2 := twoB_len h1
            rw [List.length_take] at h2
            refine ⟨?_, by simp, by simp, by simp, by simp⟩
            show 2 ≤ _
            omega
          · exact ⟨by simp, by simp, by simp, by simp, by simp⟩
/-- All tokens of a text, from a place on; where it ends by an error. -/
inductive Lx (s : ByteArray) : Nat → List (Nat × Tk) → Option (Nat × Int) → Prop
  | range {i : Nat} (h : nextN s i = .range) : Lx s i [] (some (0, 3))
  | stop {i b : Nat} {t : Tk} (h : nextN s i = .tok b t) (hk : t.k = 1) : Lx s i [] none
  | bad {i b : Nat} {e : Int} (h : nextN s i = .err b e) : Lx s i [] (some (b, e))
  | next {i b : Nat} {t : Tk} {ts : List (Nat × Tk)} {o : Option (Nat × Int)} (h : nextN s i = .tok b t) (hk : t.k ≠ 1) (r : Lx s (b + t.len) ts o) : Lx s i ((b, t) :: ts) o
theorem Lx.unique {s : ByteArray} {i : Nat} {ts us : List (Nat × Tk)} {o p : Option (Nat × Int)} (h : Lx s i ts o) (k : Lx s i us p) : ts = us ∧ o = p := by
  induction h generalizing us p with
  | range h => cases k with
    | range _ => exact ⟨rfl, rfl⟩
    | stop h' _ => rw [h] at h'; cases h'
    | bad h' => rw [h] at h'; cases h'
    | next h' _ _ => rw [h] at h'; cases h'
  | stop h hk => cases k with
    | range h' => rw [h] at h'; cases h'
    | stop _ _ => exact ⟨rfl, rfl⟩
    | bad h' => rw [h] at h'; cases h'
    | next h' hk' _ => rw [h] at h'; cases h'; exact absurd hk hk'
  | bad h => cases k with
    | range h' => rw [h] at h'; cases h'
    | stop h' _ => rw [h] at h'; cases h'
    | bad h' => rw [h] at h'; cases h'; exact ⟨rfl, rfl⟩
    | next h' _ _ => rw [h] at h'; cases h'
  | next h hk r ih => cases k with
    | range h' => rw [h] at h'; cases h'
    | stop h' hk' => rw [h] at h'; cases h'; exact absurd hk' hk
    | bad h' => rw [h] at h'; cases h'
    | next h' _ r' =>
      rw [h] at h'
      cases h'
      obtain ⟨rfl, rfl⟩ := ih r'
      exact ⟨rfl, rfl⟩
theorem blkN_le (l : List UInt8) : blkN l ≤ l.length := (List.takeWhile_sublist _).length_le
theorem nextN_tok {s : ByteArray} {i b : Nat} {t : Tk} (h : nextN s i = .tok b t) : i ≤ s.size ∧ s.size ≤ 2000 ∧ b = i + blkN (left s i) ∧ headT (left s b) = .ok t ∧ b ≤ s.size ∧ b + t.len ≤ s.size := by
  unfold nextN at h
  split at h
  · cases h
  · rename_i h1
    rw [show ((i : Int)).toNat = i by omega] at h
    have hb := blkN_le (left s i)
    rw [left_len] at hb
    cases hT : headT (left s (i + blkN (left s i))) with
    | err e => rw [hT] at h; cases h
    | ok t' =>
      rw [hT] at h
      injection h with h2 h3
      subst h2 h3
      have hl := (headT_len hT).1
      rw [left_len] at hl
      exact ⟨by omega, by omega, rfl, hT, by omega, by omega⟩
theorem Lx.exist (s : ByteArray) : ∀ (n i : Nat), s.size - i < n → ∃ ts o, Lx s i ts o
  | 0, _, h => absurd h (Nat.not_lt_zero _)
  | n + 1, i, h => by
    cases hn : nextN s i with
    | range => exact ⟨[], _, .range hn⟩
    | err b e => exact ⟨[], _, .bad hn⟩
    | tok b t =>
      by_cases hk : t.k = 1
      · exact ⟨[], _, .stop hn hk⟩
      · obtain ⟨h1, _, h3, h4, h5, h6⟩ := nextN_tok hn
        have h7 := (headT_len h4).2.2.1 hk
        obtain ⟨ts, o, hr⟩ := Lx.exist s n (b + t.len) (by omega)
        exact ⟨_, _, .next hn hk hr⟩
end Go.Proofs.YtcmohggnehkjeaaGreat

/-
  Blanks change nothing but places, plainly: no walk.
-/
import Derived.Test.YtfkjehgbghckhaaDoorUx
namespace Go.Proofs.YtfkjehgbghckhaaDoor
open Go.RowKit

theorem blk_no {b : UInt8} (h : blkB b = true) : isD b = false ∧ namB b = false ∧ b ≠ 112 ∧ b ≠ 34 ∧ b ≠ 92 ∧ letB b = false := by
  have h4 : b.toNat = 32 ∨ b.toNat = 9 ∨ b.toNat = 10 ∨ b.toNat = 13 := by
    unfold blkB at h
    simp only [Bool.or_eq_true, decide_eq_true_eq] at h
    omega
  have hb : b = 32 ∨ b = 9 ∨ b = 10 ∨ b = 13 := by
    rcases h4 with h | h | h | h
    · exact .inl (u8_eq.2 (by rw [h]; rfl))
    · exact .inr (.inl (u8_eq.2 (by rw [h]; rfl)))
    · exact .inr (.inr (.inl (u8_eq.2 (by rw [h]; rfl))))
    · exact .inr (.inr (.inr (u8_eq.2 (by rw [h]; rfl))))
  rcases hb with rfl | rfl | rfl | rfl <;> decide
theorem tw_app {p : UInt8 → Bool} : ∀ {l : List UInt8} {b : UInt8} {r : List UInt8}, l.all p = true → p b = false → (l ++ b :: r).takeWhile p = l
  | [], b, r, _, h => List.takeWhile_cons_of_neg (by rw [h]; exact Bool.false_ne_true)
  | c :: l, b, r, hl, h => by
    rw [List.all_cons, Bool.and_eq_true] at hl
    rw [List.cons_append, List.takeWhile_cons_of_pos hl.1, tw_app hl.2 h]
theorem tw_take {p : UInt8 → Bool} (l : List UInt8) : l.take (l.takeWhile p).length = l.takeWhile p := (List.prefix_iff_eq_take.1 (List.takeWhile_prefix p)).symm
theorem strR_stay : ∀ (l : List UInt8) {m : List UInt8} {k : Nat}, strR l = .ok m k → ∀ r, strR (l.take k ++ r) = .ok m k
  | [], m, k, h, r => by unfold strR at h; cases h
  | [c], m, k, h, r => by
    unfold strR at h
    split at h
    · rename_i hc
      injection h with h1 h2
      subst h1 h2 hc
      exact strR_mark r
    · cases h
  | c :: x :: l, m, k, h, r => by
    unfold strR at h
    split at h
    · rename_i hc
      injection h with h1 h2
      subst h1 h2 hc
      exact strR_mark r
    · rename_i h34
      split at h
      · rename_i h92
        split at h
        · rename_i hx
          cases hr : strR l with
          | err e => rw [hr] at h; cases h
          | ok m' j =>
            rw [hr] at h
            injection h with h1 h2
            subst h1 h2 h92
            have ih := strR_stay l hr r
            rw [show 2 + j = j + 2 by omega, List.take_succ_cons, List.take_succ_cons, List.cons_append, List.cons_append, strR_esc hx, ih]
            show Hs.ok ([x] ++ m') (2 + j) = Hs.ok ([x] ++ m') (j + 2)
            rw [Nat.add_comm 2 j]
        · cases h
      · rename_i h92
        cases hr : strR (x :: l) with
        | err e => rw [hr] at h; cases h
        | ok m' j =>
          rw [hr] at h
          injection h with h1 h2
          subst h1 h2
          have ih := strR_stay (x :: l) hr r
          rw [show 1 + j = j + 1 by omega, List.take_succ_cons, List.cons_append, strR_other h34 h92, ih]
          show Hs.ok ([c] ++ m') (1 + j) = Hs.ok ([c] ++ m') (j + 1)
          rw [Nat.add_comm 1 j]
theorem numT_stay {R : List UInt8} {t : Tk} (h : numT R = .ok t) {b : UInt8} (hb : blkB b = true) (r : List UInt8) : numT (R.take t.len ++ b :: r) = .ok t := by
  obtain ⟨nd, -, n112, -, -, -⟩ := blk_no hb
  have hall := dig_all R
  unfold numT at h
  split at h
  · rename_i h112
    obtain ⟨e1, e2, e3, e4, e5, e6, e7⟩ := floT_ok h
    obtain ⟨d, hd⟩ : ∃ d, dig R = d := ⟨_, rfl⟩
    rw [hd] at h112 e2 e4 e6 e7 hall
    have hR : R = d ++ 112 :: R.drop (d.length + 1) := by
      have h1 := (List.take_append_drop d.length R).symm
      have h2 : R.take d.length = d := by rw [← hd]; exact tw_take R
      have hlt := (List.getElem?_eq_some_iff.1 h112).1
      have h3 : R.drop d.length = 112 :: R.drop (d.length + 1) := by
        rw [List.drop_eq_getElem_cons hlt]
        congr 1
        exact (List.getElem?_eq_some_iff.1 h112).2
      rw [h2, h3] at h1
      exact h1
    obtain ⟨q, hq⟩ : ∃ q, R.drop (d.length + 1) = q := ⟨_, rfl⟩
    rw [hq] at hR e2 e4 e6 e7
    obtain ⟨x, hx⟩ : ∃ x, dig (q.drop (expM q)) = x := ⟨_, rfl⟩
    have hxall : x.all isD = true := by rw [← hx]; exact dig_all _
    have hql : q.take (expM q + x.length) = q.take (expM q) ++ x := by
      rw [List.take_add]
      congr 1
      rw [← hx]; exact tw_take _
    have hlen : floL d.length q = d.length + (1 + (expM q + x.length)) := by unfold floL; rw [hx]; omega
    have htake : R.take (floL d.length q) = d ++ 112 :: (q.take (expM q) ++ x) := by
      rw [hlen, hR, List.take_append, List.take_of_length_le (by omega), show d.length + (1 + (expM q + x.length)) - d.length = expM q + x.length + 1 by omega, List.take_succ_cons, hql]
    have hx0 : x ≠ [] := by intro e; rw [hx, e] at e7; exact e7 rfl
    obtain ⟨q', hq'⟩ : ∃ q', q.take (expM q) ++ x ++ b :: r = q' := ⟨_, rfl⟩
    have hnew : R.take t.len ++ b :: r = d ++ 112 :: q' := by
      rw [e2, htake, List.append_assoc, List.cons_append, hq']
    have hexp : expM q' = expM q := by
      by_cases h45 : q[0]? = some 45
      · have h1 : expM q = 1 := by unfold expM; rw [if_pos h45]
        have hlt := (List.getElem?_eq_some_iff.1 h45).1
        have h2 : q.take 1 = [45] := by
          cases q with
          | nil => simp at hlt
          | cons c l =>
            injection h45 with h45
            rw [show (c :: l).take 1 = [c] from rfl]
            rw [show c = 45 from h45]
        rw [h1] at hq' ⊢
        rw [h2] at hq'
        rw [← hq']
        rfl
      · have h1 : expM q = 0 := by unfold expM; rw [if_neg h45]
        rw [h1] at hq' ⊢
        rw [List.take_zero, List.nil_append] at hq'
        unfold expM
        rw [if_neg]
        rw [← hq']
        cases x with
        | nil => exact absurd rfl hx0
        | cons c l =>
          intro e
          injection e with e
          rw [List.all_cons, Bool.and_eq_true] at hxall
          have := hxall.1
          rw [show c = 45 from e] at this
          exact absurd this (by decide)
    have hdrop : q'.drop (expM q') = x ++ b :: r := by
      rw [hexp, ← hq', List.append_assoc]
      have hle : expM q ≤ q.length := by
        by_cases h45 : q[0]? = some 45
        · have h1 : expM q = 1 := by unfold expM; rw [if_pos h45]
          have hlt := (List.getElem?_eq_some_iff.1 h45).1
          omega
        · have h1 : expM q = 0 := by unfold expM; rw [if_neg h45]
          omega
      have hl : (q.take (expM q)).length = expM q := by rw [List.length_take]; omega
      generalize q.take (expM q) = A at hl ⊢
      rw [← hl]
      exact List.drop_left
    have hdx : dig (q'.drop (expM q')) = x := by rw [hdrop]; exact tw_app hxall nd
    have hfl : floL d.length q' = floL d.length q := by unfold floL; rw [hdx, hexp, hx]
    have hdn : dig (d ++ 112 :: q') = d := tw_app hall (by decide)
    have hg : (d ++ 112 :: q')[d.length]? = some 112 := by rw [List.getElem?_append_right (Nat.le_refl _), Nat.sub_self]; rfl
    have hdr : (d ++ 112 :: q').drop (d.length + 1) = q' := by
      rw [List.drop_append, List.drop_eq_nil_of_le (by omega), List.nil_append, show d.length + 1 - d.length = 1 by omega]; rfl
    have htk : (d ++ 112 :: q').take (floL d.length q) = R.take (floL d.length q) := by
      rw [htake, ← hq', hlen, List.take_append, List.take_of_length_le (by omega), show d.length + (1 + (expM q + x.length)) - d.length = (expM q + x.length) + 1 by omega, List.take_succ_cons]
      congr 2
      have hl : (q.take (expM q) ++ x).length = expM q + x.length := by rw [← hql, List.length_take]; have := dig_le (q.drop (expM q)); rw [hx, List.length_drop] at this; have : x.length ≠ 0 := fun e => hx0 (List.length_eq_zero_iff.1 e); omega
      rw [← hl]
      exact List.take_left
    rw [hnew]
    unfold numT
    rw [hdn, if_pos hg, hdr]
    unfold floT
    rw [hdx, if_neg (by rw [← hx]; exact e7), hfl, htk, if_pos e6, ← e4, ← e2]
    congr 1
    cases t
    simp only at e1 e3 e5
    subst e1 e3 e5
    rfl
  · obtain ⟨rfl, h19, hbig⟩ := intT_ok h
    rename_i h112
    show numT (R.take (dig R).length ++ b :: r) = _
    have ht : R.take (dig R).length = dig R := tw_take R
    rw [ht]
    have hdn : dig (dig R ++ b :: r) = dig R := tw_app hall nd
    have hg : (dig R ++ b :: r)[(dig R).length]? = some b := by rw [List.getElem?_append_right (Nat.le_refl _), Nat.sub_self]; rfl
    unfold numT
    rw [hdn, hg, if_neg (by intro e; injection e with e; exact n112 e)]
    exact h
/-- A token's own bytes, with a blank behind them, are that token. -/
theorem headT_stay {R : List UInt8} {t : Tk} (h : headT R = .ok t) (hk : t.k ≠ 1) {b : UInt8} (hb : blkB b = true) (r : List UInt8) : headT (R.take t.len ++ b :: r) = .ok t := by
  obtain ⟨nd, nn, n112, n34, n92, nl⟩ := blk_no hb
  have h1 := (headT_len h).2.2.1 hk
  cases R with
  | nil => injection h with h; subst h; exact absurd rfl hk
  | cons c R =>
    obtain ⟨j, hj⟩ : ∃ j, t.len = j + 1 := ⟨t.len - 1, by omega⟩
    have hcons : (c :: R).take t.len ++ b :: r = c :: (R.take j ++ b :: r) := by rw [hj]; rfl
    rw [headT_cons] at h
    by_cases hd : isD c = true
    · rw [if_pos hd] at h
      have := numT_stay h hb r
      rw [hcons] at this ⊢
      rw [headT_cons, if_pos hd]
      exact this
    · rw [if_neg hd] at h
      by_cases hl : letB c = true
      · rw [if_pos hl] at h
        have hw : t.len = ((c :: R).takeWhile namB).length := by
          unfold nameT at h
          rcases wrdT_ok h with ⟨_, rfl⟩ | ⟨_, _, rfl⟩ <;> rfl
        have ht : (c :: R).take t.len = (c :: R).takeWhile namB := by rw [hw]; exact tw_take _
        have hall : ((c :: R).takeWhile namB).all namB = true := List.all_takeWhile
        have hn : nameT ((c :: R).take t.len ++ b :: r) = .ok t := by
          unfold nameT at h ⊢
          rw [ht, tw_app hall nn]
          exact h
        rw [hcons] at hn ⊢
        rw [headT_cons, if_neg hd, if_pos hl]
        exact hn
      · rw [if_neg hl] at h
        by_cases hq : c = 34
        · rw [if_pos hq] at h
          unfold strT at h
          have h' := h
          obtain ⟨m, k, hs, _, rfl⟩ := strH_ok h'
          have hst := strR_stay _ hs (b :: r)
          rw [hcons, headT_cons, if_neg hd, if_neg hl, if_pos hq]
          unfold strT
          have hj2 : j = k := by
            have : k + 1 = j + 1 := hj
            omega
          subst hj2
          show strH (strR (R.take j ++ b :: r)) = _
          have hs' : strR R = .ok m j := hs
          have hst' : strR (R.take j ++ b :: r) = .ok m j := hst
          rw [hst']
          have h2 : strH (strR R) = _ := h
          rw [hs'] at h2
          exact h2
        · rw [if_neg hq] at h
          rw [hcons, headT_cons, if_neg hd, if_neg hl, if_neg hq]
          rcases signT_ok h with ⟨h2, rfl⟩ | ⟨h2, h3, rfl⟩
          · have hlen := twoB_len h2
            have hj2 : j = 1 := by
              have : 2 = j + 1 := hj
              omega
            subst hj2
            have htake : (c :: (R.take 1 ++ b :: r)).take 2 = (c :: R).take 2 := by
              cases R with
              | nil => simp at hlen
              | cons x R => rfl
            unfold signT
            rw [htake, if_pos h2]
          · have hj2 : j = 0 := by
              have : 1 = j + 1 := hj
              omega
            subst hj2
            have htake : (c :: (R.take 0 ++ b :: r)).take 2 = [c, b] := rfl
            unfold signT
            rw [htake, if_neg (by
              unfold twoB
              simp only [Bool.or_eq_true, decide_eq_true_eq, List.cons.injEq, and_true]
              intro h5
              rcases h5 with ((h5 | h5) | h5) | h5
              · rw [h5.2] at hb; exact absurd hb (by decide)
              · rw [h5.2] at hb; exact absurd hb (by decide)
              · rw [h5.2] at hb; exact absurd hb (by decide)
              · rw [h5.2] at hb; exact absurd hb (by decide))]
            unfold oneT
            rw [if_pos h3]
/-- A token doesn't begin with a blank. -/
theorem headT_nb {c : UInt8} {R : List UInt8} {t : Tk} (h : headT (c :: R) = .ok t) : blkB c = false := by
  cases hb : blkB c with
  | false => rfl
  | true =>
    exfalso
    obtain ⟨nd, _, _, n34, _, nl⟩ := blk_no hb
    rw [headT_cons, if_neg (by rw [nd]; exact Bool.false_ne_true), if_neg (by rw [nl]; exact Bool.false_ne_true), if_neg n34] at h
    rcases signT_ok h with ⟨h2, _⟩ | ⟨_, h3, _⟩
    · unfold twoB at h2
      cases R with
      | nil => simp at h2
      | cons x R =>
        simp only [List.take_succ_cons, List.take_zero, Bool.or_eq_true, decide_eq_true_eq, List.cons.injEq, and_true] at h2
        rcases h2 with ((h2 | h2) | h2) | h2 <;> (rw [h2.1] at hb; exact absurd hb (by decide))
    · have : ∀ x ∈ onesL, blkB x = false := by decide
      rw [this c h3] at hb
      cases hb
end Go.Proofs.YtfkjehgbghckhaaDoor

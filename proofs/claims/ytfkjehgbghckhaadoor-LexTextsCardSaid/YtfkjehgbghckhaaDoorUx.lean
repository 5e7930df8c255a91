/-
  What is read of an int's digits, a float's text, a name and a string within its marks, plainly: no walk.
-/
import Derived.Test.YtfkjehgbghckhaaDoorUk
import Derived.Test.YtfkjehgbghckhaaDoorFx
import Derived.Test.YtfkjehgbghckhaaDoorVq
namespace Go.Proofs.YtfkjehgbghckhaaDoor
open Go.RowKit

theorem tw_all {p : UInt8 → Bool} : ∀ {l : List UInt8}, l.all p = true → l.takeWhile p = l
  | [], _ => rfl
  | c :: l, h => by
    rw [List.all_cons, Bool.and_eq_true] at h
    rw [List.takeWhile_cons_of_pos h.1, tw_all h.2]
theorem nextN_0 {R : List UInt8} (h : R.length ≤ 2000) {c : UInt8} {R' : List UInt8} (e : R = c :: R') (hb : blkB c = false) : nextN (strL R) 0 = nxOf 0 (headT R) := by
  have h0 : left (strL R) 0 = R := left_0 _
  have hk : blkN R = 0 := by unfold blkN; rw [e]; exact tw_stop hb
  have hs : (strL R).size = R.length := rfl
  unfold nextN
  rw [if_neg (by omega), show ((0 : Int)).toNat = 0 from rfl, h0, hk, Nat.zero_add, h0]
theorem blk_digit {c : UInt8} (h : isD c = true) : blkB c = false := by
  unfold isD at h
  rw [Bool.and_eq_true, decide_eq_true_eq, decide_eq_true_eq] at h
  unfold blkB
  simp only [Bool.or_eq_false_iff, decide_eq_false_iff_not]
  omega
theorem blk_letter {c : UInt8} (h : letB c = true) : blkB c = false := by
  unfold letB at h
  rw [Bool.and_eq_true, decide_eq_true_eq, decide_eq_true_eq] at h
  unfold blkB
  simp only [Bool.or_eq_false_iff, decide_eq_false_iff_not]
  omega
theorem let_digit {c : UInt8} (h : letB c = true) : isD c = false := by
  unfold letB at h
  rw [Bool.and_eq_true, decide_eq_true_eq, decide_eq_true_eq] at h
  unfold isD
  rw [Bool.and_eq_false_iff, decide_eq_false_iff_not, decide_eq_false_iff_not]
  omega
/-- An int's digits. -/
theorem head_digits {n : Nat} (h : n < 9223372036854775808) : ∃ c R, digL n = c :: R ∧ blkB c = false ∧ headT (digL n) = .ok ⟨2, (digL n).length, n, 0, []⟩ := by
  obtain ⟨m, t, hd⟩ := digL_head n
  have hm := (dc_digit m).1
  refine ⟨dc m, t, hd, blk_digit hm, ?_⟩
  have hw : dig (digL n) = digL n := tw_all (digL_all n)
  have hl := digL_len 19 n (by omega) (by omega)
  have e : headT (digL n) = numT (digL n) := by
    rw [hd, headT_cons, if_pos hm]
  rw [e]
  unfold numT
  rw [hw, List.getElem?_eq_none (Nat.le_refl _), if_neg (by simp)]
  unfold intT
  rw [if_neg (by omega), digL_num, if_neg (by omega)]
/-- A float's text without a minus. -/
theorem head_text {b : Nat} (hb : okW b) (hs : nanB b = true ∨ sgn b = false) : ∃ c R, textL b = c :: R ∧ blkB c = false ∧ c ≠ 45 ∧ headT (textL b) = .ok ⟨3, (textL b).length, 0, canonW b, []⟩ := by
  have hback := text_back hb
  by_cases hn : nanB b = true
  · have e : textL b = nanL := by unfold textL; rw [if_pos hn]; rfl
    rw [e] at hback ⊢
    refine ⟨110, [97, 110], rfl, by decide, by decide, ?_⟩
    have h1 : headT nanL = wrdT nanL := by rfl
    rw [h1]
    unfold wrdT
    rw [if_pos (.inl rfl), hback]; rfl
  · have hs' : sgn b = false := by rcases hs with h | h; exact absurd h hn; exact h
    have e : textL b = sizeL b := by
      unfold textL signL
      rw [if_neg hn, hs', if_neg Bool.false_ne_true, List.nil_append]
    rw [e] at hback ⊢
    by_cases hi : rung b = 9218868437227405312
    · have e2 : sizeL b = infL := by unfold sizeL; rw [if_pos hi]; rfl
      rw [e2] at hback ⊢
      refine ⟨105, [110, 102], rfl, by decide, by decide, ?_⟩
      have h1 : headT infL = wrdT infL := by rfl
      rw [h1]
      unfold wrdT
      rw [if_pos (.inr rfl), hback]; rfl
    · have e2 : sizeL b = digL (oddW b) ++ 112 :: expL (expW b) := by unfold sizeL; rw [if_neg hi]
      obtain ⟨m, t, hd⟩ := digL_head (oddW b)
      have hm := (dc_digit m).1
      have hcons : sizeL b = dc m :: (t ++ 112 :: expL (expW b)) := by rw [e2, hd]; rfl
      refine ⟨dc m, _, hcons, blk_digit hm, fun h => by rw [h] at hm; exact absurd hm (by decide), ?_⟩
      have hT : headT (sizeL b) = numT (sizeL b) := by rw [hcons, headT_cons, if_pos hm]
      have hw : dig (sizeL b) = digL (oddW b) := by rw [e2]; exact (left_of (digL_all _)).2.2
      have h112 : (sizeL b)[(digL (oddW b)).length]? = some 112 := by rw [e2, List.getElem?_append_right (Nat.le_refl _), Nat.sub_self]; rfl
      have hdrop : (sizeL b).drop ((digL (oddW b)).length + 1) = expL (expW b) := by
        rw [e2, List.drop_append]
        rw [List.drop_eq_nil_of_le (by omega), List.nil_append, show (digL (oddW b)).length + 1 - (digL (oddW b)).length = 1 by omega]
        rfl
      have hexp : ((expL (expW b)).drop (expM (expL (expW b)))).all isD = true ∧ ((expL (expW b)).drop (expM (expL (expW b)))).length + expM (expL (expW b)) = (expL (expW b)).length ∧ 1 ≤ ((expL (expW b)).drop (expM (expL (expW b)))).length := by
        unfold expL
        by_cases h0 : expW b < 0
        · rw [if_pos h0]
          have : expM (45 :: digL (-expW b).toNat) = 1 := by unfold expM; rw [if_pos (show (45 :: digL (-expW b).toNat)[0]? = some 45 from rfl)]
          rw [this]
          refine ⟨digL_all _, by simp, digL_pos _⟩
        · rw [if_neg h0]
          have hmin : expM (digL (expW b).toNat) = 0 := by
            unfold expM
            obtain ⟨m2, t2, hd2⟩ := digL_head (expW b).toNat
            rw [hd2, if_neg]
            intro h
            injection h with h
            have := (dc_digit m2).1
            rw [h] at this
            exact absurd this (by decide)
          rw [hmin, List.drop_zero]
          exact ⟨digL_all _, by omega, digL_pos _⟩
      have hdig : dig ((expL (expW b)).drop (expM (expL (expW b)))) = (expL (expW b)).drop (expM (expL (expW b))) := tw_all hexp.1
      have hlen : (sizeL b).length = (digL (oddW b)).length + 1 + (expL (expW b)).length := by rw [e2]; simp; omega
      have hL : floL (digL (oddW b)).length (expL (expW b)) = (sizeL b).length := by
        unfold floL
        rw [hdig, hlen]
        omega
      rw [hT]
      unfold numT
      rw [hw, if_pos h112, hdrop]
      unfold floT
      rw [hL, List.take_length, hback, hdig, if_neg (by omega)]
      rfl
/-- A name. -/
theorem head_name {s : ByteArray} (h : nameB s = true) (h1 : s.data.toList ≠ nanL) (h2 : s.data.toList ≠ infL) : s.size ≤ 30 ∧ ∃ c R, s.data.toList = c :: R ∧ blkB c = false ∧ headT s.data.toList = .ok ⟨5, s.size, 0, 0, s.data.toList⟩ := by
  unfold nameB at h
  simp only [Bool.and_eq_true, decide_eq_true_eq] at h
  obtain ⟨⟨h3, h4⟩, h5⟩ := h
  rw [List.all_eq_true] at h5
  obtain ⟨l, hl⟩ : ∃ l, s.data.toList = l := ⟨_, rfl⟩
  have hsz : s.size = l.length := by rw [← hl]; rfl
  rw [hl] at h1 h2 h5 ⊢
  refine ⟨h4, ?_⟩
  cases l with
  | nil => have h0 : s.size = 0 := hsz; omega
  | cons c R =>
    have hc : letB c = true := by
      have := h5 0 (List.mem_range.2 (by omega))
      unfold atB at this
      simp at this
      unfold letB
      unfold letterB at this
      simpa using this
    refine ⟨c, R, rfl, blk_letter hc, ?_⟩
    have hall : (c :: R).all namB = true := by
      rw [List.all_eq_true]
      intro x hx
      obtain ⟨j, hj⟩ := List.mem_iff_getElem?.1 hx
      have hjl := (List.getElem?_eq_some_iff.1 hj).1
      have := h5 j (List.mem_range.2 (by omega))
      rw [List.getD_eq_getElem?_getD, hj] at this
      unfold atB at this
      simp only [Option.getD_some, Bool.or_eq_true, Bool.and_eq_true, decide_eq_true_eq] at this
      unfold namB
      simp only [Bool.or_eq_true, decide_eq_true_eq]
      rcases this with h | ⟨_, h | h⟩
      · exact .inl (.inl h)
      · exact .inl (.inr h)
      · exact .inr h
    rw [headT_cons, if_neg (by rw [let_digit hc]; exact Bool.false_ne_true), if_pos hc]
    unfold nameT
    rw [tw_all hall]
    unfold wrdT
    rw [if_neg (fun h => h.elim h1 h2), if_neg (by omega), hsz]
/-- A string within its marks. -/
theorem strR_quo : ∀ (l : List UInt8), strR (l.flatMap escL ++ [34]) = .ok l ((l.flatMap escL).length + 1)
  | [] => strR_mark []
  | b :: l => by
    have ih := strR_quo l
    rw [List.flatMap_cons]
    generalize l.flatMap escL = E at ih ⊢
    unfold escL
    by_cases h : b.toNat = 34 ∨ b.toNat = 92
    · rw [if_pos h]
      have hb : b = 92 ∨ b = 34 := by
        rcases h with h | h
        · exact .inr (u8_eq.2 (by rw [h]; rfl))
        · exact .inl (u8_eq.2 (by rw [h]; rfl))
      show strR (92 :: b :: (E ++ [34])) = _
      rw [strR_esc hb, ih]
      unfold Hs.add
      simp only [List.singleton_append, List.length_append, List.length_cons, List.length_nil]
      congr 1
    · rw [if_neg h]
      have h34 : ¬ b = 34 := fun e => h (.inl (by rw [e]; rfl))
      have h92 : ¬ b = 92 := fun e => h (.inr (by rw [e]; rfl))
      show strR (b :: (E ++ [34])) = _
      rw [strR_other h34 h92, ih]
      unfold Hs.add
      simp only [List.singleton_append, List.length_cons]
      congr 1
      omega
theorem head_quote (l : List UInt8) : headT (quoL l) = if 200 < l.length then .err 3 else .ok ⟨4, (quoL l).length, 0, 0, l⟩ := by
  have e : quoL l = 34 :: (l.flatMap escL ++ [34]) := rfl
  rw [e, headT_cons, if_neg (by decide), if_neg (by decide), if_pos rfl]
  unfold strT
  rw [show (34 :: (l.flatMap escL ++ [34])).drop 1 = l.flatMap escL ++ [34] from rfl, strR_quo]
  show (if 200 < l.length then Hd.err 3 else Hd.ok ⟨4, (l.flatMap escL).length + 1 + 1, 0, 0, l⟩) = _
  simp
end Go.Proofs.YtfkjehgbghckhaaDoor

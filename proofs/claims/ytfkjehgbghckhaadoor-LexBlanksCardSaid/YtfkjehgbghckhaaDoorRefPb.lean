/-
  basculeref03.Parse answers what the program's Parse does.
-/
import Derived.Test.YtfkjehgbghckhaaDoorRefPa
namespace Go.Proofs.YtfkjehgbghckhaaDoor
open Go.RowKit Ieee

def dig (l : List UInt8) : List UInt8 := l.takeWhile isD
def errV : Value := .tuple #[.float .f64 0, .int .i64 5]
theorem p_no : isD 112 = false := by decide
theorem digit_no {c : UInt8} (h : isD c = true) : (c != 112) = true := by
  rw [bne_iff_ne]; intro e; subst e; rw [p_no] at h; cases h
theorem dig_all (l : List UInt8) : (dig l).all isD = true := by
  unfold dig; exact List.all_takeWhile
theorem left_of {d r : List UInt8} (h : d.all isD = true) : leftL (d ++ 112 :: r) = d ∧ rightL (d ++ 112 :: r) = r ∧ dig (d ++ 112 :: r) = d := by
  rw [List.all_eq_true] at h
  unfold leftL rightL dig
  refine ⟨?_, ?_, ?_⟩
  · rw [List.takeWhile_append_of_pos (fun c hc => digit_no (h c hc)), List.takeWhile_cons_of_neg (by simp), List.append_nil]
  · rw [List.dropWhile_append_of_pos (fun c hc => digit_no (h c hc)), List.dropWhile_cons_of_neg (by simp)]; rfl
  · rw [List.takeWhile_append_of_pos h, List.takeWhile_cons_of_neg (by simp [p_no]), List.append_nil]
theorem whole_of : ∀ {l : List UInt8}, rightL l ≠ [] → l = leftL l ++ 112 :: rightL l
  | [], h => absurd rfl h
  | b :: l, h => by
    by_cases hb : b = 112
    · subst hb
      have e1 : leftL (112 :: l) = [] := by unfold leftL; rw [List.takeWhile_cons_of_neg (by simp)]
      have e2 : rightL (112 :: l) = l := by unfold rightL; rw [List.dropWhile_cons_of_neg (by simp)]; rfl
      rw [e1, e2]; rfl
    · have e1 : leftL (b :: l) = b :: leftL l := by unfold leftL; rw [List.takeWhile_cons_of_pos (by simpa using hb)]
      have e2 : rightL (b :: l) = rightL l := by unfold rightL; rw [List.dropWhile_cons_of_pos (by simpa using hb)]
      rw [e2] at h
      rw [e1, e2, List.cons_append, ← whole_of h]
theorem dig_split (l : List UInt8) : dig l ++ l.drop (dig l).length = l := by
  have h : dig l = l.take (dig l).length := List.prefix_iff_eq_take.1 (List.takeWhile_prefix _)
  conv => lhs; lhs; rw [h]
  exact List.take_append_drop _ _
theorem dig_le (l : List UInt8) : (dig l).length ≤ l.length := (List.takeWhile_sublist _).length_le
theorem bodyL_nil {l : List UInt8} (h : rightL l = []) : bodyL l = [] := by
  unfold bodyL Lib.trimPrefix; rw [h]; rfl
/-- The first part is not as it should be. -/
theorem body_bad {neg : Bool} {l : List UInt8} (h : ¬ (1 ≤ (dig l).length ∧ (dig l).length ≤ 20 ∧ ∃ r, r ≠ [] ∧ l = dig l ++ 112 :: r)) : bodyV neg l = errV := by
  unfold bodyV
  rw [if_neg]
  · rfl
  · rintro ⟨h1, h2⟩
    apply h
    have hr : rightL l ≠ [] := fun e => by
      have := (okD_all h2).2.2
      rw [bodyL_nil e] at this
      simp at this
    have hl := whole_of hr
    have hd := (left_of (r := rightL l) (okD_all h1).1).2.2
    rw [← hl] at hd
    rw [hd]
    exact ⟨(okD_all h1).2.2, (okD_all h1).2.1, rightL l, hr, hl⟩
theorem all_dig {l : List UInt8} : l.all isD = true ↔ l.drop (dig l).length = [] := by
  constructor
  · intro h
    have : dig l = l := by
      unfold dig
      have := List.takeWhile_append_of_pos (p := isD) (l₁ := l) (l₂ := []) (List.all_eq_true.1 h)
      simpa using this
    rw [this]; simp
  · intro h
    have := dig_split l
    rw [h, List.append_nil] at this
    rw [← this]; exact dig_all l
theorem body_good {neg : Bool} {l r : List UInt8} (h1 : 1 ≤ (dig l).length) (h2 : (dig l).length ≤ 20) (hl : l = dig l ++ 112 :: r) :
    belowB l = Lib.hasPrefix r [45] ∧ bodyL l = Lib.trimPrefix r [45] ∧
    bodyV neg l = if 1 ≤ (dig (bodyL l)).length ∧ (dig (bodyL l)).length ≤ 4 ∧ (bodyL l).drop (dig (bodyL l)).length = [] then madeT neg (capN (dig l)) (sgnI (belowB l) (capN (dig (bodyL l)))) else errV := by
  have hr : rightL l = r := by rw [hl]; exact (left_of (dig_all l)).2.1
  have hf : leftL l = dig l := by
    have := (left_of (r := r) (dig_all l)).1
    rw [← hl] at this; exact this
  refine ⟨by unfold belowB; rw [hr], by unfold bodyL; rw [hr], ?_⟩
  unfold bodyV
  rw [hf]
  have ho : okD (dig l) 20 = true := by unfold okD; rw [decide_eq_true h1, decide_eq_true h2, dig_all]; rfl
  by_cases h : 1 ≤ (dig (bodyL l)).length ∧ (dig (bodyL l)).length ≤ 4 ∧ (bodyL l).drop (dig (bodyL l)).length = []
  · have e : dig (bodyL l) = bodyL l := by
      have := dig_split (bodyL l)
      rw [h.2.2, List.append_nil] at this; exact this
    rw [if_pos h]
    rw [e] at h ⊢
    have ho2 : okD (bodyL l) 4 = true := by
      unfold okD
      rw [decide_eq_true h.1, decide_eq_true h.2.1, all_dig.2 (by rw [e]; exact h.2.2)]; rfl
    rw [if_pos ⟨ho, ho2⟩]
  · have hno : ¬ (okD (dig l) 20 = true ∧ okD (bodyL l) 4 = true) := by
      rintro ⟨_, h4⟩
      apply h
      have ha := okD_all h4
      have hd := all_dig.1 ha.1
      have e : dig (bodyL l) = bodyL l := by
        have := dig_split (bodyL l)
        rw [hd, List.append_nil] at this; exact this
      rw [e] at hd ⊢
      exact ⟨ha.2.2, ha.2.1, hd⟩
    rw [if_neg h, if_neg hno]
    rfl

theorem empty_list {l : List UInt8} (h : l ≠ []) : (strL l).toList.isEmpty = false := by
  rw [Lib.toList_data]
  cases l with
  | nil => exact absurd rfl h
  | cons => rfl
theorem empty_nil : (strL []).toList.isEmpty = true := by rw [Lib.toList_data]; rfl
theorem capN_short {l : List UInt8} (h : l.all isD = true) (hl : l.length ≤ 4) : capN l ≤ 9999 := (pd_short h hl).2
theorem made_pair (neg : Bool) (n : Nat) (e : Int) : ∃ (x : Nat) (y : Int), madeT neg n e = .tuple #[.float .f64 x, .int .i64 y] := by
  unfold madeT madeV
  split
  · exact ⟨_, _, rfl⟩
  · split
    · exact ⟨_, _, rfl⟩
    · split <;> exact ⟨_, _, rfl⟩

end Go.Proofs.YtfkjehgbghckhaaDoor

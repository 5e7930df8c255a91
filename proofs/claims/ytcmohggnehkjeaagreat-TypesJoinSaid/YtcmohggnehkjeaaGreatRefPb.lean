/-
  basculeref03.Parse answers what the program's Parse does.
-/
import Derived.Test.YtcmohggnehkjeaaGreatRefPa
namespace Go.Proofs.YtcmohggnehkjeaaGreat
open Go.RowKit Ieee

def dig (l : List UInt8) : List UInt8 := l.takeWhile isD
def errV : Value := .tuple #[.float .f64 0, .int .i64 5]
theorem p_no : isD 112 = false := by decide
theorem digit_no {c : UInt8} (h : isD c = true) : (c != 112) = true := by
  rw [bne_iff_ne]; intro e; subst e; rw [p_no] at h; cases h
theorem dig_all (l : List UInt8) : (dig l).all isD = true := by
  unfold dig; exact List.all_takeWhile
theorem left_of {d r : List UInt8} (h : d.all isD = true) : leftL (d ++ 112 :: r) = d ∧ rightL (d ++ 112 :: r) = r ∧ dig (d ++ 112 :: r) = d := by
  rw [List.all_eq_true] at h
  unfold leftL rightL dig
  refine ⟨?_, ?_, ?_⟩
  · rw [List.takeWhile_append_of_pos (fun c hc => digit_no (h c hc)), List.takeWhile_cons_of_neg (by simp), List.append_nil]
  · rw [List.dropWhile_append_of_pos (fun c hc => digit_no (h c hc)), List.dropWhile_cons_of_neg (by simp)]; rfl
  · rw [List.takeWhile_append_of_pos h, List.takeWhile_cons_of_neg (by simp [p_no]), List.append_nil]
theorem whole_of : ∀ {l : List UInt8}, rightL l ≠ [] → l = leftL l ++ 112 :: rightL l
  | [], h => absurd rfl h
  | b :: l, h => by
    by_cases hb : b = 112
    · subst hb
      have e1 : leftL (112 :: l) = [] := by unfold leftL; rw [List.takeWhile_cons_of_neg (by simp)]
      have e2 : rightL (112 :: l) = l := by unfold rightL; rw [List.dropWhile_cons_of_neg (by simp)]; rfl
      rw [e1, e2]; rfl
    · have e1 : leftL (b :: l) = b :: leftL l := by unfold leftL; rw [List.takeWhile_cons_of_pos (by simpa using hb)]
      have e2 : rightL (b :: l) = rightL l := by unfold rightL; rw [List.dropWhile_cons_of_pos (by simpa using hb)]
      rw [e2] at h
      rw [e1, e2, List.cons_append, ← whole_of h]
theorem dig_split (l : List UInt8) : dig l ++ l.drop (dig l).length = l := by
  have h : dig l = l.take (dig l).length := List.prefix_iff_eq_take.1 (List.takeWhile_prefix _)
  conv => lhs; lhs; rw [h]
  exact List.take_append_drop _ _
theorem dig_le (l : List UInt8) : (dig l).length ≤ l.length := (List.takeWhile_sublist _).length_le
theorem bodyL_nil {l : List UInt8} (h : rightL l = []) : bodyL l = [] := by
  unfold bodyL Lib.trimPrefix; rw [h]; rfl
/-- The first part is not as it should be. -/
theorem body_bad {neg : Bool} {l : List UInt8} (h : ¬ (1 ≤ (dig l).length ∧ (dig l).length ≤ 20 ∧ ∃ r, r ≠ [] ∧ l = dig l ++ 112 :: r)) : bodyV neg l = errV := by
  unfold bodyV
  rw [if_neg]
  · rfl
  · rintro ⟨h1, h2⟩
    apply h
    have hr : rightL l ≠ [] := fun e => by
      have := (okD_all h2).2.2
      rw [bodyL_nil e] at this
      simp at this
    have hl := whole_of hr
    have hd := (left_of (r := rightL l) (okD_all h1).1).2.2
    rw [← hl] at hd
    rw [hd]
    exact ⟨(okD_all h1).2.2, (okD_all h1).2.1, rightL l, hr, hl⟩
theorem all_dig {l : List UInt8} : l.all isD = true ↔ l.drop (dig l).length = [] := by
  constructor
  · intro h
    have : dig l = l := by
      unfold dig
      have := List.takeWhile_append_of_pos (p := isD) (l₁ := l) (l₂ := []) (List.all_eq_true.1 h)
      simpa using this
    rw [this]; simp
  · intro h
    have := dig_split l
    rw [h, List.append_nil] at this
    rw [← this]; exact dig_all l
theorem body_good {neg : Bool} {l r : List UInt8} (h1 : 1 ≤ (dig l).length) (h2 : (dig l).length ≤ 20) (hl : l = dig l ++ 112 :: r) :
    belowB l = Lib.hasPrefix r [45] ∧ bodyL l = Lib.trimPrefix r [45] ∧
    bodyV neg l = if 1 ≤ (dig (bodyL l)).length ∧ (dig (bodyL l)).length ≤ 4 ∧ (bodyL l).drop (dig (bodyL l)).length = [] then madeT neg (capN (dig l)) (sgnI (belowB l) (capN (dig (bodyL l)))) else errV := by
  have hr : rightL l = r := by rw [hl]; exact (left_of (dig_all l)).2.1
  have hf : leftL l = dig l := by
    have := (left_of (r := r) (dig_all l)).1
    rw [← hl] at this; exact this
  refine ⟨by unfold belowB; rw [hr], by unfold bodyL; rw [hr], ?_⟩
  unfold bodyV
  rw [hf]
  have ho : okD (dig l) 20 = true := by unfold okD; rw [decide_eq_true h1, decide_eq_true h2, dig_all]; rfl
  by_cases h : 1 ≤ (dig (bodyL l)).length ∧ (dig (bodyL l)).length ≤ 4 ∧ (bodyL l).drop (dig (bodyL l)).length = []
  · have e : dig (bodyL l) = bodyL l := by
      have := dig_split (bodyL l)
      rw [h.2.2, List.append_nil] at this; exact this
    rw [if_pos h]
    rw [e] at h ⊢
    have ho2 : okD (bodyL l) 4 = true := by
      unfold okD
      rw [decide_eq_true h.1, decide_eq_true h.2.1, all_dig.2 (by rw [e]; exact h.2.2)]; rfl
    rw [if_pos ⟨ho, ho2⟩]
  · have hno : ¬ (okD (dig l) 20 = true ∧ okD (bodyL l) 4 = true) := by
      rintro ⟨_, h4⟩
      apply h
      have ha := okD_all h4
      have hd := all_dig.1 ha.1
      have e : dig (bodyL l) = bodyL l := by
        have := dig_split (bodyL l)
        rw [hd, List.append_nil] at this; exact this
      rw [e] at hd ⊢
      exact ⟨ha.2.2, ha.2.1, hd⟩
    rw [if_neg h, if_neg hno]
    rfl

theorem numbers_any {l : List UInt8} (hl : l.length ≤ 100000) : Numbers (strL l) (capN (dig l)) (dig l).length (strL (l.drop (dig l).length)) := by
  intro W
  have h := number_any (s := strL l) (show l.length ≤ 100000 from hl) W
  have e : numV (strL l) = .tuple #[.int .u64 (capN (dig l) : Nat), .int .i64 ((dig l).length : Nat), .string (strL (l.drop (dig l).length))] := by
    unfold numV
    show Value.tuple #[_, _, .string ((strL l).extract (dig l).length (strL l).size)] = _
    rw [ext_drop]; rfl
  rw [e] at h
  exact h
theorem empty_list {l : List UInt8} (h : l ≠ []) : (strL l).toList.isEmpty = false := by
  rw [Lib.toList_data]
  cases l with
  | nil => exact absurd rfl h
  | cons => rfl
theorem empty_nil : (strL []).toList.isEmpty = true := by rw [Lib.toList_data]; rfl
theorem capN_short {l : List UInt8} (h : l.all isD = true) (hl : l.length ≤ 4) : capN l ≤ 9999 := (pd_short h hl).2
theorem made_pair (neg : Bool) (n : Nat) (e : Int) : ∃ (x : Nat) (y : Int), madeT neg n e = .tuple #[.float .f64 x, .int .i64 y] := by
  unfold madeT madeV
  split
  · exact ⟨_, _, rfl⟩
  · split
    · exact ⟨_, _, rfl⟩
    · split <;> exact ⟨_, _, rfl⟩

theorem ref_body_n {l : List UInt8} (hl : l.length ≤ 100000) (h0 : l ≠ [105, 110, 102]) (w : World) :
    Calls Tryz.prog 198 #[.string (strL (45 :: l))] w fun e w' => e = .returned (bodyV true l) ∧ Below w.heap.size w w' := by
  have T1 : ((strL (45 :: l)).toList == [110, 97, 110]) = false := by rw [Lib.toList_data]; exact beq_list_false (show 45 :: l ≠ _ by simp)
  have T2 : ((strL l).toList == [105, 110, 102]) = false := by rw [Lib.toList_data]; exact beq_list_false h0
  have E1 : (strL (45 :: l)).extract 1 (strL (45 :: l)).size = strL l := ext_drop _ _
  have N := numbers_any hl
  have hs : 0 < (strL (45 :: l)).size := Nat.succ_pos _
  have c0 : (strL (45 :: l))[0] = 45 := rfl
  by_cases hb : 1 ≤ (dig l).length ∧ (dig l).length ≤ 20 ∧ ∃ r, r ≠ [] ∧ l = dig l ++ 112 :: r
  · obtain ⟨h1, h2, r, hr, hlr⟩ := hb
    obtain ⟨g1, g2, g3⟩ := body_good (neg := true) h1 h2 hlr
    have hd : l.drop (dig l).length = 112 :: r := by
      conv => lhs; arg 2; rw [hlr]
      exact List.drop_left
    rw [hd] at N
    have hrl : r.length ≤ 100000 := by rw [hlr] at hl; simp at hl; omega
    have E2 : (strL (112 :: r)).extract 1 (strL (112 :: r)).size = strL r := ext_drop _ _
    rw [g3]
    clear g3
    cases r with
    | nil => exact absurd rfl hr
    | cons c t =>
      have h3 : 1 < (strL (112 :: c :: t)).size := by show 1 < (112 :: c :: t).length; simp
      have h4 : 0 < (strL (c :: t)).size := Nat.succ_pos _
      by_cases hc : c = 45
      · subst hc
        have gb : bodyL l = t := g2
        have gs : belowB l = true := g1
        rw [gb, gs]
        have N2 := numbers_any (l := t) (by simp at hrl; omega)
        by_cases hg : 1 ≤ (dig t).length ∧ (dig t).length ≤ 4 ∧ t.drop (dig t).length = []
        · rw [if_pos hg]
          obtain ⟨x, y, hV⟩ := made_pair true (capN (dig l)) (sgnI true (capN (dig t)))
          have M := made_any true (capN (dig l)) (e := sgnI true (capN (dig t))) (by have := capN_short (dig_all t) hg.2.1; unfold sgnI; split <;> omega)
          rw [hV] at M ⊢
          rw [hg.2.2] at N2
          exact ref_nb_good hs c0 E1 T1 T2 N (by omega) (by omega) h3 rfl E2 h4 rfl (ext_drop (45 :: t) 1) N2 (by omega) (by omega) empty_nil (capN_short (dig_all t) hg.2.1) M
        · rw [if_neg hg]
          refine ref_nb_bad hs c0 E1 T1 T2 N (by omega) (by omega) h3 rfl E2 h4 rfl (ext_drop (45 :: t) 1) N2 ?_
          by_cases q1 : (dig t).length < 1
          · exact .inl q1
          · by_cases q2 : 4 < (dig t).length
            · exact .inr (.inl ⟨q1, q2⟩)
            · exact .inr (.inr ⟨q1, q2, empty_list (fun e => hg ⟨by omega, by omega, e⟩)⟩)
      · have hp : Lib.hasPrefix (c :: t) [45] = false := by
          show (45 == c && _) = false
          rw [show (45 == c) = false by rw [beq_eq_false_iff_ne]; exact fun e => hc e.symm]; rfl
        have gb : bodyL l = c :: t := by rw [g2]; unfold Lib.trimPrefix; rw [hp]; rfl
        have gs : belowB l = false := by rw [g1, hp]
        have c2 : (((strL (c :: t))[0].toNat : Int) == 45) = false := by
          show ((c.toNat : Int) == 45) = false
          rw [beq_eq_false_iff_ne]
          intro e
          exact hc (UInt8.toNat_inj.1 (by show c.toNat = 45; omega))
        rw [gb, gs]
        have N2 := numbers_any hrl
        generalize c :: t = r at *
        by_cases hg : 1 ≤ (dig r).length ∧ (dig r).length ≤ 4 ∧ r.drop (dig r).length = []
        · rw [if_pos hg]
          obtain ⟨x, y, hV⟩ := made_pair true (capN (dig l)) (sgnI false (capN (dig r)))
          have M := made_any true (capN (dig l)) (e := sgnI false (capN (dig r))) (by have := capN_short (dig_all r) hg.2.1; unfold sgnI; split <;> omega)
          rw [hV] at M ⊢
          rw [hg.2.2] at N2
          exact ref_nu_good hs c0 E1 T1 T2 N (by omega) (by omega) h3 rfl E2 h4 c2 N2 (by omega) (by omega) empty_nil (capN_short (dig_all r) hg.2.1) M
        · rw [if_neg hg]
          refine ref_nu_bad hs c0 E1 T1 T2 N (by omega) (by omega) h3 rfl E2 h4 c2 N2 ?_
          by_cases q1 : (dig r).length < 1
          · exact .inl q1
          · by_cases q2 : 4 < (dig r).length
            · exact .inr (.inl ⟨q1, q2⟩)
            · exact .inr (.inr ⟨q1, q2, empty_list (fun e => hg ⟨by omega, by omega, e⟩)⟩)
  · rw [body_bad hb]
    refine ref_n_bad hs c0 E1 T1 T2 N ?_
    by_cases q1 : (dig l).length < 1
    · exact .inl q1
    · by_cases q2 : 20 < (dig l).length
      · exact .inr (.inl ⟨q1, q2⟩)
      · have hsp := dig_split l
        generalize l.drop (dig l).length = r at *
        cases r with
        | nil => exact .inr (.inr (.inl ⟨q1, q2, show 0 < 2 by omega⟩))
        | cons c t =>
          cases t with
          | nil => exact .inr (.inr (.inl ⟨q1, q2, show 1 < 2 by omega⟩))
          | cons d t =>
            refine .inr (.inr (.inr ⟨q1, q2, show 1 < (c :: d :: t).length by simp, ?_⟩))
            show ((c.toNat : Int) != 112) = true
            rw [bne_iff_ne]
            intro e
            have ec : c = 112 := UInt8.toNat_inj.1 (by show c.toNat = 112; omega)
            exact hb ⟨by omega, by omega, d :: t, by simp, by rw [ec] at hsp; exact hsp.symm⟩
theorem ref_body_p {l : List UInt8} (hl : l.length ≤ 100000) (h0 : l ≠ [105, 110, 102]) (h1 : l ≠ [110, 97, 110]) (hm : ∀ t, l ≠ 45 :: t) (w : World) :
    Calls Tryz.prog 198 #[.string (strL (l))] w fun e w' => e = .returned (bodyV false l) ∧ Below w.heap.size w w' := by
  have T1 : ((strL l).toList == [110, 97, 110]) = false := by rw [Lib.toList_data]; exact beq_list_false h1
  have T2 : ((strL l).toList == [105, 110, 102]) = false := by rw [Lib.toList_data]; exact beq_list_false h0
  have N := numbers_any hl
  by_cases hl0 : l = []
  · subst hl0
    rw [body_bad (by unfold dig; simp)]
    exact ref_empty (show 0 < 1 by omega) T1 T2 N (show 0 < 1 by omega)
  have hs : 0 < (strL l).size := List.length_pos_iff.2 hl0
  have c0 : (((strL l)[0].toNat : Int) == 45) = false := by
    cases l with
    | nil => exact absurd rfl hl0
    | cons c t =>
      show ((c.toNat : Int) == 45) = false
      rw [beq_eq_false_iff_ne]
      intro e
      exact hm t (by rw [show c = 45 from UInt8.toNat_inj.1 (by show c.toNat = 45; omega)])
  by_cases hb : 1 ≤ (dig l).length ∧ (dig l).length ≤ 20 ∧ ∃ r, r ≠ [] ∧ l = dig l ++ 112 :: r
  · obtain ⟨h1, h2, r, hr, hlr⟩ := hb
    obtain ⟨g1, g2, g3⟩ := body_good (neg := false) h1 h2 hlr
    have hd : l.drop (dig l).length = 112 :: r := by
      conv => lhs; arg 2; rw [hlr]
      exact List.drop_left
    rw [hd] at N
    have hrl : r.length ≤ 100000 := by rw [hlr] at hl; simp at hl; omega
    have E2 : (strL (112 :: r)).extract 1 (strL (112 :: r)).size = strL r := ext_drop _ _
    rw [g3]
    clear g3
    cases r with
    | nil => exact absurd rfl hr
    | cons c t =>
      have h3 : 1 < (strL (112 :: c :: t)).size := by show 1 < (112 :: c :: t).length; simp
      have h4 : 0 < (strL (c :: t)).size := Nat.succ_pos _
      by_cases hc : c = 45
      · subst hc
        have gb : bodyL l = t := g2
        have gs : belowB l = true := g1
        rw [gb, gs]
        have N2 := numbers_any (l := t) (by simp at hrl; omega)
        by_cases hg : 1 ≤ (dig t).length ∧ (dig t).length ≤ 4 ∧ t.drop (dig t).length = []
        · rw [if_pos hg]
          obtain ⟨x, y, hV⟩ := made_pair false (capN (dig l)) (sgnI true (capN (dig t)))
          have M := made_any false (capN (dig l)) (e := sgnI true (capN (dig t))) (by have := capN_short (dig_all t) hg.2.1; unfold sgnI; split <;> omega)
          rw [hV] at M ⊢
          rw [hg.2.2] at N2
          exact ref_pb_good hs c0 T1 T2 N (by omega) (by omega) h3 rfl E2 h4 rfl (ext_drop (45 :: t) 1) N2 (by omega) (by omega) empty_nil (capN_short (dig_all t) hg.2.1) M
        · rw [if_neg hg]
          refine ref_pb_bad hs c0 T1 T2 N (by omega) (by omega) h3 rfl E2 h4 rfl (ext_drop (45 :: t) 1) N2 ?_
          by_cases q1 : (dig t).length < 1
          · exact .inl q1
          · by_cases q2 : 4 < (dig t).length
            · exact .inr (.inl ⟨q1, q2⟩)
            · exact .inr (.inr ⟨q1, q2, empty_list (fun e => hg ⟨by omega, by omega, e⟩)⟩)
      · have hp : Lib.hasPrefix (c :: t) [45] = false := by
          show (45 == c && _) = false
          rw [show (45 == c) = false by rw [beq_eq_false_iff_ne]; exact fun e => hc e.symm]; rfl
        have gb : bodyL l = c :: t := by rw [g2]; unfold Lib.trimPrefix; rw [hp]; rfl
        have gs : belowB l = false := by rw [g1, hp]
        have c2 : (((strL (c :: t))[0].toNat : Int) == 45) = false := by
          show ((c.toNat : Int) == 45) = false
          rw [beq_eq_false_iff_ne]
          intro e
          exact hc (UInt8.toNat_inj.1 (by show c.toNat = 45; omega))
        rw [gb, gs]
        have N2 := numbers_any hrl
        generalize c :: t = r at *
        by_cases hg : 1 ≤ (dig r).length ∧ (dig r).length ≤ 4 ∧ r.drop (dig r).length = []
        · rw [if_pos hg]
          obtain ⟨x, y, hV⟩ := made_pair false (capN (dig l)) (sgnI false (capN (dig r)))
          have M := made_any false (capN (dig l)) (e := sgnI false (capN (dig r))) (by have := capN_short (dig_all r) hg.2.1; unfold sgnI; split <;> omega)
          rw [hV] at M ⊢
          rw [hg.2.2] at N2
          exact ref_pu_good hs c0 T1 T2 N (by omega) (by omega) h3 rfl E2 h4 c2 N2 (by omega) (by omega) empty_nil (capN_short (dig_all r) hg.2.1) M
        · rw [if_neg hg]
          refine ref_pu_bad hs c0 T1 T2 N (by omega) (by omega) h3 rfl E2 h4 c2 N2 ?_
          by_cases q1 : (dig r).length < 1
          · exact .inl q1
          · by_cases q2 : 4 < (dig r).length
            · exact .inr (.inl ⟨q1, q2⟩)
            · exact .inr (.inr ⟨q1, q2, empty_list (fun e => hg ⟨by omega, by omega, e⟩)⟩)
  · rw [body_bad hb]
    refine ref_p_bad hs c0 T1 T2 N ?_
    by_cases q1 : (dig l).length < 1
    · exact .inl q1
    · by_cases q2 : 20 < (dig l).length
      · exact .inr (.inl ⟨q1, q2⟩)
      · have hsp := dig_split l
        generalize l.drop (dig l).length = r at *
        cases r with
        | nil => exact .inr (.inr (.inl ⟨q1, q2, show 0 < 2 by omega⟩))
        | cons c t =>
          cases t with
          | nil => exact .inr (.inr (.inl ⟨q1, q2, show 1 < 2 by omega⟩))
          | cons d t =>
            refine .inr (.inr (.inr ⟨q1, q2, show 1 < (c :: d :: t).length by simp, ?_⟩))
            show ((c.toNat : Int) != 112) = true
            rw [bne_iff_ne]
            intro e
            have ec : c = 112 := UInt8.toNat_inj.1 (by show c.toNat = 112; omega)
            exact hb ⟨by omega, by omega, d :: t, by simp, by rw [ec] at hsp; exact hsp.symm⟩

theorem ref_nan (w : World) : Calls Tryz.prog 198 #[.string ⟨#[110, 97, 110]⟩] w fun x w' => x = .returned (.tuple #[.float .f64 9221120237041090560, .int .i64 0]) ∧ w = w' := by
  have I := nan_run w
  have C := Canon_any 9221120237041090561
  have e : canonW 9221120237041090561 = 9221120237041090560 := by decide
  rw [e] at C
  clear e
  go_enter Tryz.func198, Tryz.ntmps198
  go_wp2_with (first | (go_at_call 210; refine I.mono ?_; rintro e w' ⟨rfl, rfl⟩) | (go_at_call 167; refine (C _).mono ?_; rintro e w' ⟨rfl, rfl⟩))
  go_ret2
  exact ⟨rfl, rfl⟩
theorem ref_inf (w : World) : Calls Tryz.prog 198 #[.string ⟨#[105, 110, 102]⟩] w fun x w' => x = .returned (.tuple #[.float .f64 9218868437227405312, .int .i64 0]) ∧ w = w' := by
  have I := inf_up w
  go_enter Tryz.func198, Tryz.ntmps198
  go_wp2_with (go_at_call 211; refine I.mono ?_; rintro e w' ⟨rfl, rfl⟩)
  go_ret2
  exact ⟨rfl, rfl⟩
theorem ref_ninf_at {s s' : ByteArray} (hs : 0 < s.size) (c0 : s[0] = 45) (E1 : s.extract 1 s.size = s') (T1 : (s.toList == [110, 97, 110]) = false) (T2 : (s'.toList == [105, 110, 102]) = true) (w : World) :
    Calls Tryz.prog 198 #[.string s] w fun x w' => x = .returned (.tuple #[.float .f64 18442240474082181120, .int .i64 0]) ∧ w = w' := by
  have I := inf_down w
  go_enter Tryz.func198, Tryz.ntmps198
  go_wp2_with (go_at_call 211; refine I.mono ?_; rintro e w' ⟨rfl, rfl⟩)
  go_ret2
  exact ⟨rfl, rfl⟩
theorem ref_ninf (w : World) : Calls Tryz.prog 198 #[.string ⟨#[45, 105, 110, 102]⟩] w fun x w' => x = .returned (.tuple #[.float .f64 18442240474082181120, .int .i64 0]) ∧ w = w' :=
  ref_ninf_at (s := strL [45, 105, 110, 102]) (s' := strL [105, 110, 102]) (show 0 < 4 by omega) rfl (ext_drop _ _) (by rw [Lib.toList_data]; rfl) (by rw [Lib.toList_data]; rfl) w
/-- What the document's Parse answers is what the program's does. -/
theorem Parse_ref {l : List UInt8} (hl : l.length ≤ 100000) (w : World) : Calls Tryz.prog 198 #[.string (strL l)] w fun e w' => e = .returned (parseV l) ∧ Below w.heap.size w w' := by
  unfold parseV
  by_cases h1 : l = [110, 97, 110]
  · rw [if_pos h1, h1]
    exact (ref_nan w).mono fun e w' h => ⟨h.1, h.2 ▸ Below.refl _ _⟩
  · rw [if_neg h1]
    by_cases hm : ∃ t, l = 45 :: t
    · obtain ⟨t, rfl⟩ := hm
      have hp : Lib.hasPrefix (45 :: t) [45] = true := rfl
      have ht : Lib.trimPrefix (45 :: t) [45] = t := rfl
      rw [hp, ht]
      unfold sizeV
      by_cases h0 : t = [105, 110, 102]
      · rw [if_pos h0, h0]
        exact (ref_ninf w).mono fun e w' h => ⟨h.1, h.2 ▸ Below.refl _ _⟩
      · rw [if_neg h0]
        exact ref_body_n (by simp at hl; omega) h0 w
    · have hm' : ∀ t, l ≠ 45 :: t := fun t e => hm ⟨t, e⟩
      have hp : Lib.hasPrefix l [45] = false := by
        cases l with
        | nil => rfl
        | cons c t =>
          show (45 == c && _) = false
          rw [show (45 == c) = false by rw [beq_eq_false_iff_ne]; exact fun e => hm' t (by rw [← e])]; rfl
      have ht : Lib.trimPrefix l [45] = l := by unfold Lib.trimPrefix; rw [hp]; rfl
      rw [hp, ht]
      unfold sizeV
      by_cases h0 : l = [105, 110, 102]
      · rw [if_pos h0, h0]
        exact (ref_inf w).mono fun e w' h => ⟨h.1, h.2 ▸ Below.refl _ _⟩
      · rw [if_neg h0]
        exact ref_body_p hl h0 h1 hm' w
end Go.Proofs.YtcmohggnehkjeaaGreat

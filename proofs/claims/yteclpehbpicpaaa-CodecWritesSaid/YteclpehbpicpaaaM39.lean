/-
  Plain facts on values as bytes: what is read again is the same, and right as a whole.
  Plain facts on types as bytes: what is read again is the same, and right.
  Plain facts on types as bytes: what is cut off is none.
  A value that came in, opened: the tree that it is.
  A value that came in, opened, and read again behind the call.
-/
import Derived.Test.YteclpehbpicpaaaM23
import Derived.Test.YteclpehbpicpaaaM38
import Derived.Test.YteclpehbpicpaaaM34
import Derived.Test.YteclpehbpicpaaaM01
namespace Go.Proofs.Yteclpehbpicpaaa
open Go.RowKit

theorem first_zero {g : Nat → Int} : ∀ r i, (∀ j, i ≤ j → j < i + r → g j = 0) → firstGo g r i 0 = 0 := by
  intro r
  induction r with
  | zero => intro i _; rfl
  | succ r ih =>
    intro i h
    rw [firstGo, if_pos (h i (Nat.le_refl _) (by omega))]
    exact ih (i + 1) (fun j h1 h2 => h j (by omega) (by omega))
theorem sumN_eq {g h : Nat → Nat} : ∀ {m : Nat}, (∀ i, i < m → g i = h i) → sumN g m = sumN h m := by
  intro m
  induction m with
  | zero => intro _; rfl
  | succ m ih =>
    intro e
    show sumN g m + g m = sumN h m + h m
    rw [ih (fun i hi => e i (by omega)), e m (by omega)]
theorem norm_items {ns : Nat → ByteArray} {xs : Nat → VT} {m : Nat} {k : Nat} : treeOf k (itmL ns (fun i => norm (xs i)) m 0) = .mk k 0 0 ⟨#[]⟩ (if k = 6 then m else 0) (fun i => ((itmL ns (fun i => norm (xs i)) m 0).getD i (⟨#[]⟩, .bad)).1) m (fun i => ((itmL ns (fun i => norm (xs i)) m 0).getD i (⟨#[]⟩, .bad)).2) := by
  unfold treeOf
  rw [itm_len]
theorem itm_at {ns : Nat → ByteArray} {H : Nat → VT} {m i : Nat} (h : i < m) : (itmL ns H m 0).getD i (⟨#[]⟩, .bad) = (ns i, H i) := by
  have := itm_get ns H (⟨#[]⟩, .bad) m 0 i h
  simpa using this
theorem norm_same : ∀ (t : VT) (far : Int), rightV t far = true → floatsIn t → ordV (norm t) t = 0 := by
  intro t
  induction t with
  | bad => intro far h; rw [rightV] at h; exact absurd h (by decide)
  | mk k n f s c ns m xs ih =>
    intro far h hf
    obtain ⟨_, hh⟩ := right_head h
    have hs0 : ∀ a : Int, signI a a = 0 := sign_self
    rcases hh with ⟨rfl, _⟩ | ⟨rfl, _⟩ | ⟨rfl, _⟩ | ⟨rfl, _⟩ | ⟨rfl, hc, hx⟩ | ⟨rfl, hc, hnn, hx⟩
    · unfold norm
      rw [if_pos (by omega), if_pos (by omega), if_neg (by omega), if_neg (by omega)]
      unfold leaf
      rw [ordV, if_neg (by omega), if_pos (by omega), hs0]
    · unfold norm
      rw [if_pos (by omega), if_pos (by omega), if_neg (by omega), if_neg (by omega)]
      unfold leaf
      rw [ordV, if_neg (by omega), if_pos (by omega), hs0]
    · unfold norm
      rw [if_pos (by omega), if_neg (by omega), if_pos rfl, if_neg (by omega)]
      unfold leaf
      rw [ordV, if_neg (by omega), if_neg (by omega), if_pos rfl, (same_key (canon_in hf.1) hf.1).2 (canon_twice f)]
      exact (ord_zero _ _).2 rfl
    · unfold norm
      rw [if_pos (by omega), if_neg (by omega), if_neg (by omega), if_pos rfl]
      unfold leaf
      rw [ordV, if_neg (by omega), if_neg (by omega), if_neg (by omega), if_pos rfl, text_self]
    · unfold norm
      rw [if_neg (by omega), norm_items]
      rw [ordV, if_neg (by omega), if_neg (by omega), if_neg (by omega), if_neg (by omega)]
      have e : ∀ n s c ns n' s' c' ns', plainI (((5 : Int).toNat : Nat) : Int) n s c ns n' s' c' ns' = 0 := fun _ _ _ _ _ _ _ _ => rfl
      rw [e, if_neg (by omega), Nat.min_self, hs0]
      refine first_zero m 0 (fun j _ hj => ?_)
      rw [itm_at (by omega)]
      exact ih j (far - 1) (hx j (by omega)) (hf.2 j (by omega))
    · unfold norm
      rw [if_neg (by omega), norm_items]
      rw [ordV, if_neg (by omega), if_neg (by omega), if_neg (by omega), if_neg (by omega)]
      have e : ∀ n s c ns n' s' c' ns', plainI (((6 : Int).toNat : Nat) : Int) n s c ns n' s' c' ns' = rowI c ns c' ns' := fun _ _ _ _ _ _ _ _ => rfl
      subst hc
      have e0 : rowI (if (6 : Int).toNat = 6 then c else 0) (fun i => ((itmL (nz 6 ns) (fun i => norm (xs i)) c 0).getD i (⟨#[]⟩, .bad)).1) c ns = 0 := by
        show rowI c _ c ns = 0
        unfold rowI
        rw [Nat.min_self, hs0]
        refine first_zero c 0 (fun j _ hj => ?_)
        show textI ((itmL (nz 6 ns) (fun i => norm (xs i)) c 0).getD j (⟨#[]⟩, .bad)).1 (ns j) = 0
        rw [itm_at (by omega), nz_6]
        exact text_self _
      rw [e, e0, if_neg (by omega), Nat.min_self, hs0]
      refine first_zero c 0 (fun j _ hj => ?_)
      rw [itm_at (by omega)]
      exact ih j (far - 1) (hx j (by omega)) (hf.2 j (by omega))
theorem norm_tot : ∀ (t : VT) (far : Int), rightV t far = true → tot (norm t) = tot t := by
  intro t
  induction t with
  | bad => intro far h; rw [rightV] at h; exact absurd h (by decide)
  | mk k n f s c ns m xs ih =>
    intro far h
    obtain ⟨_, hh⟩ := right_head h
    have hl : ∀ k n f s, tot (leaf k n f s) = 1 := fun _ _ _ _ => rfl
    have items : ∀ k0 : Nat, (∀ i, i < m → rightV (xs i) (far - 1) = true) → tot (treeOf k0 (itmL (nz k ns) (fun i => norm (xs i)) m 0)) = 1 + sumN (fun i => tot (xs i)) m := by
      intro k0 hx
      rw [norm_items, tot]
      congr 1
      refine sumN_eq (fun i hi => ?_)
      rw [itm_at hi]
      exact ih i _ (hx i hi)
    unfold norm
    rw [tot]
    by_cases h4 : k = 1 ∨ k = 2 ∨ k = 3 ∨ k = 4
    · rw [if_pos h4, hl]
      have hm : m = 0 := by rcases hh with ⟨_, _, hm⟩ | ⟨_, hm⟩ | ⟨_, hm⟩ | ⟨_, _, hm⟩ | ⟨e, _⟩ | ⟨e, _⟩ <;> omega
      subst hm; rfl
    · rw [if_neg h4]
      refine items _ ?_
      rcases hh with ⟨e, _⟩ | ⟨e, _⟩ | ⟨e, _⟩ | ⟨e, _⟩ | ⟨_, _, hx⟩ | ⟨_, _, _, hx⟩
      · omega
      · omega
      · omega
      · omega
      · exact hx
      · exact hx
theorem cnt_pure : ∀ (t : VT) (far : Int), rightV t far = true → ∀ n, 0 ≤ n → n < 500 → cntV t n = min (n + tot t) 500 := by
  intro t
  induction t with
  | bad => intro far h; rw [rightV] at h; exact absurd h (by decide)
  | mk k n f s c ns m xs ih =>
    intro far h n h0 h5
    obtain ⟨_, hh⟩ := right_head h
    have hx : ∀ i, i < m → rightV (xs i) (far - 1) = true := by
      rcases hh with ⟨_, _, hm⟩ | ⟨_, hm⟩ | ⟨_, hm⟩ | ⟨_, _, hm⟩ | ⟨_, _, hx⟩ | ⟨_, _, _, hx⟩
      · intro i hi; omega
      · intro i hi; omega
      · intro i hi; omega
      · intro i hi; omega
      · exact hx
      · exact hx
    unfold cntV tot
    have key : ∀ r i q, i + r = m → 0 ≤ q → q ≤ 500 → cntGo (fun i n => cntV (xs i) n) r i q = min (q + (sumN (fun i => tot (xs i)) m - sumN (fun i => tot (xs i)) i : Int)) 500 ∧ sumN (fun i => tot (xs i)) i ≤ sumN (fun i => tot (xs i)) m := by
      intro r
      induction r with
      | zero =>
        intro i q hi hq0 hq5
        obtain rfl : i = m := by omega
        unfold cntGo
        exact ⟨by omega, Nat.le_refl _⟩
      | succ r ihr =>
        intro i q hi hq0 hq5
        have hs : sumN (fun i => tot (xs i)) (i + 1) = sumN (fun i => tot (xs i)) i + tot (xs i) := rfl
        unfold cntGo
        by_cases hq : q < 500
        · rw [if_pos hq]
          have e := ih i _ (hx i (by omega)) q hq0 hq
          rw [e]
          have := ihr (i + 1) (min (q + tot (xs i)) 500) (by omega) (by omega) (by omega)
          omega
        · rw [if_neg hq]
          have := (ihr (i + 1) q (by omega) hq0 hq5).2
          omega
    have e := (key m 0 (n + 1) (by omega) (by omega) (by omega)).1
    have hz : sumN (fun i => tot (xs i)) 0 = 0 := rfl
    rw [e]
    omega
theorem ok_pure {t : VT} (hr : rightV t 12 = true) (ht : tot t ≤ 200) : okV t = true := by
  unfold okV
  rw [cnt_pure t 12 hr 0 (by omega) (by omega), hr, Bool.and_true]
  simp; omega
theorem riseB_names {c : Nat} {ns ns' : Nat → ByteArray} (h : ∀ i, i < c → ns' i = ns i) (hr : riseB c ns = true) : riseB c ns' = true := by
  refine riseB_yes fun i hi => ?_
  have := List.all_eq_true.1 hr i (List.mem_range.2 hi)
  unfold riseAt at *
  rw [h i hi]
  by_cases h0 : i = 0
  · subst h0; simpa using this
  · rw [h (i - 1) (by omega)]; exact this
theorem zeroB_0 : zeroB 0 = true := by unfold zeroB; simp
theorem emptyB_0 : emptyB ⟨#[]⟩ = true := by decide +kernel
theorem norm_right : ∀ (t : VT) (far : Int), rightV t far = true → rightV (norm t) far = true := by
  intro t
  induction t with
  | bad => intro far h; rw [rightV] at h; exact absurd h (by decide)
  | mk k n f s c ns m xs ih =>
    intro far h
    obtain ⟨hfar, hh⟩ := right_head h
    have z0 := zeroB_0
    have e0 := emptyB_0
    rcases hh with ⟨rfl, hn, _⟩ | ⟨rfl, _⟩ | ⟨rfl, _⟩ | ⟨rfl, hs, _⟩ | ⟨rfl, hc, hx⟩ | ⟨rfl, hc, hnn, hx⟩
    · unfold norm
      rw [if_pos (by omega), if_pos (by omega), if_neg (by omega), if_neg (by omega)]
      unfold leaf
      rw [rightV, decide_eq_true hfar, if_neg (by omega)]
      unfold plainB
      rw [if_pos rfl, z0, e0]
      simp; omega
    · unfold norm
      rw [if_pos (by omega), if_pos (by omega), if_neg (by omega), if_neg (by omega)]
      unfold leaf
      rw [rightV, decide_eq_true hfar, if_neg (by omega)]
      unfold plainB
      rw [if_neg (by omega), if_pos rfl, z0, e0]; rfl
    · unfold norm
      rw [if_pos (by omega), if_neg (by omega), if_pos rfl, if_neg (by omega)]
      unfold leaf
      rw [rightV, decide_eq_true hfar, if_neg (by omega)]
      unfold plainB
      rw [if_neg (by omega), if_neg (by omega), if_pos rfl, e0]; rfl
    · unfold norm
      rw [if_pos (by omega), if_neg (by omega), if_neg (by omega), if_pos rfl]
      unfold leaf
      rw [rightV, decide_eq_true hfar, if_neg (by omega)]
      unfold plainB
      rw [if_neg (by omega), if_neg (by omega), if_neg (by omega), if_pos rfl, z0, decide_eq_true hs]; rfl
    · unfold norm
      rw [if_neg (by omega), norm_items, rightV, decide_eq_true hfar, Bool.true_and, if_pos (.inl rfl), Bool.and_eq_true]
      refine ⟨?_, ?_⟩
      · unfold headB
        rw [z0, e0]; rfl
      · rw [List.all_eq_true]
        intro i hi
        have hi := List.mem_range.1 hi
        rw [itm_at hi]
        exact ih i _ (hx i hi)
    · have hrise : riseB c ns = true := by
        rw [rightV, Bool.and_eq_true] at h
        have := h.2
        rw [if_pos (.inr rfl), Bool.and_eq_true] at this
        have := this.1
        unfold headB at this
        simp only [show ¬ ((6 : Int) = 5) by omega, if_false, Bool.and_eq_true] at this
        exact this.2.2.2.1
      subst hc
      unfold norm
      rw [if_neg (by omega), norm_items, rightV, decide_eq_true hfar, Bool.true_and, if_pos (.inr rfl), Bool.and_eq_true]
      refine ⟨?_, ?_⟩
      · unfold headB
        rw [z0, e0]
        have hr2 : riseB (if (6 : Int).toNat = 6 then c else 0) (fun i => ((itmL (nz 6 ns) (fun i => norm (xs i)) c 0).getD i (⟨#[]⟩, .bad)).1) = true := by
          show riseB c _ = true
          refine riseB_names (ns := ns) (fun i hi => ?_) hrise
          show ((itmL (nz 6 ns) (fun i => norm (xs i)) c 0).getD i (⟨#[]⟩, .bad)).1 = ns i
          rw [itm_at hi, nz_6]
        rw [hr2]
        simp
      · rw [List.all_eq_true]
        intro i hi
        have hi := List.mem_range.1 hi
        rw [itm_at hi]
        exact ih i _ (hx i hi)
/-- What is read again of a right value is right as a whole. -/
theorem norm_ok {t : VT} (hr : rightV t 12 = true) (ht : tot t ≤ 200) : okV (norm t) = true := ok_pure (norm_right t 12 hr) (by rw [norm_tot t 12 hr]; exact ht)
end Go.Proofs.Yteclpehbpicpaaa
namespace Go.Proofs.Yteclpehbpicpaaa
open Go.RowKit

theorem titm_at {ns : Nat → ByteArray} {H : Nat → TT} {m i : Nat} (h : i < m) : (titmL ns H m 0).getD i (⟨#[]⟩, .bad) = (ns i, H i) := by
  rw [titm_get ns H _ m 0 i h, Nat.zero_add]
theorem tnorm_rec {ns : Nat → ByteArray} {xs : Nat → TT} {m : Nat} : trec (titmL ns (fun i => tnorm (xs i)) m 0) = .mk 6 m (fun i => ((titmL ns (fun i => tnorm (xs i)) m 0).getD i (⟨#[]⟩, .bad)).1) m (fun i => ((titmL ns (fun i => tnorm (xs i)) m 0).getD i (⟨#[]⟩, .bad)).2) := by
  unfold trec
  rw [titm_len]
theorem tnorm_same : ∀ (t : TT) (far : Int), trightV t far = true → sameP (tnorm t) t := by
  intro t
  induction t with
  | bad => intro far h; rw [trightV] at h; exact absurd h (by decide)
  | mk k c ns m xs ih =>
    intro far h
    obtain ⟨_, hh⟩ := tright_head h
    rcases hh with ⟨rfl, rfl, rfl, hx⟩ | ⟨rfl, rfl, hnn, hx⟩ | ⟨h1, h7, h5, h6, rfl, rfl⟩
    · rw [tnorm, if_pos rfl]
      unfold tlist
      rw [sameP]
      refine ⟨rfl, rfl, rfl, fun i hi => absurd hi (Nat.not_lt_zero i), fun i hi => ?_⟩
      obtain rfl : i = 0 := by omega
      exact ih 0 _ hx
    · rw [tnorm, if_neg (by decide), if_pos rfl, tnorm_rec, sameP]
      refine ⟨rfl, rfl, rfl, fun i hi => ?_, fun i hi => ?_⟩
      · rw [titm_at hi]
      · rw [titm_at hi]; exact ih i _ (hx i hi)
    · rw [tnorm, if_neg h5, if_neg h6]
      unfold tleaf
      rw [sameP]
      exact ⟨rfl, rfl, rfl, fun i hi => absurd hi (Nat.not_lt_zero i), fun i hi => absurd hi (Nat.not_lt_zero i)⟩
theorem tnorm_tot : ∀ (t : TT) (far : Int), trightV t far = true → ttot (tnorm t) = ttot t := by
  intro t
  induction t with
  | bad => intro far h; rw [trightV] at h; exact absurd h (by decide)
  | mk k c ns m xs ih =>
    intro far h
    obtain ⟨_, hh⟩ := tright_head h
    rcases hh with ⟨rfl, rfl, rfl, hx⟩ | ⟨rfl, rfl, hnn, hx⟩ | ⟨h1, h7, h5, h6, rfl, rfl⟩
    · rw [tnorm, if_pos rfl]
      unfold tlist
      rw [ttot, ttot]
      congr 1
      exact sumN_eq fun i hi => by
        obtain rfl : i = 0 := by omega
        exact ih 0 _ hx
    · rw [tnorm, if_neg (by decide), if_pos rfl, tnorm_rec, ttot, ttot]
      congr 1
      exact sumN_eq fun i hi => by rw [titm_at hi]; exact ih i _ (hx i hi)
    · rw [tnorm, if_neg h5, if_neg h6]
      unfold tleaf
      rw [ttot, ttot]
      rfl
theorem tnorm_right : ∀ (t : TT) (far : Int), trightV t far = true → trightV (tnorm t) far = true := by
  intro t
  induction t with
  | bad => intro far h; rw [trightV] at h; exact absurd h (by decide)
  | mk k c ns m xs ih =>
    intro far h
    obtain ⟨hf, hh⟩ := tright_head h
    rcases hh with ⟨rfl, rfl, rfl, hx⟩ | ⟨rfl, rfl, hnn, hx⟩ | ⟨h1, h7, h5, h6, rfl, rfl⟩
    · rw [tnorm, if_pos rfl]
      unfold tlist
      rw [trightV, decide_eq_true hf, Bool.true_and, if_pos (by decide), Bool.and_eq_true]
      refine ⟨by unfold theadB; simp, List.all_eq_true.2 fun i hi => ?_⟩
      exact ih 0 _ hx
    · rw [tnorm, if_neg (by decide), if_pos rfl, tnorm_rec, trightV, decide_eq_true hf, Bool.true_and, if_pos (by decide), Bool.and_eq_true]
      rw [trightV, Bool.and_eq_true, if_pos (by decide), Bool.and_eq_true] at h
      refine ⟨?_, List.all_eq_true.2 fun i hi => ?_⟩
      · have hh := h.2.1
        unfold theadB at hh ⊢
        simp only [show ¬ ((6 : Int) = 5) by omega, if_false, Bool.and_eq_true] at hh ⊢
        exact ⟨riseB_names (fun i hi => by rw [titm_at hi]) hh.1, by simp⟩
      · have hi := List.mem_range.1 hi
        rw [titm_at hi]
        exact ih i _ (hx i hi)
    · rw [tnorm, if_neg h5, if_neg h6]
      unfold tleaf
      rw [trightV, decide_eq_true hf, Bool.true_and, if_neg (by omega)]
      unfold tplainB
      simp; omega
theorem tcnt_pure : ∀ (t : TT) (far : Int), trightV t far = true → ∀ n, 0 ≤ n → n < 500 → tcntV t n = min (n + ttot t) 500 := by
  intro t
  induction t with
  | bad => intro far h; rw [trightV] at h; exact absurd h (by decide)
  | mk k c ns m xs ih =>
    intro far h n h0 h5
    obtain ⟨_, hh⟩ := tright_head h
    have hx : ∀ i, i < m → trightV (xs i) (far - 1) = true := by
      rcases hh with ⟨_, rfl, _, hx⟩ | ⟨_, _, _, hx⟩ | ⟨_, _, _, _, rfl, _⟩
      · intro i hi
        obtain rfl : i = 0 := by omega
        exact hx
      · exact hx
      · intro i hi; omega
    unfold tcntV ttot
    have key : ∀ r i q, i + r = m → 0 ≤ q → q ≤ 500 → cntGo (fun i n => tcntV (xs i) n) r i q = min (q + (sumN (fun i => ttot (xs i)) m - sumN (fun i => ttot (xs i)) i : Int)) 500 ∧ sumN (fun i => ttot (xs i)) i ≤ sumN (fun i => ttot (xs i)) m := by
      intro r
      induction r with
      | zero =>
        intro i q hi hq0 hq5
        obtain rfl : i = m := by omega
        unfold cntGo
        exact ⟨by omega, Nat.le_refl _⟩
      | succ r ihr =>
        intro i q hi hq0 hq5
        have hs : sumN (fun i => ttot (xs i)) (i + 1) = sumN (fun i => ttot (xs i)) i + ttot (xs i) := rfl
        unfold cntGo
        by_cases hq : q < 500
        · rw [if_pos hq]
          have e := ih i _ (hx i (by omega)) q hq0 hq
          rw [e]
          have := ihr (i + 1) (min (q + ttot (xs i)) 500) (by omega) (by omega) (by omega)
          omega
        · rw [if_neg hq]
          have := (ihr (i + 1) q (by omega) hq0 hq5).2
          omega
    have e := (key m 0 (n + 1) (by omega) (by omega) (by omega)).1
    have hz : sumN (fun i => ttot (xs i)) 0 = 0 := rfl
    rw [e]
    omega
theorem tok_pure {t : TT} (hr : trightV t 12 = true) (ht : ttot t ≤ 200) : tokV t = true := by
  unfold tokV
  rw [tcnt_pure t 12 hr 0 (by omega) (by omega), hr, Bool.and_true]
  simp; omega
/-- What is read again of a right type is right as a whole. -/
theorem tnorm_ok {t : TT} (hr : trightV t 12 = true) (ht : ttot t ≤ 200) : tokV (tnorm t) = true := tok_pure (tnorm_right t 12 hr) (by rw [tnorm_tot t 12 hr]; exact ht)
end Go.Proofs.Yteclpehbpicpaaa
namespace Go.Proofs.Yteclpehbpicpaaa
open Go.RowKit

theorem titems_cut (F : Nat → List UInt8 → Except Nat (TT × Nat × List UInt8)) (ns : Nat → ByteArray) (G : Nat → List UInt8) (H : Nat → TT) (T : Nat → Nat) (m : Nat) (lim : Nat)
    (hn : ∀ i, i < m → (ns i).size ≤ 30)
    (hF : ∀ i, i < m → ∀ p r, p + T i ≤ lim → F p (G i ++ r) = .ok (H i, p + T i, r))
    (hC : ∀ i, i < m → ∀ p j, p + T i ≤ lim → j < (G i).length → F p ((G i).take j) = .error 14) :
    ∀ r i p j, i + r ≤ m → p + sufN T r i ≤ lim → j < (sufL true ns G r i).length → titemsP F r p ((sufL true ns G r i).take j) = .error 14 := by
  intro r
  induction r with
  | zero => intro i p j _ _ hj; simp [sufL] at hj
  | succ r ih =>
    intro i p j hi hp hj
    rw [sufN] at hp
    have hni := hn i (by omega)
    rw [sufL, if_pos rfl, List.append_assoc] at hj ⊢
    rcases take_cat (strBL (ns i)) (G i ++ sufL true ns G r (i + 1)) j with ⟨h1, h2⟩ | ⟨h1, h2⟩
    · rw [h2, titemsP]
      have e : sP 30 ((strBL (ns i)).take j) = .error 14 := S_cut (by omega) (by omega) h1
      rw [e]
    · rw [h2]
      rw [List.length_append] at hj
      have e : sP 30 (strBL (ns i) ++ (G i ++ sufL true ns G r (i + 1)).take (j - (strBL (ns i)).length)) = .ok (ns i, (G i ++ sufL true ns G r (i + 1)).take (j - (strBL (ns i)).length)) := S_back (t := ns i) (most := 30) (by omega) (by omega) _
      have hj' : j - (strBL (ns i)).length < (G i ++ sufL true ns G r (i + 1)).length := by omega
      generalize j - (strBL (ns i)).length = j' at *
      rw [titemsP, e]
      dsimp only
      rcases take_cat (G i) (sufL true ns G r (i + 1)) j' with ⟨g1, g2⟩ | ⟨g1, g2⟩
      · rw [g2, hC i (by omega) p j' (by omega) g1]
      · rw [g2, hF i (by omega) p _ (by omega)]
        dsimp only
        rw [List.length_append] at hj'
        rw [ih (i + 1) (p + T i) _ (by omega) (by omega) (by omega)]
theorem t_cut : ∀ (t : TT) (q p j : Nat), trightV t q = true → p + ttot t ≤ 200 → j < (typL t).length → tP q p ((typL t).take j) = .error 14 := by
  intro t
  induction t with
  | bad => intro q p j h; rw [trightV] at h; exact absurd h (by decide)
  | mk k c ns m xs ih =>
    intro q p j h hp hj
    obtain ⟨hq, hh⟩ := tright_head h
    obtain ⟨q, rfl⟩ : ∃ q', q = q' + 1 := ⟨q - 1, by omega⟩
    have hp1 : p + 1 ≤ 200 := by rw [ttot] at hp; omega
    have h0 : tP (q + 1) p [] = .error 14 := by rw [tP_nil, if_neg (by omega)]
    have hq1 : ((q + 1 : Nat) : Int) - 1 = (q : Nat) := by omega
    rw [hq1] at hh
    rw [ttot] at hp
    cases j with
    | zero => exact h0
    | succ j =>
      rcases hh with ⟨rfl, rfl, hc, hx⟩ | ⟨rfl, hc, hnn, hx⟩ | ⟨h1, h7, h5, h6, rfl, hc⟩
      · have e1 : sumN (fun i => ttot (xs i)) 1 = ttot (xs 0) := by
          have e : sumN (fun i => ttot (xs i)) 1 = sumN (fun i => ttot (xs i)) 0 + ttot (xs 0) := rfl
          have z : sumN (fun i => ttot (xs i)) 0 = 0 := rfl
          omega
        rw [e1] at hp
        have e : typL (.mk 5 c ns 1 xs) = 5 :: typL (xs 0) := by
          rw [typL_mk, if_neg (by decide), itL, itL]
          simp only [decide_eq_true_eq]
          rw [if_neg (by decide)]
          simp
        rw [e] at hj ⊢
        rw [List.take_succ_cons, tP_cons, if_neg (by omega), if_neg (by decide), if_pos (by decide), ih 0 q (p + 1) j hx (by omega) (by simpa using hj)]
      · have hsum := sumN_item (T := fun i => ttot (xs i)) (m := m) (fun i hi => ttot_1 (hx i hi))
        have e : typL (.mk 6 c ns m xs) = 6 :: (uintL m ++ sufL true ns (fun i => typL (xs i)) m 0) := by
          rw [typL_mk, if_pos rfl, nz_6, ← suf_all]
          simp
        rw [e] at hj ⊢
        have hj' : j < (uintL m ++ sufL true ns (fun i => typL (xs i)) m 0).length := by simpa using hj
        rw [List.take_succ_cons, tP_cons, if_neg (by omega), if_neg (by decide), if_neg (by decide), if_pos (by decide)]
        rcases take_cat (uintL m) (sufL true ns (fun i => typL (xs i)) m 0) j with ⟨h1, h2⟩ | ⟨h1, h2⟩
        · rw [h2, M_cut (by omega) h1]
        · rw [h2, M_back (by omega)]
          dsimp only
          rw [List.length_append] at hj'
          rw [titems_cut (tP q) ns (fun i => typL (xs i)) (fun i => tnorm (xs i)) (fun i => ttot (xs i)) m 200 hnn (fun i hi p r hp => t_back (xs i) q p r (hx i hi) hp) (fun i hi p j hp hj => ih i q p j (hx i hi) hp hj) m 0 (p + 1) (j - (uintL m).length) (by omega) (by rw [sufN_all]; omega) (by omega)]
      · exfalso
        rw [typL_mk, if_neg h6, itL] at hj
        simp at hj
end Go.Proofs.Yteclpehbpicpaaa
namespace Go.Proofs.Yteclpehbpicpaaa
open Go.ChangeShapes Go.WideShapes Go.ChangeAt Go.RowKit

theorem own : ownKnob Try.prog.godebug = none := by kernel_rfl
theorem laidOut : laidOutB Try.prog = true := by kernel_rfl
theorem cells9 : Try.prog.cellsOf 9 = 1 := by kernel_rfl
theorem add_plain (g o k : Nat) : (⟨g, o, none⟩ : Addr).add k = ⟨g, o + k, none⟩ := by
  unfold Addr.add
  split
  · rename_i h; subst h; rfl
  · rfl

section
variable {H : Type} {enc : TypeId × Value → H} {w : World} {base : Nat} {spare : Nat → Bool} {held : Bool}
set_option maxRecDepth 20000 in
theorem trod_float {fuel : Nat} {cs : List Value} {x : DataW H × List MemPlace} (h : DataW.trod enc Try.prog w base spare held fuel 23 cs = some x) : ∃ b, cs = [.float .f64 b] ∧ (Lit.float .f64 b).wf = true := by
  cases fuel with
  | zero => simp [DataW.trod] at h
  | succ n =>
    unfold DataW.trod at h
    rw [Try.underlying23] at h
    split at h <;> simp_all
/-- A list of strings that came in. -/
theorem open_strs {W : World} {fuel : Nat} {cs : List Value} {x : DataW H × List MemPlace} (h : DataW.trod enc Try.prog W 0 (fun _ => true) held fuel 24 cs = some x) (hlt : ∀ p ∈ x.2, p.block < W.heap.size) :
    ∃ A c ca ns, cs = [.slice A c ca] ∧ c ≤ ca ∧ ca ≤ maxLen ∧ Strs W W.heap.size A c ns := by
  rcases Go.Deep.open_slice1 Try.underlying24 cells9 h with ⟨rfl, _⟩ | ⟨a, len, cap, m, n, V, D, Pl, rfl, _, hl, hc, hm, hx, hi⟩
  · exact ⟨none, 0, 0, fun _ => ⟨#[]⟩, rfl, Nat.le_refl _, Nat.zero_le _, fun h => absurd h (Nat.lt_irrefl 0)⟩
  · simp only [if_true] at hm
    subst hm
    have each : ∀ i, i < m → ∃ s : ByteArray, W.cell? (a.add i) = some (.string s) ∧ s.size ≤ maxLen := by
      intro i him
      obtain ⟨h1, h2⟩ := hi i him
      obtain ⟨s, hs, _, hz⟩ := DataW.trod_string Try.underlying9 h2
      exact ⟨s, by rw [h1]; simpa using hs, hz⟩
    let f : Nat → ByteArray := fun i => if h : i < m then (each i h).choose else ⟨#[]⟩
    refine ⟨some a, len, m, f, rfl, hl, hc, fun hpos => ?_⟩
    have hspec : ∀ i, i < len → W.cell? (a.add i) = some (.string (f i)) ∧ (f i).size ≤ maxLen := by
      intro i hil
      have him : i < m := by omega
      simp only [f, dif_pos him]
      exact (each i him).choose_spec
    obtain ⟨g, off, spot⟩ := a
    have hspot : spot = none := by simpa [Addr.add] using World.cell?_spot (hspec 0 hpos).1
    subst hspot
    refine ⟨g, off, rfl, hlt (.cell g off) ?_, fun i hil => ?_⟩
    · rw [hx]
      exact List.mem_append_left _ (MemPlace.mem_row.2 ⟨0, by omega, by simp⟩)
    · have := hspec i hil
      rw [add_plain] at this
      exact this

set_option maxRecDepth 20000 in
theorem open_tree {W : World} : ∀ (fuel : Nat) (cs : List Value) (x : DataW H × List MemPlace), DataW.trod enc Try.prog W 0 (fun _ => true) held fuel 27 cs = some x → (∀ p ∈ x.2, p.block < W.heap.size) →
    ∃ t, Val W W.heap.size cs.toArray t := by
  intro fuel
  induction fuel using Nat.strongRecOn with
  | ind fuel ih =>
    intro cs x h hlt
    obtain ⟨xs, n, hfu, hx, hl, hlen, hf⟩ := DataW.trod_struct Try.underlying27 h
    subst hfu
    rw [cells26] at hl
    match cs, hl with
    | [v0, v1, v2, v3, v4, v5], _ =>
      have f0 := hf 0 _ rfl
      have f1 := hf 1 _ rfl
      have f2 := hf 2 _ rfl
      have f3 := hf 3 _ rfl
      have f4 := hf 4 _ rfl
      have f5 := hf 5 _ rfl
      match xs, hlen with
      | [x0, x1, x2, x3, x4, x5], _ =>
        have e0 : DataW.trod enc Try.prog W 0 (fun _ => true) held n 3 [v0] = some x0 := f0
        have e1 : DataW.trod enc Try.prog W 0 (fun _ => true) held n 2 [v1] = some x1 := f1
        have e2 : DataW.trod enc Try.prog W 0 (fun _ => true) held n 23 [v2] = some x2 := f2
        have e3 : DataW.trod enc Try.prog W 0 (fun _ => true) held n 9 [v3] = some x3 := f3
        have e4 : DataW.trod enc Try.prog W 0 (fun _ => true) held n 24 [v4] = some x4 := f4
        have e5 : DataW.trod enc Try.prog W 0 (fun _ => true) held n 25 [v5] = some x5 := f5
        clear hf f0 f1 f2 f3 f4 f5
        obtain ⟨k, h0, _, w0⟩ := DataW.trod_int Try.underlying3 e0
        obtain ⟨n', h1, _, w1⟩ := DataW.trod_int Try.underlying2 e1
        obtain ⟨f, h2, w2⟩ := trod_float e2
        obtain ⟨s, h3, _, w3⟩ := DataW.trod_string Try.underlying9 e3
        have hlt4 : ∀ p ∈ x4.2, p.block < W.heap.size := fun p hp => hlt p (by rw [hx]; simp [hp])
        have hlt5 : ∀ p ∈ x5.2, p.block < W.heap.size := fun p hp => hlt p (by rw [hx]; simp [hp])
        obtain ⟨A, c, ca, ns, h4, hc1, hc2, hstr⟩ := open_strs e4 hlt4
        have g0 : v0 = .int .i64 k := by simpa using h0
        have g1 : v1 = .int .i64 n' := by simpa using h1
        have g2 : v2 = .float .f64 f := by simpa using h2
        have g3 : v3 = .string s := by simpa using h3
        have g4 : v4 = .slice A c ca := by simpa using h4
        subst g0 g1 g2 g3 g4
        have b0 : -9223372036854775808 ≤ k ∧ k ≤ 9223372036854775807 := by simpa [Lit.wf, IntKind.min, IntKind.max, IntKind.signed, IntKind.bits] using w0
        have b1 : -9223372036854775808 ≤ n' ∧ n' ≤ 9223372036854775807 := by simpa [Lit.wf, IntKind.min, IntKind.max, IntKind.signed, IntKind.bits] using w1
        have b2 : f < 18446744073709551616 := by simpa [Lit.wf] using w2
        rcases DataW.trod_slice Try.underlying25 e5 with ⟨h5, _⟩ | ⟨a, len, cap, elems, rest, n2, hn2, h5, hx5, _, hm1, hm2, hel, hat, _, _⟩
        · have g5 : v5 = .slice none 0 0 := by simpa using h5
          subst g5
          exact ⟨_, .mk k n' f s A c ca none 0 0 ns (fun _ => .bad) (fun _ => #[]) b0 b1 b2 w3 ⟨hc1, hc2⟩ ⟨Nat.le_refl _, Nat.zero_le _⟩ hstr (fun h => absurd h (Nat.lt_irrefl 0)) (fun i h => absurd h (by omega))⟩
        · have g5 : v5 = .slice (some a) len cap := by simpa using h5
          subst g5
          subst hn2
          rw [cells26] at hat
          have each : ∀ i, i < len → ∃ cs', W.cells? 0 (a.add (i * 6)) 6 = some cs' ∧ ∃ t, Val W W.heap.size cs'.toArray t := by
            intro i hi
            have h6 := hat i hi
            have hlti : i < elems.length := by omega
            rw [List.getElem?_eq_getElem hlti] at h6
            obtain ⟨cs', hc6, ht6⟩ := Option.bind_eq_some_iff.1 h6
            refine ⟨cs', hc6, ih n2 (by omega) cs' _ ht6 (fun p hp => hlt5 p ?_)⟩
            rw [hx5]
            refine List.mem_append_right _ (List.mem_flatMap.2 ⟨elems[i], List.mem_append_left _ (List.getElem_mem hlti), hp⟩)
          let vs : Nat → Array Value := fun i => if h : i < len then (each i h).choose.toArray else #[]
          let xs' : Nat → VT := fun i => if h : i < len then (each i h).choose_spec.2.choose else .bad
          have hvs : ∀ i (h : i < len), vs i = (each i h).choose.toArray := fun i h => dif_pos h
          have hxs : ∀ i (h : i < len), xs' i = (each i h).choose_spec.2.choose := fun i h => dif_pos h
          refine ⟨_, .mk k n' f s A c ca (some a) len cap ns xs' vs b0 b1 b2 w3 ⟨hc1, hc2⟩ ⟨hm1, hm2⟩ hstr (fun hpos => ?_) (fun i hi => ?_)⟩
          · have hat0 : ∀ i, i < len → ∀ j, j < 6 → W.cell? ((a.add (i * 6)).add j) = (vs i)[j]? := by
              intro i hi j hj
              obtain ⟨_, hln, hc7⟩ := World.cells?_some (each i hi).choose_spec.1
              rw [hvs i hi]
              have := hc7 j (by omega)
              rw [this]
              simp
            obtain ⟨g, off, spot⟩ := a
            have h00 := hat0 0 hpos 0 (by omega)
            have hsz : ∃ u, (vs 0)[0]? = some u := by
              obtain ⟨_, hln, _⟩ := World.cells?_some (each 0 hpos).choose_spec.1
              rw [hvs 0 hpos]
              exact ⟨_, Array.getElem?_eq_getElem (by simp [hln])⟩
            obtain ⟨u, hu⟩ := hsz
            rw [hu] at h00
            have hspot : spot = none := by simpa [Addr.add] using World.cell?_spot h00
            subst hspot
            refine ⟨g, off, rfl, hlt5 (.cell g off) ?_, fun i hi j hj => ?_⟩
            · rw [hx5]
              exact List.mem_append_left _ (MemPlace.mem_row.2 ⟨0, by rw [cells26]; omega, by simp⟩)
            · have := hat0 i hi j hj
              rwa [add_plain, add_plain] at this
          · rw [hvs i hi, hxs i hi]
            exact (each i hi).choose_spec.2.choose_spec
end
end Go.Proofs.Yteclpehbpicpaaa
namespace Go.Proofs.Yteclpehbpicpaaa
open Go.ChangeShapes Go.WideShapes Go.ChangeAt Go.RowKit
section
variable {H : Type} {enc : TypeId × Value → H}
set_option maxRecDepth 20000 in
theorem open_val {W : World} {base : Nat} {v : Value} {d : DataW H} {ps : List MemPlace} (ho : Value.okWide Try.prog W .any base 27 v) (h : DataW.Trod enc Try.prog W 0 (fun _ => true) true 27 v d ps) (hlt : ∀ x ∈ ps, x.block < W.heap.size) :
    ∃ a t, v = .agg a ∧ Val W W.heap.size a t := by
  obtain ⟨fuel, hf⟩ := h
  obtain ⟨a, rfl, _⟩ := okWide_struct Try.underlying27 ho
  obtain ⟨t, ht⟩ := open_tree fuel a.toList _ hf hlt
  exact ⟨a, t, rfl, by simpa using ht⟩
/-- It reads behind the call as it read before. -/
theorem stays_val {W W' : World} {v : Value} {d : DataW H} {ps : List MemPlace} (h : DataW.Trod enc Try.prog W 0 (fun _ => true) true 27 v d ps) (hb : Below W.heap.size W W') (hlt : ∀ x ∈ ps, x.block < W.heap.size) :
    DataW.Trod enc Try.prog W' 0 (fun b => decide (b < W.heap.size)) true 27 v d ps :=
  Below.trod laidOut (by kernel_rfl) (of_decide_eq_true (by kernel_rfl)) h hb hlt
end
end Go.Proofs.Yteclpehbpicpaaa

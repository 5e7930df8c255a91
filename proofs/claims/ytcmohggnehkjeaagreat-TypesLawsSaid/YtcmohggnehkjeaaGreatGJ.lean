/-
  Plain: joinP's algebra.
  Plain: three joins put together.
  Plain: what TypesLaws asks of right types.
  Law 9's TypesLaws: the walk.
-/
import Derived.Test.YtcmohggnehkjeaaGreatGH
import Derived.Test.YtcmohggnehkjeaaGreatGI
namespace Go.Proofs.YtcmohggnehkjeaaGreat
open Go.RowKit

theorem sameB_iff {k c m k' c' m'} {ns ns' : Nat → ByteArray} {xs xs' : Nat → TT} : sameB (.mk k c ns m xs) (.mk k' c' ns' m' xs') = true ↔ k = k' ∧ nmEq c c' ns ns' = true ∧ m = m' ∧ ∀ i, i < m → sameB (xs i) (xs' i) = true := by
  rw [sameB]
  simp only [Bool.and_eq_true, decide_eq_true_eq, all_range]
  constructor
  · rintro ⟨⟨h1, h2⟩, h3, h4⟩; exact ⟨h1, h2, h3, h4⟩
  · rintro ⟨h1, h2, h3, h4⟩; exact ⟨⟨h1, h2⟩, h3, h4⟩
theorem sameB_refl : ∀ (t : TT), tfew t → sameB t t = true := by
  intro t
  induction t with
  | bad => intro h; exact h.elim
  | mk k c ns m xs ih =>
    intro h
    exact sameB_iff.2 ⟨rfl, nmEq_iff.2 ⟨rfl, fun _ _ => rfl⟩, rfl, fun i hi => ih i (h.2.2.2 i hi)⟩
theorem sameB_symm : ∀ (t u : TT), sameB t u = true → sameB u t = true := by
  intro t
  induction t with
  | bad => intro u h; rw [sameB] at h; cases h
  | mk k c ns m xs ih =>
    intro u h
    cases u with
    | bad => rw [sameB] at h; cases h
    | mk k' c' ns' m' xs' =>
      obtain ⟨rfl, h2, rfl, h4⟩ := sameB_iff.1 h
      obtain ⟨rfl, hn⟩ := nmEq_iff.1 h2
      exact sameB_iff.2 ⟨rfl, nmEq_iff.2 ⟨rfl, fun i hi => (hn i hi).symm⟩, rfl, fun i hi => ih i _ (h4 i hi)⟩
theorem sameB_trans : ∀ (t u v : TT), sameB t u = true → sameB u v = true → sameB t v = true := by
  intro t
  induction t with
  | bad => intro u v h; rw [sameB] at h; cases h
  | mk k c ns m xs ih =>
    intro u v h g
    cases u with
    | bad => rw [sameB] at h; cases h
    | mk k' c' ns' m' xs' =>
      cases v with
      | bad => rw [sameB] at g; cases g
      | mk k'' c'' ns'' m'' xs'' =>
        obtain ⟨rfl, h2, rfl, h4⟩ := sameB_iff.1 h
        obtain ⟨rfl, hn⟩ := nmEq_iff.1 h2
        obtain ⟨rfl, g2, rfl, g4⟩ := sameB_iff.1 g
        obtain ⟨rfl, gn⟩ := nmEq_iff.1 g2
        exact sameB_iff.2 ⟨rfl, nmEq_iff.2 ⟨rfl, fun i hi => (hn i hi).trans (gn i hi)⟩, rfl, fun i hi => ih i _ _ (h4 i hi) (g4 i hi)⟩
/-- What a join is: the one, the other, or item by item. -/
theorem join_cases {k c m k' c' m'} {ns ns' : Nat → ByteArray} {xs xs' : Nat → TT} {t : TT} : joinP (.mk k c ns m xs) (.mk k' c' ns' m' xs') = some t ↔
    (k = 7 ∧ t = .mk k' c' ns' m' xs') ∨ (k ≠ 7 ∧ k' = 7 ∧ t = .mk k c ns m xs) ∨ (k ≠ 7 ∧ k' ≠ 7 ∧ k = k' ∧ nmEq c c' ns ns' = true ∧ (∀ i, i < m → (joinP (xs i) (xs' i)).isSome = true) ∧ t = .mk k c ns m (fun i => (joinP (xs i) (xs' i)).getD .bad)) := by
  simp only [joinP]
  by_cases h7 : k = 7
  · rw [if_pos h7]
    constructor
    · intro h; cases h; exact .inl ⟨h7, rfl⟩
    · rintro (⟨_, rfl⟩ | ⟨h, _⟩ | ⟨h, _⟩)
      · rfl
      · exact absurd h7 h
      · exact absurd h7 h
  · rw [if_neg h7]
    by_cases h7' : k' = 7
    · rw [if_pos h7']
      constructor
      · intro h; cases h; exact .inr (.inl ⟨h7, h7', rfl⟩)
      · rintro (⟨h, _⟩ | ⟨_, _, rfl⟩ | ⟨_, h, _⟩)
        · exact absurd h h7
        · rfl
        · exact absurd h7' h
    · rw [if_neg h7']
      by_cases hk : k = k' ∧ nmEq c c' ns ns' = true
      · rw [if_pos hk]
        by_cases ha : (List.range m).all (fun i => (joinP (xs i) (xs' i)).isSome) = true
        · rw [if_pos ha]
          constructor
          · intro h; cases h; exact .inr (.inr ⟨h7, h7', hk.1, hk.2, all_range.1 ha, rfl⟩)
          · rintro (⟨h, _⟩ | ⟨_, h, _⟩ | ⟨_, _, _, _, _, rfl⟩)
            · exact absurd h h7
            · exact absurd h h7'
            · rfl
        · rw [if_neg ha]
          constructor
          · intro h; cases h
          · rintro (⟨h, _⟩ | ⟨_, h, _⟩ | ⟨_, _, _, _, h, _⟩)
            · exact absurd h h7
            · exact absurd h h7'
            · exact absurd (all_range.2 h) ha
      · rw [if_neg hk]
        constructor
        · intro h; cases h
        · rintro (⟨h, _⟩ | ⟨_, h, _⟩ | ⟨_, _, h1, h2, _⟩)
          · exact absurd h h7
          · exact absurd h h7'
          · exact absurd ⟨h1, h2⟩ hk
theorem shp_same {k : Int} {c c' m m' : Nat} (h : m = if k = 5 then 1 else if k = 6 then c else 0) (h' : m' = if k = 5 then 1 else if k = 6 then c' else 0) (hc : c = c') : m = m' := by
  rw [h, h', hc]
/-- Names are a record's alone. -/
def noNm : TT → Prop
  | .bad => True
  | .mk k c _ m xs => (k = 6 ∨ c = 0) ∧ ∀ i, i < m → noNm (xs i)
theorem right_noNm : ∀ (t : TT) (far : Int), trightV t far = true → noNm t := by
  intro t
  induction t with
  | bad => intro far _; trivial
  | mk k c ns m xs ih =>
    intro far h
    rw [trightV, Bool.and_eq_true] at h
    by_cases hk : k = 5 ∨ k = 6
    · rw [if_pos hk, Bool.and_eq_true] at h
      refine ⟨?_, fun i hi => ih i _ (all_range.1 h.2.2 i hi)⟩
      rcases hk with h5 | h6
      · have hh := h.2.1
        unfold theadB at hh
        rw [if_pos h5, Bool.and_eq_true, decide_eq_true_eq, decide_eq_true_eq] at hh
        exact .inr hh.2
      · exact .inl h6
    · rw [if_neg hk] at h
      have h2 := h.2
      unfold tplainB at h2
      simp only [Bool.and_eq_true, decide_eq_true_eq] at h2
      obtain ⟨_, _, rfl, rfl⟩ := h2
      exact ⟨.inr rfl, fun i hi => absurd hi (Nat.not_lt_zero i)⟩
/-- In either order. -/
theorem join_comm : ∀ (a b t : TT), shp a → shp b → tfew a → tfew b → noNm a → noNm b → joinP a b = some t → ∃ u, joinP b a = some u ∧ sameB t u = true := by
  intro a
  induction a with
  | bad => intro b t _ _ _ _ _ _ h; rw [joinP] at h; cases h
  | mk k c ns m xs ih =>
    intro b t sa sb fa fb na nb h
    cases b with
    | bad => simp only [joinP] at h; cases h
    | mk k' c' ns' m' xs' =>
      rcases join_cases.1 h with ⟨h7, rfl⟩ | ⟨h7, h7', rfl⟩ | ⟨h7, h7', rfl, hn, ha, rfl⟩
      · by_cases h7' : k' = 7
        · refine ⟨_, join_cases.2 (.inl ⟨h7', rfl⟩), ?_⟩
          subst h7 h7'
          have hc : c = 0 := na.1.resolve_left (by decide)
          have hc' : c' = 0 := nb.1.resolve_left (by decide)
          have hm : m = 0 := by have := sa.1; simpa using this
          have hm' : m' = 0 := by have := sb.1; simpa using this
          subst hc hc' hm hm'
          exact sameB_iff.2 ⟨rfl, nmEq_iff.2 ⟨rfl, fun i hi => absurd hi (Nat.not_lt_zero i)⟩, rfl, fun i hi => absurd hi (Nat.not_lt_zero i)⟩
        · exact ⟨_, join_cases.2 (.inr (.inl ⟨h7', h7, rfl⟩)), sameB_refl _ fb⟩
      · exact ⟨_, join_cases.2 (.inl ⟨h7', rfl⟩), sameB_refl _ fa⟩
      · obtain ⟨hcc, hn'⟩ := nmEq_iff.1 hn
        have hmm : m = m' := shp_same sa.1 sb.1 hcc
        subst hmm hcc
        have each : ∀ i, i < m → ∃ u, joinP (xs' i) (xs i) = some u ∧ sameB ((joinP (xs i) (xs' i)).getD .bad) u = true := fun i hi => by
          obtain ⟨t, ht⟩ := Option.isSome_iff_exists.1 (ha i hi)
          rw [ht]
          exact ih i (xs' i) t (sa.2 i hi) (sb.2 i hi) (fa.2.2.2 i hi) (fb.2.2.2 i hi) (na.2 i hi) (nb.2 i hi) ht
        refine ⟨_, join_cases.2 (.inr (.inr ⟨h7, h7, rfl, nmEq_iff.2 ⟨rfl, fun i hi => (hn' i hi).symm⟩, fun i hi => by obtain ⟨u, hu, _⟩ := each i hi; rw [hu]; rfl, rfl⟩)), sameB_iff.2 ⟨rfl, hn, rfl, fun i hi => ?_⟩⟩
        obtain ⟨u, hu, hs⟩ := each i hi
        rw [hu]
        exact hs
/-- With itself. -/
theorem join_self : ∀ (a : TT), tfew a → ∃ u, joinP a a = some u ∧ sameB u a = true := by
  intro a
  induction a with
  | bad => intro h; exact h.elim
  | mk k c ns m xs ih =>
    intro fa
    by_cases h7 : k = 7
    · exact ⟨_, join_cases.2 (.inl ⟨h7, rfl⟩), sameB_refl _ fa⟩
    · have each := fun i (hi : i < m) => ih i (fa.2.2.2 i hi)
      refine ⟨_, join_cases.2 (.inr (.inr ⟨h7, h7, rfl, nmEq_iff.2 ⟨rfl, fun _ _ => rfl⟩, fun i hi => by obtain ⟨u, hu, _⟩ := each i hi; rw [hu]; rfl, rfl⟩)), sameB_iff.2 ⟨rfl, nmEq_iff.2 ⟨rfl, fun _ _ => rfl⟩, rfl, fun i hi => ?_⟩⟩
      obtain ⟨u, hu, hs⟩ := each i hi
      rw [hu]
      exact hs
/-- The one stands for what both may be. -/
theorem join_up : ∀ (a b t : TT), shp a → shp b → tfew a → tfew b → joinP a b = some t → ∃ u, joinP a t = some u ∧ sameB u t = true := by
  intro a
  induction a with
  | bad => intro b t _ _ h; exact h.elim
  | mk k c ns m xs ih =>
    intro b t sa sb fa fb h
    cases b with
    | bad => simp only [joinP] at h; cases h
    | mk k' c' ns' m' xs' =>
      rcases join_cases.1 h with ⟨h7, rfl⟩ | ⟨h7, h7', rfl⟩ | ⟨h7, h7', rfl, hn, ha, rfl⟩
      · exact ⟨_, join_cases.2 (.inl ⟨h7, rfl⟩), sameB_refl _ fb⟩
      · exact join_self _ fa
      · have hmm : m = m' := shp_same sa.1 sb.1 (nmEq_iff.1 hn).1
        have each : ∀ i, i < m → ∃ u, joinP (xs i) ((joinP (xs i) (xs' i)).getD .bad) = some u ∧ sameB u ((joinP (xs i) (xs' i)).getD .bad) = true := fun i hi => by
          obtain ⟨t, ht⟩ := Option.isSome_iff_exists.1 (ha i hi)
          rw [ht]
          exact ih i (xs' i) t (sa.2 i hi) (sb.2 i (by omega)) (fa.2.2.2 i hi) (fb.2.2.2 i (by omega)) ht
        refine ⟨_, join_cases.2 (.inr (.inr ⟨h7, h7, rfl, nmEq_iff.2 ⟨rfl, fun _ _ => rfl⟩, fun i hi => by obtain ⟨u, hu, _⟩ := each i hi; rw [hu]; rfl, rfl⟩)), sameB_iff.2 ⟨rfl, nmEq_iff.2 ⟨rfl, fun _ _ => rfl⟩, rfl, fun i hi => ?_⟩⟩
        obtain ⟨u, hu, hs⟩ := each i hi
        rw [hu]
        exact hs
end Go.Proofs.YtcmohggnehkjeaaGreat
namespace Go.Proofs.YtcmohggnehkjeaaGreat
open Go.RowKit

theorem nmEq_trans {c c' c'' : Nat} {a b d : Nat → ByteArray} (h : nmEq c c' a b = true) (g : nmEq c' c'' b d = true) : nmEq c c'' a d = true := by
  obtain ⟨rfl, hn⟩ := nmEq_iff.1 h
  obtain ⟨rfl, gn⟩ := nmEq_iff.1 g
  exact nmEq_iff.2 ⟨rfl, fun i hi => (hn i hi).trans (gn i hi)⟩
theorem nmEq_symm {c c' : Nat} {a b : Nat → ByteArray} (h : nmEq c c' a b = true) : nmEq c' c b a = true := by
  obtain ⟨rfl, hn⟩ := nmEq_iff.1 h
  exact nmEq_iff.2 ⟨rfl, fun i hi => (hn i hi).symm⟩
theorem none_up {k c m} {ns : Nat → ByteArray} {xs : Nat → TT} {t : TT} (h7 : k = 7) (h : tfew t) : joinP (.mk k c ns m xs) t = some t := by
  cases t with
  | bad => exact h.elim
  | mk k' c' ns' m' xs' => exact join_cases.2 (.inl ⟨h7, rfl⟩)
theorem join_assoc : ∀ (a b d x : TT), shp a → shp b → shp d → tfew a → tfew b → tfew d → joinP a b = some x →
    (∀ p, joinP x d = some p → ∃ q r, joinP b d = some q ∧ joinP a q = some r ∧ sameB p r = true) ∧ (∀ q r, joinP b d = some q → joinP a q = some r → (joinP x d).isSome = true) := by
  intro a
  induction a with
  | bad => intro b d x _ _ _ h; exact h.elim
  | mk k c ns m xs ih =>
    intro b d x sa sb sd fa fb fd h
    cases b with
    | bad => exact fb.elim
    | mk k' c' ns' m' xs' =>
      rcases join_cases.1 h with ⟨h7, rfl⟩ | ⟨h7, h7', rfl⟩ | ⟨h7, h7', rfl, hn, ha, rfl⟩
      · refine ⟨fun p hp => ?_, fun q r hq _ => by rw [hq]; rfl⟩
        have fp := (join_fit _ _ _ hp sb sd fb fd).2
        exact ⟨p, p, hp, none_up h7 fp, sameB_refl _ fp⟩
      · refine ⟨fun p hp => ?_, fun q r hq hr => ?_⟩
        · exact ⟨d, p, none_up h7' fd, hp, sameB_refl _ (join_fit _ _ _ hp sa sd fa fd).2⟩
        · rw [none_up h7' fd] at hq
          cases hq
          rw [hr]; rfl
      · cases d with
        | bad => exact fd.elim
        | mk k'' c'' ns'' m'' xs'' =>
          have hcc := (nmEq_iff.1 hn).1
          have hmm : m = m' := shp_same sa.1 sb.1 hcc
          by_cases h7'' : k'' = 7
          · refine ⟨fun p hp => ?_, fun q r _ _ => by rw [join_cases.2 (.inr (.inl ⟨h7, h7'', rfl⟩))]; rfl⟩
            rw [join_cases.2 (.inr (.inl ⟨h7, h7'', rfl⟩))] at hp
            cases hp
            exact ⟨_, _, join_cases.2 (.inr (.inl ⟨h7, h7'', rfl⟩)), h, sameB_refl _ (join_fit _ _ _ h sa sb fa fb).2⟩
          · have IH := fun i (hi : i < m) (t : TT) (ht : joinP (xs i) (xs' i) = some t) (hk : k = k'') (hc : c = c'') => ih i (xs' i) (xs'' i) t (sa.2 i hi) (sb.2 i (by omega)) (sd.2 i (by have := shp_same sa.1 (hk ▸ sd.1) hc; omega)) (fa.2.2.2 i hi) (fb.2.2.2 i (by omega)) (fd.2.2.2 i (by have := shp_same sa.1 (hk ▸ sd.1) hc; omega)) ht
            refine ⟨fun p hp => ?_, fun q r hq hr => ?_⟩
            · rcases join_cases.1 hp with ⟨h, _⟩ | ⟨_, h, _⟩ | ⟨_, _, hk, hn2, ha2, rfl⟩
              · exact absurd h h7
              · exact absurd h h7''
              · have each : ∀ i, i < m → ∃ q r, joinP (xs' i) (xs'' i) = some q ∧ joinP (xs i) q = some r ∧ sameB ((joinP ((joinP (xs i) (xs' i)).getD .bad) (xs'' i)).getD .bad) r = true := fun i hi => by
                  obtain ⟨t, ht⟩ := Option.isSome_iff_exists.1 (ha i hi)
                  have h2 := ha2 i hi
                  rw [ht, Option.getD_some] at h2
                  obtain ⟨p, hp⟩ := Option.isSome_iff_exists.1 h2
                  rw [ht, Option.getD_some, hp, Option.getD_some]
                  exact (IH i hi t ht hk (nmEq_iff.1 hn2).1).1 p hp
                have hq := (join_cases (xs := xs') (xs' := xs'') (m := m') (m' := m'') (k := k) (k' := k'') (c := c') (c' := c'') (ns := ns') (ns' := ns'')).2 (.inr (.inr ⟨h7, h7'', hk, nmEq_trans (nmEq_symm hn) hn2, fun i hi => by obtain ⟨q, r, h1, _⟩ := each i (by omega); rw [h1]; rfl, rfl⟩))
                refine ⟨_, _, hq, join_cases.2 (.inr (.inr ⟨h7, h7, rfl, hn, fun i hi => by obtain ⟨q, r, h1, h2, _⟩ := each i hi; rw [h1, Option.getD_some, h2]; rfl, rfl⟩)), sameB_iff.2 ⟨rfl, nmEq_iff.2 ⟨rfl, fun _ _ => rfl⟩, rfl, fun i hi => ?_⟩⟩
                obtain ⟨q, r, h1, h2, h3⟩ := each i hi
                rw [h1, Option.getD_some, h2, Option.getD_some]
                exact h3
            · rcases join_cases.1 hq with ⟨h, _⟩ | ⟨_, h, _⟩ | ⟨_, _, hk, hn2, ha2, rfl⟩
              · exact absurd h h7
              · exact absurd h h7''
              · rcases join_cases.1 hr with ⟨h, _⟩ | ⟨_, h, _⟩ | ⟨_, _, _, hn3, ha3, rfl⟩
                · exact absurd h h7
                · exact absurd h h7
                · rw [join_cases.2 (.inr (.inr ⟨h7, h7'', hk, nmEq_trans hn hn2, fun i hi => ?_, rfl⟩))]
                  · rfl
                  · obtain ⟨t, ht⟩ := Option.isSome_iff_exists.1 (ha i hi)
                    obtain ⟨q, hq⟩ := Option.isSome_iff_exists.1 (ha2 i (by omega))
                    have h3 := ha3 i hi
                    rw [hq, Option.getD_some] at h3
                    obtain ⟨r, hr⟩ := Option.isSome_iff_exists.1 h3
                    rw [ht, Option.getD_some]
                    exact (IH i hi t ht hk (nmEq_iff.1 (nmEq_trans hn hn2)).1).2 q r hq hr
end Go.Proofs.YtcmohggnehkjeaaGreat
namespace Go.Proofs.YtcmohggnehkjeaaGreat
open Go.RowKit

/-- The other one stands for what both may be, too. -/
theorem join_up2 : ∀ (a b t : TT), shp a → shp b → tfew a → tfew b → noNm a → noNm b → joinP a b = some t → ∃ u, joinP b t = some u ∧ sameB u t = true := by
  intro a
  induction a with
  | bad => intro b t _ _ h; exact h.elim
  | mk k c ns m xs ih =>
    intro b t sa sb fa fb na nb h
    cases b with
    | bad => simp only [joinP] at h; cases h
    | mk k' c' ns' m' xs' =>
      rcases join_cases.1 h with ⟨h7, rfl⟩ | ⟨h7, h7', rfl⟩ | ⟨h7, h7', rfl, hn, ha, rfl⟩
      · exact join_self _ fb
      · exact ⟨_, join_cases.2 (.inl ⟨h7', rfl⟩), sameB_refl _ fa⟩
      · obtain ⟨hcc, hn'⟩ := nmEq_iff.1 hn
        have hmm : m = m' := shp_same sa.1 sb.1 hcc
        subst hmm hcc
        have each : ∀ i, i < m → ∃ u, joinP (xs' i) ((joinP (xs i) (xs' i)).getD .bad) = some u ∧ sameB u ((joinP (xs i) (xs' i)).getD .bad) = true := fun i hi => by
          obtain ⟨t, ht⟩ := Option.isSome_iff_exists.1 (ha i hi)
          rw [ht]
          exact ih i (xs' i) t (sa.2 i hi) (sb.2 i hi) (fa.2.2.2 i hi) (fb.2.2.2 i hi) (na.2 i hi) (nb.2 i hi) ht
        refine ⟨_, join_cases.2 (.inr (.inr ⟨h7, h7, rfl, nmEq_iff.2 ⟨rfl, fun i hi => (hn' i hi).symm⟩, fun i hi => by obtain ⟨u, hu, _⟩ := each i hi; rw [hu]; rfl, rfl⟩)), sameB_iff.2 ⟨rfl, nmEq_iff.2 ⟨rfl, fun i hi => (hn' i hi).symm⟩, rfl, fun i hi => ?_⟩⟩
        obtain ⟨u, hu, hs⟩ := each i hi
        rw [hu]
        exact hs
/-- A right type, by what is plain of it. -/
structure Rt (t : TT) : Prop where
  ok : tokV t = true
  sh : shp t
  fw : tfew t
  nn : noNm t
theorem TW.rt {w : World} {Q : Nat → Prop} {v : Array Value} {t : TT} (hv : TW w Q v t) (h : tokV t = true) : Rt t :=
  ⟨h, (hv.right h).1, (hv.right h).2, right_noNm t 12 (jtok_ttot hv.val h).2⟩
theorem Rt.join {a b : TT} (ha : Rt a) (hb : Rt b) : joinR a b = joinE a b := by unfold joinR; rw [if_pos ⟨ha.ok, hb.ok⟩]
theorem joinE_some {a b t : TT} (h : joinP a b = some t) : joinE a b = .ok t := by unfold joinE; rw [h]
theorem joinE_none {a b : TT} (h : joinP a b = none) : joinE a b = .error 6 := by unfold joinE; rw [h]
theorem Rt.turn {a b : TT} (ha : Rt a) (hb : Rt b) (h : joinP a b = none) : joinP b a = none := by
  cases g : joinP b a with
  | none => rfl
  | some t =>
    obtain ⟨u, hu, _⟩ := join_comm b a t hb.sh ha.sh hb.fw ha.fw hb.nn ha.nn g
    rw [hu] at h; cases h
theorem Rt.self {a : TT} (ha : Rt a) : ∃ z, joinR a a = .ok z ∧ sameB z a = true := by
  obtain ⟨z, hz, hs⟩ := join_self a ha.fw
  exact ⟨z, by rw [ha.join ha, joinE_some hz], hs⟩
theorem isB_of {a b z : TT} (h : joinR a b = .ok z) (hs : sameB z b = true) : isB a b = true := by unfold isB; rw [h]; exact hs
theorem Rt.is_self {a : TT} (ha : Rt a) : isB a a = true := by
  obtain ⟨z, hz, hs⟩ := ha.self
  exact isB_of hz hs
theorem Rt.flip {a b x : TT} (ha : Rt a) (hb : Rt b) (h : joinP a b = some x) : ∃ y, joinR b a = .ok y ∧ sameB x y = true := by
  obtain ⟨y, hy, hs⟩ := join_comm a b x ha.sh hb.sh ha.fw hb.fw ha.nn hb.nn h
  exact ⟨y, by rw [hb.join ha, joinE_some hy], hs⟩
theorem Rt.up {a b x : TT} (ha : Rt a) (hb : Rt b) (h : joinP a b = some x) (hx : tokV x = true) : isB a x = true := by
  obtain ⟨u, hu, hs⟩ := join_up a b x ha.sh hb.sh ha.fw hb.fw h
  exact isB_of (by unfold joinR; rw [if_pos ⟨ha.ok, hx⟩, joinE_some hu]) hs
theorem Rt.up2 {a b x : TT} (ha : Rt a) (hb : Rt b) (h : joinP a b = some x) (hx : tokV x = true) : isB b x = true := by
  obtain ⟨u, hu, hs⟩ := join_up2 a b x ha.sh hb.sh ha.fw hb.fw ha.nn hb.nn h
  exact isB_of (by unfold joinR; rw [if_pos ⟨hb.ok, hx⟩, joinE_some hu]) hs
/-- The three joins, by what they come to. -/
theorem Rt.no1 {a b c x : TT} (ha : Rt a) (hb : Rt b) (hc : Rt c) (h : joinP a b = some x) (hx : tokV x = true) (g : joinP b c = none) : joinR x c = .error 6 := by
  unfold joinR; rw [if_pos ⟨hx, hc.ok⟩]
  refine joinE_none ?_
  cases e : joinP x c with
  | none => rfl
  | some p =>
    obtain ⟨q, r, hq, _⟩ := (join_assoc a b c x ha.sh hb.sh hc.sh ha.fw hb.fw hc.fw h).1 p e
    rw [hq] at g; cases g
theorem Rt.no2 {a b c x q : TT} (ha : Rt a) (hb : Rt b) (hc : Rt c) (h : joinP a b = some x) (hx : tokV x = true) (g : joinP b c = some q) (k : joinP a q = none) : joinR x c = .error 6 := by
  unfold joinR; rw [if_pos ⟨hx, hc.ok⟩]
  refine joinE_none ?_
  cases e : joinP x c with
  | none => rfl
  | some p =>
    obtain ⟨q', r, hq, hr, _⟩ := (join_assoc a b c x ha.sh hb.sh hc.sh ha.fw hb.fw hc.fw h).1 p e
    rw [hq] at g; cases g
    rw [hr] at k; cases k
theorem Rt.yes {a b c x q r : TT} (ha : Rt a) (hb : Rt b) (hc : Rt c) (h : joinP a b = some x) (hx : tokV x = true) (g : joinP b c = some q) (k : joinP a q = some r) : ∃ p, joinR x c = .ok p ∧ sameB p r = true := by
  obtain ⟨p, hp⟩ := Option.isSome_iff_exists.1 ((join_assoc a b c x ha.sh hb.sh hc.sh ha.fw hb.fw hc.fw h).2 q r g k)
  obtain ⟨q', r', hq, hr, hs⟩ := (join_assoc a b c x ha.sh hb.sh hc.sh ha.fw hb.fw hc.fw h).1 p hp
  rw [hq] at g; cases g
  rw [hr] at k; cases k
  exact ⟨p, by unfold joinR; rw [if_pos ⟨hx, hc.ok⟩, joinE_some hp], hs⟩
theorem joinR_left {a q : TT} (ha : Rt a) (hq : tokV q = true) : joinR a q = joinE a q := by unfold joinR; rw [if_pos ⟨ha.ok, hq⟩]
theorem joinR_bad {a q : TT} (hq : tokV q = false) : joinR a q = .error 2 := joinR_no (by rw [hq]; simp)
/-- The type that is none at all. -/
def nilT : TT := .mk 0 0 (fun _ => ⟨#[]⟩) 0 (fun _ => .bad)
theorem TW.zero (w : World) (Q : Nat → Prop) : TW w Q #[.int .i64 0, .slice none 0 0, .slice none 0 0] nilT :=
  .mk 0 none 0 0 none 0 0 _ _ (fun _ => #[]) (by omega) ⟨Nat.le_refl _, Nat.zero_le _⟩ ⟨Nat.le_refl _, Nat.zero_le _⟩ (fun _ => rfl) (fun _ => rfl) (fun h => absurd h (Nat.lt_irrefl 0)) (fun h => absurd h (Nat.lt_irrefl 0)) (fun i h => absurd h (Nat.not_lt_zero i))
theorem zero_same : sameB nilT nilT = true := by decide
theorem zero_bad : tokV nilT = false := by decide
end Go.Proofs.YtcmohggnehkjeaaGreat
namespace Go.Proofs.YtcmohggnehkjeaaGreat.typesLaws
open Go.RowKit

def Yes (w : World) (e : Ending) (w' : World) : Prop := e = .returned (.bool true) ∧ Below w.heap.size w w'
theorem box1 (w : World) (v : Array Value) : Below w.heap.size w (w.alloc (.cells v 25)) := (Below.refl _ _).alloc (Nat.le_refl _) _
set_option maxRecDepth 20000 in
set_option maxHeartbeats 4000000 in
theorem walk {ta tb tc : TT} {a b c : Array Value} {w : World} (ha : TW w (fun _ => True) a ta) (hb : TW w (fun _ => True) b tb) (hc : TW w (fun _ => True) c tc) :
    Calls Tryz.prog 4 #[.agg a, .agg b, .agg c] w (Yes w) := by
  have C0 := Lib.hid fun (W : World) (_ : Below w.heap.size w W) => awake9 W
  obtain ⟨hb0, q0, q1, q2⟩ := join_boxes w a b c
  obtain ⟨a0, a1, a2, a3, a4, a5, a6, rfl⟩ := ha.form
  obtain ⟨b0, b1, b2, b3, b4, b5, b6, rfl⟩ := hb.form
  obtain ⟨c0, c1, c2, c3, c4, c5, c6, rfl⟩ := hc.form
  have HB := Lib.hid hb0
  have HXa := Lib.hid q0
  have HXb := Lib.hid q1
  have HXc := Lib.hid q2
  have HTa := Lib.hid (ha.stay hb0)
  have HTb := Lib.hid (hb.stay hb0)
  have HTc := Lib.hid (hc.stay hb0)
  have TR := Lib.hid fun (t : TT) (W : World) (v : Array Value) (h : TW W (fun _ => True) v t) => TypeRight_any h.val
  have JN := Lib.hid fun (t u : TT) (W : World) (v x : Array Value) (h : TW W (fun _ => True) v t) (g : TW W (fun _ => True) x u) => Join_t h g
  have SM := Lib.hid fun (t u : TT) (W : World) (v x : Array Value) (h : TW W (fun _ => True) v t) (g : TW W (fun _ => True) x u) => Same_t _ _ _ _ _ _ _ h g
  have IS := Lib.hid fun (t u : TT) (W : World) (v x : Array Value) (h : TW W (fun _ => True) v t) (g : TW W (fun _ => True) x u) => Is_t h g
  have RT : Hid (∀ t W v, TW W (fun _ => True) v t → tokV t = true → Rt t) := Lib.hid fun t W v h e => h.rt e
  clear hb0 q0 q1 q2 ha hb hc
  unfold Yes
  cases ha : tokV ta with
  | false =>
    go_enter Tryz.func4, Tryz.ntmps4
    go_wp2_with (go_at_call 9; refine (C0.out _ HB.out).mono ?_; rintro e w1 ⟨rfl, hb1⟩; refine Hid.out ?_)
    refine Lib.hid ?_
    have hsz1 := HB.out.size
    replace HB := Lib.hid (HB.out.trans (hb1.mono HB.out.size))
    clear hsz1
    replace HXa := Lib.hid (HXa.out.below hb1)
    replace HTa := Lib.hid (HTa.out.stay hb1)
    replace HXb := Lib.hid (HXb.out.below hb1)
    replace HTb := Lib.hid (HTb.out.stay hb1)
    replace HXc := Lib.hid (HXc.out.below hb1)
    replace HTc := Lib.hid (HTc.out.stay hb1)
    clear hb1
    have CT := TR.out _ _ _ HTa.out
    rw [ha] at CT
    obtain ⟨ka0, ka1, ka2, _, _⟩ := HXa.out.cells
    go_wp2_with (go_at_call 16; refine (CT).mono ?_; rintro e w2 ⟨rfl, hb2⟩; refine Hid.out ?_)
    refine Lib.hid ?_
    clear ka0 ka1 ka2
    have hsz2 := HB.out.size
    replace HB := Lib.hid (HB.out.trans (hb2.mono HB.out.size))
    clear hsz2
    replace HXa := Lib.hid (HXa.out.below hb2)
    replace HTa := Lib.hid (HTa.out.stay hb2)
    replace HXb := Lib.hid (HXb.out.below hb2)
    replace HTb := Lib.hid (HTb.out.stay hb2)
    replace HXc := Lib.hid (HXc.out.below hb2)
    replace HTc := Lib.hid (HTc.out.stay hb2)
    clear hb2
    clear CT
    go_wp2_with (go_at_call 9; refine (C0.out _ HB.out).mono ?_; rintro e w3 ⟨rfl, hb3⟩; refine Hid.out ?_)
    refine Lib.hid ?_
    have hsz3 := HB.out.size
    replace HB := Lib.hid (HB.out.trans (hb3.mono HB.out.size))
    clear hsz3
    replace HXa := Lib.hid (HXa.out.below hb3)
    replace HTa := Lib.hid (HTa.out.stay hb3)
    replace HXb := Lib.hid (HXb.out.below hb3)
    replace HTb := Lib.hid (HTb.out.stay hb3)
    replace HXc := Lib.hid (HXc.out.below hb3)
    replace HTc := Lib.hid (HTc.out.stay hb3)
    clear hb3
    go_wp2_with fail
    go_ret
    exact ⟨rfl, HB.out⟩
  | true =>
    cases hb : tokV tb with
    | false =>
      go_enter Tryz.func4, Tryz.ntmps4
      go_wp2_with (go_at_call 9; refine (C0.out _ HB.out).mono ?_; rintro e w1 ⟨rfl, hb1⟩; refine Hid.out ?_)
      refine Lib.hid ?_
      have hsz1 := HB.out.size
      replace HB := Lib.hid (HB.out.trans (hb1.mono HB.out.size))
      clear hsz1
      replace HXa := Lib.hid (HXa.out.below hb1)
      replace HTa := Lib.hid (HTa.out.stay hb1)
      replace HXb := Lib.hid (HXb.out.below hb1)
      replace HTb := Lib.hid (HTb.out.stay hb1)
      replace HXc := Lib.hid (HXc.out.below hb1)
      replace HTc := Lib.hid (HTc.out.stay hb1)
      clear hb1
      have CT := TR.out _ _ _ HTa.out
      rw [ha] at CT
      obtain ⟨ka0, ka1, ka2, _, _⟩ := HXa.out.cells
      go_wp2_with (go_at_call 16; refine (CT).mono ?_; rintro e w2 ⟨rfl, hb2⟩; refine Hid.out ?_)
      refine Lib.hid ?_
      clear ka0 ka1 ka2
      have hsz2 := HB.out.size
      replace HB := Lib.hid (HB.out.trans (hb2.mono HB.out.size))
      clear hsz2
      replace HXa := Lib.hid (HXa.out.below hb2)
      replace HTa := Lib.hid (HTa.out.stay hb2)
      replace HXb := Lib.hid (HXb.out.below hb2)
      replace HTb := Lib.hid (HTb.out.stay hb2)
      replace HXc := Lib.hid (HXc.out.below hb2)
      replace HTc := Lib.hid (HTc.out.stay hb2)
      clear hb2
      clear CT
      have CT := TR.out _ _ _ HTb.out
      rw [hb] at CT
      obtain ⟨kb0, kb1, kb2, _, _⟩ := HXb.out.cells
      go_wp2_with (go_at_call 16; refine (CT).mono ?_; rintro e w3 ⟨rfl, hb3⟩; refine Hid.out ?_)
      refine Lib.hid ?_
      clear kb0 kb1 kb2
      have hsz3 := HB.out.size
      replace HB := Lib.hid (HB.out.trans (hb3.mono HB.out.size))
      clear hsz3
      replace HXa := Lib.hid (HXa.out.below hb3)
      replace HTa := Lib.hid (HTa.out.stay hb3)
      replace HXb := Lib.hid (HXb.out.below hb3)
      replace HTb := Lib.hid (HTb.out.stay hb3)
      replace HXc := Lib.hid (HXc.out.below hb3)
      replace HTc := Lib.hid (HTc.out.stay hb3)
      clear hb3
      clear CT
      go_wp2_with (go_at_call 9; refine (C0.out _ HB.out).mono ?_; rintro e w4 ⟨rfl, hb4⟩; refine Hid.out ?_)
      refine Lib.hid ?_
      have hsz4 := HB.out.size
      replace HB := Lib.hid (HB.out.trans (hb4.mono HB.out.size))
      clear hsz4
      replace HXa := Lib.hid (HXa.out.below hb4)
      replace HTa := Lib.hid (HTa.out.stay hb4)
      replace HXb := Lib.hid (HXb.out.below hb4)
      replace HTb := Lib.hid (HTb.out.stay hb4)
      replace HXc := Lib.hid (HXc.out.below hb4)
      replace HTc := Lib.hid (HTc.out.stay hb4)
      clear hb4
      go_wp2_with fail
      go_ret
      exact ⟨rfl, HB.out⟩
    | true =>
      cases hc : tokV tc with
      | false =>
        go_enter Tryz.func4, Tryz.ntmps4
        go_wp2_with (go_at_call 9; refine (C0.out _ HB.out).mono ?_; rintro e w1 ⟨rfl, hb1⟩; refine Hid.out ?_)
        refine Lib.hid ?_
        have hsz1 := HB.out.size
        replace HB := Lib.hid (HB.out.trans (hb1.mono HB.out.size))
        clear hsz1
        replace HXa := Lib.hid (HXa.out.below hb1)
        replace HTa := Lib.hid (HTa.out.stay hb1)
        replace HXb := Lib.hid (HXb.out.below hb1)
        replace HTb := Lib.hid (HTb.out.stay hb1)
        replace HXc := Lib.hid (HXc.out.below hb1)
        replace HTc := Lib.hid (HTc.out.stay hb1)
        clear hb1
        have CT := TR.out _ _ _ HTa.out
        rw [ha] at CT
        obtain ⟨ka0, ka1, ka2, _, _⟩ := HXa.out.cells
        go_wp2_with (go_at_call 16; refine (CT).mono ?_; rintro e w2 ⟨rfl, hb2⟩; refine Hid.out ?_)
        refine Lib.hid ?_
        clear ka0 ka1 ka2
        have hsz2 := HB.out.size
        replace HB := Lib.hid (HB.out.trans (hb2.mono HB.out.size))
        clear hsz2
        replace HXa := Lib.hid (HXa.out.below hb2)
        replace HTa := Lib.hid (HTa.out.stay hb2)
        replace HXb := Lib.hid (HXb.out.below hb2)
        replace HTb := Lib.hid (HTb.out.stay hb2)
        replace HXc := Lib.hid (HXc.out.below hb2)
        replace HTc := Lib.hid (HTc.out.stay hb2)
        clear hb2
        clear CT
        have CT := TR.out _ _ _ HTb.out
        rw [hb] at CT
        obtain ⟨kb0, kb1, kb2, _, _⟩ := HXb.out.cells
        go_wp2_with (go_at_call 16; refine (CT).mono ?_; rintro e w3 ⟨rfl, hb3⟩; refine Hid.out ?_)
        refine Lib.hid ?_
        clear kb0 kb1 kb2
        have hsz3 := HB.out.size
        replace HB := Lib.hid (HB.out.trans (hb3.mono HB.out.size))
        clear hsz3
        replace HXa := Lib.hid (HXa.out.below hb3)
        replace HTa := Lib.hid (HTa.out.stay hb3)
        replace HXb := Lib.hid (HXb.out.below hb3)
        replace HTb := Lib.hid (HTb.out.stay hb3)
        replace HXc := Lib.hid (HXc.out.below hb3)
        replace HTc := Lib.hid (HTc.out.stay hb3)
        clear hb3
        clear CT
        have CT := TR.out _ _ _ HTc.out
        rw [hc] at CT
        obtain ⟨kc0, kc1, kc2, _, _⟩ := HXc.out.cells
        go_wp2_with (go_at_call 16; refine (CT).mono ?_; rintro e w4 ⟨rfl, hb4⟩; refine Hid.out ?_)
        refine Lib.hid ?_
        clear kc0 kc1 kc2
        have hsz4 := HB.out.size
        replace HB := Lib.hid (HB.out.trans (hb4.mono HB.out.size))
        clear hsz4
        replace HXa := Lib.hid (HXa.out.below hb4)
        replace HTa := Lib.hid (HTa.out.stay hb4)
        replace HXb := Lib.hid (HXb.out.below hb4)
        replace HTb := Lib.hid (HTb.out.stay hb4)
        replace HXc := Lib.hid (HXc.out.below hb4)
        replace HTc := Lib.hid (HTc.out.stay hb4)
        clear hb4
        clear CT
        go_wp2_with (go_at_call 9; refine (C0.out _ HB.out).mono ?_; rintro e w5 ⟨rfl, hb5⟩; refine Hid.out ?_)
        refine Lib.hid ?_
        have hsz5 := HB.out.size
        replace HB := Lib.hid (HB.out.trans (hb5.mono HB.out.size))
        clear hsz5
        replace HXa := Lib.hid (HXa.out.below hb5)
        replace HTa := Lib.hid (HTa.out.stay hb5)
        replace HXb := Lib.hid (HXb.out.below hb5)
        replace HTb := Lib.hid (HTb.out.stay hb5)
        replace HXc := Lib.hid (HXc.out.below hb5)
        replace HTc := Lib.hid (HTc.out.stay hb5)
        clear hb5
        go_wp2_with fail
        go_ret
        exact ⟨rfl, HB.out⟩
      | true =>
        have Ra := RT.out _ _ _ HTa.out ha
        have Rb := RT.out _ _ _ HTb.out hb
        have Rc := RT.out _ _ _ HTc.out hc
        have Eab := Ra.join Rb
        have Eba := Rb.join Ra
        have Ebc := Rb.join Rc
        have Iaa := Ra.is_self
        obtain ⟨tz, Eaa, Sza⟩ := Ra.self
        go_enter Tryz.func4, Tryz.ntmps4
        go_wp2_with (go_at_call 9; refine (C0.out _ HB.out).mono ?_; rintro e w1 ⟨rfl, hb1⟩; refine Hid.out ?_)
        refine Lib.hid ?_
        have hsz1 := HB.out.size
        replace HB := Lib.hid (HB.out.trans (hb1.mono HB.out.size))
        clear hsz1
        replace HXa := Lib.hid (HXa.out.below hb1)
        replace HTa := Lib.hid (HTa.out.stay hb1)
        replace HXb := Lib.hid (HXb.out.below hb1)
        replace HTb := Lib.hid (HTb.out.stay hb1)
        replace HXc := Lib.hid (HXc.out.below hb1)
        replace HTc := Lib.hid (HTc.out.stay hb1)
        clear hb1
        have CT := TR.out _ _ _ HTa.out
        rw [ha] at CT
        obtain ⟨ka0, ka1, ka2, _, _⟩ := HXa.out.cells
        go_wp2_with (go_at_call 16; refine (CT).mono ?_; rintro e w2 ⟨rfl, hb2⟩; refine Hid.out ?_)
        refine Lib.hid ?_
        clear ka0 ka1 ka2
        have hsz2 := HB.out.size
        replace HB := Lib.hid (HB.out.trans (hb2.mono HB.out.size))
        clear hsz2
        replace HXa := Lib.hid (HXa.out.below hb2)
        replace HTa := Lib.hid (HTa.out.stay hb2)
        replace HXb := Lib.hid (HXb.out.below hb2)
        replace HTb := Lib.hid (HTb.out.stay hb2)
        replace HXc := Lib.hid (HXc.out.below hb2)
        replace HTc := Lib.hid (HTc.out.stay hb2)
        clear hb2
        clear CT
        have CT := TR.out _ _ _ HTb.out
        rw [hb] at CT
        obtain ⟨kb0, kb1, kb2, _, _⟩ := HXb.out.cells
        go_wp2_with (go_at_call 16; refine (CT).mono ?_; rintro e w3 ⟨rfl, hb3⟩; refine Hid.out ?_)
        refine Lib.hid ?_
        clear kb0 kb1 kb2
        have hsz3 := HB.out.size
        replace HB := Lib.hid (HB.out.trans (hb3.mono HB.out.size))
        clear hsz3
        replace HXa := Lib.hid (HXa.out.below hb3)
        replace HTa := Lib.hid (HTa.out.stay hb3)
        replace HXb := Lib.hid (HXb.out.below hb3)
        replace HTb := Lib.hid (HTb.out.stay hb3)
        replace HXc := Lib.hid (HXc.out.below hb3)
        replace HTc := Lib.hid (HTc.out.stay hb3)
        clear hb3
        clear CT
        have CT := TR.out _ _ _ HTc.out
        rw [hc] at CT
        obtain ⟨kc0, kc1, kc2, _, _⟩ := HXc.out.cells
        go_wp2_with (go_at_call 16; refine (CT).mono ?_; rintro e w4 ⟨rfl, hb4⟩; refine Hid.out ?_)
        refine Lib.hid ?_
        clear kc0 kc1 kc2
        have hsz4 := HB.out.size
        replace HB := Lib.hid (HB.out.trans (hb4.mono HB.out.size))
        clear hsz4
        replace HXa := Lib.hid (HXa.out.below hb4)
        replace HTa := Lib.hid (HTa.out.stay hb4)
        replace HXb := Lib.hid (HXb.out.below hb4)
        replace HTb := Lib.hid (HTb.out.stay hb4)
        replace HXc := Lib.hid (HXc.out.below hb4)
        replace HTc := Lib.hid (HTc.out.stay hb4)
        clear hb4
        clear CT
        cases hj : joinP ta tb with
        | none =>
          have e1 := joinE_none hj
          have e2 := joinE_none (Ra.turn Rb hj)
          have zs := zero_same
          obtain ⟨ka0, ka1, ka2, _, _⟩ := HXa.out.cells
          obtain ⟨kb0, kb1, kb2, _, _⟩ := HXb.out.cells
          have CJ := JN.out _ _ _ _ _ HTa.out HTb.out
          rw [Eab, e1] at CJ
          go_wp2_with (go_at_call 11; refine CJ.mono ?_; rintro e w5 ⟨hb5, rfl⟩; refine Hid.out ?_)
          refine Lib.hid ?_
          clear CJ
          clear ka0 ka1 ka2 kb0 kb1 kb2
          have hsz5 := HB.out.size
          replace HB := Lib.hid (HB.out.trans (hb5.mono HB.out.size))
          clear hsz5
          replace HXa := Lib.hid (HXa.out.below hb5)
          replace HTa := Lib.hid (HTa.out.stay hb5)
          replace HXb := Lib.hid (HXb.out.below hb5)
          replace HTb := Lib.hid (HTb.out.stay hb5)
          replace HXc := Lib.hid (HXc.out.below hb5)
          replace HTc := Lib.hid (HTc.out.stay hb5)
          clear hb5
          have hx5 := box1 w5 #[.int .i64 0, .slice none 0 0, .slice none 0 0]
          have HTx := Lib.hid ((TW.zero w5 (fun _ => True)).stay hx5)
          have HXx := Lib.hid (TB.new w5 #[.int .i64 0, .slice none 0 0, .slice none 0 0])
          have hsz5 := HB.out.size
          replace HB := Lib.hid (HB.out.trans (hx5.mono HB.out.size))
          clear hsz5
          replace HXa := Lib.hid (HXa.out.below hx5)
          replace HTa := Lib.hid (HTa.out.stay hx5)
          replace HXb := Lib.hid (HXb.out.below hx5)
          replace HTb := Lib.hid (HTb.out.stay hx5)
          replace HXc := Lib.hid (HXc.out.below hx5)
          replace HTc := Lib.hid (HTc.out.stay hx5)
          clear hx5
          obtain ⟨ka0, ka1, ka2, _, _⟩ := HXa.out.cells
          obtain ⟨kb0, kb1, kb2, _, _⟩ := HXb.out.cells
          have CJ := JN.out _ _ _ _ _ HTb.out HTa.out
          rw [Eba, e2] at CJ
          go_wp2_with (go_at_call 11; refine CJ.mono ?_; rintro e w6 ⟨hb6, rfl⟩; refine Hid.out ?_)
          refine Lib.hid ?_
          clear CJ
          clear ka0 ka1 ka2 kb0 kb1 kb2
          have hsz6 := HB.out.size
          replace HB := Lib.hid (HB.out.trans (hb6.mono HB.out.size))
          clear hsz6
          replace HXa := Lib.hid (HXa.out.below hb6)
          replace HTa := Lib.hid (HTa.out.stay hb6)
          replace HXb := Lib.hid (HXb.out.below hb6)
          replace HTb := Lib.hid (HTb.out.stay hb6)
          replace HXc := Lib.hid (HXc.out.below hb6)
          replace HTc := Lib.hid (HTc.out.stay hb6)
          replace HXx := Lib.hid (HXx.out.below hb6)
          replace HTx := Lib.hid (HTx.out.stay hb6)
          clear hb6
          have hx6 := box1 w6 #[.int .i64 0, .slice none 0 0, .slice none 0 0]
          have HTy := Lib.hid ((TW.zero w6 (fun _ => True)).stay hx6)
          have HXy := Lib.hid (TB.new w6 #[.int .i64 0, .slice none 0 0, .slice none 0 0])
          have hsz6 := HB.out.size
          replace HB := Lib.hid (HB.out.trans (hx6.mono HB.out.size))
          clear hsz6
          replace HXa := Lib.hid (HXa.out.below hx6)
          replace HTa := Lib.hid (HTa.out.stay hx6)
          replace HXb := Lib.hid (HXb.out.below hx6)
          replace HTb := Lib.hid (HTb.out.stay hx6)
          replace HXc := Lib.hid (HXc.out.below hx6)
          replace HTc := Lib.hid (HTc.out.stay hx6)
          replace HXx := Lib.hid (HXx.out.below hx6)
          replace HTx := Lib.hid (HTx.out.stay hx6)
          clear hx6
          obtain ⟨ka0, ka1, ka2, _, _⟩ := HXa.out.cells
          have CJ := JN.out _ _ _ _ _ HTa.out HTa.out
          rw [Eaa] at CJ
          go_wp2_with (go_at_call 11; refine CJ.mono ?_; rintro e w7 ⟨hb7, vz, rfl, htz⟩; refine Hid.out ?_)
          refine Lib.hid ?_
          clear CJ
          obtain ⟨z0, z1, z2, z3, z4, z5, z6, rfl⟩ := htz.form
          clear ka0 ka1 ka2
          have hsz7 := HB.out.size
          replace HB := Lib.hid (HB.out.trans (hb7.mono HB.out.size))
          clear hsz7
          replace HXa := Lib.hid (HXa.out.below hb7)
          replace HTa := Lib.hid (HTa.out.stay hb7)
          replace HXb := Lib.hid (HXb.out.below hb7)
          replace HTb := Lib.hid (HTb.out.stay hb7)
          replace HXc := Lib.hid (HXc.out.below hb7)
          replace HTc := Lib.hid (HTc.out.stay hb7)
          replace HXx := Lib.hid (HXx.out.below hb7)
          replace HTx := Lib.hid (HTx.out.stay hb7)
          replace HXy := Lib.hid (HXy.out.below hb7)
          replace HTy := Lib.hid (HTy.out.stay hb7)
          clear hb7
          have hx7 := box1 w7 #[.int .i64 z0, .slice z1 z2 z3, .slice z4 z5 z6]
          have HTz := Lib.hid ((htz.imp (Q := fun _ => True) fun _ _ _ => trivial).stay hx7)
          clear htz
          have HXz := Lib.hid (TB.new w7 #[.int .i64 z0, .slice z1 z2 z3, .slice z4 z5 z6])
          have hsz7 := HB.out.size
          replace HB := Lib.hid (HB.out.trans (hx7.mono HB.out.size))
          clear hsz7
          replace HXa := Lib.hid (HXa.out.below hx7)
          replace HTa := Lib.hid (HTa.out.stay hx7)
          replace HXb := Lib.hid (HXb.out.below hx7)
          replace HTb := Lib.hid (HTb.out.stay hx7)
          replace HXc := Lib.hid (HXc.out.below hx7)
          replace HTc := Lib.hid (HTc.out.stay hx7)
          replace HXx := Lib.hid (HXx.out.below hx7)
          replace HTx := Lib.hid (HTx.out.stay hx7)
          replace HXy := Lib.hid (HXy.out.below hx7)
          replace HTy := Lib.hid (HTy.out.stay hx7)
          clear hx7
          have CS := SM.out _ _ _ _ _ HTx.out HTy.out
          rw [zs] at CS
          obtain ⟨kx0, kx1, kx2, _, _⟩ := HXx.out.cells
          obtain ⟨ky0, ky1, ky2, _, _⟩ := HXy.out.cells
          go_wp2_with (go_at_call 12; refine (CS).mono ?_; rintro e w8 ⟨rfl, hb8⟩; refine Hid.out ?_)
          refine Lib.hid ?_
          clear kx0 kx1 kx2 ky0 ky1 ky2
          have hsz8 := HB.out.size
          replace HB := Lib.hid (HB.out.trans (hb8.mono HB.out.size))
          clear hsz8
          replace HXa := Lib.hid (HXa.out.below hb8)
          replace HTa := Lib.hid (HTa.out.stay hb8)
          replace HXb := Lib.hid (HXb.out.below hb8)
          replace HTb := Lib.hid (HTb.out.stay hb8)
          replace HXc := Lib.hid (HXc.out.below hb8)
          replace HTc := Lib.hid (HTc.out.stay hb8)
          replace HXx := Lib.hid (HXx.out.below hb8)
          replace HTx := Lib.hid (HTx.out.stay hb8)
          replace HXy := Lib.hid (HXy.out.below hb8)
          replace HTy := Lib.hid (HTy.out.stay hb8)
          replace HXz := Lib.hid (HXz.out.below hb8)
          replace HTz := Lib.hid (HTz.out.stay hb8)
          clear hb8
          clear CS
          have CS := SM.out _ _ _ _ _ HTz.out HTa.out
          rw [Sza] at CS
          obtain ⟨ka0, ka1, ka2, _, _⟩ := HXa.out.cells
          obtain ⟨kz0, kz1, kz2, _, _⟩ := HXz.out.cells
          go_wp2_with (go_at_call 12; refine (CS).mono ?_; rintro e w9 ⟨rfl, hb9⟩; refine Hid.out ?_)
          refine Lib.hid ?_
          clear ka0 ka1 ka2 kz0 kz1 kz2
          have hsz9 := HB.out.size
          replace HB := Lib.hid (HB.out.trans (hb9.mono HB.out.size))
          clear hsz9
          replace HXa := Lib.hid (HXa.out.below hb9)
          replace HTa := Lib.hid (HTa.out.stay hb9)
          replace HXb := Lib.hid (HXb.out.below hb9)
          replace HTb := Lib.hid (HTb.out.stay hb9)
          replace HXc := Lib.hid (HXc.out.below hb9)
          replace HTc := Lib.hid (HTc.out.stay hb9)
          replace HXx := Lib.hid (HXx.out.below hb9)
          replace HTx := Lib.hid (HTx.out.stay hb9)
          replace HXy := Lib.hid (HXy.out.below hb9)
          replace HTy := Lib.hid (HTy.out.stay hb9)
          replace HXz := Lib.hid (HXz.out.below hb9)
          replace HTz := Lib.hid (HTz.out.stay hb9)
          clear hb9
          clear CS
          have CI := IS.out _ _ _ _ _ HTa.out HTa.out
          rw [Iaa] at CI
          obtain ⟨ka0, ka1, ka2, _, _⟩ := HXa.out.cells
          go_wp2_with (go_at_call 14; refine (CI).mono ?_; rintro e w10 ⟨rfl, hb10⟩; refine Hid.out ?_)
          refine Lib.hid ?_
          clear ka0 ka1 ka2
          have hsz10 := HB.out.size
          replace HB := Lib.hid (HB.out.trans (hb10.mono HB.out.size))
          clear hsz10
          replace HXa := Lib.hid (HXa.out.below hb10)
          replace HTa := Lib.hid (HTa.out.stay hb10)
          replace HXb := Lib.hid (HXb.out.below hb10)
          replace HTb := Lib.hid (HTb.out.stay hb10)
          replace HXc := Lib.hid (HXc.out.below hb10)
          replace HTc := Lib.hid (HTc.out.stay hb10)
          replace HXx := Lib.hid (HXx.out.below hb10)
          replace HTx := Lib.hid (HTx.out.stay hb10)
          replace HXy := Lib.hid (HXy.out.below hb10)
          replace HTy := Lib.hid (HTy.out.stay hb10)
          replace HXz := Lib.hid (HXz.out.below hb10)
          replace HTz := Lib.hid (HTz.out.stay hb10)
          clear hb10
          clear CI
          go_wp2_with fail
          go_ret
          exact ⟨rfl, HB.out⟩
        | some tx =>
          have e1 := joinE_some hj
          obtain ⟨ty, Ebay, Sxy⟩ := Ra.flip Rb hj
          obtain ⟨ka0, ka1, ka2, _, _⟩ := HXa.out.cells
          obtain ⟨kb0, kb1, kb2, _, _⟩ := HXb.out.cells
          have CJ := JN.out _ _ _ _ _ HTa.out HTb.out
          rw [Eab, e1] at CJ
          go_wp2_with (go_at_call 11; refine CJ.mono ?_; rintro e w5 ⟨hb5, vx, rfl, htx⟩; refine Hid.out ?_)
          refine Lib.hid ?_
          clear CJ
          obtain ⟨x0, x1, x2, x3, x4, x5, x6, rfl⟩ := htx.form
          clear ka0 ka1 ka2 kb0 kb1 kb2
          have hsz5 := HB.out.size
          replace HB := Lib.hid (HB.out.trans (hb5.mono HB.out.size))
          clear hsz5
          replace HXa := Lib.hid (HXa.out.below hb5)
          replace HTa := Lib.hid (HTa.out.stay hb5)
          replace HXb := Lib.hid (HXb.out.below hb5)
          replace HTb := Lib.hid (HTb.out.stay hb5)
          replace HXc := Lib.hid (HXc.out.below hb5)
          replace HTc := Lib.hid (HTc.out.stay hb5)
          clear hb5
          have hx5 := box1 w5 #[.int .i64 x0, .slice x1 x2 x3, .slice x4 x5 x6]
          have HTx := Lib.hid ((htx.imp (Q := fun _ => True) fun _ _ _ => trivial).stay hx5)
          clear htx
          have HXx := Lib.hid (TB.new w5 #[.int .i64 x0, .slice x1 x2 x3, .slice x4 x5 x6])
          have hsz5 := HB.out.size
          replace HB := Lib.hid (HB.out.trans (hx5.mono HB.out.size))
          clear hsz5
          replace HXa := Lib.hid (HXa.out.below hx5)
          replace HTa := Lib.hid (HTa.out.stay hx5)
          replace HXb := Lib.hid (HXb.out.below hx5)
          replace HTb := Lib.hid (HTb.out.stay hx5)
          replace HXc := Lib.hid (HXc.out.below hx5)
          replace HTc := Lib.hid (HTc.out.stay hx5)
          clear hx5
          obtain ⟨ka0, ka1, ka2, _, _⟩ := HXa.out.cells
          obtain ⟨kb0, kb1, kb2, _, _⟩ := HXb.out.cells
          have CJ := JN.out _ _ _ _ _ HTb.out HTa.out
          rw [Ebay] at CJ
          go_wp2_with (go_at_call 11; refine CJ.mono ?_; rintro e w6 ⟨hb6, vy, rfl, hty⟩; refine Hid.out ?_)
          refine Lib.hid ?_
          clear CJ
          obtain ⟨y0, y1, y2, y3, y4, y5, y6, rfl⟩ := hty.form
          clear ka0 ka1 ka2 kb0 kb1 kb2
          have hsz6 := HB.out.size
          replace HB := Lib.hid (HB.out.trans (hb6.mono HB.out.size))
          clear hsz6
          replace HXa := Lib.hid (HXa.out.below hb6)
          replace HTa := Lib.hid (HTa.out.stay hb6)
          replace HXb := Lib.hid (HXb.out.below hb6)
          replace HTb := Lib.hid (HTb.out.stay hb6)
          replace HXc := Lib.hid (HXc.out.below hb6)
          replace HTc := Lib.hid (HTc.out.stay hb6)
          replace HXx := Lib.hid (HXx.out.below hb6)
          replace HTx := Lib.hid (HTx.out.stay hb6)
          clear hb6
          have hx6 := box1 w6 #[.int .i64 y0, .slice y1 y2 y3, .slice y4 y5 y6]
          have HTy := Lib.hid ((hty.imp (Q := fun _ => True) fun _ _ _ => trivial).stay hx6)
          clear hty
          have HXy := Lib.hid (TB.new w6 #[.int .i64 y0, .slice y1 y2 y3, .slice y4 y5 y6])
          have hsz6 := HB.out.size
          replace HB := Lib.hid (HB.out.trans (hx6.mono HB.out.size))
          clear hsz6
          replace HXa := Lib.hid (HXa.out.below hx6)
          replace HTa := Lib.hid (HTa.out.stay hx6)
          replace HXb := Lib.hid (HXb.out.below hx6)
          replace HTb := Lib.hid (HTb.out.stay hx6)
          replace HXc := Lib.hid (HXc.out.below hx6)
          replace HTc := Lib.hid (HTc.out.stay hx6)
          replace HXx := Lib.hid (HXx.out.below hx6)
          replace HTx := Lib.hid (HTx.out.stay hx6)
          clear hx6
          obtain ⟨ka0, ka1, ka2, _, _⟩ := HXa.out.cells
          have CJ := JN.out _ _ _ _ _ HTa.out HTa.out
          rw [Eaa] at CJ
          go_wp2_with (go_at_call 11; refine CJ.mono ?_; rintro e w7 ⟨hb7, vz, rfl, htz⟩; refine Hid.out ?_)
          refine Lib.hid ?_
          clear CJ
          obtain ⟨z0, z1, z2, z3, z4, z5, z6, rfl⟩ := htz.form
          clear ka0 ka1 ka2
          have hsz7 := HB.out.size
          replace HB := Lib.hid (HB.out.trans (hb7.mono HB.out.size))
          clear hsz7
          replace HXa := Lib.hid (HXa.out.below hb7)
          replace HTa := Lib.hid (HTa.out.stay hb7)
          replace HXb := Lib.hid (HXb.out.below hb7)
          replace HTb := Lib.hid (HTb.out.stay hb7)
          replace HXc := Lib.hid (HXc.out.below hb7)
          replace HTc := Lib.hid (HTc.out.stay hb7)
          replace HXx := Lib.hid (HXx.out.below hb7)
          replace HTx := Lib.hid (HTx.out.stay hb7)
          replace HXy := Lib.hid (HXy.out.below hb7)
          replace HTy := Lib.hid (HTy.out.stay hb7)
          clear hb7
          have hx7 := box1 w7 #[.int .i64 z0, .slice z1 z2 z3, .slice z4 z5 z6]
          have HTz := Lib.hid ((htz.imp (Q := fun _ => True) fun _ _ _ => trivial).stay hx7)
          clear htz
          have HXz := Lib.hid (TB.new w7 #[.int .i64 z0, .slice z1 z2 z3, .slice z4 z5 z6])
          have hsz7 := HB.out.size
          replace HB := Lib.hid (HB.out.trans (hx7.mono HB.out.size))
          clear hsz7
          replace HXa := Lib.hid (HXa.out.below hx7)
          replace HTa := Lib.hid (HTa.out.stay hx7)
          replace HXb := Lib.hid (HXb.out.below hx7)
          replace HTb := Lib.hid (HTb.out.stay hx7)
          replace HXc := Lib.hid (HXc.out.below hx7)
          replace HTc := Lib.hid (HTc.out.stay hx7)
          replace HXx := Lib.hid (HXx.out.below hx7)
          replace HTx := Lib.hid (HTx.out.stay hx7)
          replace HXy := Lib.hid (HXy.out.below hx7)
          replace HTy := Lib.hid (HTy.out.stay hx7)
          clear hx7
          have CS := SM.out _ _ _ _ _ HTx.out HTy.out
          rw [Sxy] at CS
          obtain ⟨kx0, kx1, kx2, _, _⟩ := HXx.out.cells
          obtain ⟨ky0, ky1, ky2, _, _⟩ := HXy.out.cells
          go_wp2_with (go_at_call 12; refine (CS).mono ?_; rintro e w8 ⟨rfl, hb8⟩; refine Hid.out ?_)
          refine Lib.hid ?_
          clear kx0 kx1 kx2 ky0 ky1 ky2
          have hsz8 := HB.out.size
          replace HB := Lib.hid (HB.out.trans (hb8.mono HB.out.size))
          clear hsz8
          replace HXa := Lib.hid (HXa.out.below hb8)
          replace HTa := Lib.hid (HTa.out.stay hb8)
          replace HXb := Lib.hid (HXb.out.below hb8)
          replace HTb := Lib.hid (HTb.out.stay hb8)
          replace HXc := Lib.hid (HXc.out.below hb8)
          replace HTc := Lib.hid (HTc.out.stay hb8)
          replace HXx := Lib.hid (HXx.out.below hb8)
          replace HTx := Lib.hid (HTx.out.stay hb8)
          replace HXy := Lib.hid (HXy.out.below hb8)
          replace HTy := Lib.hid (HTy.out.stay hb8)
          replace HXz := Lib.hid (HXz.out.below hb8)
          replace HTz := Lib.hid (HTz.out.stay hb8)
          clear hb8
          clear CS
          have CS := SM.out _ _ _ _ _ HTz.out HTa.out
          rw [Sza] at CS
          obtain ⟨ka0, ka1, ka2, _, _⟩ := HXa.out.cells
          obtain ⟨kz0, kz1, kz2, _, _⟩ := HXz.out.cells
          go_wp2_with (go_at_call 12; refine (CS).mono ?_; rintro e w9 ⟨rfl, hb9⟩; refine Hid.out ?_)
          refine Lib.hid ?_
          clear ka0 ka1 ka2 kz0 kz1 kz2
          have hsz9 := HB.out.size
          replace HB := Lib.hid (HB.out.trans (hb9.mono HB.out.size))
          clear hsz9
          replace HXa := Lib.hid (HXa.out.below hb9)
          replace HTa := Lib.hid (HTa.out.stay hb9)
          replace HXb := Lib.hid (HXb.out.below hb9)
          replace HTb := Lib.hid (HTb.out.stay hb9)
          replace HXc := Lib.hid (HXc.out.below hb9)
          replace HTc := Lib.hid (HTc.out.stay hb9)
          replace HXx := Lib.hid (HXx.out.below hb9)
          replace HTx := Lib.hid (HTx.out.stay hb9)
          replace HXy := Lib.hid (HXy.out.below hb9)
          replace HTy := Lib.hid (HTy.out.stay hb9)
          replace HXz := Lib.hid (HXz.out.below hb9)
          replace HTz := Lib.hid (HTz.out.stay hb9)
          clear hb9
          clear CS
          have CI := IS.out _ _ _ _ _ HTa.out HTa.out
          rw [Iaa] at CI
          obtain ⟨ka0, ka1, ka2, _, _⟩ := HXa.out.cells
          go_wp2_with (go_at_call 14; refine (CI).mono ?_; rintro e w10 ⟨rfl, hb10⟩; refine Hid.out ?_)
          refine Lib.hid ?_
          clear ka0 ka1 ka2
          have hsz10 := HB.out.size
          replace HB := Lib.hid (HB.out.trans (hb10.mono HB.out.size))
          clear hsz10
          replace HXa := Lib.hid (HXa.out.below hb10)
          replace HTa := Lib.hid (HTa.out.stay hb10)
          replace HXb := Lib.hid (HXb.out.below hb10)
          replace HTb := Lib.hid (HTb.out.stay hb10)
          replace HXc := Lib.hid (HXc.out.below hb10)
          replace HTc := Lib.hid (HTc.out.stay hb10)
          replace HXx := Lib.hid (HXx.out.below hb10)
          replace HTx := Lib.hid (HTx.out.stay hb10)
          replace HXy := Lib.hid (HXy.out.below hb10)
          replace HTy := Lib.hid (HTy.out.stay hb10)
          replace HXz := Lib.hid (HXz.out.below hb10)
          replace HTz := Lib.hid (HTz.out.stay hb10)
          clear hb10
          clear CI
          cases hx : tokV tx with
          | false =>
            have CT := TR.out _ _ _ HTx.out
            rw [hx] at CT
            obtain ⟨kx0, kx1, kx2, _, _⟩ := HXx.out.cells
            go_wp2_with (go_at_call 16; refine (CT).mono ?_; rintro e w11 ⟨rfl, hb11⟩; refine Hid.out ?_)
            refine Lib.hid ?_
            clear kx0 kx1 kx2
            have hsz11 := HB.out.size
            replace HB := Lib.hid (HB.out.trans (hb11.mono HB.out.size))
            clear hsz11
            replace HXa := Lib.hid (HXa.out.below hb11)
            replace HTa := Lib.hid (HTa.out.stay hb11)
            replace HXb := Lib.hid (HXb.out.below hb11)
            replace HTb := Lib.hid (HTb.out.stay hb11)
            replace HXc := Lib.hid (HXc.out.below hb11)
            replace HTc := Lib.hid (HTc.out.stay hb11)
            replace HXx := Lib.hid (HXx.out.below hb11)
            replace HTx := Lib.hid (HTx.out.stay hb11)
            replace HXy := Lib.hid (HXy.out.below hb11)
            replace HTy := Lib.hid (HTy.out.stay hb11)
            replace HXz := Lib.hid (HXz.out.below hb11)
            replace HTz := Lib.hid (HTz.out.stay hb11)
            clear hb11
            clear CT
            go_wp2_with fail
            go_ret
            exact ⟨rfl, HB.out⟩
          | true =>
            have CT := TR.out _ _ _ HTx.out
            rw [hx] at CT
            obtain ⟨kx0, kx1, kx2, _, _⟩ := HXx.out.cells
            go_wp2_with (go_at_call 16; refine (CT).mono ?_; rintro e w11 ⟨rfl, hb11⟩; refine Hid.out ?_)
            refine Lib.hid ?_
            clear kx0 kx1 kx2
            have hsz11 := HB.out.size
            replace HB := Lib.hid (HB.out.trans (hb11.mono HB.out.size))
            clear hsz11
            replace HXa := Lib.hid (HXa.out.below hb11)
            replace HTa := Lib.hid (HTa.out.stay hb11)
            replace HXb := Lib.hid (HXb.out.below hb11)
            replace HTb := Lib.hid (HTb.out.stay hb11)
            replace HXc := Lib.hid (HXc.out.below hb11)
            replace HTc := Lib.hid (HTc.out.stay hb11)
            replace HXx := Lib.hid (HXx.out.below hb11)
            replace HTx := Lib.hid (HTx.out.stay hb11)
            replace HXy := Lib.hid (HXy.out.below hb11)
            replace HTy := Lib.hid (HTy.out.stay hb11)
            replace HXz := Lib.hid (HXz.out.below hb11)
            replace HTz := Lib.hid (HTz.out.stay hb11)
            clear hb11
            clear CT
            have Iax := Ra.up Rb hj hx
            have Ibx := Ra.up2 Rb hj hx
            cases hq : joinP tb tc with
            | none =>
              have ex := Ra.no1 Rb Rc hj hx hq
              have eq := joinE_none hq
              have ez : joinR ta nilT = .error 2 := joinR_bad zero_bad
              obtain ⟨kc0, kc1, kc2, _, _⟩ := HXc.out.cells
              obtain ⟨kx0, kx1, kx2, _, _⟩ := HXx.out.cells
              have CJ := JN.out _ _ _ _ _ HTx.out HTc.out
              rw [ex] at CJ
              go_wp2_with (go_at_call 11; refine CJ.mono ?_; rintro e w12 ⟨hb12, rfl⟩; refine Hid.out ?_)
              refine Lib.hid ?_
              clear CJ
              clear kc0 kc1 kc2 kx0 kx1 kx2
              have hsz12 := HB.out.size
              replace HB := Lib.hid (HB.out.trans (hb12.mono HB.out.size))
              clear hsz12
              replace HXa := Lib.hid (HXa.out.below hb12)
              replace HTa := Lib.hid (HTa.out.stay hb12)
              replace HXb := Lib.hid (HXb.out.below hb12)
              replace HTb := Lib.hid (HTb.out.stay hb12)
              replace HXc := Lib.hid (HXc.out.below hb12)
              replace HTc := Lib.hid (HTc.out.stay hb12)
              replace HXx := Lib.hid (HXx.out.below hb12)
              replace HTx := Lib.hid (HTx.out.stay hb12)
              replace HXy := Lib.hid (HXy.out.below hb12)
              replace HTy := Lib.hid (HTy.out.stay hb12)
              replace HXz := Lib.hid (HXz.out.below hb12)
              replace HTz := Lib.hid (HTz.out.stay hb12)
              clear hb12
              have hx12 := box1 w12 #[.int .i64 0, .slice none 0 0, .slice none 0 0]
              have HTp := Lib.hid ((TW.zero w12 (fun _ => True)).stay hx12)
              have HXp := Lib.hid (TB.new w12 #[.int .i64 0, .slice none 0 0, .slice none 0 0])
              have hsz12 := HB.out.size
              replace HB := Lib.hid (HB.out.trans (hx12.mono HB.out.size))
              clear hsz12
              replace HXa := Lib.hid (HXa.out.below hx12)
              replace HTa := Lib.hid (HTa.out.stay hx12)
              replace HXb := Lib.hid (HXb.out.below hx12)
              replace HTb := Lib.hid (HTb.out.stay hx12)
              replace HXc := Lib.hid (HXc.out.below hx12)
              replace HTc := Lib.hid (HTc.out.stay hx12)
              replace HXx := Lib.hid (HXx.out.below hx12)
              replace HTx := Lib.hid (HTx.out.stay hx12)
              replace HXy := Lib.hid (HXy.out.below hx12)
              replace HTy := Lib.hid (HTy.out.stay hx12)
              replace HXz := Lib.hid (HXz.out.below hx12)
              replace HTz := Lib.hid (HTz.out.stay hx12)
              clear hx12
              obtain ⟨kb0, kb1, kb2, _, _⟩ := HXb.out.cells
              obtain ⟨kc0, kc1, kc2, _, _⟩ := HXc.out.cells
              have CJ := JN.out _ _ _ _ _ HTb.out HTc.out
              rw [Ebc, eq] at CJ
              go_wp2_with (go_at_call 11; refine CJ.mono ?_; rintro e w13 ⟨hb13, rfl⟩; refine Hid.out ?_)
              refine Lib.hid ?_
              clear CJ
              clear kb0 kb1 kb2 kc0 kc1 kc2
              have hsz13 := HB.out.size
              replace HB := Lib.hid (HB.out.trans (hb13.mono HB.out.size))
              clear hsz13
              replace HXa := Lib.hid (HXa.out.below hb13)
              replace HTa := Lib.hid (HTa.out.stay hb13)
              replace HXb := Lib.hid (HXb.out.below hb13)
              replace HTb := Lib.hid (HTb.out.stay hb13)
              replace HXc := Lib.hid (HXc.out.below hb13)
              replace HTc := Lib.hid (HTc.out.stay hb13)
              replace HXx := Lib.hid (HXx.out.below hb13)
              replace HTx := Lib.hid (HTx.out.stay hb13)
              replace HXy := Lib.hid (HXy.out.below hb13)
              replace HTy := Lib.hid (HTy.out.stay hb13)
              replace HXz := Lib.hid (HXz.out.below hb13)
              replace HTz := Lib.hid (HTz.out.stay hb13)
              replace HXp := Lib.hid (HXp.out.below hb13)
              replace HTp := Lib.hid (HTp.out.stay hb13)
              clear hb13
              have hx13 := box1 w13 #[.int .i64 0, .slice none 0 0, .slice none 0 0]
              have HTq := Lib.hid ((TW.zero w13 (fun _ => True)).stay hx13)
              have HXq := Lib.hid (TB.new w13 #[.int .i64 0, .slice none 0 0, .slice none 0 0])
              have hsz13 := HB.out.size
              replace HB := Lib.hid (HB.out.trans (hx13.mono HB.out.size))
              clear hsz13
              replace HXa := Lib.hid (HXa.out.below hx13)
              replace HTa := Lib.hid (HTa.out.stay hx13)
              replace HXb := Lib.hid (HXb.out.below hx13)
              replace HTb := Lib.hid (HTb.out.stay hx13)
              replace HXc := Lib.hid (HXc.out.below hx13)
              replace HTc := Lib.hid (HTc.out.stay hx13)
              replace HXx := Lib.hid (HXx.out.below hx13)
              replace HTx := Lib.hid (HTx.out.stay hx13)
              replace HXy := Lib.hid (HXy.out.below hx13)
              replace HTy := Lib.hid (HTy.out.stay hx13)
              replace HXz := Lib.hid (HXz.out.below hx13)
              replace HTz := Lib.hid (HTz.out.stay hx13)
              replace HXp := Lib.hid (HXp.out.below hx13)
              replace HTp := Lib.hid (HTp.out.stay hx13)
              clear hx13
              obtain ⟨ka0, ka1, ka2, _, _⟩ := HXa.out.cells
              obtain ⟨kq0, kq1, kq2, _, _⟩ := HXq.out.cells
              have CJ := JN.out _ _ _ _ _ HTa.out HTq.out
              rw [ez] at CJ
              go_wp2_with (go_at_call 11; refine CJ.mono ?_; rintro e w14 ⟨hb14, rfl⟩; refine Hid.out ?_)
              refine Lib.hid ?_
              clear CJ
              clear ka0 ka1 ka2 kq0 kq1 kq2
              have hsz14 := HB.out.size
              replace HB := Lib.hid (HB.out.trans (hb14.mono HB.out.size))
              clear hsz14
              replace HXa := Lib.hid (HXa.out.below hb14)
              replace HTa := Lib.hid (HTa.out.stay hb14)
              replace HXb := Lib.hid (HXb.out.below hb14)
              replace HTb := Lib.hid (HTb.out.stay hb14)
              replace HXc := Lib.hid (HXc.out.below hb14)
              replace HTc := Lib.hid (HTc.out.stay hb14)
              replace HXx := Lib.hid (HXx.out.below hb14)
              replace HTx := Lib.hid (HTx.out.stay hb14)
              replace HXy := Lib.hid (HXy.out.below hb14)
              replace HTy := Lib.hid (HTy.out.stay hb14)
              replace HXz := Lib.hid (HXz.out.below hb14)
              replace HTz := Lib.hid (HTz.out.stay hb14)
              replace HXp := Lib.hid (HXp.out.below hb14)
              replace HTp := Lib.hid (HTp.out.stay hb14)
              replace HXq := Lib.hid (HXq.out.below hb14)
              replace HTq := Lib.hid (HTq.out.stay hb14)
              clear hb14
              have hx14 := box1 w14 #[.int .i64 0, .slice none 0 0, .slice none 0 0]
              have HTr := Lib.hid ((TW.zero w14 (fun _ => True)).stay hx14)
              have HXr := Lib.hid (TB.new w14 #[.int .i64 0, .slice none 0 0, .slice none 0 0])
              have hsz14 := HB.out.size
              replace HB := Lib.hid (HB.out.trans (hx14.mono HB.out.size))
              clear hsz14
              replace HXa := Lib.hid (HXa.out.below hx14)
              replace HTa := Lib.hid (HTa.out.stay hx14)
              replace HXb := Lib.hid (HXb.out.below hx14)
              replace HTb := Lib.hid (HTb.out.stay hx14)
              replace HXc := Lib.hid (HXc.out.below hx14)
              replace HTc := Lib.hid (HTc.out.stay hx14)
              replace HXx := Lib.hid (HXx.out.below hx14)
              replace HTx := Lib.hid (HTx.out.stay hx14)
              replace HXy := Lib.hid (HXy.out.below hx14)
              replace HTy := Lib.hid (HTy.out.stay hx14)
              replace HXz := Lib.hid (HXz.out.below hx14)
              replace HTz := Lib.hid (HTz.out.stay hx14)
              replace HXp := Lib.hid (HXp.out.below hx14)
              replace HTp := Lib.hid (HTp.out.stay hx14)
              replace HXq := Lib.hid (HXq.out.below hx14)
              replace HTq := Lib.hid (HTq.out.stay hx14)
              clear hx14
              have CI := IS.out _ _ _ _ _ HTa.out HTx.out
              rw [Iax] at CI
              obtain ⟨ka0, ka1, ka2, _, _⟩ := HXa.out.cells
              obtain ⟨kx0, kx1, kx2, _, _⟩ := HXx.out.cells
              go_wp2_with (go_at_call 14; refine (CI).mono ?_; rintro e w15 ⟨rfl, hb15⟩; refine Hid.out ?_)
              refine Lib.hid ?_
              clear ka0 ka1 ka2 kx0 kx1 kx2
              have hsz15 := HB.out.size
              replace HB := Lib.hid (HB.out.trans (hb15.mono HB.out.size))
              clear hsz15
              replace HXa := Lib.hid (HXa.out.below hb15)
              replace HTa := Lib.hid (HTa.out.stay hb15)
              replace HXb := Lib.hid (HXb.out.below hb15)
              replace HTb := Lib.hid (HTb.out.stay hb15)
              replace HXc := Lib.hid (HXc.out.below hb15)
              replace HTc := Lib.hid (HTc.out.stay hb15)
              replace HXx := Lib.hid (HXx.out.below hb15)
              replace HTx := Lib.hid (HTx.out.stay hb15)
              replace HXy := Lib.hid (HXy.out.below hb15)
              replace HTy := Lib.hid (HTy.out.stay hb15)
              replace HXz := Lib.hid (HXz.out.below hb15)
              replace HTz := Lib.hid (HTz.out.stay hb15)
              replace HXp := Lib.hid (HXp.out.below hb15)
              replace HTp := Lib.hid (HTp.out.stay hb15)
              replace HXq := Lib.hid (HXq.out.below hb15)
              replace HTq := Lib.hid (HTq.out.stay hb15)
              replace HXr := Lib.hid (HXr.out.below hb15)
              replace HTr := Lib.hid (HTr.out.stay hb15)
              clear hb15
              clear CI
              have CI := IS.out _ _ _ _ _ HTb.out HTx.out
              rw [Ibx] at CI
              obtain ⟨kb0, kb1, kb2, _, _⟩ := HXb.out.cells
              obtain ⟨kx0, kx1, kx2, _, _⟩ := HXx.out.cells
              go_wp2_with (go_at_call 14; refine (CI).mono ?_; rintro e w16 ⟨rfl, hb16⟩; refine Hid.out ?_)
              refine Lib.hid ?_
              clear kb0 kb1 kb2 kx0 kx1 kx2
              have hsz16 := HB.out.size
              replace HB := Lib.hid (HB.out.trans (hb16.mono HB.out.size))
              clear hsz16
              replace HXa := Lib.hid (HXa.out.below hb16)
              replace HTa := Lib.hid (HTa.out.stay hb16)
              replace HXb := Lib.hid (HXb.out.below hb16)
              replace HTb := Lib.hid (HTb.out.stay hb16)
              replace HXc := Lib.hid (HXc.out.below hb16)
              replace HTc := Lib.hid (HTc.out.stay hb16)
              replace HXx := Lib.hid (HXx.out.below hb16)
              replace HTx := Lib.hid (HTx.out.stay hb16)
              replace HXy := Lib.hid (HXy.out.below hb16)
              replace HTy := Lib.hid (HTy.out.stay hb16)
              replace HXz := Lib.hid (HXz.out.below hb16)
              replace HTz := Lib.hid (HTz.out.stay hb16)
              replace HXp := Lib.hid (HXp.out.below hb16)
              replace HTp := Lib.hid (HTp.out.stay hb16)
              replace HXq := Lib.hid (HXq.out.below hb16)
              replace HTq := Lib.hid (HTq.out.stay hb16)
              replace HXr := Lib.hid (HXr.out.below hb16)
              replace HTr := Lib.hid (HTr.out.stay hb16)
              clear hb16
              clear CI
              go_wp2_with fail
              go_ret
              exact ⟨rfl, HB.out⟩
            | some tq =>
              have eq := joinE_some hq
              cases ht : tokV tq with
              | false =>
                have er : joinR ta tq = .error 2 := joinR_bad ht
                cases ep : joinR tx tc with
                | error cp =>
                  obtain ⟨kc0, kc1, kc2, _, _⟩ := HXc.out.cells
                  obtain ⟨kx0, kx1, kx2, _, _⟩ := HXx.out.cells
                  have CJ := JN.out _ _ _ _ _ HTx.out HTc.out
                  rw [ep] at CJ
                  go_wp2_with (go_at_call 11; refine CJ.mono ?_; rintro e w12 ⟨hb12, rfl⟩; refine Hid.out ?_)
                  refine Lib.hid ?_
                  clear CJ
                  clear kc0 kc1 kc2 kx0 kx1 kx2
                  have hsz12 := HB.out.size
                  replace HB := Lib.hid (HB.out.trans (hb12.mono HB.out.size))
                  clear hsz12
                  replace HXa := Lib.hid (HXa.out.below hb12)
                  replace HTa := Lib.hid (HTa.out.stay hb12)
                  replace HXb := Lib.hid (HXb.out.below hb12)
                  replace HTb := Lib.hid (HTb.out.stay hb12)
                  replace HXc := Lib.hid (HXc.out.below hb12)
                  replace HTc := Lib.hid (HTc.out.stay hb12)
                  replace HXx := Lib.hid (HXx.out.below hb12)
                  replace HTx := Lib.hid (HTx.out.stay hb12)
                  replace HXy := Lib.hid (HXy.out.below hb12)
                  replace HTy := Lib.hid (HTy.out.stay hb12)
                  replace HXz := Lib.hid (HXz.out.below hb12)
                  replace HTz := Lib.hid (HTz.out.stay hb12)
                  clear hb12
                  have hx12 := box1 w12 #[.int .i64 0, .slice none 0 0, .slice none 0 0]
                  have HTp := Lib.hid ((TW.zero w12 (fun _ => True)).stay hx12)
                  have HXp := Lib.hid (TB.new w12 #[.int .i64 0, .slice none 0 0, .slice none 0 0])
                  have hsz12 := HB.out.size
                  replace HB := Lib.hid (HB.out.trans (hx12.mono HB.out.size))
                  clear hsz12
                  replace HXa := Lib.hid (HXa.out.below hx12)
                  replace HTa := Lib.hid (HTa.out.stay hx12)
                  replace HXb := Lib.hid (HXb.out.below hx12)
                  replace HTb := Lib.hid (HTb.out.stay hx12)
                  replace HXc := Lib.hid (HXc.out.below hx12)
                  replace HTc := Lib.hid (HTc.out.stay hx12)
                  replace HXx := Lib.hid (HXx.out.below hx12)
                  replace HTx := Lib.hid (HTx.out.stay hx12)
                  replace HXy := Lib.hid (HXy.out.below hx12)
                  replace HTy := Lib.hid (HTy.out.stay hx12)
                  replace HXz := Lib.hid (HXz.out.below hx12)
                  replace HTz := Lib.hid (HTz.out.stay hx12)
                  clear hx12
                  obtain ⟨kb0, kb1, kb2, _, _⟩ := HXb.out.cells
                  obtain ⟨kc0, kc1, kc2, _, _⟩ := HXc.out.cells
                  have CJ := JN.out _ _ _ _ _ HTb.out HTc.out
                  rw [Ebc, eq] at CJ
                  go_wp2_with (go_at_call 11; refine CJ.mono ?_; rintro e w13 ⟨hb13, vq, rfl, htq⟩; refine Hid.out ?_)
                  refine Lib.hid ?_
                  clear CJ
                  obtain ⟨q0, q1, q2, q3, q4, q5, q6, rfl⟩ := htq.form
                  clear kb0 kb1 kb2 kc0 kc1 kc2
                  have hsz13 := HB.out.size
                  replace HB := Lib.hid (HB.out.trans (hb13.mono HB.out.size))
                  clear hsz13
                  replace HXa := Lib.hid (HXa.out.below hb13)
                  replace HTa := Lib.hid (HTa.out.stay hb13)
                  replace HXb := Lib.hid (HXb.out.below hb13)
                  replace HTb := Lib.hid (HTb.out.stay hb13)
                  replace HXc := Lib.hid (HXc.out.below hb13)
                  replace HTc := Lib.hid (HTc.out.stay hb13)
                  replace HXx := Lib.hid (HXx.out.below hb13)
                  replace HTx := Lib.hid (HTx.out.stay hb13)
                  replace HXy := Lib.hid (HXy.out.below hb13)
                  replace HTy := Lib.hid (HTy.out.stay hb13)
                  replace HXz := Lib.hid (HXz.out.below hb13)
                  replace HTz := Lib.hid (HTz.out.stay hb13)
                  replace HXp := Lib.hid (HXp.out.below hb13)
                  replace HTp := Lib.hid (HTp.out.stay hb13)
                  clear hb13
                  have hx13 := box1 w13 #[.int .i64 q0, .slice q1 q2 q3, .slice q4 q5 q6]
                  have HTq := Lib.hid ((htq.imp (Q := fun _ => True) fun _ _ _ => trivial).stay hx13)
                  clear htq
                  have HXq := Lib.hid (TB.new w13 #[.int .i64 q0, .slice q1 q2 q3, .slice q4 q5 q6])
                  have hsz13 := HB.out.size
                  replace HB := Lib.hid (HB.out.trans (hx13.mono HB.out.size))
                  clear hsz13
                  replace HXa := Lib.hid (HXa.out.below hx13)
                  replace HTa := Lib.hid (HTa.out.stay hx13)
                  replace HXb := Lib.hid (HXb.out.below hx13)
                  replace HTb := Lib.hid (HTb.out.stay hx13)
                  replace HXc := Lib.hid (HXc.out.below hx13)
                  replace HTc := Lib.hid (HTc.out.stay hx13)
                  replace HXx := Lib.hid (HXx.out.below hx13)
                  replace HTx := Lib.hid (HTx.out.stay hx13)
                  replace HXy := Lib.hid (HXy.out.below hx13)
                  replace HTy := Lib.hid (HTy.out.stay hx13)
                  replace HXz := Lib.hid (HXz.out.below hx13)
                  replace HTz := Lib.hid (HTz.out.stay hx13)
                  replace HXp := Lib.hid (HXp.out.below hx13)
                  replace HTp := Lib.hid (HTp.out.stay hx13)
                  clear hx13
                  obtain ⟨ka0, ka1, ka2, _, _⟩ := HXa.out.cells
                  obtain ⟨kq0, kq1, kq2, _, _⟩ := HXq.out.cells
                  have CJ := JN.out _ _ _ _ _ HTa.out HTq.out
                  rw [er] at CJ
                  go_wp2_with (go_at_call 11; refine CJ.mono ?_; rintro e w14 ⟨hb14, rfl⟩; refine Hid.out ?_)
                  refine Lib.hid ?_
                  clear CJ
                  clear ka0 ka1 ka2 kq0 kq1 kq2
                  have hsz14 := HB.out.size
                  replace HB := Lib.hid (HB.out.trans (hb14.mono HB.out.size))
                  clear hsz14
                  replace HXa := Lib.hid (HXa.out.below hb14)
                  replace HTa := Lib.hid (HTa.out.stay hb14)
                  replace HXb := Lib.hid (HXb.out.below hb14)
                  replace HTb := Lib.hid (HTb.out.stay hb14)
                  replace HXc := Lib.hid (HXc.out.below hb14)
                  replace HTc := Lib.hid (HTc.out.stay hb14)
                  replace HXx := Lib.hid (HXx.out.below hb14)
                  replace HTx := Lib.hid (HTx.out.stay hb14)
                  replace HXy := Lib.hid (HXy.out.below hb14)
                  replace HTy := Lib.hid (HTy.out.stay hb14)
                  replace HXz := Lib.hid (HXz.out.below hb14)
                  replace HTz := Lib.hid (HTz.out.stay hb14)
                  replace HXp := Lib.hid (HXp.out.below hb14)
                  replace HTp := Lib.hid (HTp.out.stay hb14)
                  replace HXq := Lib.hid (HXq.out.below hb14)
                  replace HTq := Lib.hid (HTq.out.stay hb14)
                  clear hb14
                  have hx14 := box1 w14 #[.int .i64 0, .slice none 0 0, .slice none 0 0]
                  have HTr := Lib.hid ((TW.zero w14 (fun _ => True)).stay hx14)
                  have HXr := Lib.hid (TB.new w14 #[.int .i64 0, .slice none 0 0, .slice none 0 0])
                  have hsz14 := HB.out.size
                  replace HB := Lib.hid (HB.out.trans (hx14.mono HB.out.size))
                  clear hsz14
                  replace HXa := Lib.hid (HXa.out.below hx14)
                  replace HTa := Lib.hid (HTa.out.stay hx14)
                  replace HXb := Lib.hid (HXb.out.below hx14)
                  replace HTb := Lib.hid (HTb.out.stay hx14)
                  replace HXc := Lib.hid (HXc.out.below hx14)
                  replace HTc := Lib.hid (HTc.out.stay hx14)
                  replace HXx := Lib.hid (HXx.out.below hx14)
                  replace HTx := Lib.hid (HTx.out.stay hx14)
                  replace HXy := Lib.hid (HXy.out.below hx14)
                  replace HTy := Lib.hid (HTy.out.stay hx14)
                  replace HXz := Lib.hid (HXz.out.below hx14)
                  replace HTz := Lib.hid (HTz.out.stay hx14)
                  replace HXp := Lib.hid (HXp.out.below hx14)
                  replace HTp := Lib.hid (HTp.out.stay hx14)
                  replace HXq := Lib.hid (HXq.out.below hx14)
                  replace HTq := Lib.hid (HTq.out.stay hx14)
                  clear hx14
                  have CT := TR.out _ _ _ HTq.out
                  rw [ht] at CT
                  obtain ⟨kq0, kq1, kq2, _, _⟩ := HXq.out.cells
                  go_wp2_with (go_at_call 16; refine (CT).mono ?_; rintro e w15 ⟨rfl, hb15⟩; refine Hid.out ?_)
                  refine Lib.hid ?_
                  clear kq0 kq1 kq2
                  have hsz15 := HB.out.size
                  replace HB := Lib.hid (HB.out.trans (hb15.mono HB.out.size))
                  clear hsz15
                  replace HXa := Lib.hid (HXa.out.below hb15)
                  replace HTa := Lib.hid (HTa.out.stay hb15)
                  replace HXb := Lib.hid (HXb.out.below hb15)
                  replace HTb := Lib.hid (HTb.out.stay hb15)
                  replace HXc := Lib.hid (HXc.out.below hb15)
                  replace HTc := Lib.hid (HTc.out.stay hb15)
                  replace HXx := Lib.hid (HXx.out.below hb15)
                  replace HTx := Lib.hid (HTx.out.stay hb15)
                  replace HXy := Lib.hid (HXy.out.below hb15)
                  replace HTy := Lib.hid (HTy.out.stay hb15)
                  replace HXz := Lib.hid (HXz.out.below hb15)
                  replace HTz := Lib.hid (HTz.out.stay hb15)
                  replace HXp := Lib.hid (HXp.out.below hb15)
                  replace HTp := Lib.hid (HTp.out.stay hb15)
                  replace HXq := Lib.hid (HXq.out.below hb15)
                  replace HTq := Lib.hid (HTq.out.stay hb15)
                  replace HXr := Lib.hid (HXr.out.below hb15)
                  replace HTr := Lib.hid (HTr.out.stay hb15)
                  clear hb15
                  clear CT
                  go_wp2_with fail
                  go_ret
                  exact ⟨rfl, HB.out⟩
                | ok tp =>
                  obtain ⟨kc0, kc1, kc2, _, _⟩ := HXc.out.cells
                  obtain ⟨kx0, kx1, kx2, _, _⟩ := HXx.out.cells
                  have CJ := JN.out _ _ _ _ _ HTx.out HTc.out
                  rw [ep] at CJ
                  go_wp2_with (go_at_call 11; refine CJ.mono ?_; rintro e w12 ⟨hb12, vp, rfl, htp⟩; refine Hid.out ?_)
                  refine Lib.hid ?_
                  clear CJ
                  obtain ⟨p0, p1, p2, p3, p4, p5, p6, rfl⟩ := htp.form
                  clear kc0 kc1 kc2 kx0 kx1 kx2
                  have hsz12 := HB.out.size
                  replace HB := Lib.hid (HB.out.trans (hb12.mono HB.out.size))
                  clear hsz12
                  replace HXa := Lib.hid (HXa.out.below hb12)
                  replace HTa := Lib.hid (HTa.out.stay hb12)
                  replace HXb := Lib.hid (HXb.out.below hb12)
                  replace HTb := Lib.hid (HTb.out.stay hb12)
                  replace HXc := Lib.hid (HXc.out.below hb12)
                  replace HTc := Lib.hid (HTc.out.stay hb12)
                  replace HXx := Lib.hid (HXx.out.below hb12)
                  replace HTx := Lib.hid (HTx.out.stay hb12)
                  replace HXy := Lib.hid (HXy.out.below hb12)
                  replace HTy := Lib.hid (HTy.out.stay hb12)
                  replace HXz := Lib.hid (HXz.out.below hb12)
                  replace HTz := Lib.hid (HTz.out.stay hb12)
                  clear hb12
                  have hx12 := box1 w12 #[.int .i64 p0, .slice p1 p2 p3, .slice p4 p5 p6]
                  have HTp := Lib.hid ((htp.imp (Q := fun _ => True) fun _ _ _ => trivial).stay hx12)
                  clear htp
                  have HXp := Lib.hid (TB.new w12 #[.int .i64 p0, .slice p1 p2 p3, .slice p4 p5 p6])
                  have hsz12 := HB.out.size
                  replace HB := Lib.hid (HB.out.trans (hx12.mono HB.out.size))
                  clear hsz12
                  replace HXa := Lib.hid (HXa.out.below hx12)
                  replace HTa := Lib.hid (HTa.out.stay hx12)
                  replace HXb := Lib.hid (HXb.out.below hx12)
                  replace HTb := Lib.hid (HTb.out.stay hx12)
                  replace HXc := Lib.hid (HXc.out.below hx12)
                  replace HTc := Lib.hid (HTc.out.stay hx12)
                  replace HXx := Lib.hid (HXx.out.below hx12)
                  replace HTx := Lib.hid (HTx.out.stay hx12)
                  replace HXy := Lib.hid (HXy.out.below hx12)
                  replace HTy := Lib.hid (HTy.out.stay hx12)
                  replace HXz := Lib.hid (HXz.out.below hx12)
                  replace HTz := Lib.hid (HTz.out.stay hx12)
                  clear hx12
                  obtain ⟨kb0, kb1, kb2, _, _⟩ := HXb.out.cells
                  obtain ⟨kc0, kc1, kc2, _, _⟩ := HXc.out.cells
                  have CJ := JN.out _ _ _ _ _ HTb.out HTc.out
                  rw [Ebc, eq] at CJ
                  go_wp2_with (go_at_call 11; refine CJ.mono ?_; rintro e w13 ⟨hb13, vq, rfl, htq⟩; refine Hid.out ?_)
                  refine Lib.hid ?_
                  clear CJ
                  obtain ⟨q0, q1, q2, q3, q4, q5, q6, rfl⟩ := htq.form
                  clear kb0 kb1 kb2 kc0 kc1 kc2
                  have hsz13 := HB.out.size
                  replace HB := Lib.hid (HB.out.trans (hb13.mono HB.out.size))
                  clear hsz13
                  replace HXa := Lib.hid (HXa.out.below hb13)
                  replace HTa := Lib.hid (HTa.out.stay hb13)
                  replace HXb := Lib.hid (HXb.out.below hb13)
                  replace HTb := Lib.hid (HTb.out.stay hb13)
                  replace HXc := Lib.hid (HXc.out.below hb13)
                  replace HTc := Lib.hid (HTc.out.stay hb13)
                  replace HXx := Lib.hid (HXx.out.below hb13)
                  replace HTx := Lib.hid (HTx.out.stay hb13)
                  replace HXy := Lib.hid (HXy.out.below hb13)
                  replace HTy := Lib.hid (HTy.out.stay hb13)
                  replace HXz := Lib.hid (HXz.out.below hb13)
                  replace HTz := Lib.hid (HTz.out.stay hb13)
                  replace HXp := Lib.hid (HXp.out.below hb13)
                  replace HTp := Lib.hid (HTp.out.stay hb13)
                  clear hb13
                  have hx13 := box1 w13 #[.int .i64 q0, .slice q1 q2 q3, .slice q4 q5 q6]
                  have HTq := Lib.hid ((htq.imp (Q := fun _ => True) fun _ _ _ => trivial).stay hx13)
                  clear htq
                  have HXq := Lib.hid (TB.new w13 #[.int .i64 q0, .slice q1 q2 q3, .slice q4 q5 q6])
                  have hsz13 := HB.out.size
                  replace HB := Lib.hid (HB.out.trans (hx13.mono HB.out.size))
                  clear hsz13
                  replace HXa := Lib.hid (HXa.out.below hx13)
                  replace HTa := Lib.hid (HTa.out.stay hx13)
                  replace HXb := Lib.hid (HXb.out.below hx13)
                  replace HTb := Lib.hid (HTb.out.stay hx13)
                  replace HXc := Lib.hid (HXc.out.below hx13)
                  replace HTc := Lib.hid (HTc.out.stay hx13)
                  replace HXx := Lib.hid (HXx.out.below hx13)
                  replace HTx := Lib.hid (HTx.out.stay hx13)
                  replace HXy := Lib.hid (HXy.out.below hx13)
                  replace HTy := Lib.hid (HTy.out.stay hx13)
                  replace HXz := Lib.hid (HXz.out.below hx13)
                  replace HTz := Lib.hid (HTz.out.stay hx13)
                  replace HXp := Lib.hid (HXp.out.below hx13)
                  replace HTp := Lib.hid (HTp.out.stay hx13)
                  clear hx13
                  obtain ⟨ka0, ka1, ka2, _, _⟩ := HXa.out.cells
                  obtain ⟨kq0, kq1, kq2, _, _⟩ := HXq.out.cells
                  have CJ := JN.out _ _ _ _ _ HTa.out HTq.out
                  rw [er] at CJ
                  go_wp2_with (go_at_call 11; refine CJ.mono ?_; rintro e w14 ⟨hb14, rfl⟩; refine Hid.out ?_)
                  refine Lib.hid ?_
                  clear CJ
                  clear ka0 ka1 ka2 kq0 kq1 kq2
                  have hsz14 := HB.out.size
                  replace HB := Lib.hid (HB.out.trans (hb14.mono HB.out.size))
                  clear hsz14
                  replace HXa := Lib.hid (HXa.out.below hb14)
                  replace HTa := Lib.hid (HTa.out.stay hb14)
                  replace HXb := Lib.hid (HXb.out.below hb14)
                  replace HTb := Lib.hid (HTb.out.stay hb14)
                  replace HXc := Lib.hid (HXc.out.below hb14)
                  replace HTc := Lib.hid (HTc.out.stay hb14)
                  replace HXx := Lib.hid (HXx.out.below hb14)
                  replace HTx := Lib.hid (HTx.out.stay hb14)
                  replace HXy := Lib.hid (HXy.out.below hb14)
                  replace HTy := Lib.hid (HTy.out.stay hb14)
                  replace HXz := Lib.hid (HXz.out.below hb14)
                  replace HTz := Lib.hid (HTz.out.stay hb14)
                  replace HXp := Lib.hid (HXp.out.below hb14)
                  replace HTp := Lib.hid (HTp.out.stay hb14)
                  replace HXq := Lib.hid (HXq.out.below hb14)
                  replace HTq := Lib.hid (HTq.out.stay hb14)
                  clear hb14
                  have hx14 := box1 w14 #[.int .i64 0, .slice none 0 0, .slice none 0 0]
                  have HTr := Lib.hid ((TW.zero w14 (fun _ => True)).stay hx14)
                  have HXr := Lib.hid (TB.new w14 #[.int .i64 0, .slice none 0 0, .slice none 0 0])
                  have hsz14 := HB.out.size
                  replace HB := Lib.hid (HB.out.trans (hx14.mono HB.out.size))
                  clear hsz14
                  replace HXa := Lib.hid (HXa.out.below hx14)
                  replace HTa := Lib.hid (HTa.out.stay hx14)
                  replace HXb := Lib.hid (HXb.out.below hx14)
                  replace HTb := Lib.hid (HTb.out.stay hx14)
                  replace HXc := Lib.hid (HXc.out.below hx14)
                  replace HTc := Lib.hid (HTc.out.stay hx14)
                  replace HXx := Lib.hid (HXx.out.below hx14)
                  replace HTx := Lib.hid (HTx.out.stay hx14)
                  replace HXy := Lib.hid (HXy.out.below hx14)
                  replace HTy := Lib.hid (HTy.out.stay hx14)
                  replace HXz := Lib.hid (HXz.out.below hx14)
                  replace HTz := Lib.hid (HTz.out.stay hx14)
                  replace HXp := Lib.hid (HXp.out.below hx14)
                  replace HTp := Lib.hid (HTp.out.stay hx14)
                  replace HXq := Lib.hid (HXq.out.below hx14)
                  replace HTq := Lib.hid (HTq.out.stay hx14)
                  clear hx14
                  have CT := TR.out _ _ _ HTq.out
                  rw [ht] at CT
                  obtain ⟨kq0, kq1, kq2, _, _⟩ := HXq.out.cells
                  go_wp2_with (go_at_call 16; refine (CT).mono ?_; rintro e w15 ⟨rfl, hb15⟩; refine Hid.out ?_)
                  refine Lib.hid ?_
                  clear kq0 kq1 kq2
                  have hsz15 := HB.out.size
                  replace HB := Lib.hid (HB.out.trans (hb15.mono HB.out.size))
                  clear hsz15
                  replace HXa := Lib.hid (HXa.out.below hb15)
                  replace HTa := Lib.hid (HTa.out.stay hb15)
                  replace HXb := Lib.hid (HXb.out.below hb15)
                  replace HTb := Lib.hid (HTb.out.stay hb15)
                  replace HXc := Lib.hid (HXc.out.below hb15)
                  replace HTc := Lib.hid (HTc.out.stay hb15)
                  replace HXx := Lib.hid (HXx.out.below hb15)
                  replace HTx := Lib.hid (HTx.out.stay hb15)
                  replace HXy := Lib.hid (HXy.out.below hb15)
                  replace HTy := Lib.hid (HTy.out.stay hb15)
                  replace HXz := Lib.hid (HXz.out.below hb15)
                  replace HTz := Lib.hid (HTz.out.stay hb15)
                  replace HXp := Lib.hid (HXp.out.below hb15)
                  replace HTp := Lib.hid (HTp.out.stay hb15)
                  replace HXq := Lib.hid (HXq.out.below hb15)
                  replace HTq := Lib.hid (HTq.out.stay hb15)
                  replace HXr := Lib.hid (HXr.out.below hb15)
                  replace HTr := Lib.hid (HTr.out.stay hb15)
                  clear hb15
                  clear CT
                  go_wp2_with fail
                  go_ret
                  exact ⟨rfl, HB.out⟩
              | true =>
                have ear := joinR_left Ra ht
                cases hr : joinP ta tq with
                | none =>
                  have ep := Ra.no2 Rb Rc hj hx hq hr
                  have er := joinE_none hr
                  obtain ⟨kc0, kc1, kc2, _, _⟩ := HXc.out.cells
                  obtain ⟨kx0, kx1, kx2, _, _⟩ := HXx.out.cells
                  have CJ := JN.out _ _ _ _ _ HTx.out HTc.out
                  rw [ep] at CJ
                  go_wp2_with (go_at_call 11; refine CJ.mono ?_; rintro e w12 ⟨hb12, rfl⟩; refine Hid.out ?_)
                  refine Lib.hid ?_
                  clear CJ
                  clear kc0 kc1 kc2 kx0 kx1 kx2
                  have hsz12 := HB.out.size
                  replace HB := Lib.hid (HB.out.trans (hb12.mono HB.out.size))
                  clear hsz12
                  replace HXa := Lib.hid (HXa.out.below hb12)
                  replace HTa := Lib.hid (HTa.out.stay hb12)
                  replace HXb := Lib.hid (HXb.out.below hb12)
                  replace HTb := Lib.hid (HTb.out.stay hb12)
                  replace HXc := Lib.hid (HXc.out.below hb12)
                  replace HTc := Lib.hid (HTc.out.stay hb12)
                  replace HXx := Lib.hid (HXx.out.below hb12)
                  replace HTx := Lib.hid (HTx.out.stay hb12)
                  replace HXy := Lib.hid (HXy.out.below hb12)
                  replace HTy := Lib.hid (HTy.out.stay hb12)
                  replace HXz := Lib.hid (HXz.out.below hb12)
                  replace HTz := Lib.hid (HTz.out.stay hb12)
                  clear hb12
                  have hx12 := box1 w12 #[.int .i64 0, .slice none 0 0, .slice none 0 0]
                  have HTp := Lib.hid ((TW.zero w12 (fun _ => True)).stay hx12)
                  have HXp := Lib.hid (TB.new w12 #[.int .i64 0, .slice none 0 0, .slice none 0 0])
                  have hsz12 := HB.out.size
                  replace HB := Lib.hid (HB.out.trans (hx12.mono HB.out.size))
                  clear hsz12
                  replace HXa := Lib.hid (HXa.out.below hx12)
                  replace HTa := Lib.hid (HTa.out.stay hx12)
                  replace HXb := Lib.hid (HXb.out.below hx12)
                  replace HTb := Lib.hid (HTb.out.stay hx12)
                  replace HXc := Lib.hid (HXc.out.below hx12)
                  replace HTc := Lib.hid (HTc.out.stay hx12)
                  replace HXx := Lib.hid (HXx.out.below hx12)
                  replace HTx := Lib.hid (HTx.out.stay hx12)
                  replace HXy := Lib.hid (HXy.out.below hx12)
                  replace HTy := Lib.hid (HTy.out.stay hx12)
                  replace HXz := Lib.hid (HXz.out.below hx12)
                  replace HTz := Lib.hid (HTz.out.stay hx12)
                  clear hx12
                  obtain ⟨kb0, kb1, kb2, _, _⟩ := HXb.out.cells
                  obtain ⟨kc0, kc1, kc2, _, _⟩ := HXc.out.cells
                  have CJ := JN.out _ _ _ _ _ HTb.out HTc.out
                  rw [Ebc, eq] at CJ
                  go_wp2_with (go_at_call 11; refine CJ.mono ?_; rintro e w13 ⟨hb13, vq, rfl, htq⟩; refine Hid.out ?_)
                  refine Lib.hid ?_
                  clear CJ
                  obtain ⟨q0, q1, q2, q3, q4, q5, q6, rfl⟩ := htq.form
                  clear kb0 kb1 kb2 kc0 kc1 kc2
                  have hsz13 := HB.out.size
                  replace HB := Lib.hid (HB.out.trans (hb13.mono HB.out.size))
                  clear hsz13
                  replace HXa := Lib.hid (HXa.out.below hb13)
                  replace HTa := Lib.hid (HTa.out.stay hb13)
                  replace HXb := Lib.hid (HXb.out.below hb13)
                  replace HTb := Lib.hid (HTb.out.stay hb13)
                  replace HXc := Lib.hid (HXc.out.below hb13)
                  replace HTc := Lib.hid (HTc.out.stay hb13)
                  replace HXx := Lib.hid (HXx.out.below hb13)
                  replace HTx := Lib.hid (HTx.out.stay hb13)
                  replace HXy := Lib.hid (HXy.out.below hb13)
                  replace HTy := Lib.hid (HTy.out.stay hb13)
                  replace HXz := Lib.hid (HXz.out.below hb13)
                  replace HTz := Lib.hid (HTz.out.stay hb13)
                  replace HXp := Lib.hid (HXp.out.below hb13)
                  replace HTp := Lib.hid (HTp.out.stay hb13)
                  clear hb13
                  have hx13 := box1 w13 #[.int .i64 q0, .slice q1 q2 q3, .slice q4 q5 q6]
                  have HTq := Lib.hid ((htq.imp (Q := fun _ => True) fun _ _ _ => trivial).stay hx13)
                  clear htq
                  have HXq := Lib.hid (TB.new w13 #[.int .i64 q0, .slice q1 q2 q3, .slice q4 q5 q6])
                  have hsz13 := HB.out.size
                  replace HB := Lib.hid (HB.out.trans (hx13.mono HB.out.size))
                  clear hsz13
                  replace HXa := Lib.hid (HXa.out.below hx13)
                  replace HTa := Lib.hid (HTa.out.stay hx13)
                  replace HXb := Lib.hid (HXb.out.below hx13)
                  replace HTb := Lib.hid (HTb.out.stay hx13)
                  replace HXc := Lib.hid (HXc.out.below hx13)
                  replace HTc := Lib.hid (HTc.out.stay hx13)
                  replace HXx := Lib.hid (HXx.out.below hx13)
                  replace HTx := Lib.hid (HTx.out.stay hx13)
                  replace HXy := Lib.hid (HXy.out.below hx13)
                  replace HTy := Lib.hid (HTy.out.stay hx13)
                  replace HXz := Lib.hid (HXz.out.below hx13)
                  replace HTz := Lib.hid (HTz.out.stay hx13)
                  replace HXp := Lib.hid (HXp.out.below hx13)
                  replace HTp := Lib.hid (HTp.out.stay hx13)
                  clear hx13
                  obtain ⟨ka0, ka1, ka2, _, _⟩ := HXa.out.cells
                  obtain ⟨kq0, kq1, kq2, _, _⟩ := HXq.out.cells
                  have CJ := JN.out _ _ _ _ _ HTa.out HTq.out
                  rw [ear, er] at CJ
                  go_wp2_with (go_at_call 11; refine CJ.mono ?_; rintro e w14 ⟨hb14, rfl⟩; refine Hid.out ?_)
                  refine Lib.hid ?_
                  clear CJ
                  clear ka0 ka1 ka2 kq0 kq1 kq2
                  have hsz14 := HB.out.size
                  replace HB := Lib.hid (HB.out.trans (hb14.mono HB.out.size))
                  clear hsz14
                  replace HXa := Lib.hid (HXa.out.below hb14)
                  replace HTa := Lib.hid (HTa.out.stay hb14)
                  replace HXb := Lib.hid (HXb.out.below hb14)
                  replace HTb := Lib.hid (HTb.out.stay hb14)
                  replace HXc := Lib.hid (HXc.out.below hb14)
                  replace HTc := Lib.hid (HTc.out.stay hb14)
                  replace HXx := Lib.hid (HXx.out.below hb14)
                  replace HTx := Lib.hid (HTx.out.stay hb14)
                  replace HXy := Lib.hid (HXy.out.below hb14)
                  replace HTy := Lib.hid (HTy.out.stay hb14)
                  replace HXz := Lib.hid (HXz.out.below hb14)
                  replace HTz := Lib.hid (HTz.out.stay hb14)
                  replace HXp := Lib.hid (HXp.out.below hb14)
                  replace HTp := Lib.hid (HTp.out.stay hb14)
                  replace HXq := Lib.hid (HXq.out.below hb14)
                  replace HTq := Lib.hid (HTq.out.stay hb14)
                  clear hb14
                  have hx14 := box1 w14 #[.int .i64 0, .slice none 0 0, .slice none 0 0]
                  have HTr := Lib.hid ((TW.zero w14 (fun _ => True)).stay hx14)
                  have HXr := Lib.hid (TB.new w14 #[.int .i64 0, .slice none 0 0, .slice none 0 0])
                  have hsz14 := HB.out.size
                  replace HB := Lib.hid (HB.out.trans (hx14.mono HB.out.size))
                  clear hsz14
                  replace HXa := Lib.hid (HXa.out.below hx14)
                  replace HTa := Lib.hid (HTa.out.stay hx14)
                  replace HXb := Lib.hid (HXb.out.below hx14)
                  replace HTb := Lib.hid (HTb.out.stay hx14)
                  replace HXc := Lib.hid (HXc.out.below hx14)
                  replace HTc := Lib.hid (HTc.out.stay hx14)
                  replace HXx := Lib.hid (HXx.out.below hx14)
                  replace HTx := Lib.hid (HTx.out.stay hx14)
                  replace HXy := Lib.hid (HXy.out.below hx14)
                  replace HTy := Lib.hid (HTy.out.stay hx14)
                  replace HXz := Lib.hid (HXz.out.below hx14)
                  replace HTz := Lib.hid (HTz.out.stay hx14)
                  replace HXp := Lib.hid (HXp.out.below hx14)
                  replace HTp := Lib.hid (HTp.out.stay hx14)
                  replace HXq := Lib.hid (HXq.out.below hx14)
                  replace HTq := Lib.hid (HTq.out.stay hx14)
                  clear hx14
                  have CT := TR.out _ _ _ HTq.out
                  rw [ht] at CT
                  obtain ⟨kq0, kq1, kq2, _, _⟩ := HXq.out.cells
                  go_wp2_with (go_at_call 16; refine (CT).mono ?_; rintro e w15 ⟨rfl, hb15⟩; refine Hid.out ?_)
                  refine Lib.hid ?_
                  clear kq0 kq1 kq2
                  have hsz15 := HB.out.size
                  replace HB := Lib.hid (HB.out.trans (hb15.mono HB.out.size))
                  clear hsz15
                  replace HXa := Lib.hid (HXa.out.below hb15)
                  replace HTa := Lib.hid (HTa.out.stay hb15)
                  replace HXb := Lib.hid (HXb.out.below hb15)
                  replace HTb := Lib.hid (HTb.out.stay hb15)
                  replace HXc := Lib.hid (HXc.out.below hb15)
                  replace HTc := Lib.hid (HTc.out.stay hb15)
                  replace HXx := Lib.hid (HXx.out.below hb15)
                  replace HTx := Lib.hid (HTx.out.stay hb15)
                  replace HXy := Lib.hid (HXy.out.below hb15)
                  replace HTy := Lib.hid (HTy.out.stay hb15)
                  replace HXz := Lib.hid (HXz.out.below hb15)
                  replace HTz := Lib.hid (HTz.out.stay hb15)
                  replace HXp := Lib.hid (HXp.out.below hb15)
                  replace HTp := Lib.hid (HTp.out.stay hb15)
                  replace HXq := Lib.hid (HXq.out.below hb15)
                  replace HTq := Lib.hid (HTq.out.stay hb15)
                  replace HXr := Lib.hid (HXr.out.below hb15)
                  replace HTr := Lib.hid (HTr.out.stay hb15)
                  clear hb15
                  clear CT
                  have CI := IS.out _ _ _ _ _ HTa.out HTx.out
                  rw [Iax] at CI
                  obtain ⟨ka0, ka1, ka2, _, _⟩ := HXa.out.cells
                  obtain ⟨kx0, kx1, kx2, _, _⟩ := HXx.out.cells
                  go_wp2_with (go_at_call 14; refine (CI).mono ?_; rintro e w16 ⟨rfl, hb16⟩; refine Hid.out ?_)
                  refine Lib.hid ?_
                  clear ka0 ka1 ka2 kx0 kx1 kx2
                  have hsz16 := HB.out.size
                  replace HB := Lib.hid (HB.out.trans (hb16.mono HB.out.size))
                  clear hsz16
                  replace HXa := Lib.hid (HXa.out.below hb16)
                  replace HTa := Lib.hid (HTa.out.stay hb16)
                  replace HXb := Lib.hid (HXb.out.below hb16)
                  replace HTb := Lib.hid (HTb.out.stay hb16)
                  replace HXc := Lib.hid (HXc.out.below hb16)
                  replace HTc := Lib.hid (HTc.out.stay hb16)
                  replace HXx := Lib.hid (HXx.out.below hb16)
                  replace HTx := Lib.hid (HTx.out.stay hb16)
                  replace HXy := Lib.hid (HXy.out.below hb16)
                  replace HTy := Lib.hid (HTy.out.stay hb16)
                  replace HXz := Lib.hid (HXz.out.below hb16)
                  replace HTz := Lib.hid (HTz.out.stay hb16)
                  replace HXp := Lib.hid (HXp.out.below hb16)
                  replace HTp := Lib.hid (HTp.out.stay hb16)
                  replace HXq := Lib.hid (HXq.out.below hb16)
                  replace HTq := Lib.hid (HTq.out.stay hb16)
                  replace HXr := Lib.hid (HXr.out.below hb16)
                  replace HTr := Lib.hid (HTr.out.stay hb16)
                  clear hb16
                  clear CI
                  have CI := IS.out _ _ _ _ _ HTb.out HTx.out
                  rw [Ibx] at CI
                  obtain ⟨kb0, kb1, kb2, _, _⟩ := HXb.out.cells
                  obtain ⟨kx0, kx1, kx2, _, _⟩ := HXx.out.cells
                  go_wp2_with (go_at_call 14; refine (CI).mono ?_; rintro e w17 ⟨rfl, hb17⟩; refine Hid.out ?_)
                  refine Lib.hid ?_
                  clear kb0 kb1 kb2 kx0 kx1 kx2
                  have hsz17 := HB.out.size
                  replace HB := Lib.hid (HB.out.trans (hb17.mono HB.out.size))
                  clear hsz17
                  replace HXa := Lib.hid (HXa.out.below hb17)
                  replace HTa := Lib.hid (HTa.out.stay hb17)
                  replace HXb := Lib.hid (HXb.out.below hb17)
                  replace HTb := Lib.hid (HTb.out.stay hb17)
                  replace HXc := Lib.hid (HXc.out.below hb17)
                  replace HTc := Lib.hid (HTc.out.stay hb17)
                  replace HXx := Lib.hid (HXx.out.below hb17)
                  replace HTx := Lib.hid (HTx.out.stay hb17)
                  replace HXy := Lib.hid (HXy.out.below hb17)
                  replace HTy := Lib.hid (HTy.out.stay hb17)
                  replace HXz := Lib.hid (HXz.out.below hb17)
                  replace HTz := Lib.hid (HTz.out.stay hb17)
                  replace HXp := Lib.hid (HXp.out.below hb17)
                  replace HTp := Lib.hid (HTp.out.stay hb17)
                  replace HXq := Lib.hid (HXq.out.below hb17)
                  replace HTq := Lib.hid (HTq.out.stay hb17)
                  replace HXr := Lib.hid (HXr.out.below hb17)
                  replace HTr := Lib.hid (HTr.out.stay hb17)
                  clear hb17
                  clear CI
                  go_wp2_with fail
                  go_ret
                  exact ⟨rfl, HB.out⟩
                | some tr =>
                  obtain ⟨tp, ep, Spr⟩ := Ra.yes Rb Rc hj hx hq hr
                  have er := joinE_some hr
                  obtain ⟨kc0, kc1, kc2, _, _⟩ := HXc.out.cells
                  obtain ⟨kx0, kx1, kx2, _, _⟩ := HXx.out.cells
                  have CJ := JN.out _ _ _ _ _ HTx.out HTc.out
                  rw [ep] at CJ
                  go_wp2_with (go_at_call 11; refine CJ.mono ?_; rintro e w12 ⟨hb12, vp, rfl, htp⟩; refine Hid.out ?_)
                  refine Lib.hid ?_
                  clear CJ
                  obtain ⟨p0, p1, p2, p3, p4, p5, p6, rfl⟩ := htp.form
                  clear kc0 kc1 kc2 kx0 kx1 kx2
                  have hsz12 := HB.out.size
                  replace HB := Lib.hid (HB.out.trans (hb12.mono HB.out.size))
                  clear hsz12
                  replace HXa := Lib.hid (HXa.out.below hb12)
                  replace HTa := Lib.hid (HTa.out.stay hb12)
                  replace HXb := Lib.hid (HXb.out.below hb12)
                  replace HTb := Lib.hid (HTb.out.stay hb12)
                  replace HXc := Lib.hid (HXc.out.below hb12)
                  replace HTc := Lib.hid (HTc.out.stay hb12)
                  replace HXx := Lib.hid (HXx.out.below hb12)
                  replace HTx := Lib.hid (HTx.out.stay hb12)
                  replace HXy := Lib.hid (HXy.out.below hb12)
                  replace HTy := Lib.hid (HTy.out.stay hb12)
                  replace HXz := Lib.hid (HXz.out.below hb12)
                  replace HTz := Lib.hid (HTz.out.stay hb12)
                  clear hb12
                  have hx12 := box1 w12 #[.int .i64 p0, .slice p1 p2 p3, .slice p4 p5 p6]
                  have HTp := Lib.hid ((htp.imp (Q := fun _ => True) fun _ _ _ => trivial).stay hx12)
                  clear htp
                  have HXp := Lib.hid (TB.new w12 #[.int .i64 p0, .slice p1 p2 p3, .slice p4 p5 p6])
                  have hsz12 := HB.out.size
                  replace HB := Lib.hid (HB.out.trans (hx12.mono HB.out.size))
                  clear hsz12
                  replace HXa := Lib.hid (HXa.out.below hx12)
                  replace HTa := Lib.hid (HTa.out.stay hx12)
                  replace HXb := Lib.hid (HXb.out.below hx12)
                  replace HTb := Lib.hid (HTb.out.stay hx12)
                  replace HXc := Lib.hid (HXc.out.below hx12)
                  replace HTc := Lib.hid (HTc.out.stay hx12)
                  replace HXx := Lib.hid (HXx.out.below hx12)
                  replace HTx := Lib.hid (HTx.out.stay hx12)
                  replace HXy := Lib.hid (HXy.out.below hx12)
                  replace HTy := Lib.hid (HTy.out.stay hx12)
                  replace HXz := Lib.hid (HXz.out.below hx12)
                  replace HTz := Lib.hid (HTz.out.stay hx12)
                  clear hx12
                  obtain ⟨kb0, kb1, kb2, _, _⟩ := HXb.out.cells
                  obtain ⟨kc0, kc1, kc2, _, _⟩ := HXc.out.cells
                  have CJ := JN.out _ _ _ _ _ HTb.out HTc.out
                  rw [Ebc, eq] at CJ
                  go_wp2_with (go_at_call 11; refine CJ.mono ?_; rintro e w13 ⟨hb13, vq, rfl, htq⟩; refine Hid.out ?_)
                  refine Lib.hid ?_
                  clear CJ
                  obtain ⟨q0, q1, q2, q3, q4, q5, q6, rfl⟩ := htq.form
                  clear kb0 kb1 kb2 kc0 kc1 kc2
                  have hsz13 := HB.out.size
                  replace HB := Lib.hid (HB.out.trans (hb13.mono HB.out.size))
                  clear hsz13
                  replace HXa := Lib.hid (HXa.out.below hb13)
                  replace HTa := Lib.hid (HTa.out.stay hb13)
                  replace HXb := Lib.hid (HXb.out.below hb13)
                  replace HTb := Lib.hid (HTb.out.stay hb13)
                  replace HXc := Lib.hid (HXc.out.below hb13)
                  replace HTc := Lib.hid (HTc.out.stay hb13)
                  replace HXx := Lib.hid (HXx.out.below hb13)
                  replace HTx := Lib.hid (HTx.out.stay hb13)
                  replace HXy := Lib.hid (HXy.out.below hb13)
                  replace HTy := Lib.hid (HTy.out.stay hb13)
                  replace HXz := Lib.hid (HXz.out.below hb13)
                  replace HTz := Lib.hid (HTz.out.stay hb13)
                  replace HXp := Lib.hid (HXp.out.below hb13)
                  replace HTp := Lib.hid (HTp.out.stay hb13)
                  clear hb13
                  have hx13 := box1 w13 #[.int .i64 q0, .slice q1 q2 q3, .slice q4 q5 q6]
                  have HTq := Lib.hid ((htq.imp (Q := fun _ => True) fun _ _ _ => trivial).stay hx13)
                  clear htq
                  have HXq := Lib.hid (TB.new w13 #[.int .i64 q0, .slice q1 q2 q3, .slice q4 q5 q6])
                  have hsz13 := HB.out.size
                  replace HB := Lib.hid (HB.out.trans (hx13.mono HB.out.size))
                  clear hsz13
                  replace HXa := Lib.hid (HXa.out.below hx13)
                  replace HTa := Lib.hid (HTa.out.stay hx13)
                  replace HXb := Lib.hid (HXb.out.below hx13)
                  replace HTb := Lib.hid (HTb.out.stay hx13)
                  replace HXc := Lib.hid (HXc.out.below hx13)
                  replace HTc := Lib.hid (HTc.out.stay hx13)
                  replace HXx := Lib.hid (HXx.out.below hx13)
                  replace HTx := Lib.hid (HTx.out.stay hx13)
                  replace HXy := Lib.hid (HXy.out.below hx13)
                  replace HTy := Lib.hid (HTy.out.stay hx13)
                  replace HXz := Lib.hid (HXz.out.below hx13)
                  replace HTz := Lib.hid (HTz.out.stay hx13)
                  replace HXp := Lib.hid (HXp.out.below hx13)
                  replace HTp := Lib.hid (HTp.out.stay hx13)
                  clear hx13
                  obtain ⟨ka0, ka1, ka2, _, _⟩ := HXa.out.cells
                  obtain ⟨kq0, kq1, kq2, _, _⟩ := HXq.out.cells
                  have CJ := JN.out _ _ _ _ _ HTa.out HTq.out
                  rw [ear, er] at CJ
                  go_wp2_with (go_at_call 11; refine CJ.mono ?_; rintro e w14 ⟨hb14, vr, rfl, htr⟩; refine Hid.out ?_)
                  refine Lib.hid ?_
                  clear CJ
                  obtain ⟨r0, r1, r2, r3, r4, r5, r6, rfl⟩ := htr.form
                  clear ka0 ka1 ka2 kq0 kq1 kq2
                  have hsz14 := HB.out.size
                  replace HB := Lib.hid (HB.out.trans (hb14.mono HB.out.size))
                  clear hsz14
                  replace HXa := Lib.hid (HXa.out.below hb14)
                  replace HTa := Lib.hid (HTa.out.stay hb14)
                  replace HXb := Lib.hid (HXb.out.below hb14)
                  replace HTb := Lib.hid (HTb.out.stay hb14)
                  replace HXc := Lib.hid (HXc.out.below hb14)
                  replace HTc := Lib.hid (HTc.out.stay hb14)
                  replace HXx := Lib.hid (HXx.out.below hb14)
                  replace HTx := Lib.hid (HTx.out.stay hb14)
                  replace HXy := Lib.hid (HXy.out.below hb14)
                  replace HTy := Lib.hid (HTy.out.stay hb14)
                  replace HXz := Lib.hid (HXz.out.below hb14)
                  replace HTz := Lib.hid (HTz.out.stay hb14)
                  replace HXp := Lib.hid (HXp.out.below hb14)
                  replace HTp := Lib.hid (HTp.out.stay hb14)
                  replace HXq := Lib.hid (HXq.out.below hb14)
                  replace HTq := Lib.hid (HTq.out.stay hb14)
                  clear hb14
                  have hx14 := box1 w14 #[.int .i64 r0, .slice r1 r2 r3, .slice r4 r5 r6]
                  have HTr := Lib.hid ((htr.imp (Q := fun _ => True) fun _ _ _ => trivial).stay hx14)
                  clear htr
                  have HXr := Lib.hid (TB.new w14 #[.int .i64 r0, .slice r1 r2 r3, .slice r4 r5 r6])
                  have hsz14 := HB.out.size
                  replace HB := Lib.hid (HB.out.trans (hx14.mono HB.out.size))
                  clear hsz14
                  replace HXa := Lib.hid (HXa.out.below hx14)
                  replace HTa := Lib.hid (HTa.out.stay hx14)
                  replace HXb := Lib.hid (HXb.out.below hx14)
                  replace HTb := Lib.hid (HTb.out.stay hx14)
                  replace HXc := Lib.hid (HXc.out.below hx14)
                  replace HTc := Lib.hid (HTc.out.stay hx14)
                  replace HXx := Lib.hid (HXx.out.below hx14)
                  replace HTx := Lib.hid (HTx.out.stay hx14)
                  replace HXy := Lib.hid (HXy.out.below hx14)
                  replace HTy := Lib.hid (HTy.out.stay hx14)
                  replace HXz := Lib.hid (HXz.out.below hx14)
                  replace HTz := Lib.hid (HTz.out.stay hx14)
                  replace HXp := Lib.hid (HXp.out.below hx14)
                  replace HTp := Lib.hid (HTp.out.stay hx14)
                  replace HXq := Lib.hid (HXq.out.below hx14)
                  replace HTq := Lib.hid (HTq.out.stay hx14)
                  clear hx14
                  have CT := TR.out _ _ _ HTq.out
                  rw [ht] at CT
                  obtain ⟨kq0, kq1, kq2, _, _⟩ := HXq.out.cells
                  go_wp2_with (go_at_call 16; refine (CT).mono ?_; rintro e w15 ⟨rfl, hb15⟩; refine Hid.out ?_)
                  refine Lib.hid ?_
                  clear kq0 kq1 kq2
                  have hsz15 := HB.out.size
                  replace HB := Lib.hid (HB.out.trans (hb15.mono HB.out.size))
                  clear hsz15
                  replace HXa := Lib.hid (HXa.out.below hb15)
                  replace HTa := Lib.hid (HTa.out.stay hb15)
                  replace HXb := Lib.hid (HXb.out.below hb15)
                  replace HTb := Lib.hid (HTb.out.stay hb15)
                  replace HXc := Lib.hid (HXc.out.below hb15)
                  replace HTc := Lib.hid (HTc.out.stay hb15)
                  replace HXx := Lib.hid (HXx.out.below hb15)
                  replace HTx := Lib.hid (HTx.out.stay hb15)
                  replace HXy := Lib.hid (HXy.out.below hb15)
                  replace HTy := Lib.hid (HTy.out.stay hb15)
                  replace HXz := Lib.hid (HXz.out.below hb15)
                  replace HTz := Lib.hid (HTz.out.stay hb15)
                  replace HXp := Lib.hid (HXp.out.below hb15)
                  replace HTp := Lib.hid (HTp.out.stay hb15)
                  replace HXq := Lib.hid (HXq.out.below hb15)
                  replace HTq := Lib.hid (HTq.out.stay hb15)
                  replace HXr := Lib.hid (HXr.out.below hb15)
                  replace HTr := Lib.hid (HTr.out.stay hb15)
                  clear hb15
                  clear CT
                  have CI := IS.out _ _ _ _ _ HTa.out HTx.out
                  rw [Iax] at CI
                  obtain ⟨ka0, ka1, ka2, _, _⟩ := HXa.out.cells
                  obtain ⟨kx0, kx1, kx2, _, _⟩ := HXx.out.cells
                  go_wp2_with (go_at_call 14; refine (CI).mono ?_; rintro e w16 ⟨rfl, hb16⟩; refine Hid.out ?_)
                  refine Lib.hid ?_
                  clear ka0 ka1 ka2 kx0 kx1 kx2
                  have hsz16 := HB.out.size
                  replace HB := Lib.hid (HB.out.trans (hb16.mono HB.out.size))
                  clear hsz16
                  replace HXa := Lib.hid (HXa.out.below hb16)
                  replace HTa := Lib.hid (HTa.out.stay hb16)
                  replace HXb := Lib.hid (HXb.out.below hb16)
                  replace HTb := Lib.hid (HTb.out.stay hb16)
                  replace HXc := Lib.hid (HXc.out.below hb16)
                  replace HTc := Lib.hid (HTc.out.stay hb16)
                  replace HXx := Lib.hid (HXx.out.below hb16)
                  replace HTx := Lib.hid (HTx.out.stay hb16)
                  replace HXy := Lib.hid (HXy.out.below hb16)
                  replace HTy := Lib.hid (HTy.out.stay hb16)
                  replace HXz := Lib.hid (HXz.out.below hb16)
                  replace HTz := Lib.hid (HTz.out.stay hb16)
                  replace HXp := Lib.hid (HXp.out.below hb16)
                  replace HTp := Lib.hid (HTp.out.stay hb16)
                  replace HXq := Lib.hid (HXq.out.below hb16)
                  replace HTq := Lib.hid (HTq.out.stay hb16)
                  replace HXr := Lib.hid (HXr.out.below hb16)
                  replace HTr := Lib.hid (HTr.out.stay hb16)
                  clear hb16
                  clear CI
                  have CI := IS.out _ _ _ _ _ HTb.out HTx.out
                  rw [Ibx] at CI
                  obtain ⟨kb0, kb1, kb2, _, _⟩ := HXb.out.cells
                  obtain ⟨kx0, kx1, kx2, _, _⟩ := HXx.out.cells
                  go_wp2_with (go_at_call 14; refine (CI).mono ?_; rintro e w17 ⟨rfl, hb17⟩; refine Hid.out ?_)
                  refine Lib.hid ?_
                  clear kb0 kb1 kb2 kx0 kx1 kx2
                  have hsz17 := HB.out.size
                  replace HB := Lib.hid (HB.out.trans (hb17.mono HB.out.size))
                  clear hsz17
                  replace HXa := Lib.hid (HXa.out.below hb17)
                  replace HTa := Lib.hid (HTa.out.stay hb17)
                  replace HXb := Lib.hid (HXb.out.below hb17)
                  replace HTb := Lib.hid (HTb.out.stay hb17)
                  replace HXc := Lib.hid (HXc.out.below hb17)
                  replace HTc := Lib.hid (HTc.out.stay hb17)
                  replace HXx := Lib.hid (HXx.out.below hb17)
                  replace HTx := Lib.hid (HTx.out.stay hb17)
                  replace HXy := Lib.hid (HXy.out.below hb17)
                  replace HTy := Lib.hid (HTy.out.stay hb17)
                  replace HXz := Lib.hid (HXz.out.below hb17)
                  replace HTz := Lib.hid (HTz.out.stay hb17)
                  replace HXp := Lib.hid (HXp.out.below hb17)
                  replace HTp := Lib.hid (HTp.out.stay hb17)
                  replace HXq := Lib.hid (HXq.out.below hb17)
                  replace HTq := Lib.hid (HTq.out.stay hb17)
                  replace HXr := Lib.hid (HXr.out.below hb17)
                  replace HTr := Lib.hid (HTr.out.stay hb17)
                  clear hb17
                  clear CI
                  have CS := SM.out _ _ _ _ _ HTp.out HTr.out
                  rw [Spr] at CS
                  obtain ⟨kp0, kp1, kp2, _, _⟩ := HXp.out.cells
                  obtain ⟨kr0, kr1, kr2, _, _⟩ := HXr.out.cells
                  go_wp2_with (go_at_call 12; refine (CS).mono ?_; rintro e w18 ⟨rfl, hb18⟩; refine Hid.out ?_)
                  refine Lib.hid ?_
                  clear kp0 kp1 kp2 kr0 kr1 kr2
                  have hsz18 := HB.out.size
                  replace HB := Lib.hid (HB.out.trans (hb18.mono HB.out.size))
                  clear hsz18
                  replace HXa := Lib.hid (HXa.out.below hb18)
                  replace HTa := Lib.hid (HTa.out.stay hb18)
                  replace HXb := Lib.hid (HXb.out.below hb18)
                  replace HTb := Lib.hid (HTb.out.stay hb18)
                  replace HXc := Lib.hid (HXc.out.below hb18)
                  replace HTc := Lib.hid (HTc.out.stay hb18)
                  replace HXx := Lib.hid (HXx.out.below hb18)
                  replace HTx := Lib.hid (HTx.out.stay hb18)
                  replace HXy := Lib.hid (HXy.out.below hb18)
                  replace HTy := Lib.hid (HTy.out.stay hb18)
                  replace HXz := Lib.hid (HXz.out.below hb18)
                  replace HTz := Lib.hid (HTz.out.stay hb18)
                  replace HXp := Lib.hid (HXp.out.below hb18)
                  replace HTp := Lib.hid (HTp.out.stay hb18)
                  replace HXq := Lib.hid (HXq.out.below hb18)
                  replace HTq := Lib.hid (HTq.out.stay hb18)
                  replace HXr := Lib.hid (HXr.out.below hb18)
                  replace HTr := Lib.hid (HTr.out.stay hb18)
                  clear hb18
                  clear CS
                  go_wp2_with fail
                  go_ret
                  exact ⟨rfl, HB.out⟩
end Go.Proofs.YtcmohggnehkjeaaGreat.typesLaws

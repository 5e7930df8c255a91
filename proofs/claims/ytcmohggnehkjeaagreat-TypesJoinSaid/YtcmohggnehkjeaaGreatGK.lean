/-
  Plain: joinP's algebra.
  Plain: three joins put together.
  Plain: what TypesLaws asks of right types.
  What the document's Join gathers: names and items, each in a row of the call's own.
  The document's Join, of any two types that are like right ones.
  The document's SameType, of any two types.
  The document's Is.
  Law 9's TypesJoin: the walk.
-/
import Derived.Test.YtcmohggnehkjeaaGreatGH
import Derived.Deep.AppendLies
import Derived.Deep.Cut
import Derived.Deep.CutRange
import Derived.Test.YtcmohggnehkjeaaGreatGI
namespace Go.Proofs.YtcmohggnehkjeaaGreat
open Go.RowKit

theorem sameB_iff {k c m k' c' m'} {ns ns' : Nat → ByteArray} {xs xs' : Nat → TT} : sameB (.mk k c ns m xs) (.mk k' c' ns' m' xs') = true ↔ k = k' ∧ nmEq c c' ns ns' = true ∧ m = m' ∧ ∀ i, i < m → sameB (xs i) (xs' i) = true := by
  rw [sameB]
  simp only [Bool.and_eq_true, decide_eq_true_eq, all_range]
  constructor
  · rintro ⟨⟨h1, h2⟩, h3, h4⟩; exact ⟨h1, h2, h3, h4⟩
  · rintro ⟨h1, h2, h3, h4⟩; exact ⟨⟨h1, h2⟩, h3, h4⟩
theorem sameB_refl : ∀ (t : TT), tfew t → sameB t t = true := by
  intro t
  induction t with
  | bad => intro h; exact h.elim
  | mk k c ns m xs ih =>
    intro h
    exact sameB_iff.2 ⟨rfl, nmEq_iff.2 ⟨rfl, fun _ _ => rfl⟩, rfl, fun i hi => ih i (h.2.2.2 i hi)⟩
theorem sameB_symm : ∀ (t u : TT), sameB t u = true → sameB u t = true := by
  intro t
  induction t with
  | bad => intro u h; rw [sameB] at h; cases h
  | mk k c ns m xs ih =>
    intro u h
    cases u with
    | bad => rw [sameB] at h; cases h
    | mk k' c' ns' m' xs' =>
      obtain ⟨rfl, h2, rfl, h4⟩ := sameB_iff.1 h
      obtain ⟨rfl, hn⟩ := nmEq_iff.1 h2
      exact sameB_iff.2 ⟨rfl, nmEq_iff.2 ⟨rfl, fun i hi => (hn i hi).symm⟩, rfl, fun i hi => ih i _ (h4 i hi)⟩
theorem sameB_trans : ∀ (t u v : TT), sameB t u = true → sameB u v = true → sameB t v = true := by
  intro t
  induction t with
  | bad => intro u v h; rw [sameB] at h; cases h
  | mk k c ns m xs ih =>
    intro u v h g
    cases u with
    | bad => rw [sameB] at h; cases h
    | mk k' c' ns' m' xs' =>
      cases v with
      | bad => rw [sameB] at g; cases g
      | mk k'' c'' ns'' m'' xs'' =>
        obtain ⟨rfl, h2, rfl, h4⟩ := sameB_iff.1 h
        obtain ⟨rfl, hn⟩ := nmEq_iff.1 h2
        obtain ⟨rfl, g2, rfl, g4⟩ := sameB_iff.1 g
        obtain ⟨rfl, gn⟩ := nmEq_iff.1 g2
        exact sameB_iff.2 ⟨rfl, nmEq_iff.2 ⟨rfl, fun i hi => (hn i hi).trans (gn i hi)⟩, rfl, fun i hi => ih i _ _ (h4 i hi) (g4 i hi)⟩
/-- What a join is: the one, the other, or item by item. -/
theorem join_cases {k c m k' c' m'} {ns ns' : Nat → ByteArray} {xs xs' : Nat → TT} {t : TT} : joinP (.mk k c ns m xs) (.mk k' c' ns' m' xs') = some t ↔
    (k = 7 ∧ t = .mk k' c' ns' m' xs') ∨ (k ≠ 7 ∧ k' = 7 ∧ t = .mk k c ns m xs) ∨ (k ≠ 7 ∧ k' ≠ 7 ∧ k = k' ∧ nmEq c c' ns ns' = true ∧ (∀ i, i < m → (joinP (xs i) (xs' i)).isSome = true) ∧ t = .mk k c ns m (fun i => (joinP (xs i) (xs' i)).getD .bad)) := by
  simp only [joinP]
  by_cases h7 : k = 7
  · rw [if_pos h7]
    constructor
    · intro h; cases h; exact .inl ⟨h7, rfl⟩
    · rintro (⟨_, rfl⟩ | ⟨h, _⟩ | ⟨h, _⟩)
      · rfl
      · exact absurd h7 h
      · exact absurd h7 h
  · rw [if_neg h7]
    by_cases h7' : k' = 7
    · rw [if_pos h7']
      constructor
      · intro h; cases h; exact .inr (.inl ⟨h7, h7', rfl⟩)
      · rintro (⟨h, _⟩ | ⟨_, _, rfl⟩ | ⟨_, h, _⟩)
        · exact absurd h h7
        · rfl
        · exact absurd h7' h
    · rw [if_neg h7']
      by_cases hk : k = k' ∧ nmEq c c' ns ns' = true
      · rw [if_pos hk]
        by_cases ha : (List.range m).all (fun i => (joinP (xs i) (xs' i)).isSome) = true
        · rw [if_pos ha]
          constructor
          · intro h; cases h; exact .inr (.inr ⟨h7, h7', hk.1, hk.2, all_range.1 ha, rfl⟩)
          · rintro (⟨h, _⟩ | ⟨_, h, _⟩ | ⟨_, _, _, _, _, rfl⟩)
            · exact absurd h h7
            · exact absurd h h7'
            · rfl
        · rw [if_neg ha]
          constructor
          · intro h; cases h
          · rintro (⟨h, _⟩ | ⟨_, h, _⟩ | ⟨_, _, _, _, h, _⟩)
            · exact absurd h h7
            · exact absurd h h7'
            · exact absurd (all_range.2 h) ha
      · rw [if_neg hk]
        constructor
        · intro h; cases h
        · rintro (⟨h, _⟩ | ⟨_, h, _⟩ | ⟨_, _, h1, h2, _⟩)
          · exact absurd h h7
          · exact absurd h h7'
          · exact absurd ⟨h1, h2⟩ hk
theorem shp_same {k : Int} {c c' m m' : Nat} (h : m = if k = 5 then 1 else if k = 6 then c else 0) (h' : m' = if k = 5 then 1 else if k = 6 then c' else 0) (hc : c = c') : m = m' := by
  rw [h, h', hc]
/-- Names are a record's alone. -/
def noNm : TT → Prop
  | .bad => True
  | .mk k c _ m xs => (k = 6 ∨ c = 0) ∧ ∀ i, i < m → noNm (xs i)
theorem right_noNm : ∀ (t : TT) (far : Int), trightV t far = true → noNm t := by
  intro t
  induction t with
  | bad => intro far _; trivial
  | mk k c ns m xs ih =>
    intro far h
    rw [trightV, Bool.and_eq_true] at h
    by_cases hk : k = 5 ∨ k = 6
    · rw [if_pos hk, Bool.and_eq_true] at h
      refine ⟨?_, fun i hi => ih i _ (all_range.1 h.2.2 i hi)⟩
      rcases hk with h5 | h6
      · have hh := h.2.1
        unfold theadB at hh
        rw [if_pos h5, Bool.and_eq_true, decide_eq_true_eq, decide_eq_true_eq] at hh
        exact .inr hh.2
      · exact .inl h6
    · rw [if_neg hk] at h
      have h2 := h.2
      unfold tplainB at h2
      simp only [Bool.and_eq_true, decide_eq_true_eq] at h2
      obtain ⟨_, _, rfl, rfl⟩ := h2
      exact ⟨.inr rfl, fun i hi => absurd hi (Nat.not_lt_zero i)⟩
/-- In either order. -/
theorem join_comm : ∀ (a b t : TT), shp a → shp b → tfew a → tfew b → noNm a → noNm b → joinP a b = some t → ∃ u, joinP b a = some u ∧ sameB t u = true := by
  intro a
  induction a with
  | bad => intro b t _ _ _ _ _ _ h; rw [joinP] at h; cases h
  | mk k c ns m xs ih =>
    intro b t sa sb fa fb na nb h
    cases b with
    | bad => simp only [joinP] at h; cases h
    | mk k' c' ns' m' xs' =>
      rcases join_cases.1 h with ⟨h7, rfl⟩ | ⟨h7, h7', rfl⟩ | ⟨h7, h7', rfl, hn, ha, rfl⟩
      · by_cases h7' : k' = 7
        · refine ⟨_, join_cases.2 (.inl ⟨h7', rfl⟩), ?_⟩
          subst h7 h7'
          have hc : c = 0 := na.1.resolve_left (by decide)
          have hc' : c' = 0 := nb.1.resolve_left (by decide)
          have hm : m = 0 := by have := sa.1; simpa using this
          have hm' : m' = 0 := by have := sb.1; simpa using this
          subst hc hc' hm hm'
          exact sameB_iff.2 ⟨rfl, nmEq_iff.2 ⟨rfl, fun i hi => absurd hi (Nat.not_lt_zero i)⟩, rfl, fun i hi => absurd hi (Nat.not_lt_zero i)⟩
        · exact ⟨_, join_cases.2 (.inr (.inl ⟨h7', h7, rfl⟩)), sameB_refl _ fb⟩
      · exact ⟨_, join_cases.2 (.inl ⟨h7', rfl⟩), sameB_refl _ fa⟩
      · obtain ⟨hcc, hn'⟩ := nmEq_iff.1 hn
        have hmm : m = m' := shp_same sa.1 sb.1 hcc
        subst hmm hcc
        have each : ∀ i, i < m → ∃ u, joinP (xs' i) (xs i) = some u ∧ sameB ((joinP (xs i) (xs' i)).getD .bad) u = true := fun i hi => by
          obtain ⟨t, ht⟩ := Option.isSome_iff_exists.1 (ha i hi)
          rw [ht]
          exact ih i (xs' i) t (sa.2 i hi) (sb.2 i hi) (fa.2.2.2 i hi) (fb.2.2.2 i hi) (na.2 i hi) (nb.2 i hi) ht
        refine ⟨_, join_cases.2 (.inr (.inr ⟨h7, h7, rfl, nmEq_iff.2 ⟨rfl, fun i hi => (hn' i hi).symm⟩, fun i hi => by obtain ⟨u, hu, _⟩ := each i hi; rw [hu]; rfl, rfl⟩)), sameB_iff.2 ⟨rfl, hn, rfl, fun i hi => ?_⟩⟩
        obtain ⟨u, hu, hs⟩ := each i hi
        rw [hu]
        exact hs
/-- With itself. -/
theorem join_self : ∀ (a : TT), tfew a → ∃ u, joinP a a = some u ∧ sameB u a = true := by
  intro a
  induction a with
  | bad => intro h; exact h.elim
  | mk k c ns m xs ih =>
    intro fa
    by_cases h7 : k = 7
    · exact ⟨_, join_cases.2 (.inl ⟨h7, rfl⟩), sameB_refl _ fa⟩
    · have each := fun i (hi : i < m) => ih i (fa.2.2.2 i hi)
      refine ⟨_, join_cases.2 (.inr (.inr ⟨h7, h7, rfl, nmEq_iff.2 ⟨rfl, fun _ _ => rfl⟩, fun i hi => by obtain ⟨u, hu, _⟩ := each i hi; rw [hu]; rfl, rfl⟩)), sameB_iff.2 ⟨rfl, nmEq_iff.2 ⟨rfl, fun _ _ => rfl⟩, rfl, fun i hi => ?_⟩⟩
      obtain ⟨u, hu, hs⟩ := each i hi
      rw [hu]
      exact hs
/-- The one stands for what both may be. -/
theorem join_up : ∀ (a b t : TT), shp a → shp b → tfew a → tfew b → joinP a b = some t → ∃ u, joinP a t = some u ∧ sameB u t = true := by
  intro a
  induction a with
  | bad => intro b t _ _ h; exact h.elim
  | mk k c ns m xs ih =>
    intro b t sa sb fa fb h
    cases b with
    | bad => simp only [joinP] at h; cases h
    | mk k' c' ns' m' xs' =>
      rcases join_cases.1 h with ⟨h7, rfl⟩ | ⟨h7, h7', rfl⟩ | ⟨h7, h7', rfl, hn, ha, rfl⟩
      · exact ⟨_, join_cases.2 (.inl ⟨h7, rfl⟩), sameB_refl _ fb⟩
      · exact join_self _ fa
      · have hmm : m = m' := shp_same sa.1 sb.1 (nmEq_iff.1 hn).1
        have each : ∀ i, i < m → ∃ u, joinP (xs i) ((joinP (xs i) (xs' i)).getD .bad) = some u ∧ sameB u ((joinP (xs i) (xs' i)).getD .bad) = true := fun i hi => by
          obtain ⟨t, ht⟩ := Option.isSome_iff_exists.1 (ha i hi)
          rw [ht]
          exact ih i (xs' i) t (sa.2 i hi) (sb.2 i (by omega)) (fa.2.2.2 i hi) (fb.2.2.2 i (by omega)) ht
        refine ⟨_, join_cases.2 (.inr (.inr ⟨h7, h7, rfl, nmEq_iff.2 ⟨rfl, fun _ _ => rfl⟩, fun i hi => by obtain ⟨u, hu, _⟩ := each i hi; rw [hu]; rfl, rfl⟩)), sameB_iff.2 ⟨rfl, nmEq_iff.2 ⟨rfl, fun _ _ => rfl⟩, rfl, fun i hi => ?_⟩⟩
        obtain ⟨u, hu, hs⟩ := each i hi
        rw [hu]
        exact hs
end Go.Proofs.YtcmohggnehkjeaaGreat
namespace Go.Proofs.YtcmohggnehkjeaaGreat
open Go.RowKit

theorem nmEq_trans {c c' c'' : Nat} {a b d : Nat → ByteArray} (h : nmEq c c' a b = true) (g : nmEq c' c'' b d = true) : nmEq c c'' a d = true := by
  obtain ⟨rfl, hn⟩ := nmEq_iff.1 h
  obtain ⟨rfl, gn⟩ := nmEq_iff.1 g
  exact nmEq_iff.2 ⟨rfl, fun i hi => (hn i hi).trans (gn i hi)⟩
theorem nmEq_symm {c c' : Nat} {a b : Nat → ByteArray} (h : nmEq c c' a b = true) : nmEq c' c b a = true := by
  obtain ⟨rfl, hn⟩ := nmEq_iff.1 h
  exact nmEq_iff.2 ⟨rfl, fun i hi => (hn i hi).symm⟩
theorem none_up {k c m} {ns : Nat → ByteArray} {xs : Nat → TT} {t : TT} (h7 : k = 7) (h : tfew t) : joinP (.mk k c ns m xs) t = some t := by
  cases t with
  | bad => exact h.elim
  | mk k' c' ns' m' xs' => exact join_cases.2 (.inl ⟨h7, rfl⟩)
theorem join_assoc : ∀ (a b d x : TT), shp a → shp b → shp d → tfew a → tfew b → tfew d → joinP a b = some x →
    (∀ p, joinP x d = some p → ∃ q r, joinP b d = some q ∧ joinP a q = some r ∧ sameB p r = true) ∧ (∀ q r, joinP b d = some q → joinP a q = some r → (joinP x d).isSome = true) := by
  intro a
  induction a with
  | bad => intro b d x _ _ _ h; exact h.elim
  | mk k c ns m xs ih =>
    intro b d x sa sb sd fa fb fd h
    cases b with
    | bad => exact fb.elim
    | mk k' c' ns' m' xs' =>
      rcases join_cases.1 h with ⟨h7, rfl⟩ | ⟨h7, h7', rfl⟩ | ⟨h7, h7', rfl, hn, ha, rfl⟩
      · refine ⟨fun p hp => ?_, fun q r hq _ => by rw [hq]; rfl⟩
        have fp := (join_fit _ _ _ hp sb sd fb fd).2
        exact ⟨p, p, hp, none_up h7 fp, sameB_refl _ fp⟩
      · refine ⟨fun p hp => ?_, fun q r hq hr => ?_⟩
        · exact ⟨d, p, none_up h7' fd, hp, sameB_refl _ (join_fit _ _ _ hp sa sd fa fd).2⟩
        · rw [none_up h7' fd] at hq
          cases hq
          rw [hr]; rfl
      · cases d with
        | bad => exact fd.elim
        | mk k'' c'' ns'' m'' xs'' =>
          have hcc := (nmEq_iff.1 hn).1
          have hmm : m = m' := shp_same sa.1 sb.1 hcc
          by_cases h7'' : k'' = 7
          · refine ⟨fun p hp => ?_, fun q r _ _ => by rw [join_cases.2 (.inr (.inl ⟨h7, h7'', rfl⟩))]; rfl⟩
            rw [join_cases.2 (.inr (.inl ⟨h7, h7'', rfl⟩))] at hp
            cases hp
            exact ⟨_, _, join_cases.2 (.inr (.inl ⟨h7, h7'', rfl⟩)), h, sameB_refl _ (join_fit _ _ _ h sa sb fa fb).2⟩
          · have IH := fun i (hi : i < m) (t : TT) (ht : joinP (xs i) (xs' i) = some t) (hk : k = k'') (hc : c = c'') => ih i (xs' i) (xs'' i) t (sa.2 i hi) (sb.2 i (by omega)) (sd.2 i (by have := shp_same sa.1 (hk ▸ sd.1) hc; omega)) (fa.2.2.2 i hi) (fb.2.2.2 i (by omega)) (fd.2.2.2 i (by have := shp_same sa.1 (hk ▸ sd.1) hc; omega)) ht
            refine ⟨fun p hp => ?_, fun q r hq hr => ?_⟩
            · rcases join_cases.1 hp with ⟨h, _⟩ | ⟨_, h, _⟩ | ⟨_, _, hk, hn2, ha2, rfl⟩
              · exact absurd h h7
              · exact absurd h h7''
              · have each : ∀ i, i < m → ∃ q r, joinP (xs' i) (xs'' i) = some q ∧ joinP (xs i) q = some r ∧ sameB ((joinP ((joinP (xs i) (xs' i)).getD .bad) (xs'' i)).getD .bad) r = true := fun i hi => by
                  obtain ⟨t, ht⟩ := Option.isSome_iff_exists.1 (ha i hi)
                  have h2 := ha2 i hi
                  rw [ht, Option.getD_some] at h2
                  obtain ⟨p, hp⟩ := Option.isSome_iff_exists.1 h2
                  rw [ht, Option.getD_some, hp, Option.getD_some]
                  exact (IH i hi t ht hk (nmEq_iff.1 hn2).1).1 p hp
                have hq := (join_cases (xs := xs') (xs' := xs'') (m := m') (m' := m'') (k := k) (k' := k'') (c := c') (c' := c'') (ns := ns') (ns' := ns'')).2 (.inr (.inr ⟨h7, h7'', hk, nmEq_trans (nmEq_symm hn) hn2, fun i hi => by obtain ⟨q, r, h1, _⟩ := each i (by omega); rw [h1]; rfl, rfl⟩))
                refine ⟨_, _, hq, join_cases.2 (.inr (.inr ⟨h7, h7, rfl, hn, fun i hi => by obtain ⟨q, r, h1, h2, _⟩ := each i hi; rw [h1, Option.getD_some, h2]; rfl, rfl⟩)), sameB_iff.2 ⟨rfl, nmEq_iff.2 ⟨rfl, fun _ _ => rfl⟩, rfl, fun i hi => ?_⟩⟩
                obtain ⟨q, r, h1, h2, h3⟩ := each i hi
                rw [h1, Option.getD_some, h2, Option.getD_some]
                exact h3
            · rcases join_cases.1 hq with ⟨h, _⟩ | ⟨_, h, _⟩ | ⟨_, _, hk, hn2, ha2, rfl⟩
              · exact absurd h h7
              · exact absurd h h7''
              · rcases join_cases.1 hr with ⟨h, _⟩ | ⟨_, h, _⟩ | ⟨_, _, _, hn3, ha3, rfl⟩
                · exact absurd h h7
                · exact absurd h h7
                · rw [join_cases.2 (.inr (.inr ⟨h7, h7'', hk, nmEq_trans hn hn2, fun i hi => ?_, rfl⟩))]
                  · rfl
                  · obtain ⟨t, ht⟩ := Option.isSome_iff_exists.1 (ha i hi)
                    obtain ⟨q, hq⟩ := Option.isSome_iff_exists.1 (ha2 i (by omega))
                    have h3 := ha3 i hi
                    rw [hq, Option.getD_some] at h3
                    obtain ⟨r, hr⟩ := Option.isSome_iff_exists.1 h3
                    rw [ht, Option.getD_some]
                    exact (IH i hi t ht hk (nmEq_iff.1 (nmEq_trans hn hn2)).1).2 q r hq hr
end Go.Proofs.YtcmohggnehkjeaaGreat
namespace Go.Proofs.YtcmohggnehkjeaaGreat
open Go.RowKit

/-- The other one stands for what both may be, too. -/
theorem join_up2 : ∀ (a b t : TT), shp a → shp b → tfew a → tfew b → noNm a → noNm b → joinP a b = some t → ∃ u, joinP b t = some u ∧ sameB u t = true := by
  intro a
  induction a with
  | bad => intro b t _ _ h; exact h.elim
  | mk k c ns m xs ih =>
    intro b t sa sb fa fb na nb h
    cases b with
    | bad => simp only [joinP] at h; cases h
    | mk k' c' ns' m' xs' =>
      rcases join_cases.1 h with ⟨h7, rfl⟩ | ⟨h7, h7', rfl⟩ | ⟨h7, h7', rfl, hn, ha, rfl⟩
      · exact join_self _ fb
      · exact ⟨_, join_cases.2 (.inl ⟨h7', rfl⟩), sameB_refl _ fa⟩
      · obtain ⟨hcc, hn'⟩ := nmEq_iff.1 hn
        have hmm : m = m' := shp_same sa.1 sb.1 hcc
        subst hmm hcc
        have each : ∀ i, i < m → ∃ u, joinP (xs' i) ((joinP (xs i) (xs' i)).getD .bad) = some u ∧ sameB u ((joinP (xs i) (xs' i)).getD .bad) = true := fun i hi => by
          obtain ⟨t, ht⟩ := Option.isSome_iff_exists.1 (ha i hi)
          rw [ht]
          exact ih i (xs' i) t (sa.2 i hi) (sb.2 i hi) (fa.2.2.2 i hi) (fb.2.2.2 i hi) (na.2 i hi) (nb.2 i hi) ht
        refine ⟨_, join_cases.2 (.inr (.inr ⟨h7, h7, rfl, nmEq_iff.2 ⟨rfl, fun i hi => (hn' i hi).symm⟩, fun i hi => by obtain ⟨u, hu, _⟩ := each i hi; rw [hu]; rfl, rfl⟩)), sameB_iff.2 ⟨rfl, nmEq_iff.2 ⟨rfl, fun i hi => (hn' i hi).symm⟩, rfl, fun i hi => ?_⟩⟩
        obtain ⟨u, hu, hs⟩ := each i hi
        rw [hu]
        exact hs
/-- A right type, by what is plain of it. -/
structure Rt (t : TT) : Prop where
  ok : tokV t = true
  sh : shp t
  fw : tfew t
  nn : noNm t
theorem TW.rt {w : World} {Q : Nat → Prop} {v : Array Value} {t : TT} (hv : TW w Q v t) (h : tokV t = true) : Rt t :=
  ⟨h, (hv.right h).1, (hv.right h).2, right_noNm t 12 (jtok_ttot hv.val h).2⟩
theorem Rt.join {a b : TT} (ha : Rt a) (hb : Rt b) : joinR a b = joinE a b := by unfold joinR; rw [if_pos ⟨ha.ok, hb.ok⟩]
theorem joinE_some {a b t : TT} (h : joinP a b = some t) : joinE a b = .ok t := by unfold joinE; rw [h]
theorem joinE_none {a b : TT} (h : joinP a b = none) : joinE a b = .error 6 := by unfold joinE; rw [h]
theorem Rt.turn {a b : TT} (ha : Rt a) (hb : Rt b) (h : joinP a b = none) : joinP b a = none := by
  cases g : joinP b a with
  | none => rfl
  | some t =>
    obtain ⟨u, hu, _⟩ := join_comm b a t hb.sh ha.sh hb.fw ha.fw hb.nn ha.nn g
    rw [hu] at h; cases h
theorem Rt.self {a : TT} (ha : Rt a) : ∃ z, joinR a a = .ok z ∧ sameB z a = true := by
  obtain ⟨z, hz, hs⟩ := join_self a ha.fw
  exact ⟨z, by rw [ha.join ha, joinE_some hz], hs⟩
theorem isB_of {a b z : TT} (h : joinR a b = .ok z) (hs : sameB z b = true) : isB a b = true := by unfold isB; rw [h]; exact hs
theorem Rt.is_self {a : TT} (ha : Rt a) : isB a a = true := by
  obtain ⟨z, hz, hs⟩ := ha.self
  exact isB_of hz hs
theorem Rt.flip {a b x : TT} (ha : Rt a) (hb : Rt b) (h : joinP a b = some x) : ∃ y, joinR b a = .ok y ∧ sameB x y = true := by
  obtain ⟨y, hy, hs⟩ := join_comm a b x ha.sh hb.sh ha.fw hb.fw ha.nn hb.nn h
  exact ⟨y, by rw [hb.join ha, joinE_some hy], hs⟩
theorem Rt.up {a b x : TT} (ha : Rt a) (hb : Rt b) (h : joinP a b = some x) (hx : tokV x = true) : isB a x = true := by
  obtain ⟨u, hu, hs⟩ := join_up a b x ha.sh hb.sh ha.fw hb.fw h
  exact isB_of (by unfold joinR; rw [if_pos ⟨ha.ok, hx⟩, joinE_some hu]) hs
theorem Rt.up2 {a b x : TT} (ha : Rt a) (hb : Rt b) (h : joinP a b = some x) (hx : tokV x = true) : isB b x = true := by
  obtain ⟨u, hu, hs⟩ := join_up2 a b x ha.sh hb.sh ha.fw hb.fw ha.nn hb.nn h
  exact isB_of (by unfold joinR; rw [if_pos ⟨hb.ok, hx⟩, joinE_some hu]) hs
/-- The three joins, by what they come to. -/
theorem Rt.no1 {a b c x : TT} (ha : Rt a) (hb : Rt b) (hc : Rt c) (h : joinP a b = some x) (hx : tokV x = true) (g : joinP b c = none) : joinR x c = .error 6 := by
  unfold joinR; rw [if_pos ⟨hx, hc.ok⟩]
  refine joinE_none ?_
  cases e : joinP x c with
  | none => rfl
  | some p =>
    obtain ⟨q, r, hq, _⟩ := (join_assoc a b c x ha.sh hb.sh hc.sh ha.fw hb.fw hc.fw h).1 p e
    rw [hq] at g; cases g
theorem Rt.no2 {a b c x q : TT} (ha : Rt a) (hb : Rt b) (hc : Rt c) (h : joinP a b = some x) (hx : tokV x = true) (g : joinP b c = some q) (k : joinP a q = none) : joinR x c = .error 6 := by
  unfold joinR; rw [if_pos ⟨hx, hc.ok⟩]
  refine joinE_none ?_
  cases e : joinP x c with
  | none => rfl
  | some p =>
    obtain ⟨q', r, hq, hr, _⟩ := (join_assoc a b c x ha.sh hb.sh hc.sh ha.fw hb.fw hc.fw h).1 p e
    rw [hq] at g; cases g
    rw [hr] at k; cases k
theorem Rt.yes {a b c x q r : TT} (ha : Rt a) (hb : Rt b) (hc : Rt c) (h : joinP a b = some x) (hx : tokV x = true) (g : joinP b c = some q) (k : joinP a q = some r) : ∃ p, joinR x c = .ok p ∧ sameB p r = true := by
  obtain ⟨p, hp⟩ := Option.isSome_iff_exists.1 ((join_assoc a b c x ha.sh hb.sh hc.sh ha.fw hb.fw hc.fw h).2 q r g k)
  obtain ⟨q', r', hq, hr, hs⟩ := (join_assoc a b c x ha.sh hb.sh hc.sh ha.fw hb.fw hc.fw h).1 p hp
  rw [hq] at g; cases g
  rw [hr] at k; cases k
  exact ⟨p, by unfold joinR; rw [if_pos ⟨hx, hc.ok⟩, joinE_some hp], hs⟩
theorem joinR_left {a q : TT} (ha : Rt a) (hq : tokV q = true) : joinR a q = joinE a q := by unfold joinR; rw [if_pos ⟨ha.ok, hq⟩]
theorem joinR_bad {a q : TT} (hq : tokV q = false) : joinR a q = .error 2 := joinR_no (by rw [hq]; simp)
/-- The type that is none at all. -/
def nilT : TT := .mk 0 0 (fun _ => ⟨#[]⟩) 0 (fun _ => .bad)
theorem TW.zero (w : World) (Q : Nat → Prop) : TW w Q #[.int .i64 0, .slice none 0 0, .slice none 0 0] nilT :=
  .mk 0 none 0 0 none 0 0 _ _ (fun _ => #[]) (by omega) ⟨Nat.le_refl _, Nat.zero_le _⟩ ⟨Nat.le_refl _, Nat.zero_le _⟩ (fun _ => rfl) (fun _ => rfl) (fun h => absurd h (Nat.lt_irrefl 0)) (fun h => absurd h (Nat.lt_irrefl 0)) (fun i h => absurd h (Nat.not_lt_zero i))
theorem zero_same : sameB nilT nilT = true := by decide
theorem zero_bad : tokV nilT = false := by decide
end Go.Proofs.YtcmohggnehkjeaaGreat
namespace Go.Proofs.YtcmohggnehkjeaaGreat
open Go.RowKit

theorem owns_same {w w' : World} {base : Nat} {e : TypeId} {size : Nat} {v : Value} {n : Nat} {xs : List Value} (h : w.ownsRow base e size v n xs) (hk : ∀ k, v.ownBlock = some k → w'.heap[k]? = w.heap[k]?) : w'.ownsRow base e size v n xs := by
  obtain ⟨h1, h2⟩ := h
  refine ⟨h1, ?_⟩
  rcases h2 with h2 | ⟨k, cap, cur, hv, hb, hh, r⟩
  · exact .inl h2
  · exact .inr ⟨k, cap, cur, hv, hb, by rw [hk k (by subst hv; rfl)]; exact hh, r⟩
theorem owns_lies {w : World} {base : Nat} {e : TypeId} {size : Nat} {v : Value} {n : Nat} {xs : List Value} (h : w.ownsRow base e size v n xs) :
    ∃ A cap, v = .slice A n cap ∧ n ≤ cap ∧ cap ≤ maxLen ∧ (A = none → cap = 0) ∧ (0 < n → ∃ g, A = some ⟨g, 0, none⟩ ∧ base ≤ g ∧ g < w.heap.size ∧ ∀ (j : Nat) u, xs[j]? = some u → w.cell? ⟨g, j, none⟩ = some u) := by
  have h0 := h
  rcases h.2 with ⟨rfl, rfl⟩ | ⟨g, cap, cur, rfl, hg, hh, hn, hm, hc, ht⟩
  · exact ⟨none, 0, rfl, Nat.le_refl _, Nat.zero_le _, fun _ => rfl, fun h => absurd h (Nat.lt_irrefl 0)⟩
  · refine ⟨_, cap, rfl, hn, hm, (fun e => by cases e), fun _ => ⟨g, rfl, hg, (h0.lt g rfl).2, fun j u hj => ?_⟩⟩
    have := h0.cells (g := g) rfl j u hj
    rw [Addr.add_lit, Nat.zero_add] at this
    exact this
theorem flat3 : ∀ (L : List (List Value)), (∀ x ∈ L, x.length = 3) → ∀ i j, i < L.length → j < 3 → L.flatten[i * 3 + j]? = (L.getD i [])[j]? := by
  intro L
  induction L with
  | nil => intro _ i j hi; exact absurd hi (Nat.not_lt_zero _)
  | cons x L ih =>
    intro h i j hi hj
    have hx : x.length = 3 := h x (by simp)
    rw [List.flatten_cons]
    cases i with
    | zero =>
      rw [List.getElem?_append_left (by omega)]
      simp
    | succ i =>
      rw [List.getElem?_append_right (by omega), show (i + 1) * 3 + j - x.length = i * 3 + j by omega, ih (fun y hy => h y (by simp [hy])) i j (by simpa using hi) hj]
      simp
theorem new1s (w : World) (t : ByteArray) : ∀ (j : Nat) u, [Value.string t][j]? = some u → (w.alloc (.cells #[.string t] 9)).cell? ((⟨w.heap.size, 0, none⟩ : Addr).add j) = some u := fun j u hj => by
  rw [Addr.add_lit, Nat.zero_add, World.cell?_alloc_new, ← hj]
  simp
theorem new3t (w : World) (b0 : Int) (b1 : Option Addr) (b2 b3 : Nat) (b4 : Option Addr) (b5 b6 : Nat) :
    ∀ (j : Nat) u, [Value.int .i64 b0, .slice b1 b2 b3, .slice b4 b5 b6][j]? = some u → (w.alloc (.cells #[.int .i64 b0, .slice b1 b2 b3, .slice b4 b5 b6] 25)).cell? ((⟨w.heap.size, 0, none⟩ : Addr).add j) = some u := fun j u hj => by
  rw [Addr.add_lit, Nat.zero_add, World.cell?_alloc_new, ← hj]
  simp
/-- What Join has gathered. -/
structure Rc (Q : Nat → Prop) (w : World) (base : Nat) (nv : Value) (N : List ByteArray) (itv : Value) (L : List (Array Value × TT)) : Prop where
  nms : w.ownsRow base 9 1 nv N.length (N.map Value.string)
  its : w.ownsRow base 25 3 itv L.length (L.map (·.1.toList)).flatten
  sz : ∀ t ∈ N, t.size ≤ maxLen
  trees : ∀ y ∈ L, TW w (fun b => (Q b ∨ base ≤ b) ∧ itv.ownBlock ≠ some b ∧ nv.ownBlock ≠ some b) y.1 y.2
  ne : ∀ k, itv.ownBlock = some k → nv.ownBlock ≠ some k
theorem Rc.start (Q : Nat → Prop) (w : World) (base : Nat) : Rc Q w base (.slice none 0 0) [] (.slice none 0 0) [] :=
  ⟨World.ownsRow_nil _ _ _ _, World.ownsRow_nil _ _ _ _, fun t h => (by cases h), fun y h => (by cases h), fun k h => (by cases h)⟩
theorem Rc.name {Q : Nat → Prop} {wr w4 w5 : World} {base V : Nat} {nv itv : Value} {N : List ByteArray} {L : List (Array Value × TT)} {t : ByteArray} {x : Obj} {nv5 u : Value} (h : Rc Q wr base nv N itv L) (hQ : ∀ b, Q b → b < V) (hp : Below wr.heap.size wr w4) (hV : V < base)
    (ht : t.size ≤ maxLen) (hown : w5.ownsRow base 9 1 nv5 (N.length + 1) (N.map Value.string ++ [.string t])) (hgrow : (w4.alloc x).grownBy w5 nv.ownBlock)
    (hat : nv5.ownBlock = nv.ownBlock ∨ nv5.ownBlock = some (w4.alloc x).heap.size) :
    Rc Q (w5.setCell ⟨V, 1, none⟩ u) base nv5 (N ++ [t]) itv L := by
  obtain ⟨hN, hI, hNs, hL, hd⟩ := h
  have size4 := hp.size
  have hlt := hI.lt
  have hltN := hN.lt
  have fresh : ∀ b, b < w4.heap.size → nv.ownBlock ≠ some b → nv5.ownBlock ≠ some b := fun b hb hn => by
    rcases hat with e | e
    · rw [e]; exact hn
    · rw [e]; simp; omega
  refine ⟨ownsRow_setCell_below (by simpa using hown) hV _, ?_, fun y hy => ?_, fun y hy => ?_, fun k hk => fresh k (by have := (hlt k hk).2; omega) (hd k hk)⟩
  · refine ownsRow_setCell_below (owns_same hI fun k hk => ?_) hV _
    obtain ⟨h1, h2⟩ := hlt k hk
    exact (hgrow.block k (by simp; omega) (fun e => hd k hk e.symm)).trans ((Below.heap_alloc _ _ _ (by omega)).trans (hp.block k h2))
  · rcases List.mem_append.1 hy with hy | hy
    · exact hNs y hy
    · obtain rfl : y = t := by simpa using hy
      exact ht
  · have ho := ((hL y hy).imp (Q := fun b => ((Q b ∨ base ≤ b) ∧ itv.ownBlock ≠ some b ∧ nv.ownBlock ≠ some b) ∧ b < w4.heap.size) fun b hb hl => ⟨hb, by omega⟩).stay hp
    refine (ho.keep (w' := w5.setCell ⟨V, 1, none⟩ u) (by have := hgrow.size; simp at this; simp [World.setCell]; omega) fun k hk hl => ?_).imp fun b hb _ => ⟨hb.1.1, hb.1.2.1, fresh b hb.2 hb.1.2.2⟩
    have hkV : k ≠ V := by
      rcases hk.1.1 with h | h
      · have := hQ k h; omega
      · omega
    rw [Below.heap_setCell _ _ _ _ (by simpa using hkV), hgrow.block k (by simp; omega) (fun e => hk.1.2.2 e.symm), Below.heap_alloc _ _ _ hl]
theorem Rc.item {Q : Nat → Prop} {wr w4 w5 : World} {base V : Nat} {nv itv : Value} {N : List ByteArray} {L : List (Array Value × TT)} {v : Array Value} {t : TT} {x : Obj} {itv5 u : Value} (h : Rc Q wr base nv N itv L) (hQ : ∀ b, Q b → b < V) (hp : Below wr.heap.size wr w4) (hV : V < base) (hbr : base ≤ wr.heap.size)
    (hv : TW w4 (fun b => Q b ∨ wr.heap.size ≤ b) v t) (hown : w5.ownsRow base 25 3 itv5 (L.length + 1) ((L.map (·.1.toList)).flatten ++ v.toList)) (hgrow : (w4.alloc x).grownBy w5 itv.ownBlock)
    (hat : itv5.ownBlock = itv.ownBlock ∨ itv5.ownBlock = some (w4.alloc x).heap.size) :
    Rc Q (w5.setCell ⟨V, 2, none⟩ u) base nv N itv5 (L ++ [(v, t)]) := by
  obtain ⟨hN, hI, hNs, hL, hd⟩ := h
  have size4 := hp.size
  have hlt := hI.lt
  have hltN := hN.lt
  have fresh : ∀ b, b < w4.heap.size → itv.ownBlock ≠ some b → itv5.ownBlock ≠ some b := fun b hb hn => by
    rcases hat with e | e
    · rw [e]; exact hn
    · rw [e]; simp; omega
  have keep : ∀ {P : Nat → Prop} {v' : Array Value} {t' : TT}, TW w4 P v' t' → (∀ b, P b → itv.ownBlock ≠ some b) → (∀ b, P b → V ≠ b) → TW (w5.setCell ⟨V, 2, none⟩ u) P v' t' := fun hh h1 h2 =>
    hh.keep (by have := hgrow.size; simp at this; simp [World.setCell]; omega) fun k hk hlt => by
      rw [Below.heap_setCell _ _ _ _ (by have := h2 k hk; simp; omega), hgrow.block k (by simp; omega) (fun e => h1 k hk e.symm), Below.heap_alloc _ _ _ hlt]
  refine ⟨?_, ownsRow_setCell_below (by simpa using hown) hV _, hNs, fun y hy => ?_, fun k hk hn => ?_⟩
  · refine ownsRow_setCell_below (owns_same hN fun k hk => ?_) hV _
    obtain ⟨h1, h2⟩ := hltN k hk
    exact (hgrow.block k (by simp; omega) (fun e => hd k e.symm hk)).trans ((Below.heap_alloc _ _ _ (by omega)).trans (hp.block k h2))
  · rcases List.mem_append.1 hy with hy | hy
    · have ho := ((hL y hy).imp (Q := fun b => ((Q b ∨ base ≤ b) ∧ itv.ownBlock ≠ some b ∧ nv.ownBlock ≠ some b) ∧ b < w4.heap.size) fun b hb hl => ⟨hb, by omega⟩).stay hp
      refine (keep ho (fun b hb => hb.1.2.1) (fun b hb e => ?_)).imp fun b hb _ => ⟨hb.1.1, fresh b hb.2 hb.1.2.1, hb.1.2.2⟩
      rcases hb.1.1 with h | h
      · have := hQ b h; omega
      · omega
    · obtain rfl : y = (v, t) := by simpa using hy
      refine (keep (hv.imp (Q := fun b => (Q b ∨ wr.heap.size ≤ b) ∧ b < w4.heap.size) fun b hb hl => ⟨hb, hl⟩) (fun b hb e => ?_) (fun b hb e => ?_)).imp fun b hb _ => ⟨?_, fresh b hb.2 (fun e => ?_), fun e => ?_⟩
      · have := hlt b e
        rcases hb.1 with h | h
        · have := hQ b h; omega
        · omega
      · rcases hb.1 with h | h
        · have := hQ b h; omega
        · omega
      · rcases hb.1 with h | h
        · exact .inl h
        · exact .inr (by omega)
      · have := hlt b e
        rcases hb.1 with h | h
        · have := hQ b h; omega
        · omega
      · have := hltN b e
        rcases hb.1 with h | h
        · have := hQ b h; omega
        · omega
  · have h2 := (hltN k hn).2
    exact fresh k (by omega) (fun e => hd k e hn) hk
/-- All is gathered. -/
theorem Rc.tree {Q : Nat → Prop} {w : World} {base : Nat} {nv itv : Value} {N : List ByteArray} {L : List (Array Value × TT)} (h : Rc Q w base nv N itv L) {k : Int} {c m : Nat} {ns : Nat → ByteArray} {xs : Nat → TT} (hk : -9223372036854775808 ≤ k ∧ k ≤ 9223372036854775807)
    (hN : N.length = c) (hNe : ∀ i, i < c → N[i]? = some (ns i)) (hL : L.length = m) (hLe : ∀ i, i < m → ∃ v, L[i]? = some (v, xs i)) :
    ∃ A ca B cb, nv = .slice A c ca ∧ itv = .slice B m cb ∧ TW w (fun b => Q b ∨ base ≤ b) #[.int .i64 k, .slice A c ca, .slice B m cb] (.mk k c ns m xs) := by
  obtain ⟨A, ca, rfl, c1, c2, cA, cX⟩ := owns_lies h.nms
  obtain ⟨B, cb, rfl, d1, d2, dB, dX⟩ := owns_lies h.its
  subst hN hL
  refine ⟨A, ca, B, cb, rfl, rfl, ?_⟩
  obtain ⟨vs, hvs⟩ : ∃ vs : Nat → Array Value, ∀ i, i < L.length → L[i]? = some (vs i, xs i) := ⟨fun i => if h : i < L.length then (hLe i h).choose else #[], fun i hi => by simp only [dif_pos hi]; exact (hLe i hi).choose_spec⟩
  have htr : ∀ i, i < L.length → TW w (fun b => (Q b ∨ base ≤ b) ∧ (Value.slice B L.length cb).ownBlock ≠ some b ∧ (Value.slice A N.length ca).ownBlock ≠ some b) (vs i) (xs i) := fun i hi => h.trees _ (List.mem_of_getElem? (hvs i hi))
  refine .mk k A N.length ca B L.length cb ns xs vs hk ⟨c1, c2⟩ ⟨d1, d2⟩ cA dB (fun h0 => ?_) (fun h0 => ?_) (fun i hi => (htr i hi).imp fun b hb _ => hb.1)
  · obtain ⟨g, e, hg, hlt, hx⟩ := cX h0
    refine ⟨g, 0, e, .inr hg, hlt, fun i hi => ?_⟩
    have hni := hNe i hi
    refine ⟨?_, h.sz _ (List.mem_of_getElem? hni)⟩
    rw [Nat.zero_add]
    exact hx i _ (by rw [List.getElem?_map, hni]; rfl)
  · obtain ⟨g, e, hg, hlt, hx⟩ := dX h0
    refine ⟨g, 0, e, .inr hg, hlt, fun i hi j hj => ?_⟩
    have hsz := (htr i hi).size
    have h3 : ∀ x ∈ L.map (·.1.toList), x.length = 3 := fun x hx => by
      obtain ⟨y, hy, rfl⟩ := List.mem_map.1 hx
      have := (h.trees y hy).size
      simpa using this
    have hf := flat3 (L.map (·.1.toList)) h3 i j (by simpa using hi) hj
    have hgd : (L.map (·.1.toList)).getD i [] = (vs i).toList := by
      rw [List.getD_eq_getElem?_getD, List.getElem?_map, hvs i hi]; rfl
    rw [hgd] at hf
    have hj' : j < (vs i).size := by omega
    rw [Nat.zero_add, hx (i * 3 + j) ((vs i)[j]'hj') (by rw [hf, Array.getElem?_toList, Array.getElem?_eq_getElem hj']), Array.getElem?_eq_getElem hj']
end Go.Proofs.YtcmohggnehkjeaaGreat
namespace Go.Proofs.YtcmohggnehkjeaaGreat
open Go.RowKit

/-- How the document's Join ends. -/
def RJoined (Q : Nat → Prop) (r : Option TT) (w : World) (e : Ending) (w' : World) : Prop :=
  Below w.heap.size w w' ∧ match r with
  | some t => ∃ x, e = .returned (.tuple #[.agg x, .bool true]) ∧ TW w' (fun g => Q g ∨ w.heap.size ≤ g) x t
  | none => e = .returned (.tuple #[.agg #[.int .i64 0, .slice none 0 0, .slice none 0 0], .bool false])
theorem join_four (w : World) (a b c d : Array Value) : let W := (((w.alloc (.cells a 25)).alloc (.cells b 25)).alloc (.cells c 25)).alloc (.cells d 25)
    Below w.heap.size w W ∧ TB W w.heap.size a ∧ TB W (w.heap.size + 1) b ∧ TB W (w.heap.size + 1 + 1) c ∧ TB W (w.heap.size + 1 + 1 + 1) d ∧ W.heap.size = w.heap.size + 1 + 1 + 1 + 1 := by
  intro W
  obtain ⟨h0, h1, h2, h3⟩ := join_boxes w a b c
  have hW : Below (((w.alloc (.cells a 25)).alloc (.cells b 25)).alloc (.cells c 25)).heap.size (((w.alloc (.cells a 25)).alloc (.cells b 25)).alloc (.cells c 25)) W := (Below.refl _ _).alloc (Nat.le_refl _) _
  refine ⟨h0.trans (hW.mono h0.size), h1.below hW, h2.below hW, h3.below hW, ?_, ?_⟩
  · have := TB.new (((w.alloc (.cells a 25)).alloc (.cells b 25)).alloc (.cells c 25)) d
    rw [World.size_alloc, World.size_alloc, World.size_alloc] at this
    exact this
  · show (_ : World).heap.size = _
    rw [World.size_alloc, World.size_alloc, World.size_alloc, World.size_alloc]
section
variable {ops : Array Oper} {Q : Exit → Act → World → Prop} {o : Oper} {a : Act} {w : World}
/-- One operation of those that may come up lays a type into a box. -/
theorem branchV {K : Act → World → Prop} (x y : Operand) (g : Nat) (u old : Array Value) (hd : o.dst = none) (hw : Region.wanted o (yielded ops a.tmps) = true) (ho : o.op = .store 25 x y) (hx : a.eval x = .pointer (some ⟨g, 0, none⟩)) (hy : a.eval y = .agg u) (hg : TB w g old) (hold : old.size = 3) (hu : u.size = 3) (h1 : u.all (·.oneCell') = true)
    (h : K (a.put none undef) (w.setRow g u)) : if Region.wanted o (yielded ops a.tmps) = true then Oper.wp Tryz.prog o a w K Q else K (a.put o.dst undef) w :=
  branchW hw (wp_store_row 25 x y ho g u hx hy 25 old hg (by rw [info25s, hu]) (by rw [hold, hu]) h1 (by rw [hd]; exact h))
end
theorem below_set1 {B : Nat} {a w : World} (h : Below B a w) {R : Nat} (hR : B ≤ R) (o : Nat) (u : Value) : Below B a (w.setCell ⟨R, o, none⟩ u) :=
  ⟨h.os, h.tape, h.output, by simpa [World.setCell] using h.size, fun k hk => (Below.heap_setCell _ _ _ _ (by simp; omega)).trans (h.block k hk)⟩
theorem below_sets {B : Nat} {a w : World} (h : Below B a w) {R : Nat} (hR : B ≤ R) (u0 u1 u2 : Value) : Below B a (((w.setCell ⟨R, 0, none⟩ u0).setCell ⟨R, 1, none⟩ u1).setCell ⟨R, 2, none⟩ u2) :=
  below_set1 (below_set1 (below_set1 h hR _ _) hR _ _) hR _ _
theorem tw_sets {w : World} {Q Q' : Nat → Prop} {v : Array Value} {t : TT} (h : TW w Q v t) (hi : ∀ b, Q b → Q' b) {R : Nat} (hR : ∀ b, Q b → b ≠ R) (u0 u1 u2 : Value) : TW (((w.setCell ⟨R, 0, none⟩ u0).setCell ⟨R, 1, none⟩ u1).setCell ⟨R, 2, none⟩ u2) Q' v t :=
  (h.keep (by simp [World.setCell]) fun b hb _ => by
    rw [Below.heap_setCell _ _ _ _ (by simpa using hR b hb), Below.heap_setCell _ _ _ _ (by simpa using hR b hb), Below.heap_setCell _ _ _ _ (by simpa using hR b hb)]).imp fun b hb _ => hi b hb
theorem infoT2 : (Tryz.prog.info? 25).map (fun i => (i.zero, i.size, i.bytes)) = some (some (.agg #[.int .i64 0, .slice none 0 0, .slice none 0 0]), 3, 56) := by kernel_rfl
set_option maxRecDepth 20000 in
set_option maxHeartbeats 4000000 in
theorem rjoin_any : ∀ (a b : TT) (v u : Array Value) (Q : Nat → Prop) (w : World), TW w Q v a → TW w Q u b → shp a → shp b → noNm a → noNm b → tfew a → Calls Tryz.prog 17 #[.agg v, .agg u] w (RJoined Q (joinP a b) w) := by
  intro a
  induction a with
  | bad => intro b v u Q w hv; cases hv
  | mk k c ns m xs ih =>
    intro b v u Q w hv hu hsa hsb hna hnb hfa
    cases b with
    | bad => cases hu
    | mk k' c' ns' m' xs' =>
      have hv0 := Lib.hid hv
      have hu0 := Lib.hid hu
      cases hv with
      | mk _ A _ ca B _ cb _ _ vs hk hc hm hA hB0 hns hB hxs =>
        cases hu with
        | mk _ A' _ ca' B' _ cb' _ _ us hk' hc' hm' hA' hB0' hns' hB' hxs' =>
          have HNM := Lib.hid (And.intro hns hns')
          have KK := Lib.hid (And.intro hk hk')
          clear hA hB0 hA' hB0' hns hns' hk hk' hc hc'
          by_cases h7 : k = 7
          · subst h7
            have HJ : Hid (joinP (.mk 7 c ns m xs) (.mk k' c' ns' m' xs') = some (.mk k' c' ns' m' xs')) := Lib.hid (by simp [joinP])
            rw [HJ.out]
            unfold tfields at *
            clear ih hsa hsb hna hnb hfa hB hB' hxs hxs' hm hm'
            go_enter Tryz.func17, Tryz.ntmps17
            go_wp2_with fail
            have hbF := join_boxes w #[.int .i64 7, .slice A c ca, .slice B m cb] #[.int .i64 k', .slice A' c' ca', .slice B' m' cb'] #[.int .i64 k', .slice A' c' ca', .slice B' m' cb']
            exact bodyPost_ret (results_typ2 rfl _ _ (w.heap.size + 1 + 1) _ _ rfl rfl hbF.2.2.2 rfl) rfl ⟨hbF.1, _, rfl, (hu0.out.stay hbF.1).imp fun g hg _ => .inl hg⟩
          have tk7 : (k == 7) = false := by rw [beq_eq_false_iff_ne]; exact h7
          by_cases h7' : k' = 7
          · subst h7'
            have HJ : Hid (joinP (.mk k c ns m xs) (.mk 7 c' ns' m' xs') = some (.mk k c ns m xs)) := Lib.hid (by simp [joinP, h7])
            rw [HJ.out]
            unfold tfields at *
            clear ih hsa hsb hna hnb hfa hB hB' hxs hxs' hm hm' h7
            go_enter Tryz.func17, Tryz.ntmps17
            go_wp2_with fail
            have hbF := join_boxes w #[.int .i64 k, .slice A c ca, .slice B m cb] #[.int .i64 7, .slice A' c' ca', .slice B' m' cb'] #[.int .i64 k, .slice A c ca, .slice B m cb]
            exact bodyPost_ret (results_typ2 rfl _ _ (w.heap.size + 1 + 1) _ _ rfl rfl hbF.2.2.2 rfl) rfl ⟨hbF.1, _, rfl, (hv0.out.stay hbF.1).imp fun g hg _ => .inl hg⟩
          have tk7' : (k' == 7) = false := by rw [beq_eq_false_iff_ne]; exact h7'
          have hbF := join_boxes w #[.int .i64 k, .slice A c ca, .slice B m cb] #[.int .i64 k', .slice A' c' ca', .slice B' m' cb'] #[.int .i64 0, .slice none 0 0, .slice none 0 0]
          by_cases hkk : ¬ k = k'
          · have HJ : Hid (joinP (.mk k c ns m xs) (.mk k' c' ns' m' xs') = none) := Lib.hid (by simp [joinP, h7, h7', hkk])
            rw [HJ.out]
            have tkk : (k != k') = true := by simpa using hkk
            have HB := Lib.hid hbF
            unfold tfields at *
            clear ih hsa hsb hna hnb hfa hB hB' hxs hxs' hm hm' h7 h7' hkk hbF
            go_enter Tryz.func17, Tryz.ntmps17
            go_wp2_with fail
            exact bodyPost_ret (results_typ2 rfl _ _ (w.heap.size + 1 + 1) _ _ rfl rfl HB.out.2.2.2 rfl) rfl ⟨HB.out.1, rfl⟩
          have hkk' : k = k' := Decidable.not_not.1 hkk
          clear hkk
          subst hkk'
          have tkk : (k != k) = false := by simp
          by_cases hmm : ¬ m = m'
          · have HJ : Hid (joinP (.mk k c ns m xs) (.mk k c' ns' m' xs') = none) := Lib.hid (by
              simp only [joinP]
              rw [if_neg h7, if_neg h7, if_neg]
              rintro ⟨_, hn⟩
              exact hmm (shp_same hsa.1 hsb.1 (nmEq_iff.1 hn).1))
            rw [HJ.out]
            have tm : ((m : Int) != (m' : Int)) = true := by simp; omega
            have HB := Lib.hid hbF
            unfold tfields at *
            clear ih hsa hsb hna hnb hfa hB hB' hxs hxs' hm hm' h7 h7' hmm hbF
            go_enter Tryz.func17, Tryz.ntmps17
            go_wp2_with fail
            exact bodyPost_ret (results_typ2 rfl _ _ (w.heap.size + 1 + 1) _ _ rfl rfl HB.out.2.2.2 rfl) rfl ⟨HB.out.1, rfl⟩
          have hmm' : m = m' := Decidable.not_not.1 hmm
          clear hmm hbF
          subst hmm'
          have tm : ((m : Int) != (m : Int)) = false := by simp
          have hm1 : m ≤ 1000 := hfa.2.1
          have hnsz : ∀ i, i < c → (ns i).size ≤ 1000 := hfa.2.2.1
          have HFW := Lib.hid hnsz
          have HX := Lib.hid (And.intro hB (And.intro hB' (And.intro hxs hxs')))
          have HS := Lib.hid (And.intro hsa.2 (And.intro hsb.2 (And.intro hna.2 (And.intro hnb.2 hfa.2.2.2))))
          have IH := Lib.hid ih
          obtain ⟨iT, hiT, hy0, hy1, hy2⟩ := info_parts infoT2
          obtain ⟨iS, hiS, hs0, hs1, hs2⟩ := info_parts infoS
          have hbW := join_four w #[.int .i64 k, .slice A c ca, .slice B m cb] #[.int .i64 k, .slice A' c' ca', .slice B' m cb'] #[.int .i64 0, .slice none 0 0, .slice none 0 0] #[.int .i64 k, .slice none 0 0, .slice none 0 0]
          have HW := Lib.hid hbW
          have H7 := Lib.hid h7
          unfold tfields at *
          by_cases h6 : k = 6
          · have hcm : c = m := by have := hsa.1; rw [if_neg (by omega), if_pos h6] at this; exact this.symm
            have hcm' : c = c' := by have := hsb.1; rw [if_neg (by omega), if_pos h6] at this; omega
            subst hcm'
            subst hcm
            subst h6
            clear ih hsa hsb hna hnb hfa hB hB' hxs hxs' hm hm' h7 h7' hbW hnsz tk7 tk7' tkk
            go_enter Tryz.func17, Tryz.ntmps17
            go_wp2_with fail
            obtain ⟨V, hV⟩ : ∃ V, V = w.heap.size + 1 + 1 + 1 := ⟨_, rfl⟩
            obtain ⟨W1, hW1⟩ : ∃ W, W = (((w.alloc (.cells #[.int .i64 6, .slice A c ca, .slice B c cb] 25)).alloc (.cells #[.int .i64 6, .slice A' c ca', .slice B' c cb'] 25)).alloc (.cells #[.int .i64 0, .slice none 0 0, .slice none 0 0] 25)).alloc (.cells #[.int .i64 6, .slice none 0 0, .slice none 0 0] 25) := ⟨_, rfl⟩
            simp only [← hV, ← hW1]
            have hW2 := HW.out
            rw [← hW1] at hW2
            obtain ⟨hbw, g1, g2, g3, g4, hsz⟩ := hW2
            rw [← hV] at g4 hsz
            have HW1 := Lib.hid (And.intro hbw (And.intro g1 (And.intro g2 (And.intro g3 g4))))
            have HV := Lib.hid (And.intro hV hsz)
            clear hbw g1 g2 g3 g4 hsz hV hW1 HW
            go_loopw [7] (fun iv wr => ∃ (i : Nat) (nv itv : Value) (N : List ByteArray) (L : List (Array Value × TT)), i ≤ c ∧ iv = .int .i64 i ∧ Hid (Below V W1 wr) ∧ Hid (TB wr V #[.int .i64 6, nv, itv]) ∧ Hid (Rc (fun b => Q b ∧ b < w.heap.size) wr (V + 1) nv N itv L) ∧ Hid (N.length = i ∧ (∀ q, q < i → N[q]? = some (ns q)) ∧ L.length = i ∧ (∀ q, q < i → ∃ v, L[q]? = some (v, (joinP (xs q) (xs' q)).getD .bad)) ∧ ∀ q, q < i → (joinP (xs q) (xs' q)).isSome = true ∧ ns q = ns' q)) (fun iv _ => c - (intOf iv).toNat)
            case atStart => exact ⟨0, .slice none 0 0, .slice none 0 0, [], [], Nat.zero_le _, rfl, Lib.hid (Below.refl _ _), Lib.hid HW1.out.2.2.2.2, Lib.hid (Rc.start _ _ _), Lib.hid ⟨rfl, fun q hq => absurd hq (Nat.not_lt_zero q), rfl, fun q hq => absurd hq (Nat.not_lt_zero q), fun q hq => absurd hq (Nat.not_lt_zero q)⟩⟩
            case round =>
              obtain ⟨i, nv, itv, N, L, hi, rfl, hBW, hTO, hRC, hFA⟩ := hrel
              have hVz := HV.out
              have hT1 := (HW1.out.2.1.of (hBW.out.block _ (by omega)))
              have hT2 := (HW1.out.2.2.1.of (hBW.out.block _ (by omega)))
              have hT3 := (HW1.out.2.2.2.1.of (hBW.out.block _ (by omega)))
              have hsw := hBW.out.size
              have HBw : Hid (Below w.heap.size w wr) := Lib.hid (HW1.out.1.trans (hBW.out.mono (by omega)))
              have HT := Lib.hid (And.intro hT1 (And.intro hT2 hT3))
              have HSZ : Hid (V + 1 ≤ wr.heap.size) := Lib.hid (by omega)
              obtain ⟨a0, a1, a2, _, _⟩ := hT1.cells
              obtain ⟨b0, b1, b2, _, _⟩ := hT2.cells
              obtain ⟨o0, o1, o2, of, ol⟩ := hTO.out.cells
              clear hT1 hT2 hT3 hsw hVz
              by_cases hlt : i < c
              · have tlt : (i : Int) < c := by omega
                have tge : (0 : Int) ≤ i := by omega
                obtain ⟨gn, on, rfl, _, hgn, hxn⟩ := HNM.out.1 (by omega)
                obtain ⟨gn', on', rfl, _, hgn', hxn'⟩ := HNM.out.2 (by omega)
                have n1 : wr.cell? ⟨gn, on + i, none⟩ = some (.string (ns i)) := (HBw.out.cell (p := ⟨gn, on + i, none⟩) hgn).trans (hxn i hlt).1
                have n2 : wr.cell? ⟨gn', on' + i, none⟩ = some (.string (ns' i)) := (HBw.out.cell (p := ⟨gn', on' + i, none⟩) hgn').trans (hxn' i hlt).1
                clear hxn hxn'
                by_cases he : ns i = ns' i
                · have HE := Lib.hid he
                  rw [← he] at n2
                  clear he
                  go_wp2_with fail
                  go_quiet (fail)
                  have hd : Below wr.heap.size wr (wr.drewN nq) := below_drewN (Below.refl _ _) _
                  generalize wr.drewN nq = w2 at hd ⊢
                  have hB2 : Hid (Below V W1 w2) := Lib.hid (hBW.out.trans (hd.mono (by have := HSZ.out; omega)))
                  have hT2 : Hid (TB w2 V #[.int .i64 6, nv, itv]) := Lib.hid (hTO.out.below hd)
                  have hO2 : w2.ownsRow (V + 1) 9 1 nv N.length (N.map Value.string) := owns_same hRC.out.nms fun k hk => hd.block k (hRC.out.nms.lt k hk).2
                  have hHD := Lib.hid hd
                  obtain ⟨e0, e1, e2, _, _⟩ := (HT.out.1.below hd).cells
                  obtain ⟨o0, o1, o2, of, ol⟩ := hT2.out.cells
                  have n3 : w2.cell? ⟨gn, on + i, none⟩ = some (.string (ns i)) := (hd.cell (p := ⟨gn, on + i, none⟩) (by have := HBw.out.size; show gn < _; omega)).trans n1
                  have hOa := (show w2.drew.ownsRow (V + 1) 9 1 nv N.length (N.map Value.string) from hO2).alloc (.cells #[.string (ns i)] 9)
                  have hnews := new1s w2.drew (ns i)
                  have hone : ∀ u ∈ [Value.string (ns i)], u.oneCell' = true := by simp [Value.oneCell']
                  have hN1000 : N.length ≤ 1000 := by have := hFA.out.1; omega
                  have hbase : V + 1 ≤ (w2.drew.alloc (.cells #[.string (ns i)] 9)).heap.size := by have := HSZ.out; have := hd.size; rw [World.size_alloc]; show V + 1 ≤ w2.heap.size + 1; omega
                  have hTOa : TB (w2.drew.alloc (.cells #[.string (ns i)] 9)) V #[.int .i64 6, nv, itv] := (show TB w2.drew V _ from hT2.out).below ((Below.refl _ _).alloc (Nat.le_refl _) _)
                  have hine : nv.ownBlock ≠ some V := fun e => by have := (hRC.out.nms.lt V e).1; omega
                  have HSI : Hid ((ns i).size ≤ maxLen) := Lib.hid (by have := HFW.out i hlt; unfold maxLen; omega)
                  have HINE := Lib.hid hine
                  have HTOa := Lib.hid hTOa
                  clear hd hO2 n1 n2 a0 a1 a2 b0 b1 b2 hine hTOa
                  go_wp2_with fail
                  go_cut [] from 36 to 90 (fun wx => ∃ (nv6 : Value), Hid (Below V W1 wx) ∧ Hid (TB wx V #[.int .i64 6, nv6, itv]) ∧ Hid (Rc (fun b => Q b ∧ b < w.heap.size) wx (V + 1) nv6 (N ++ [ns i]) itv L))
                  case first =>
                    go_region_law (refine step_append_lies _ rfl (.tmp 59) (.tmp 65) 22 rfl (V + 1) 9 iS _ 1 16 Tryz.underlying22 hiS hs0 hs1 hs2 rfl (by decide) nv N.length _ (by simp [Act.eval]) hOa ⟨w2.drew.heap.size, 0, none⟩ 1 1 [.string (ns i)] (by simp [Act.eval]) rfl hnews hone (by decide) (by unfold maxLen; omega) (by omega) hbase _ rfl ?_; intro g5 cap5 w5 hown5 hgrow5 hat5 hlt5; have hBx5 := (hgrow5.block V HTOa.out.lt (fun e => HINE.out e.symm)).trans HTOa.out; obtain ⟨z0, z1, z2, zf, zl⟩ := TB.cells hBx5)
                    all_goals (try go_wp2_with fail)
                    all_goals go_meet
                    all_goals exact ⟨_, Lib.hid (below_set1 ((hB2.out.drew.alloc (by have := HSZ.out; have := hHD.out.size; show V ≤ w2.heap.size; omega) _).grown hgrow5 (by rw [World.size_alloc]; have := HSZ.out; have := hHD.out.size; show V ≤ w2.heap.size + 1; omega) (fun q e => by have := (hRC.out.nms.lt q e).1; omega)) (Nat.le_refl _) _ _), Lib.hid (TB.set hBx5 1 _), Lib.hid (hRC.out.name (u := .slice (some ⟨g5, 0, none⟩) (N.length + 1) cap5) (V := V) (fun b hb => by have := HV.out; omega) (hHD.out.trans (((Below.refl _ _).drew).mono hHD.out.size)) (by omega) HSI.out hown5 hgrow5 (hat5.imp (fun e => e.symm) (fun e => congrArg some e)))⟩
                  case rest =>
                    obtain ⟨nv6, hB6, hT6, hR6⟩ := hcut
                    clear hB2 hT2 hHD e0 e1 e2 o0 o1 o2 of n3 hOa hnews hone hbase HTOa HINE hBW hTO hRC HT HBw HSZ
                    have hFA6 : Hid ((N ++ [ns i]).length = i + 1 ∧ (∀ q, q < i + 1 → (N ++ [ns i])[q]? = some (ns q)) ∧ L.length = i ∧ (∀ q, q < i → ∃ v, L[q]? = some (v, (joinP (xs q) (xs' q)).getD .bad)) ∧ ∀ q, q < i → (joinP (xs q) (xs' q)).isSome = true ∧ ns q = ns' q) := Lib.hid (by
                      obtain ⟨f1, f2, f3, f4, f5⟩ := hFA.out
                      refine ⟨by simp [f1], fun q hq => ?_, f3, f4, f5⟩
                      by_cases e : q = i
                      · subst e
                        rw [List.getElem?_append_right (by omega), f1, Nat.sub_self]; rfl
                      · rw [List.getElem?_append_left (by omega)]; exact f2 q (by omega))
                    generalize wc = w6 at *
                    obtain ⟨g, o, rfl, _, hg, hx⟩ := HX.out.1 (by omega)
                    obtain ⟨g', o', rfl, _, hg', hx'⟩ := HX.out.2.1 (by omega)
                    have hti := HX.out.2.2.1 i hlt
                    have htj := HX.out.2.2.2 i hlt
                    have hBw6 : Below w.heap.size w w6 := HW1.out.1.trans (hB6.out.mono (by have := HV.out; omega))
                    have hra := (hx i hlt).keep fun o => hBw6.cell (p := ⟨g, o, none⟩) hg
                    have hrb := (hx' i hlt).keep fun o => hBw6.cell (p := ⟨g', o, none⟩) hg'
                    generalize vs i = vi at *
                    generalize us i = ui at *
                    obtain ⟨k1, A1, c1, ca1, B1, m1, cb1, rfl⟩ := hti.form
                    obtain ⟨k2, A2, c2, ca2, B2, m2, cb2, rfl⟩ := htj.form
                    obtain ⟨c0, c1', c2'⟩ := hra.cells
                    obtain ⟨d0, d1, d2⟩ := hrb.cells
                    obtain ⟨a0, a1, a2, _, _⟩ := (HW1.out.2.1.of (hB6.out.block _ (by have := HV.out; omega))).cells
                    obtain ⟨b0, b1, b2, _, _⟩ := (HW1.out.2.2.1.of (hB6.out.block _ (by have := HV.out; omega))).cells
                    obtain ⟨r, hr⟩ : ∃ r, joinP (xs i) (xs' i) = r := ⟨_, rfl⟩
                    have C := Lib.hid (fun (W : World) (hW : Below w6.heap.size w6 W) => IH.out i (xs' i) _ _ (fun b => Q b ∧ b < w.heap.size) W ((hti.imp fun b hb hl => ⟨hb, hl⟩).stay (hBw6.trans (hW.mono hBw6.size))) ((htj.imp fun b hb hl => ⟨hb, hl⟩).stay (hBw6.trans (hW.mono hBw6.size))) (HS.out.1 i hlt) (HS.out.2.1 i hlt) (HS.out.2.2.1 i hlt) (HS.out.2.2.2.1 i hlt) (HS.out.2.2.2.2 i hlt))
                    rw [hr] at C
                    have HR := Lib.hid hr
                    have HSZ6 : Hid (V + 1 ≤ w6.heap.size) := Lib.hid (by have := HV.out; have := hB6.out.size; omega)
                    have HC := Lib.hid (fun (W : World) (hW : Below w6.heap.size w6 W) => And.intro ((hW.cell (p := ⟨w.heap.size, 2, none⟩) (by have := hBw6.size; have := HV.out; have := hB6.out.size; show w.heap.size < _; omega)).trans a2) (And.intro ((hW.cell (p := ⟨w.heap.size + 1, 2, none⟩) (by have := HV.out; have := hB6.out.size; show w.heap.size + 1 < _; omega)).trans b2) (And.intro ((hW.cell (p := ⟨g, o + i * 3, none⟩) (by have := hBw6.size; show g < _; omega)).trans c0) (And.intro ((hW.cell (p := ⟨g, o + i * 3 + 1, none⟩) (by have := hBw6.size; show g < _; omega)).trans c1') (And.intro ((hW.cell (p := ⟨g, o + i * 3 + 2, none⟩) (by have := hBw6.size; show g < _; omega)).trans c2') (And.intro ((hW.cell (p := ⟨g', o' + i * 3, none⟩) (by have := hBw6.size; show g' < _; omega)).trans d0) (And.intro ((hW.cell (p := ⟨g', o' + i * 3 + 1, none⟩) (by have := hBw6.size; show g' < _; omega)).trans d1) ((hW.cell (p := ⟨g', o' + i * 3 + 2, none⟩) (by have := hBw6.size; show g' < _; omega)).trans d2))))))))
                    clear hti htj hra hrb hBw6 hr hx hx' hg hg'
                    cases r with
                    | none =>
                      have HJ : Hid (joinP (.mk 6 c ns c xs) (.mk 6 c ns' c xs') = none) := Lib.hid (by
                        cases e : joinP (.mk 6 c ns c xs) (.mk 6 c ns' c xs') with
                        | none => rfl
                        | some t =>
                          rcases join_cases.1 e with ⟨h, _⟩ | ⟨_, h, _⟩ | ⟨_, _, _, _, ha, _⟩
                          · exact absurd h H7.out
                          · exact absurd h H7.out
                          · have := ha i hlt
                            rw [HR.out] at this
                            cases this)
                      go_wp2_with fail
                      go_cut [8, 9] from 36 to 90 (fun _ ok wx => ok = .bool false ∧ Below w6.heap.size w6 wx)
                      case first =>
                        refine wp_region_held_drew (S := fun W => Below w6.heap.size w6 W) (by kernel_rfl) (Below.refl _ _).drew (fun _ => ?_)
                        refine takeG (i := 0) (some 69) (.pointer (some ⟨w.heap.size, 2, none⟩)) rfl rfl (by kernel_rfl) (by kernel_rfl) (by kernel_rfl) (fun _ _ _ h => h) (Below.refl _ _).drew (by kernel_rfl) (fun W hW => by obtain ⟨f0, f1, f2, f3, f4, f5, f6, f7⟩ := HC.out W hW; go_simp) ?_
                        simp only [Act.put, List.setIfInBounds_toArray, List.set_cons_zero, List.set_cons_succ]
                        refine takeG (i := 1) (some 70) (.slice (some ⟨g, o, none⟩) c cb) rfl rfl (by kernel_rfl) (by kernel_rfl) (by kernel_rfl) (fun _ _ _ h => h) (Below.refl _ _).drew (by kernel_rfl) (fun W hW => by obtain ⟨f0, f1, f2, f3, f4, f5, f6, f7⟩ := HC.out W hW; go_simp) ?_
                        simp only [Act.put, List.setIfInBounds_toArray, List.set_cons_zero, List.set_cons_succ]
                        refine takeG (i := 2) (some 71) (.int .i64 (i : Int)) rfl rfl (by kernel_rfl) (by kernel_rfl) (by kernel_rfl) (fun _ _ _ h => h) (Below.refl _ _).drew (by kernel_rfl) (fun W hW => by obtain ⟨f0, f1, f2, f3, f4, f5, f6, f7⟩ := HC.out W hW; go_simp) ?_
                        simp only [Act.put, List.setIfInBounds_toArray, List.set_cons_zero, List.set_cons_succ]
                        refine takeG (i := 3) (some 72) (.pointer (some ⟨g, o + i * 3, none⟩)) rfl rfl (by kernel_rfl) (by kernel_rfl) (by kernel_rfl) (fun _ _ _ h => h) (Below.refl _ _).drew (by kernel_rfl) (fun W hW => by obtain ⟨f0, f1, f2, f3, f4, f5, f6, f7⟩ := HC.out W hW; go_simp) ?_
                        simp only [Act.put, List.setIfInBounds_toArray, List.set_cons_zero, List.set_cons_succ]
                        refine takeG (i := 4) (some 73) (.agg #[.int .i64 k1, .slice A1 c1 ca1, .slice B1 m1 cb1]) rfl rfl (by kernel_rfl) (by kernel_rfl) (by kernel_rfl) (fun _ _ _ h => h) (Below.refl _ _).drew (by kernel_rfl) (fun W hW => by obtain ⟨f0, f1, f2, f3, f4, f5, f6, f7⟩ := HC.out W hW; go_simp) ?_
                        simp only [Act.put, List.setIfInBounds_toArray, List.set_cons_zero, List.set_cons_succ]
                        refine takeG (i := 5) (some 74) (.pointer (some ⟨w.heap.size + 1, 2, none⟩)) rfl rfl (by kernel_rfl) (by kernel_rfl) (by kernel_rfl) (fun _ _ _ h => h) (Below.refl _ _).drew (by kernel_rfl) (fun W hW => by obtain ⟨f0, f1, f2, f3, f4, f5, f6, f7⟩ := HC.out W hW; go_simp) ?_
                        simp only [Act.put, List.setIfInBounds_toArray, List.set_cons_zero, List.set_cons_succ]
                        refine takeG (i := 6) (some 75) (.slice (some ⟨g', o', none⟩) c cb') rfl rfl (by kernel_rfl) (by kernel_rfl) (by kernel_rfl) (fun _ _ _ h => h) (Below.refl _ _).drew (by kernel_rfl) (fun W hW => by obtain ⟨f0, f1, f2, f3, f4, f5, f6, f7⟩ := HC.out W hW; go_simp) ?_
                        simp only [Act.put, List.setIfInBounds_toArray, List.set_cons_zero, List.set_cons_succ]
                        refine takeG (i := 7) (some 76) (.int .i64 (i : Int)) rfl rfl (by kernel_rfl) (by kernel_rfl) (by kernel_rfl) (fun _ _ _ h => h) (Below.refl _ _).drew (by kernel_rfl) (fun W hW => by obtain ⟨f0, f1, f2, f3, f4, f5, f6, f7⟩ := HC.out W hW; go_simp) ?_
                        simp only [Act.put, List.setIfInBounds_toArray, List.set_cons_zero, List.set_cons_succ]
                        refine takeG (i := 8) (some 77) (.pointer (some ⟨g', o' + i * 3, none⟩)) rfl rfl (by kernel_rfl) (by kernel_rfl) (by kernel_rfl) (fun _ _ _ h => h) (Below.refl _ _).drew (by kernel_rfl) (fun W hW => by obtain ⟨f0, f1, f2, f3, f4, f5, f6, f7⟩ := HC.out W hW; go_simp) ?_
                        simp only [Act.put, List.setIfInBounds_toArray, List.set_cons_zero, List.set_cons_succ]
                        refine takeG (i := 9) (some 78) (.agg #[.int .i64 k2, .slice A2 c2 ca2, .slice B2 m2 cb2]) rfl rfl (by kernel_rfl) (by kernel_rfl) (by kernel_rfl) (fun _ _ _ h => h) (Below.refl _ _).drew (by kernel_rfl) (fun W hW => by obtain ⟨f0, f1, f2, f3, f4, f5, f6, f7⟩ := HC.out W hW; go_simp) ?_
                        simp only [Act.put, List.setIfInBounds_toArray, List.set_cons_zero, List.set_cons_succ]
                        refine wpAnyH_ready (rs := [10, 14]) (by kernel_rfl) (by simp) (AllReadyH.cons rfl (fun K1 hK1 => ?_) (AllReadyH.cons rfl (fun K2 hK2 => ?_) AllReadyH.nil))
                        · refine branchC 17 #[.agg #[.int .i64 k1, .slice A1 c1 ca1, .slice B1 m1 cb1], .agg #[.int .i64 k2, .slice A2 c2 ca2, .slice B2 m2 cb2]] (some 79) rfl (by kernel_rfl) (by go_simp) ((C.out _ (Below.refl _ _).drew).mono ?_)
                          rintro e w7 ⟨hb7, rfl⟩
                          have hs7 : Below w6.heap.size w6 w7 := (Below.refl _ _).drew.trans hb7
                          refine ⟨_, rfl, ?_⟩
                          refine hK1.out _ _ hs7 (fun _ => ?_)
                          simp only [Act.put, List.setIfInBounds_toArray, List.set_cons_zero, List.set_cons_succ]
                          refine takeG (i := 11) (some 68) (.tuple #[.agg #[.int .i64 0, .slice none 0 0, .slice none 0 0], .bool false]) rfl rfl (by kernel_rfl) (by kernel_rfl) (by kernel_rfl) (fun _ _ _ h => h) hs7 (by kernel_rfl) (fun W hW => by obtain ⟨f0, f1, f2, f3, f4, f5, f6, f7⟩ := HC.out W hW; go_simp) ?_
                          simp only [Act.put, List.setIfInBounds_toArray, List.set_cons_zero, List.set_cons_succ]
                          refine takeG (i := 12) (some 80) (.agg #[.int .i64 0, .slice none 0 0, .slice none 0 0]) rfl rfl (by kernel_rfl) (by kernel_rfl) (by kernel_rfl) (fun _ _ _ h => h) hs7 (by kernel_rfl) (fun W hW => by obtain ⟨f0, f1, f2, f3, f4, f5, f6, f7⟩ := HC.out W hW; go_simp) ?_
                          simp only [Act.put, List.setIfInBounds_toArray, List.set_cons_zero, List.set_cons_succ]
                          refine takeG (i := 13) (some 81) (.bool false) rfl rfl (by kernel_rfl) (by kernel_rfl) (by kernel_rfl) (fun _ _ _ h => h) hs7 (by kernel_rfl) (fun W hW => by obtain ⟨f0, f1, f2, f3, f4, f5, f6, f7⟩ := HC.out W hW; go_simp) ?_
                          simp only [Act.put, List.setIfInBounds_toArray, List.set_cons_zero, List.set_cons_succ]
                          have hs8 : Below w6.heap.size w6 (w7.alloc (.cells #[.int .i64 0, .slice none 0 0, .slice none 0 0] 25)) := hs7.alloc hs7.size _
                          refine wpAnyH_ready (rs := [14]) (by kernel_rfl) (by simp) (AllReadyH.cons rfl (fun K3 hK3 => ?_) AllReadyH.nil)
                          refine branchG (some 8) (.pointer (some ⟨w7.heap.size, 0, none⟩)) (w7.alloc (.cells #[.int .i64 0, .slice none 0 0, .slice none 0 0] 25)) rfl (by kernel_rfl) (by go_simp) ?_
                          refine hK3.out _ _ hs8 (fun _ => ?_)
                          simp only [Act.put, List.setIfInBounds_toArray, List.set_cons_zero, List.set_cons_succ]
                          refine wpAnyH_ready (rs := [15]) (by kernel_rfl) (by simp) (AllReadyH.cons rfl (fun K4 hK4 => ?_) AllReadyH.nil)
                          refine branchV _ _ w7.heap.size #[.int .i64 0, .slice none 0 0, .slice none 0 0] #[.int .i64 0, .slice none 0 0, .slice none 0 0] rfl (by kernel_rfl) rfl rfl rfl (TB.new w7 #[.int .i64 0, .slice none 0 0, .slice none 0 0]) rfl rfl (by simp [Value.oneCell']) ?_
                          have hs9 := below_row hs8 hs7.size #[.int .i64 0, .slice none 0 0, .slice none 0 0]
                          refine hK4.out _ _ hs9 (fun _ => ?_)
                          simp only [Act.put]
                          refine takeG (i := 16) (some 9) (.bool false) rfl rfl (by kernel_rfl) (by kernel_rfl) (by kernel_rfl) (fun _ _ _ h => h) hs9 (by kernel_rfl) (fun W hW => by obtain ⟨f0, f1, f2, f3, f4, f5, f6, f7⟩ := HC.out W hW; go_simp) ?_
                          simp only [Act.put, List.setIfInBounds_toArray, List.set_cons_zero, List.set_cons_succ]
                          refine wpAnyH_done (by kernel_rfl) ?_ _
                          try go_wp2_with fail
                          go_meet
                          exact ⟨rfl, hs9⟩
                        · have hs8 : Below w6.heap.size w6 (w6.drew.alloc (.cells #[.int .i64 0, .slice none 0 0, .slice none 0 0] 25)) := (Below.refl _ _).drew.alloc (Nat.le_refl _) _
                          refine branchG (some 8) (.pointer (some ⟨w6.heap.size, 0, none⟩)) (w6.drew.alloc (.cells #[.int .i64 0, .slice none 0 0, .slice none 0 0] 25)) rfl (by kernel_rfl) (by go_simp) ?_
                          refine hK2.out _ _ hs8 (fun _ => ?_)
                          simp only [Act.put, List.setIfInBounds_toArray, List.set_cons_zero, List.set_cons_succ]
                          refine wpAnyH_ready (rs := [10]) (by kernel_rfl) (by simp) (AllReadyH.cons rfl (fun K3 hK3 => ?_) AllReadyH.nil)
                          refine branchC 17 #[.agg #[.int .i64 k1, .slice A1 c1 ca1, .slice B1 m1 cb1], .agg #[.int .i64 k2, .slice A2 c2 ca2, .slice B2 m2 cb2]] (some 79) rfl (by kernel_rfl) (by go_simp) ((C.out _ hs8).mono ?_)
                          rintro e w7 ⟨hb7, rfl⟩
                          have hs7 : Below w6.heap.size w6 w7 := hs8.trans (hb7.mono (by rw [World.size_alloc]; exact Nat.le_succ _))
                          have hz7 : TB w7 w6.heap.size #[.int .i64 0, .slice none 0 0, .slice none 0 0] := (TB.new w6.drew #[.int .i64 0, .slice none 0 0, .slice none 0 0]).below hb7
                          refine ⟨_, rfl, ?_⟩
                          refine hK3.out _ _ hs7 (fun _ => ?_)
                          simp only [Act.put, List.setIfInBounds_toArray, List.set_cons_zero, List.set_cons_succ]
                          refine takeG (i := 11) (some 68) (.tuple #[.agg #[.int .i64 0, .slice none 0 0, .slice none 0 0], .bool false]) rfl rfl (by kernel_rfl) (by kernel_rfl) (by kernel_rfl) (fun _ _ _ h => h) hs7 (by kernel_rfl) (fun W hW => by obtain ⟨f0, f1, f2, f3, f4, f5, f6, f7⟩ := HC.out W hW; go_simp) ?_
                          simp only [Act.put, List.setIfInBounds_toArray, List.set_cons_zero, List.set_cons_succ]
                          refine takeG (i := 12) (some 80) (.agg #[.int .i64 0, .slice none 0 0, .slice none 0 0]) rfl rfl (by kernel_rfl) (by kernel_rfl) (by kernel_rfl) (fun _ _ _ h => h) hs7 (by kernel_rfl) (fun W hW => by obtain ⟨f0, f1, f2, f3, f4, f5, f6, f7⟩ := HC.out W hW; go_simp) ?_
                          simp only [Act.put, List.setIfInBounds_toArray, List.set_cons_zero, List.set_cons_succ]
                          refine takeG (i := 13) (some 81) (.bool false) rfl rfl (by kernel_rfl) (by kernel_rfl) (by kernel_rfl) (fun _ _ _ h => h) hs7 (by kernel_rfl) (fun W hW => by obtain ⟨f0, f1, f2, f3, f4, f5, f6, f7⟩ := HC.out W hW; go_simp) ?_
                          simp only [Act.put, List.setIfInBounds_toArray, List.set_cons_zero, List.set_cons_succ]
                          refine wpAnyH_ready (rs := [15]) (by kernel_rfl) (by simp) (AllReadyH.cons rfl (fun K4 hK4 => ?_) AllReadyH.nil)
                          refine branchV _ _ w6.heap.size #[.int .i64 0, .slice none 0 0, .slice none 0 0] #[.int .i64 0, .slice none 0 0, .slice none 0 0] rfl (by kernel_rfl) rfl rfl rfl hz7 rfl rfl (by simp [Value.oneCell']) ?_
                          have hs9 := below_row hs7 (Nat.le_refl _) #[.int .i64 0, .slice none 0 0, .slice none 0 0]
                          refine hK4.out _ _ hs9 (fun _ => ?_)
                          simp only [Act.put]
                          refine takeG (i := 16) (some 9) (.bool false) rfl rfl (by kernel_rfl) (by kernel_rfl) (by kernel_rfl) (fun _ _ _ h => h) hs9 (by kernel_rfl) (fun W hW => by obtain ⟨f0, f1, f2, f3, f4, f5, f6, f7⟩ := HC.out W hW; go_simp) ?_
                          simp only [Act.put, List.setIfInBounds_toArray, List.set_cons_zero, List.set_cons_succ]
                          refine wpAnyH_done (by kernel_rfl) ?_ _
                          try go_wp2_with fail
                          go_meet
                          exact ⟨rfl, hs9⟩
                      case rest =>
                        obtain ⟨rfl, hb8⟩ := hcut
                        have hR8 := Lib.hid ((HW1.out.2.2.2.1.of (hB6.out.block _ (by have := HV.out; omega))).below hb8)
                        have HB8 := Lib.hid (HW1.out.1.trans ((hB6.out.mono (by have := HV.out; omega)).trans (hb8.mono (by have := HV.out; have := HSZ6.out; omega))))
                        clear hb8
                        go_wp2_with (refine stT rfl _ _ rfl (w.heap.size + 1 + 1) #[.int .i64 0, .slice none 0 0, .slice none 0 0] #[.int .i64 0, .slice none 0 0, .slice none 0 0] rfl rfl hR8.out rfl rfl (by simp [Value.oneCell']) ?_)
                        refine bodyPost_ret (results_typ2 rfl _ _ (w.heap.size + 1 + 1) _ _ rfl rfl (hR8.out.put _) rfl) rfl ⟨below_row HB8.out (by omega) _, ?_⟩
                        rw [HJ.out]
                        rfl
                    | some t =>
                      go_wp2_with fail
                      go_cut [8, 9] from 36 to 90 (fun p ok wx => ∃ (R : Nat) (x : Array Value), p = .pointer (some ⟨R, 0, none⟩) ∧ ok = .bool true ∧ w6.heap.size ≤ R ∧ TB wx R x ∧ TW wx (fun b => (Q b ∧ b < w.heap.size) ∨ w6.heap.size ≤ b) x t ∧ Below w6.heap.size w6 wx)
                      case first =>
                        refine wp_region_held_drew (S := fun W => Below w6.heap.size w6 W) (by kernel_rfl) (Below.refl _ _).drew (fun _ => ?_)
                        refine takeG (i := 0) (some 69) (.pointer (some ⟨w.heap.size, 2, none⟩)) rfl rfl (by kernel_rfl) (by kernel_rfl) (by kernel_rfl) (fun _ _ _ h => h) (Below.refl _ _).drew (by kernel_rfl) (fun W hW => by obtain ⟨f0, f1, f2, f3, f4, f5, f6, f7⟩ := HC.out W hW; go_simp) ?_
                        simp only [Act.put, List.setIfInBounds_toArray, List.set_cons_zero, List.set_cons_succ]
                        refine takeG (i := 1) (some 70) (.slice (some ⟨g, o, none⟩) c cb) rfl rfl (by kernel_rfl) (by kernel_rfl) (by kernel_rfl) (fun _ _ _ h => h) (Below.refl _ _).drew (by kernel_rfl) (fun W hW => by obtain ⟨f0, f1, f2, f3, f4, f5, f6, f7⟩ := HC.out W hW; go_simp) ?_
                        simp only [Act.put, List.setIfInBounds_toArray, List.set_cons_zero, List.set_cons_succ]
                        refine takeG (i := 2) (some 71) (.int .i64 (i : Int)) rfl rfl (by kernel_rfl) (by kernel_rfl) (by kernel_rfl) (fun _ _ _ h => h) (Below.refl _ _).drew (by kernel_rfl) (fun W hW => by obtain ⟨f0, f1, f2, f3, f4, f5, f6, f7⟩ := HC.out W hW; go_simp) ?_
                        simp only [Act.put, List.setIfInBounds_toArray, List.set_cons_zero, List.set_cons_succ]
                        refine takeG (i := 3) (some 72) (.pointer (some ⟨g, o + i * 3, none⟩)) rfl rfl (by kernel_rfl) (by kernel_rfl) (by kernel_rfl) (fun _ _ _ h => h) (Below.refl _ _).drew (by kernel_rfl) (fun W hW => by obtain ⟨f0, f1, f2, f3, f4, f5, f6, f7⟩ := HC.out W hW; go_simp) ?_
                        simp only [Act.put, List.setIfInBounds_toArray, List.set_cons_zero, List.set_cons_succ]
                        refine takeG (i := 4) (some 73) (.agg #[.int .i64 k1, .slice A1 c1 ca1, .slice B1 m1 cb1]) rfl rfl (by kernel_rfl) (by kernel_rfl) (by kernel_rfl) (fun _ _ _ h => h) (Below.refl _ _).drew (by kernel_rfl) (fun W hW => by obtain ⟨f0, f1, f2, f3, f4, f5, f6, f7⟩ := HC.out W hW; go_simp) ?_
                        simp only [Act.put, List.setIfInBounds_toArray, List.set_cons_zero, List.set_cons_succ]
                        refine takeG (i := 5) (some 74) (.pointer (some ⟨w.heap.size + 1, 2, none⟩)) rfl rfl (by kernel_rfl) (by kernel_rfl) (by kernel_rfl) (fun _ _ _ h => h) (Below.refl _ _).drew (by kernel_rfl) (fun W hW => by obtain ⟨f0, f1, f2, f3, f4, f5, f6, f7⟩ := HC.out W hW; go_simp) ?_
                        simp only [Act.put, List.setIfInBounds_toArray, List.set_cons_zero, List.set_cons_succ]
                        refine takeG (i := 6) (some 75) (.slice (some ⟨g', o', none⟩) c cb') rfl rfl (by kernel_rfl) (by kernel_rfl) (by kernel_rfl) (fun _ _ _ h => h) (Below.refl _ _).drew (by kernel_rfl) (fun W hW => by obtain ⟨f0, f1, f2, f3, f4, f5, f6, f7⟩ := HC.out W hW; go_simp) ?_
                        simp only [Act.put, List.setIfInBounds_toArray, List.set_cons_zero, List.set_cons_succ]
                        refine takeG (i := 7) (some 76) (.int .i64 (i : Int)) rfl rfl (by kernel_rfl) (by kernel_rfl) (by kernel_rfl) (fun _ _ _ h => h) (Below.refl _ _).drew (by kernel_rfl) (fun W hW => by obtain ⟨f0, f1, f2, f3, f4, f5, f6, f7⟩ := HC.out W hW; go_simp) ?_
                        simp only [Act.put, List.setIfInBounds_toArray, List.set_cons_zero, List.set_cons_succ]
                        refine takeG (i := 8) (some 77) (.pointer (some ⟨g', o' + i * 3, none⟩)) rfl rfl (by kernel_rfl) (by kernel_rfl) (by kernel_rfl) (fun _ _ _ h => h) (Below.refl _ _).drew (by kernel_rfl) (fun W hW => by obtain ⟨f0, f1, f2, f3, f4, f5, f6, f7⟩ := HC.out W hW; go_simp) ?_
                        simp only [Act.put, List.setIfInBounds_toArray, List.set_cons_zero, List.set_cons_succ]
                        refine takeG (i := 9) (some 78) (.agg #[.int .i64 k2, .slice A2 c2 ca2, .slice B2 m2 cb2]) rfl rfl (by kernel_rfl) (by kernel_rfl) (by kernel_rfl) (fun _ _ _ h => h) (Below.refl _ _).drew (by kernel_rfl) (fun W hW => by obtain ⟨f0, f1, f2, f3, f4, f5, f6, f7⟩ := HC.out W hW; go_simp) ?_
                        simp only [Act.put, List.setIfInBounds_toArray, List.set_cons_zero, List.set_cons_succ]
                        refine wpAnyH_ready (rs := [10, 14]) (by kernel_rfl) (by simp) (AllReadyH.cons rfl (fun K1 hK1 => ?_) (AllReadyH.cons rfl (fun K2 hK2 => ?_) AllReadyH.nil))
                        · refine branchC 17 #[.agg #[.int .i64 k1, .slice A1 c1 ca1, .slice B1 m1 cb1], .agg #[.int .i64 k2, .slice A2 c2 ca2, .slice B2 m2 cb2]] (some 79) rfl (by kernel_rfl) (by go_simp) ((C.out _ (Below.refl _ _).drew).mono ?_)
                          rintro e w7 ⟨hb7, x, rfl, hx⟩
                          obtain ⟨x0, x1, x2, x3, x4, x5, x6, rfl⟩ := hx.form
                          have hs7 : Below w6.heap.size w6 w7 := (Below.refl _ _).drew.trans hb7
                          refine ⟨_, rfl, ?_⟩
                          refine hK1.out _ _ hs7 (fun _ => ?_)
                          simp only [Act.put, List.setIfInBounds_toArray, List.set_cons_zero, List.set_cons_succ]
                          refine takeG (i := 11) (some 68) (.tuple #[.agg #[.int .i64 x0, .slice x1 x2 x3, .slice x4 x5 x6], .bool true]) rfl rfl (by kernel_rfl) (by kernel_rfl) (by kernel_rfl) (fun _ _ _ h => h) hs7 (by kernel_rfl) (fun W hW => by obtain ⟨f0, f1, f2, f3, f4, f5, f6, f7⟩ := HC.out W hW; go_simp) ?_
                          simp only [Act.put, List.setIfInBounds_toArray, List.set_cons_zero, List.set_cons_succ]
                          refine takeG (i := 12) (some 80) (.agg #[.int .i64 x0, .slice x1 x2 x3, .slice x4 x5 x6]) rfl rfl (by kernel_rfl) (by kernel_rfl) (by kernel_rfl) (fun _ _ _ h => h) hs7 (by kernel_rfl) (fun W hW => by obtain ⟨f0, f1, f2, f3, f4, f5, f6, f7⟩ := HC.out W hW; go_simp) ?_
                          simp only [Act.put, List.setIfInBounds_toArray, List.set_cons_zero, List.set_cons_succ]
                          refine takeG (i := 13) (some 81) (.bool true) rfl rfl (by kernel_rfl) (by kernel_rfl) (by kernel_rfl) (fun _ _ _ h => h) hs7 (by kernel_rfl) (fun W hW => by obtain ⟨f0, f1, f2, f3, f4, f5, f6, f7⟩ := HC.out W hW; go_simp) ?_
                          simp only [Act.put, List.setIfInBounds_toArray, List.set_cons_zero, List.set_cons_succ]
                          have hs8 : Below w6.heap.size w6 (w7.alloc (.cells #[.int .i64 0, .slice none 0 0, .slice none 0 0] 25)) := hs7.alloc hs7.size _
                          refine wpAnyH_ready (rs := [14]) (by kernel_rfl) (by simp) (AllReadyH.cons rfl (fun K3 hK3 => ?_) AllReadyH.nil)
                          refine branchG (some 8) (.pointer (some ⟨w7.heap.size, 0, none⟩)) (w7.alloc (.cells #[.int .i64 0, .slice none 0 0, .slice none 0 0] 25)) rfl (by kernel_rfl) (by go_simp) ?_
                          refine hK3.out _ _ hs8 (fun _ => ?_)
                          simp only [Act.put, List.setIfInBounds_toArray, List.set_cons_zero, List.set_cons_succ]
                          refine wpAnyH_ready (rs := [15]) (by kernel_rfl) (by simp) (AllReadyH.cons rfl (fun K4 hK4 => ?_) AllReadyH.nil)
                          refine branchV _ _ w7.heap.size #[.int .i64 x0, .slice x1 x2 x3, .slice x4 x5 x6] #[.int .i64 0, .slice none 0 0, .slice none 0 0] rfl (by kernel_rfl) rfl rfl rfl (TB.new w7 #[.int .i64 0, .slice none 0 0, .slice none 0 0]) rfl rfl (by simp [Value.oneCell']) ?_
                          have hs9 := below_row hs8 hs7.size #[.int .i64 x0, .slice x1 x2 x3, .slice x4 x5 x6]
                          refine hK4.out _ _ hs9 (fun _ => ?_)
                          simp only [Act.put]
                          refine takeG (i := 16) (some 9) (.bool true) rfl rfl (by kernel_rfl) (by kernel_rfl) (by kernel_rfl) (fun _ _ _ h => h) hs9 (by kernel_rfl) (fun W hW => by obtain ⟨f0, f1, f2, f3, f4, f5, f6, f7⟩ := HC.out W hW; go_simp) ?_
                          simp only [Act.put, List.setIfInBounds_toArray, List.set_cons_zero, List.set_cons_succ]
                          refine wpAnyH_done (by kernel_rfl) ?_ _
                          try go_wp2_with fail
                          go_meet
                          exact ⟨_, _, rfl, rfl, hs7.size, (TB.new w7 #[.int .i64 0, .slice none 0 0, .slice none 0 0]).put _, (((hx.imp (Q := fun b => ((Q b ∧ b < w.heap.size) ∨ w6.heap.size ≤ b) ∧ b < w7.heap.size) fun b hb hl => ⟨hb, hl⟩).stay ((Below.refl _ _).alloc (Nat.le_refl _) _)).keep (by simp [World.setRow]) fun b hb _ => setRow_other _ _ _ _ (by have := hb.2; omega)).imp fun b hb _ => hb.1, hs9⟩
                        · have hs8 : Below w6.heap.size w6 (w6.drew.alloc (.cells #[.int .i64 0, .slice none 0 0, .slice none 0 0] 25)) := (Below.refl _ _).drew.alloc (Nat.le_refl _) _
                          refine branchG (some 8) (.pointer (some ⟨w6.heap.size, 0, none⟩)) (w6.drew.alloc (.cells #[.int .i64 0, .slice none 0 0, .slice none 0 0] 25)) rfl (by kernel_rfl) (by go_simp) ?_
                          refine hK2.out _ _ hs8 (fun _ => ?_)
                          simp only [Act.put, List.setIfInBounds_toArray, List.set_cons_zero, List.set_cons_succ]
                          refine wpAnyH_ready (rs := [10]) (by kernel_rfl) (by simp) (AllReadyH.cons rfl (fun K3 hK3 => ?_) AllReadyH.nil)
                          refine branchC 17 #[.agg #[.int .i64 k1, .slice A1 c1 ca1, .slice B1 m1 cb1], .agg #[.int .i64 k2, .slice A2 c2 ca2, .slice B2 m2 cb2]] (some 79) rfl (by kernel_rfl) (by go_simp) ((C.out _ hs8).mono ?_)
                          rintro e w7 ⟨hb7, x, rfl, hx⟩
                          obtain ⟨x0, x1, x2, x3, x4, x5, x6, rfl⟩ := hx.form
                          have hs7 : Below w6.heap.size w6 w7 := hs8.trans (hb7.mono (by rw [World.size_alloc]; exact Nat.le_succ _))
                          have hz7 : TB w7 w6.heap.size #[.int .i64 0, .slice none 0 0, .slice none 0 0] := (TB.new w6.drew #[.int .i64 0, .slice none 0 0, .slice none 0 0]).below hb7
                          refine ⟨_, rfl, ?_⟩
                          refine hK3.out _ _ hs7 (fun _ => ?_)
                          simp only [Act.put, List.setIfInBounds_toArray, List.set_cons_zero, List.set_cons_succ]
                          refine takeG (i := 11) (some 68) (.tuple #[.agg #[.int .i64 x0, .slice x1 x2 x3, .slice x4 x5 x6], .bool true]) rfl rfl (by kernel_rfl) (by kernel_rfl) (by kernel_rfl) (fun _ _ _ h => h) hs7 (by kernel_rfl) (fun W hW => by obtain ⟨f0, f1, f2, f3, f4, f5, f6, f7⟩ := HC.out W hW; go_simp) ?_
                          simp only [Act.put, List.setIfInBounds_toArray, List.set_cons_zero, List.set_cons_succ]
                          refine takeG (i := 12) (some 80) (.agg #[.int .i64 x0, .slice x1 x2 x3, .slice x4 x5 x6]) rfl rfl (by kernel_rfl) (by kernel_rfl) (by kernel_rfl) (fun _ _ _ h => h) hs7 (by kernel_rfl) (fun W hW => by obtain ⟨f0, f1, f2, f3, f4, f5, f6, f7⟩ := HC.out W hW; go_simp) ?_
                          simp only [Act.put, List.setIfInBounds_toArray, List.set_cons_zero, List.set_cons_succ]
                          refine takeG (i := 13) (some 81) (.bool true) rfl rfl (by kernel_rfl) (by kernel_rfl) (by kernel_rfl) (fun _ _ _ h => h) hs7 (by kernel_rfl) (fun W hW => by obtain ⟨f0, f1, f2, f3, f4, f5, f6, f7⟩ := HC.out W hW; go_simp) ?_
                          simp only [Act.put, List.setIfInBounds_toArray, List.set_cons_zero, List.set_cons_succ]
                          refine wpAnyH_ready (rs := [15]) (by kernel_rfl) (by simp) (AllReadyH.cons rfl (fun K4 hK4 => ?_) AllReadyH.nil)
                          refine branchV _ _ w6.heap.size #[.int .i64 x0, .slice x1 x2 x3, .slice x4 x5 x6] #[.int .i64 0, .slice none 0 0, .slice none 0 0] rfl (by kernel_rfl) rfl rfl rfl hz7 rfl rfl (by simp [Value.oneCell']) ?_
                          have hs9 := below_row hs7 (Nat.le_refl _) #[.int .i64 x0, .slice x1 x2 x3, .slice x4 x5 x6]
                          refine hK4.out _ _ hs9 (fun _ => ?_)
                          simp only [Act.put]
                          refine takeG (i := 16) (some 9) (.bool true) rfl rfl (by kernel_rfl) (by kernel_rfl) (by kernel_rfl) (fun _ _ _ h => h) hs9 (by kernel_rfl) (fun W hW => by obtain ⟨f0, f1, f2, f3, f4, f5, f6, f7⟩ := HC.out W hW; go_simp) ?_
                          simp only [Act.put, List.setIfInBounds_toArray, List.set_cons_zero, List.set_cons_succ]
                          refine wpAnyH_done (by kernel_rfl) ?_ _
                          try go_wp2_with fail
                          go_meet
                          exact ⟨_, _, rfl, rfl, Nat.le_refl _, hz7.put _, (hx.keep (by simp [World.setRow]) fun b hb _ => setRow_other _ _ _ _ (by have h1 := HSZ6.out; have h2 := HV.out; rcases hb with hb | hb; omega; have h3 : w6.heap.size + 1 ≤ b := (by rw [World.size_alloc] at hb; exact hb); omega)).imp fun b hb _ => hb.imp id (fun hb => by have h3 : w6.heap.size + 1 ≤ b := (by rw [World.size_alloc] at hb; exact hb); omega), hs9⟩
                      case rest =>
                        obtain ⟨R, x, rfl, rfl, hRl, hTx, hWx, hb8⟩ := hcut
                        obtain ⟨x0, x1, x2, x3, x4, x5, x6, rfl⟩ := hWx.form
                        obtain ⟨p0, p1, p2, _, pl⟩ := hTx.cells
                        have hTO8 := hT6.out.below hb8
                        obtain ⟨q0, q1, q2, qf, ql⟩ := hTO8.cells
                        have hO8 : wc.ownsRow (V + 1) 25 3 itv L.length (L.map (·.1.toList)).flatten := owns_same hR6.out.its fun k hk => hb8.block k (hR6.out.its.lt k hk).2
                        have hOa := hO8.alloc (.cells #[.int .i64 x0, .slice x1 x2 x3, .slice x4 x5 x6] 25)
                        have hnews := new3t wc x0 x1 x2 x3 x4 x5 x6
                        have hone : ∀ u ∈ [Value.int .i64 x0, .slice x1 x2 x3, .slice x4 x5 x6], u.oneCell' = true := by simp [Value.oneCell']
                        have hL1000 : L.length ≤ 1000 := by have := hFA.out.2.2.1; omega
                        have hbase : V + 1 ≤ (wc.alloc (.cells #[.int .i64 x0, .slice x1 x2 x3, .slice x4 x5 x6] 25)).heap.size := by have := HSZ6.out; have := hb8.size; rw [World.size_alloc]; omega
                        have hTOa : TB (wc.alloc (.cells #[.int .i64 x0, .slice x1 x2 x3, .slice x4 x5 x6] 25)) V #[.int .i64 6, nv6, itv] := hTO8.below ((Below.refl _ _).alloc (Nat.le_refl _) _)
                        have hine : itv.ownBlock ≠ some V := fun e => by have := (hR6.out.its.lt V e).1; omega
                        have HH := Lib.hid (And.intro hWx (And.intro hb8 (And.intro hRl hTOa)))
                        have HINE := Lib.hid hine
                        clear hWx hb8 hTx hTO8 hRl hO8 hine
                        go_wp2_with (first | (refine wpList_append_lies _ rfl (.tmp 86) (.tmp 88) 23 rfl (V + 1) 25 iT _ 3 56 Tryz.underlying23 hiT hy0 hy1 hy2 rfl (by decide) itv L.length _ (by simp [Act.eval]) hOa ⟨wc.heap.size, 0, none⟩ 1 1 [.int .i64 x0, .slice x1 x2 x3, .slice x4 x5 x6] (by simp [Act.eval]) rfl hnews hone (by decide) (by unfold maxLen; omega) (by omega) hbase _ rfl ?_; intro g9 cap9 w9 hown9 hgrow9 hat9 hlt9; refine Hid.out ?_))
                        refine Lib.hid ?_
                        have hB9 := (hgrow9.block V HH.out.2.2.2.lt (fun e => HINE.out e.symm)).trans HH.out.2.2.2
                        obtain ⟨s0, s1, s2, sf, sl⟩ := TB.cells hB9
                        have hT10 := Lib.hid (TB.set hB9 2 (.slice (some ⟨g9, 0, none⟩) (L.length + 1) cap9))
                        have hR10 := hR6.out.item (u := .slice (some ⟨g9, 0, none⟩) (L.length + 1) cap9) (V := V) (fun b hb => by have := HV.out; omega) HH.out.2.1 (by omega) HSZ6.out HH.out.1 hown9 hgrow9 (hat9.imp (fun e => e.symm) (fun e => by rw [← e]; rfl))
                        have HR10 := Lib.hid hR10
                        have hB10 : Hid (Below V W1 (w9.setCell ⟨V, 2, none⟩ (.slice (some ⟨g9, 0, none⟩) (L.length + 1) cap9))) := Lib.hid (below_set1 (((hB6.out.trans (HH.out.2.1.mono (by have := HSZ6.out; omega))).alloc (by have := HSZ6.out; have := HH.out.2.1.size; omega) _).grown hgrow9 (by rw [World.size_alloc]; have := HSZ6.out; have := HH.out.2.1.size; omega) (fun q e => by have := (hR6.out.its.lt q e).1; omega)) (Nat.le_refl _) _ _)
                        clear hown9 hgrow9 hat9 hlt9 hB9 hR10 hOa hnews hone hbase hTOa p0 p1 p2 q0 q1 q2 qf c0 c1' c2' d0 d1 d2
                        go_wp2_with fail
                        go_roundw
                        case rel => exact ⟨i + 1, _, _, N ++ [ns i], L ++ [(#[.int .i64 x0, .slice x1 x2 x3, .slice x4 x5 x6], t)], by omega, by go_num, hB10, hT10, HR10, Lib.hid (by
                          obtain ⟨f1, f2, f3, f4, f5⟩ := hFA6.out
                          refine ⟨f1, f2, by simp [f3], fun q hq => ?_, fun q hq => ?_⟩
                          · by_cases e : q = i
                            · subst e
                              rw [HR.out]
                              exact ⟨_, by rw [List.getElem?_append_right (by omega), f3, Nat.sub_self]; rfl⟩
                            · obtain ⟨v, hv⟩ := f4 q (by omega)
                              exact ⟨v, by rw [List.getElem?_append_left (by omega)]; exact hv⟩
                          · by_cases e : q = i
                            · subst e
                              exact ⟨by rw [HR.out]; rfl, HE.out⟩
                            · exact f5 q (by omega))⟩
                        case measure => simp [intOf]; omega
                · have tb := str_ne he
                  have HJ : Hid (joinP (.mk 6 c ns c xs) (.mk 6 c ns' c xs') = none) := Lib.hid (by
                    cases e : joinP (.mk 6 c ns c xs) (.mk 6 c ns' c xs') with
                    | none => rfl
                    | some t =>
                      rcases join_cases.1 e with ⟨h, _⟩ | ⟨_, h, _⟩ | ⟨_, _, _, hn, _, _⟩
                      · exact absurd h H7.out
                      · exact absurd h H7.out
                      · exact absurd ((nmEq_iff.1 hn).2 i hlt) he)
                  generalize ns i = s1 at *
                  generalize ns' i = s2 at *
                  clear he
                  go_wp2_with fail
                  go_quiet (fail)
                  have hd : Below wr.heap.size wr (wr.drewN nq) := below_drewN (Below.refl _ _) _
                  generalize wr.drewN nq = w2 at hd ⊢
                  have hR2 := Lib.hid (HT.out.2.2.below hd)
                  have HB2 := Lib.hid (HBw.out.trans (hd.mono HBw.out.size))
                  clear hd
                  go_wp2_with (refine stT rfl _ _ rfl (w.heap.size + 1 + 1) #[.int .i64 0, .slice none 0 0, .slice none 0 0] #[.int .i64 0, .slice none 0 0, .slice none 0 0] rfl rfl hR2.out rfl rfl (by simp [Value.oneCell']) ?_)
                  refine bodyPost_ret (results_typ2 rfl _ _ (w.heap.size + 1 + 1) _ _ rfl rfl (hR2.out.put _) rfl) rfl ⟨below_row HB2.out (by omega) _, ?_⟩
                  rw [HJ.out]
                  rfl
              · have hend : c = i := by omega
                subst hend
                have HJ : Hid (joinP (.mk 6 c ns c xs) (.mk 6 c ns' c xs') = some (.mk 6 c ns c (fun q => (joinP (xs q) (xs' q)).getD .bad))) := Lib.hid (join_cases.2 (.inr (.inr ⟨H7.out, H7.out, rfl, nmEq_iff.2 ⟨rfl, fun q hq => (hFA.out.2.2.2.2 q hq).2⟩, fun q hq => (hFA.out.2.2.2.2 q hq).1, rfl⟩)))
                obtain ⟨f1, f2, f3, f4, _⟩ := hFA.out
                obtain ⟨A2, ca2, B2, cb2, rfl, rfl, hTr⟩ := hRC.out.tree KK.out.1 f1 f2 f3 f4
                have HTr := Lib.hid hTr
                have HR3 := Lib.hid HT.out.2.2
                clear f1 f2 f3 f4 hTr
                go_wp2_with (refine stT rfl _ _ rfl (w.heap.size + 1 + 1) #[.int .i64 6, .slice A2 c ca2, .slice B2 c cb2] #[.int .i64 0, .slice none 0 0, .slice none 0 0] rfl rfl HR3.out rfl rfl (by simp [Value.oneCell']) ?_)
                refine bodyPost_ret (results_typ2 rfl _ _ (w.heap.size + 1 + 1) _ _ rfl rfl (HR3.out.put _) rfl) rfl ⟨below_row HBw.out (by omega) _, ?_⟩
                rw [HJ.out]
                refine ⟨_, rfl, (HTr.out.keep (by simp [World.setRow]) fun b hb _ => setRow_other _ _ _ _ ?_).imp fun b hb _ => ?_⟩
                · have := HV.out
                  rcases hb with hb | hb
                  · omega
                  · omega
                · have := HV.out
                  rcases hb with hb | hb
                  · exact .inl hb.1
                  · exact .inr (by omega)
          · have hc0 : c = 0 := hna.1.resolve_left h6
            have hc0' : c' = 0 := hnb.1.resolve_left h6
            have t6 : (k == 6) = false := by rw [beq_eq_false_iff_ne]; exact h6
            subst hc0 hc0'
            clear ih hsa hsb hna hnb hfa hB hB' hxs hxs' hm hm' h7 h7' hbW hnsz h6
            go_enter Tryz.func17, Tryz.ntmps17
            go_wp2_with fail
            obtain ⟨V, hV⟩ : ∃ V, V = w.heap.size + 1 + 1 + 1 := ⟨_, rfl⟩
            obtain ⟨W1, hW1⟩ : ∃ W, W = (((w.alloc (.cells #[.int .i64 k, .slice A 0 ca, .slice B m cb] 25)).alloc (.cells #[.int .i64 k, .slice A' 0 ca', .slice B' m cb'] 25)).alloc (.cells #[.int .i64 0, .slice none 0 0, .slice none 0 0] 25)).alloc (.cells #[.int .i64 k, .slice none 0 0, .slice none 0 0] 25) := ⟨_, rfl⟩
            simp only [← hV, ← hW1]
            have hW2 := HW.out
            rw [← hW1] at hW2
            obtain ⟨hbw, g1, g2, g3, g4, hsz⟩ := hW2
            rw [← hV] at g4 hsz
            have HW1 := Lib.hid (And.intro hbw (And.intro g1 (And.intro g2 (And.intro g3 g4))))
            have HV := Lib.hid (And.intro hV hsz)
            clear hbw g1 g2 g3 g4 hsz hV hW1 HW
            go_loopw [7] (fun iv wr => ∃ (i : Nat) (nv itv : Value) (N : List ByteArray) (L : List (Array Value × TT)), i ≤ m ∧ iv = .int .i64 i ∧ Hid (Below V W1 wr) ∧ Hid (TB wr V #[.int .i64 k, nv, itv]) ∧ Hid (Rc (fun b => Q b ∧ b < w.heap.size) wr (V + 1) nv N itv L) ∧ Hid (N.length = 0 ∧ (∀ q, q < 0 → N[q]? = some (ns q)) ∧ L.length = i ∧ (∀ q, q < i → ∃ v, L[q]? = some (v, (joinP (xs q) (xs' q)).getD .bad)) ∧ ∀ q, q < i → (joinP (xs q) (xs' q)).isSome = true)) (fun iv _ => m - (intOf iv).toNat)
            case atStart => exact ⟨0, .slice none 0 0, .slice none 0 0, [], [], Nat.zero_le _, rfl, Lib.hid (Below.refl _ _), Lib.hid HW1.out.2.2.2.2, Lib.hid (Rc.start _ _ _), Lib.hid ⟨rfl, fun q hq => absurd hq (Nat.not_lt_zero q), rfl, fun q hq => absurd hq (Nat.not_lt_zero q), fun q hq => absurd hq (Nat.not_lt_zero q)⟩⟩
            case round =>
              obtain ⟨i, nv, itv, N, L, hi, rfl, hBW, hTO, hRC, hFA⟩ := hrel
              have hVz := HV.out
              have hT1 := (HW1.out.2.1.of (hBW.out.block _ (by omega)))
              have hT2 := (HW1.out.2.2.1.of (hBW.out.block _ (by omega)))
              have hT3 := (HW1.out.2.2.2.1.of (hBW.out.block _ (by omega)))
              have hsw := hBW.out.size
              have HBw : Hid (Below w.heap.size w wr) := Lib.hid (HW1.out.1.trans (hBW.out.mono (by omega)))
              have HT := Lib.hid (And.intro hT1 (And.intro hT2 hT3))
              have HSZ : Hid (V + 1 ≤ wr.heap.size) := Lib.hid (by omega)
              obtain ⟨a0, a1, a2, _, _⟩ := hT1.cells
              obtain ⟨b0, b1, b2, _, _⟩ := hT2.cells
              obtain ⟨o0, o1, o2, of, ol⟩ := hTO.out.cells
              clear hT1 hT2 hT3 hsw hVz
              by_cases hlt : i < m
              · have tlt : (i : Int) < m := by omega
                have tge : (0 : Int) ≤ i := by omega
                have hB6 := hBW
                have hT6 := hTO
                have hR6 := hRC
                clear a0 a1 a2 b0 b1 b2
                obtain ⟨g, o, rfl, _, hg, hx⟩ := HX.out.1 (by omega)
                obtain ⟨g', o', rfl, _, hg', hx'⟩ := HX.out.2.1 (by omega)
                have hti := HX.out.2.2.1 i hlt
                have htj := HX.out.2.2.2 i hlt
                have hBw6 : Below w.heap.size w wr := HW1.out.1.trans (hB6.out.mono (by have := HV.out; omega))
                have hra := (hx i hlt).keep fun o => hBw6.cell (p := ⟨g, o, none⟩) hg
                have hrb := (hx' i hlt).keep fun o => hBw6.cell (p := ⟨g', o, none⟩) hg'
                generalize vs i = vi at *
                generalize us i = ui at *
                obtain ⟨k1, A1, c1, ca1, B1, m1, cb1, rfl⟩ := hti.form
                obtain ⟨k2, A2, c2, ca2, B2, m2, cb2, rfl⟩ := htj.form
                obtain ⟨c0, c1', c2'⟩ := hra.cells
                obtain ⟨d0, d1, d2⟩ := hrb.cells
                obtain ⟨a0, a1, a2, _, _⟩ := (HW1.out.2.1.of (hB6.out.block _ (by have := HV.out; omega))).cells
                obtain ⟨b0, b1, b2, _, _⟩ := (HW1.out.2.2.1.of (hB6.out.block _ (by have := HV.out; omega))).cells
                obtain ⟨r, hr⟩ : ∃ r, joinP (xs i) (xs' i) = r := ⟨_, rfl⟩
                have C := Lib.hid (fun (W : World) (hW : Below wr.heap.size wr W) => IH.out i (xs' i) _ _ (fun b => Q b ∧ b < w.heap.size) W ((hti.imp fun b hb hl => ⟨hb, hl⟩).stay (hBw6.trans (hW.mono hBw6.size))) ((htj.imp fun b hb hl => ⟨hb, hl⟩).stay (hBw6.trans (hW.mono hBw6.size))) (HS.out.1 i hlt) (HS.out.2.1 i hlt) (HS.out.2.2.1 i hlt) (HS.out.2.2.2.1 i hlt) (HS.out.2.2.2.2 i hlt))
                rw [hr] at C
                have HR := Lib.hid hr
                have HSZ6 : Hid (V + 1 ≤ wr.heap.size) := Lib.hid (by have := HV.out; have := hB6.out.size; omega)
                have HC := Lib.hid (fun (W : World) (hW : Below wr.heap.size wr W) => And.intro ((hW.cell (p := ⟨w.heap.size, 2, none⟩) (by have := hBw6.size; have := HV.out; have := hB6.out.size; show w.heap.size < _; omega)).trans a2) (And.intro ((hW.cell (p := ⟨w.heap.size + 1, 2, none⟩) (by have := HV.out; have := hB6.out.size; show w.heap.size + 1 < _; omega)).trans b2) (And.intro ((hW.cell (p := ⟨g, o + i * 3, none⟩) (by have := hBw6.size; show g < _; omega)).trans c0) (And.intro ((hW.cell (p := ⟨g, o + i * 3 + 1, none⟩) (by have := hBw6.size; show g < _; omega)).trans c1') (And.intro ((hW.cell (p := ⟨g, o + i * 3 + 2, none⟩) (by have := hBw6.size; show g < _; omega)).trans c2') (And.intro ((hW.cell (p := ⟨g', o' + i * 3, none⟩) (by have := hBw6.size; show g' < _; omega)).trans d0) (And.intro ((hW.cell (p := ⟨g', o' + i * 3 + 1, none⟩) (by have := hBw6.size; show g' < _; omega)).trans d1) ((hW.cell (p := ⟨g', o' + i * 3 + 2, none⟩) (by have := hBw6.size; show g' < _; omega)).trans d2))))))))
                clear hti htj hra hrb hBw6 hr hx hx' hg hg'
                cases r with
                | none =>
                  have HJ : Hid (joinP (.mk k 0 ns m xs) (.mk k 0 ns' m xs') = none) := Lib.hid (by
                    cases e : joinP (.mk k 0 ns m xs) (.mk k 0 ns' m xs') with
                    | none => rfl
                    | some t =>
                      rcases join_cases.1 e with ⟨h, _⟩ | ⟨_, h, _⟩ | ⟨_, _, _, _, ha, _⟩
                      · exact absurd h H7.out
                      · exact absurd h H7.out
                      · have := ha i hlt
                        rw [HR.out] at this
                        cases this)
                  go_wp2_with fail
                  go_cut [8, 9] from 36 to 90 (fun _ ok wx => ok = .bool false ∧ Below wr.heap.size wr wx)
                  case first =>
                    refine wp_region_held_drew (S := fun W => Below wr.heap.size wr W) (by kernel_rfl) (Below.refl _ _).drew (fun _ => ?_)
                    refine takeG (i := 0) (some 69) (.pointer (some ⟨w.heap.size, 2, none⟩)) rfl rfl (by kernel_rfl) (by kernel_rfl) (by kernel_rfl) (fun _ _ _ h => h) (Below.refl _ _).drew (by kernel_rfl) (fun W hW => by obtain ⟨f0, f1, f2, f3, f4, f5, f6, f7⟩ := HC.out W hW; go_simp) ?_
                    simp only [Act.put, List.setIfInBounds_toArray, List.set_cons_zero, List.set_cons_succ]
                    refine takeG (i := 1) (some 70) (.slice (some ⟨g, o, none⟩) m cb) rfl rfl (by kernel_rfl) (by kernel_rfl) (by kernel_rfl) (fun _ _ _ h => h) (Below.refl _ _).drew (by kernel_rfl) (fun W hW => by obtain ⟨f0, f1, f2, f3, f4, f5, f6, f7⟩ := HC.out W hW; go_simp) ?_
                    simp only [Act.put, List.setIfInBounds_toArray, List.set_cons_zero, List.set_cons_succ]
                    refine takeG (i := 2) (some 71) (.int .i64 (i : Int)) rfl rfl (by kernel_rfl) (by kernel_rfl) (by kernel_rfl) (fun _ _ _ h => h) (Below.refl _ _).drew (by kernel_rfl) (fun W hW => by obtain ⟨f0, f1, f2, f3, f4, f5, f6, f7⟩ := HC.out W hW; go_simp) ?_
                    simp only [Act.put, List.setIfInBounds_toArray, List.set_cons_zero, List.set_cons_succ]
                    refine takeG (i := 3) (some 72) (.pointer (some ⟨g, o + i * 3, none⟩)) rfl rfl (by kernel_rfl) (by kernel_rfl) (by kernel_rfl) (fun _ _ _ h => h) (Below.refl _ _).drew (by kernel_rfl) (fun W hW => by obtain ⟨f0, f1, f2, f3, f4, f5, f6, f7⟩ := HC.out W hW; go_simp) ?_
                    simp only [Act.put, List.setIfInBounds_toArray, List.set_cons_zero, List.set_cons_succ]
                    refine takeG (i := 4) (some 73) (.agg #[.int .i64 k1, .slice A1 c1 ca1, .slice B1 m1 cb1]) rfl rfl (by kernel_rfl) (by kernel_rfl) (by kernel_rfl) (fun _ _ _ h => h) (Below.refl _ _).drew (by kernel_rfl) (fun W hW => by obtain ⟨f0, f1, f2, f3, f4, f5, f6, f7⟩ := HC.out W hW; go_simp) ?_
                    simp only [Act.put, List.setIfInBounds_toArray, List.set_cons_zero, List.set_cons_succ]
                    refine takeG (i := 5) (some 74) (.pointer (some ⟨w.heap.size + 1, 2, none⟩)) rfl rfl (by kernel_rfl) (by kernel_rfl) (by kernel_rfl) (fun _ _ _ h => h) (Below.refl _ _).drew (by kernel_rfl) (fun W hW => by obtain ⟨f0, f1, f2, f3, f4, f5, f6, f7⟩ := HC.out W hW; go_simp) ?_
                    simp only [Act.put, List.setIfInBounds_toArray, List.set_cons_zero, List.set_cons_succ]
                    refine takeG (i := 6) (some 75) (.slice (some ⟨g', o', none⟩) m cb') rfl rfl (by kernel_rfl) (by kernel_rfl) (by kernel_rfl) (fun _ _ _ h => h) (Below.refl _ _).drew (by kernel_rfl) (fun W hW => by obtain ⟨f0, f1, f2, f3, f4, f5, f6, f7⟩ := HC.out W hW; go_simp) ?_
                    simp only [Act.put, List.setIfInBounds_toArray, List.set_cons_zero, List.set_cons_succ]
                    refine takeG (i := 7) (some 76) (.int .i64 (i : Int)) rfl rfl (by kernel_rfl) (by kernel_rfl) (by kernel_rfl) (fun _ _ _ h => h) (Below.refl _ _).drew (by kernel_rfl) (fun W hW => by obtain ⟨f0, f1, f2, f3, f4, f5, f6, f7⟩ := HC.out W hW; go_simp) ?_
                    simp only [Act.put, List.setIfInBounds_toArray, List.set_cons_zero, List.set_cons_succ]
                    refine takeG (i := 8) (some 77) (.pointer (some ⟨g', o' + i * 3, none⟩)) rfl rfl (by kernel_rfl) (by kernel_rfl) (by kernel_rfl) (fun _ _ _ h => h) (Below.refl _ _).drew (by kernel_rfl) (fun W hW => by obtain ⟨f0, f1, f2, f3, f4, f5, f6, f7⟩ := HC.out W hW; go_simp) ?_
                    simp only [Act.put, List.setIfInBounds_toArray, List.set_cons_zero, List.set_cons_succ]
                    refine takeG (i := 9) (some 78) (.agg #[.int .i64 k2, .slice A2 c2 ca2, .slice B2 m2 cb2]) rfl rfl (by kernel_rfl) (by kernel_rfl) (by kernel_rfl) (fun _ _ _ h => h) (Below.refl _ _).drew (by kernel_rfl) (fun W hW => by obtain ⟨f0, f1, f2, f3, f4, f5, f6, f7⟩ := HC.out W hW; go_simp) ?_
                    simp only [Act.put, List.setIfInBounds_toArray, List.set_cons_zero, List.set_cons_succ]
                    refine wpAnyH_ready (rs := [10, 14]) (by kernel_rfl) (by simp) (AllReadyH.cons rfl (fun K1 hK1 => ?_) (AllReadyH.cons rfl (fun K2 hK2 => ?_) AllReadyH.nil))
                    · refine branchC 17 #[.agg #[.int .i64 k1, .slice A1 c1 ca1, .slice B1 m1 cb1], .agg #[.int .i64 k2, .slice A2 c2 ca2, .slice B2 m2 cb2]] (some 79) rfl (by kernel_rfl) (by go_simp) ((C.out _ (Below.refl _ _).drew).mono ?_)
                      rintro e w7 ⟨hb7, rfl⟩
                      have hs7 : Below wr.heap.size wr w7 := (Below.refl _ _).drew.trans hb7
                      refine ⟨_, rfl, ?_⟩
                      refine hK1.out _ _ hs7 (fun _ => ?_)
                      simp only [Act.put, List.setIfInBounds_toArray, List.set_cons_zero, List.set_cons_succ]
                      refine takeG (i := 11) (some 68) (.tuple #[.agg #[.int .i64 0, .slice none 0 0, .slice none 0 0], .bool false]) rfl rfl (by kernel_rfl) (by kernel_rfl) (by kernel_rfl) (fun _ _ _ h => h) hs7 (by kernel_rfl) (fun W hW => by obtain ⟨f0, f1, f2, f3, f4, f5, f6, f7⟩ := HC.out W hW; go_simp) ?_
                      simp only [Act.put, List.setIfInBounds_toArray, List.set_cons_zero, List.set_cons_succ]
                      refine takeG (i := 12) (some 80) (.agg #[.int .i64 0, .slice none 0 0, .slice none 0 0]) rfl rfl (by kernel_rfl) (by kernel_rfl) (by kernel_rfl) (fun _ _ _ h => h) hs7 (by kernel_rfl) (fun W hW => by obtain ⟨f0, f1, f2, f3, f4, f5, f6, f7⟩ := HC.out W hW; go_simp) ?_
                      simp only [Act.put, List.setIfInBounds_toArray, List.set_cons_zero, List.set_cons_succ]
                      refine takeG (i := 13) (some 81) (.bool false) rfl rfl (by kernel_rfl) (by kernel_rfl) (by kernel_rfl) (fun _ _ _ h => h) hs7 (by kernel_rfl) (fun W hW => by obtain ⟨f0, f1, f2, f3, f4, f5, f6, f7⟩ := HC.out W hW; go_simp) ?_
                      simp only [Act.put, List.setIfInBounds_toArray, List.set_cons_zero, List.set_cons_succ]
                      have hs8 : Below wr.heap.size wr (w7.alloc (.cells #[.int .i64 0, .slice none 0 0, .slice none 0 0] 25)) := hs7.alloc hs7.size _
                      refine wpAnyH_ready (rs := [14]) (by kernel_rfl) (by simp) (AllReadyH.cons rfl (fun K3 hK3 => ?_) AllReadyH.nil)
                      refine branchG (some 8) (.pointer (some ⟨w7.heap.size, 0, none⟩)) (w7.alloc (.cells #[.int .i64 0, .slice none 0 0, .slice none 0 0] 25)) rfl (by kernel_rfl) (by go_simp) ?_
                      refine hK3.out _ _ hs8 (fun _ => ?_)
                      simp only [Act.put, List.setIfInBounds_toArray, List.set_cons_zero, List.set_cons_succ]
                      refine wpAnyH_ready (rs := [15]) (by kernel_rfl) (by simp) (AllReadyH.cons rfl (fun K4 hK4 => ?_) AllReadyH.nil)
                      refine branchV _ _ w7.heap.size #[.int .i64 0, .slice none 0 0, .slice none 0 0] #[.int .i64 0, .slice none 0 0, .slice none 0 0] rfl (by kernel_rfl) rfl rfl rfl (TB.new w7 #[.int .i64 0, .slice none 0 0, .slice none 0 0]) rfl rfl (by simp [Value.oneCell']) ?_
                      have hs9 := below_row hs8 hs7.size #[.int .i64 0, .slice none 0 0, .slice none 0 0]
                      refine hK4.out _ _ hs9 (fun _ => ?_)
                      simp only [Act.put]
                      refine takeG (i := 16) (some 9) (.bool false) rfl rfl (by kernel_rfl) (by kernel_rfl) (by kernel_rfl) (fun _ _ _ h => h) hs9 (by kernel_rfl) (fun W hW => by obtain ⟨f0, f1, f2, f3, f4, f5, f6, f7⟩ := HC.out W hW; go_simp) ?_
                      simp only [Act.put, List.setIfInBounds_toArray, List.set_cons_zero, List.set_cons_succ]
                      refine wpAnyH_done (by kernel_rfl) ?_ _
                      try go_wp2_with fail
                      go_meet
                      exact ⟨rfl, hs9⟩
                    · have hs8 : Below wr.heap.size wr (wr.drew.alloc (.cells #[.int .i64 0, .slice none 0 0, .slice none 0 0] 25)) := (Below.refl _ _).drew.alloc (Nat.le_refl _) _
                      refine branchG (some 8) (.pointer (some ⟨wr.heap.size, 0, none⟩)) (wr.drew.alloc (.cells #[.int .i64 0, .slice none 0 0, .slice none 0 0] 25)) rfl (by kernel_rfl) (by go_simp) ?_
                      refine hK2.out _ _ hs8 (fun _ => ?_)
                      simp only [Act.put, List.setIfInBounds_toArray, List.set_cons_zero, List.set_cons_succ]
                      refine wpAnyH_ready (rs := [10]) (by kernel_rfl) (by simp) (AllReadyH.cons rfl (fun K3 hK3 => ?_) AllReadyH.nil)
                      refine branchC 17 #[.agg #[.int .i64 k1, .slice A1 c1 ca1, .slice B1 m1 cb1], .agg #[.int .i64 k2, .slice A2 c2 ca2, .slice B2 m2 cb2]] (some 79) rfl (by kernel_rfl) (by go_simp) ((C.out _ hs8).mono ?_)
                      rintro e w7 ⟨hb7, rfl⟩
                      have hs7 : Below wr.heap.size wr w7 := hs8.trans (hb7.mono (by rw [World.size_alloc]; exact Nat.le_succ _))
                      have hz7 : TB w7 wr.heap.size #[.int .i64 0, .slice none 0 0, .slice none 0 0] := (TB.new wr.drew #[.int .i64 0, .slice none 0 0, .slice none 0 0]).below hb7
                      refine ⟨_, rfl, ?_⟩
                      refine hK3.out _ _ hs7 (fun _ => ?_)
                      simp only [Act.put, List.setIfInBounds_toArray, List.set_cons_zero, List.set_cons_succ]
                      refine takeG (i := 11) (some 68) (.tuple #[.agg #[.int .i64 0, .slice none 0 0, .slice none 0 0], .bool false]) rfl rfl (by kernel_rfl) (by kernel_rfl) (by kernel_rfl) (fun _ _ _ h => h) hs7 (by kernel_rfl) (fun W hW => by obtain ⟨f0, f1, f2, f3, f4, f5, f6, f7⟩ := HC.out W hW; go_simp) ?_
                      simp only [Act.put, List.setIfInBounds_toArray, List.set_cons_zero, List.set_cons_succ]
                      refine takeG (i := 12) (some 80) (.agg #[.int .i64 0, .slice none 0 0, .slice none 0 0]) rfl rfl (by kernel_rfl) (by kernel_rfl) (by kernel_rfl) (fun _ _ _ h => h) hs7 (by kernel_rfl) (fun W hW => by obtain ⟨f0, f1, f2, f3, f4, f5, f6, f7⟩ := HC.out W hW; go_simp) ?_
                      simp only [Act.put, List.setIfInBounds_toArray, List.set_cons_zero, List.set_cons_succ]
                      refine takeG (i := 13) (some 81) (.bool false) rfl rfl (by kernel_rfl) (by kernel_rfl) (by kernel_rfl) (fun _ _ _ h => h) hs7 (by kernel_rfl) (fun W hW => by obtain ⟨f0, f1, f2, f3, f4, f5, f6, f7⟩ := HC.out W hW; go_simp) ?_
                      simp only [Act.put, List.setIfInBounds_toArray, List.set_cons_zero, List.set_cons_succ]
                      refine wpAnyH_ready (rs := [15]) (by kernel_rfl) (by simp) (AllReadyH.cons rfl (fun K4 hK4 => ?_) AllReadyH.nil)
                      refine branchV _ _ wr.heap.size #[.int .i64 0, .slice none 0 0, .slice none 0 0] #[.int .i64 0, .slice none 0 0, .slice none 0 0] rfl (by kernel_rfl) rfl rfl rfl hz7 rfl rfl (by simp [Value.oneCell']) ?_
                      have hs9 := below_row hs7 (Nat.le_refl _) #[.int .i64 0, .slice none 0 0, .slice none 0 0]
                      refine hK4.out _ _ hs9 (fun _ => ?_)
                      simp only [Act.put]
                      refine takeG (i := 16) (some 9) (.bool false) rfl rfl (by kernel_rfl) (by kernel_rfl) (by kernel_rfl) (fun _ _ _ h => h) hs9 (by kernel_rfl) (fun W hW => by obtain ⟨f0, f1, f2, f3, f4, f5, f6, f7⟩ := HC.out W hW; go_simp) ?_
                      simp only [Act.put, List.setIfInBounds_toArray, List.set_cons_zero, List.set_cons_succ]
                      refine wpAnyH_done (by kernel_rfl) ?_ _
                      try go_wp2_with fail
                      go_meet
                      exact ⟨rfl, hs9⟩
                  case rest =>
                    obtain ⟨rfl, hb8⟩ := hcut
                    have hR8 := Lib.hid ((HW1.out.2.2.2.1.of (hB6.out.block _ (by have := HV.out; omega))).below hb8)
                    have HB8 := Lib.hid (HW1.out.1.trans ((hB6.out.mono (by have := HV.out; omega)).trans (hb8.mono (by have := HV.out; have := HSZ6.out; omega))))
                    clear hb8
                    go_wp2_with (refine stT rfl _ _ rfl (w.heap.size + 1 + 1) #[.int .i64 0, .slice none 0 0, .slice none 0 0] #[.int .i64 0, .slice none 0 0, .slice none 0 0] rfl rfl hR8.out rfl rfl (by simp [Value.oneCell']) ?_)
                    refine bodyPost_ret (results_typ2 rfl _ _ (w.heap.size + 1 + 1) _ _ rfl rfl (hR8.out.put _) rfl) rfl ⟨below_row HB8.out (by omega) _, ?_⟩
                    rw [HJ.out]
                    rfl
                | some t =>
                  go_wp2_with fail
                  go_cut [8, 9] from 36 to 90 (fun p ok wx => ∃ (R : Nat) (x : Array Value), p = .pointer (some ⟨R, 0, none⟩) ∧ ok = .bool true ∧ wr.heap.size ≤ R ∧ TB wx R x ∧ TW wx (fun b => (Q b ∧ b < w.heap.size) ∨ wr.heap.size ≤ b) x t ∧ Below wr.heap.size wr wx)
                  case first =>
                    refine wp_region_held_drew (S := fun W => Below wr.heap.size wr W) (by kernel_rfl) (Below.refl _ _).drew (fun _ => ?_)
                    refine takeG (i := 0) (some 69) (.pointer (some ⟨w.heap.size, 2, none⟩)) rfl rfl (by kernel_rfl) (by kernel_rfl) (by kernel_rfl) (fun _ _ _ h => h) (Below.refl _ _).drew (by kernel_rfl) (fun W hW => by obtain ⟨f0, f1, f2, f3, f4, f5, f6, f7⟩ := HC.out W hW; go_simp) ?_
                    simp only [Act.put, List.setIfInBounds_toArray, List.set_cons_zero, List.set_cons_succ]
                    refine takeG (i := 1) (some 70) (.slice (some ⟨g, o, none⟩) m cb) rfl rfl (by kernel_rfl) (by kernel_rfl) (by kernel_rfl) (fun _ _ _ h => h) (Below.refl _ _).drew (by kernel_rfl) (fun W hW => by obtain ⟨f0, f1, f2, f3, f4, f5, f6, f7⟩ := HC.out W hW; go_simp) ?_
                    simp only [Act.put, List.setIfInBounds_toArray, List.set_cons_zero, List.set_cons_succ]
                    refine takeG (i := 2) (some 71) (.int .i64 (i : Int)) rfl rfl (by kernel_rfl) (by kernel_rfl) (by kernel_rfl) (fun _ _ _ h => h) (Below.refl _ _).drew (by kernel_rfl) (fun W hW => by obtain ⟨f0, f1, f2, f3, f4, f5, f6, f7⟩ := HC.out W hW; go_simp) ?_
                    simp only [Act.put, List.setIfInBounds_toArray, List.set_cons_zero, List.set_cons_succ]
                    refine takeG (i := 3) (some 72) (.pointer (some ⟨g, o + i * 3, none⟩)) rfl rfl (by kernel_rfl) (by kernel_rfl) (by kernel_rfl) (fun _ _ _ h => h) (Below.refl _ _).drew (by kernel_rfl) (fun W hW => by obtain ⟨f0, f1, f2, f3, f4, f5, f6, f7⟩ := HC.out W hW; go_simp) ?_
                    simp only [Act.put, List.setIfInBounds_toArray, List.set_cons_zero, List.set_cons_succ]
                    refine takeG (i := 4) (some 73) (.agg #[.int .i64 k1, .slice A1 c1 ca1, .slice B1 m1 cb1]) rfl rfl (by kernel_rfl) (by kernel_rfl) (by kernel_rfl) (fun _ _ _ h => h) (Below.refl _ _).drew (by kernel_rfl) (fun W hW => by obtain ⟨f0, f1, f2, f3, f4, f5, f6, f7⟩ := HC.out W hW; go_simp) ?_
                    simp only [Act.put, List.setIfInBounds_toArray, List.set_cons_zero, List.set_cons_succ]
                    refine takeG (i := 5) (some 74) (.pointer (some ⟨w.heap.size + 1, 2, none⟩)) rfl rfl (by kernel_rfl) (by kernel_rfl) (by kernel_rfl) (fun _ _ _ h => h) (Below.refl _ _).drew (by kernel_rfl) (fun W hW => by obtain ⟨f0, f1, f2, f3, f4, f5, f6, f7⟩ := HC.out W hW; go_simp) ?_
                    simp only [Act.put, List.setIfInBounds_toArray, List.set_cons_zero, List.set_cons_succ]
                    refine takeG (i := 6) (some 75) (.slice (some ⟨g', o', none⟩) m cb') rfl rfl (by kernel_rfl) (by kernel_rfl) (by kernel_rfl) (fun _ _ _ h => h) (Below.refl _ _).drew (by kernel_rfl) (fun W hW => by obtain ⟨f0, f1, f2, f3, f4, f5, f6, f7⟩ := HC.out W hW; go_simp) ?_
                    simp only [Act.put, List.setIfInBounds_toArray, List.set_cons_zero, List.set_cons_succ]
                    refine takeG (i := 7) (some 76) (.int .i64 (i : Int)) rfl rfl (by kernel_rfl) (by kernel_rfl) (by kernel_rfl) (fun _ _ _ h => h) (Below.refl _ _).drew (by kernel_rfl) (fun W hW => by obtain ⟨f0, f1, f2, f3, f4, f5, f6, f7⟩ := HC.out W hW; go_simp) ?_
                    simp only [Act.put, List.setIfInBounds_toArray, List.set_cons_zero, List.set_cons_succ]
                    refine takeG (i := 8) (some 77) (.pointer (some ⟨g', o' + i * 3, none⟩)) rfl rfl (by kernel_rfl) (by kernel_rfl) (by kernel_rfl) (fun _ _ _ h => h) (Below.refl _ _).drew (by kernel_rfl) (fun W hW => by obtain ⟨f0, f1, f2, f3, f4, f5, f6, f7⟩ := HC.out W hW; go_simp) ?_
                    simp only [Act.put, List.setIfInBounds_toArray, List.set_cons_zero, List.set_cons_succ]
                    refine takeG (i := 9) (some 78) (.agg #[.int .i64 k2, .slice A2 c2 ca2, .slice B2 m2 cb2]) rfl rfl (by kernel_rfl) (by kernel_rfl) (by kernel_rfl) (fun _ _ _ h => h) (Below.refl _ _).drew (by kernel_rfl) (fun W hW => by obtain ⟨f0, f1, f2, f3, f4, f5, f6, f7⟩ := HC.out W hW; go_simp) ?_
                    simp only [Act.put, List.setIfInBounds_toArray, List.set_cons_zero, List.set_cons_succ]
                    refine wpAnyH_ready (rs := [10, 14]) (by kernel_rfl) (by simp) (AllReadyH.cons rfl (fun K1 hK1 => ?_) (AllReadyH.cons rfl (fun K2 hK2 => ?_) AllReadyH.nil))
                    · refine branchC 17 #[.agg #[.int .i64 k1, .slice A1 c1 ca1, .slice B1 m1 cb1], .agg #[.int .i64 k2, .slice A2 c2 ca2, .slice B2 m2 cb2]] (some 79) rfl (by kernel_rfl) (by go_simp) ((C.out _ (Below.refl _ _).drew).mono ?_)
                      rintro e w7 ⟨hb7, x, rfl, hx⟩
                      obtain ⟨x0, x1, x2, x3, x4, x5, x6, rfl⟩ := hx.form
                      have hs7 : Below wr.heap.size wr w7 := (Below.refl _ _).drew.trans hb7
                      refine ⟨_, rfl, ?_⟩
                      refine hK1.out _ _ hs7 (fun _ => ?_)
                      simp only [Act.put, List.setIfInBounds_toArray, List.set_cons_zero, List.set_cons_succ]
                      refine takeG (i := 11) (some 68) (.tuple #[.agg #[.int .i64 x0, .slice x1 x2 x3, .slice x4 x5 x6], .bool true]) rfl rfl (by kernel_rfl) (by kernel_rfl) (by kernel_rfl) (fun _ _ _ h => h) hs7 (by kernel_rfl) (fun W hW => by obtain ⟨f0, f1, f2, f3, f4, f5, f6, f7⟩ := HC.out W hW; go_simp) ?_
                      simp only [Act.put, List.setIfInBounds_toArray, List.set_cons_zero, List.set_cons_succ]
                      refine takeG (i := 12) (some 80) (.agg #[.int .i64 x0, .slice x1 x2 x3, .slice x4 x5 x6]) rfl rfl (by kernel_rfl) (by kernel_rfl) (by kernel_rfl) (fun _ _ _ h => h) hs7 (by kernel_rfl) (fun W hW => by obtain ⟨f0, f1, f2, f3, f4, f5, f6, f7⟩ := HC.out W hW; go_simp) ?_
                      simp only [Act.put, List.setIfInBounds_toArray, List.set_cons_zero, List.set_cons_succ]
                      refine takeG (i := 13) (some 81) (.bool true) rfl rfl (by kernel_rfl) (by kernel_rfl) (by kernel_rfl) (fun _ _ _ h => h) hs7 (by kernel_rfl) (fun W hW => by obtain ⟨f0, f1, f2, f3, f4, f5, f6, f7⟩ := HC.out W hW; go_simp) ?_
                      simp only [Act.put, List.setIfInBounds_toArray, List.set_cons_zero, List.set_cons_succ]
                      have hs8 : Below wr.heap.size wr (w7.alloc (.cells #[.int .i64 0, .slice none 0 0, .slice none 0 0] 25)) := hs7.alloc hs7.size _
                      refine wpAnyH_ready (rs := [14]) (by kernel_rfl) (by simp) (AllReadyH.cons rfl (fun K3 hK3 => ?_) AllReadyH.nil)
                      refine branchG (some 8) (.pointer (some ⟨w7.heap.size, 0, none⟩)) (w7.alloc (.cells #[.int .i64 0, .slice none 0 0, .slice none 0 0] 25)) rfl (by kernel_rfl) (by go_simp) ?_
                      refine hK3.out _ _ hs8 (fun _ => ?_)
                      simp only [Act.put, List.setIfInBounds_toArray, List.set_cons_zero, List.set_cons_succ]
                      refine wpAnyH_ready (rs := [15]) (by kernel_rfl) (by simp) (AllReadyH.cons rfl (fun K4 hK4 => ?_) AllReadyH.nil)
                      refine branchV _ _ w7.heap.size #[.int .i64 x0, .slice x1 x2 x3, .slice x4 x5 x6] #[.int .i64 0, .slice none 0 0, .slice none 0 0] rfl (by kernel_rfl) rfl rfl rfl (TB.new w7 #[.int .i64 0, .slice none 0 0, .slice none 0 0]) rfl rfl (by simp [Value.oneCell']) ?_
                      have hs9 := below_row hs8 hs7.size #[.int .i64 x0, .slice x1 x2 x3, .slice x4 x5 x6]
                      refine hK4.out _ _ hs9 (fun _ => ?_)
                      simp only [Act.put]
                      refine takeG (i := 16) (some 9) (.bool true) rfl rfl (by kernel_rfl) (by kernel_rfl) (by kernel_rfl) (fun _ _ _ h => h) hs9 (by kernel_rfl) (fun W hW => by obtain ⟨f0, f1, f2, f3, f4, f5, f6, f7⟩ := HC.out W hW; go_simp) ?_
                      simp only [Act.put, List.setIfInBounds_toArray, List.set_cons_zero, List.set_cons_succ]
                      refine wpAnyH_done (by kernel_rfl) ?_ _
                      try go_wp2_with fail
                      go_meet
                      exact ⟨_, _, rfl, rfl, hs7.size, (TB.new w7 #[.int .i64 0, .slice none 0 0, .slice none 0 0]).put _, (((hx.imp (Q := fun b => ((Q b ∧ b < w.heap.size) ∨ wr.heap.size ≤ b) ∧ b < w7.heap.size) fun b hb hl => ⟨hb, hl⟩).stay ((Below.refl _ _).alloc (Nat.le_refl _) _)).keep (by simp [World.setRow]) fun b hb _ => setRow_other _ _ _ _ (by have := hb.2; omega)).imp fun b hb _ => hb.1, hs9⟩
                    · have hs8 : Below wr.heap.size wr (wr.drew.alloc (.cells #[.int .i64 0, .slice none 0 0, .slice none 0 0] 25)) := (Below.refl _ _).drew.alloc (Nat.le_refl _) _
                      refine branchG (some 8) (.pointer (some ⟨wr.heap.size, 0, none⟩)) (wr.drew.alloc (.cells #[.int .i64 0, .slice none 0 0, .slice none 0 0] 25)) rfl (by kernel_rfl) (by go_simp) ?_
                      refine hK2.out _ _ hs8 (fun _ => ?_)
                      simp only [Act.put, List.setIfInBounds_toArray, List.set_cons_zero, List.set_cons_succ]
                      refine wpAnyH_ready (rs := [10]) (by kernel_rfl) (by simp) (AllReadyH.cons rfl (fun K3 hK3 => ?_) AllReadyH.nil)
                      refine branchC 17 #[.agg #[.int .i64 k1, .slice A1 c1 ca1, .slice B1 m1 cb1], .agg #[.int .i64 k2, .slice A2 c2 ca2, .slice B2 m2 cb2]] (some 79) rfl (by kernel_rfl) (by go_simp) ((C.out _ hs8).mono ?_)
                      rintro e w7 ⟨hb7, x, rfl, hx⟩
                      obtain ⟨x0, x1, x2, x3, x4, x5, x6, rfl⟩ := hx.form
                      have hs7 : Below wr.heap.size wr w7 := hs8.trans (hb7.mono (by rw [World.size_alloc]; exact Nat.le_succ _))
                      have hz7 : TB w7 wr.heap.size #[.int .i64 0, .slice none 0 0, .slice none 0 0] := (TB.new wr.drew #[.int .i64 0, .slice none 0 0, .slice none 0 0]).below hb7
                      refine ⟨_, rfl, ?_⟩
                      refine hK3.out _ _ hs7 (fun _ => ?_)
                      simp only [Act.put, List.setIfInBounds_toArray, List.set_cons_zero, List.set_cons_succ]
                      refine takeG (i := 11) (some 68) (.tuple #[.agg #[.int .i64 x0, .slice x1 x2 x3, .slice x4 x5 x6], .bool true]) rfl rfl (by kernel_rfl) (by kernel_rfl) (by kernel_rfl) (fun _ _ _ h => h) hs7 (by kernel_rfl) (fun W hW => by obtain ⟨f0, f1, f2, f3, f4, f5, f6, f7⟩ := HC.out W hW; go_simp) ?_
                      simp only [Act.put, List.setIfInBounds_toArray, List.set_cons_zero, List.set_cons_succ]
                      refine takeG (i := 12) (some 80) (.agg #[.int .i64 x0, .slice x1 x2 x3, .slice x4 x5 x6]) rfl rfl (by kernel_rfl) (by kernel_rfl) (by kernel_rfl) (fun _ _ _ h => h) hs7 (by kernel_rfl) (fun W hW => by obtain ⟨f0, f1, f2, f3, f4, f5, f6, f7⟩ := HC.out W hW; go_simp) ?_
                      simp only [Act.put, List.setIfInBounds_toArray, List.set_cons_zero, List.set_cons_succ]
                      refine takeG (i := 13) (some 81) (.bool true) rfl rfl (by kernel_rfl) (by kernel_rfl) (by kernel_rfl) (fun _ _ _ h => h) hs7 (by kernel_rfl) (fun W hW => by obtain ⟨f0, f1, f2, f3, f4, f5, f6, f7⟩ := HC.out W hW; go_simp) ?_
                      simp only [Act.put, List.setIfInBounds_toArray, List.set_cons_zero, List.set_cons_succ]
                      refine wpAnyH_ready (rs := [15]) (by kernel_rfl) (by simp) (AllReadyH.cons rfl (fun K4 hK4 => ?_) AllReadyH.nil)
                      refine branchV _ _ wr.heap.size #[.int .i64 x0, .slice x1 x2 x3, .slice x4 x5 x6] #[.int .i64 0, .slice none 0 0, .slice none 0 0] rfl (by kernel_rfl) rfl rfl rfl hz7 rfl rfl (by simp [Value.oneCell']) ?_
                      have hs9 := below_row hs7 (Nat.le_refl _) #[.int .i64 x0, .slice x1 x2 x3, .slice x4 x5 x6]
                      refine hK4.out _ _ hs9 (fun _ => ?_)
                      simp only [Act.put]
                      refine takeG (i := 16) (some 9) (.bool true) rfl rfl (by kernel_rfl) (by kernel_rfl) (by kernel_rfl) (fun _ _ _ h => h) hs9 (by kernel_rfl) (fun W hW => by obtain ⟨f0, f1, f2, f3, f4, f5, f6, f7⟩ := HC.out W hW; go_simp) ?_
                      simp only [Act.put, List.setIfInBounds_toArray, List.set_cons_zero, List.set_cons_succ]
                      refine wpAnyH_done (by kernel_rfl) ?_ _
                      try go_wp2_with fail
                      go_meet
                      exact ⟨_, _, rfl, rfl, Nat.le_refl _, hz7.put _, (hx.keep (by simp [World.setRow]) fun b hb _ => setRow_other _ _ _ _ (by have h1 := HSZ6.out; have h2 := HV.out; rcases hb with hb | hb; omega; have h3 : wr.heap.size + 1 ≤ b := (by rw [World.size_alloc] at hb; exact hb); omega)).imp fun b hb _ => hb.imp id (fun hb => by have h3 : wr.heap.size + 1 ≤ b := (by rw [World.size_alloc] at hb; exact hb); omega), hs9⟩
                  case rest =>
                    obtain ⟨R, x, rfl, rfl, hRl, hTx, hWx, hb8⟩ := hcut
                    obtain ⟨x0, x1, x2, x3, x4, x5, x6, rfl⟩ := hWx.form
                    obtain ⟨p0, p1, p2, _, pl⟩ := hTx.cells
                    have hTO8 := hT6.out.below hb8
                    obtain ⟨q0, q1, q2, qf, ql⟩ := hTO8.cells
                    have hO8 : wc.ownsRow (V + 1) 25 3 itv L.length (L.map (·.1.toList)).flatten := owns_same hR6.out.its fun k hk => hb8.block k (hR6.out.its.lt k hk).2
                    have hOa := hO8.alloc (.cells #[.int .i64 x0, .slice x1 x2 x3, .slice x4 x5 x6] 25)
                    have hnews := new3t wc x0 x1 x2 x3 x4 x5 x6
                    have hone : ∀ u ∈ [Value.int .i64 x0, .slice x1 x2 x3, .slice x4 x5 x6], u.oneCell' = true := by simp [Value.oneCell']
                    have hL1000 : L.length ≤ 1000 := by have := hFA.out.2.2.1; omega
                    have hbase : V + 1 ≤ (wc.alloc (.cells #[.int .i64 x0, .slice x1 x2 x3, .slice x4 x5 x6] 25)).heap.size := by have := HSZ6.out; have := hb8.size; rw [World.size_alloc]; omega
                    have hTOa : TB (wc.alloc (.cells #[.int .i64 x0, .slice x1 x2 x3, .slice x4 x5 x6] 25)) V #[.int .i64 k, nv, itv] := hTO8.below ((Below.refl _ _).alloc (Nat.le_refl _) _)
                    have hine : itv.ownBlock ≠ some V := fun e => by have := (hR6.out.its.lt V e).1; omega
                    have HH := Lib.hid (And.intro hWx (And.intro hb8 (And.intro hRl hTOa)))
                    have HINE := Lib.hid hine
                    clear hWx hb8 hTx hTO8 hRl hO8 hine
                    go_wp2_with (first | (refine wpList_append_lies _ rfl (.tmp 86) (.tmp 88) 23 rfl (V + 1) 25 iT _ 3 56 Tryz.underlying23 hiT hy0 hy1 hy2 rfl (by decide) itv L.length _ (by simp [Act.eval]) hOa ⟨wc.heap.size, 0, none⟩ 1 1 [.int .i64 x0, .slice x1 x2 x3, .slice x4 x5 x6] (by simp [Act.eval]) rfl hnews hone (by decide) (by unfold maxLen; omega) (by omega) hbase _ rfl ?_; intro g9 cap9 w9 hown9 hgrow9 hat9 hlt9; refine Hid.out ?_))
                    refine Lib.hid ?_
                    have hB9 := (hgrow9.block V HH.out.2.2.2.lt (fun e => HINE.out e.symm)).trans HH.out.2.2.2
                    obtain ⟨s0, s1, s2, sf, sl⟩ := TB.cells hB9
                    have hT10 := Lib.hid (TB.set hB9 2 (.slice (some ⟨g9, 0, none⟩) (L.length + 1) cap9))
                    have hR10 := hR6.out.item (u := .slice (some ⟨g9, 0, none⟩) (L.length + 1) cap9) (V := V) (fun b hb => by have := HV.out; omega) HH.out.2.1 (by omega) HSZ6.out HH.out.1 hown9 hgrow9 (hat9.imp (fun e => e.symm) (fun e => by rw [← e]; rfl))
                    have HR10 := Lib.hid hR10
                    have hB10 : Hid (Below V W1 (w9.setCell ⟨V, 2, none⟩ (.slice (some ⟨g9, 0, none⟩) (L.length + 1) cap9))) := Lib.hid (below_set1 (((hB6.out.trans (HH.out.2.1.mono (by have := HSZ6.out; omega))).alloc (by have := HSZ6.out; have := HH.out.2.1.size; omega) _).grown hgrow9 (by rw [World.size_alloc]; have := HSZ6.out; have := HH.out.2.1.size; omega) (fun q e => by have := (hR6.out.its.lt q e).1; omega)) (Nat.le_refl _) _ _)
                    clear hown9 hgrow9 hat9 hlt9 hB9 hR10 hOa hnews hone hbase hTOa p0 p1 p2 q0 q1 q2 qf c0 c1' c2' d0 d1 d2
                    go_wp2_with fail
                    go_roundw
                    case rel => exact ⟨i + 1, _, _, N, L ++ [(#[.int .i64 x0, .slice x1 x2 x3, .slice x4 x5 x6], t)], by omega, by go_num, hB10, hT10, HR10, Lib.hid (by
                      obtain ⟨f1, f2, f3, f4, f5⟩ := hFA.out
                      refine ⟨f1, f2, by simp [f3], fun q hq => ?_, fun q hq => ?_⟩
                      · by_cases e : q = i
                        · subst e
                          rw [HR.out]
                          exact ⟨_, by rw [List.getElem?_append_right (by omega), f3, Nat.sub_self]; rfl⟩
                        · obtain ⟨v, hv⟩ := f4 q (by omega)
                          exact ⟨v, by rw [List.getElem?_append_left (by omega)]; exact hv⟩
                      · by_cases e : q = i
                        · subst e
                          rw [HR.out]; rfl
                        · exact f5 q (by omega))⟩
                    case measure => simp [intOf]; omega
              · have hend : m = i := by omega
                subst hend
                have HJ : Hid (joinP (.mk k 0 ns m xs) (.mk k 0 ns' m xs') = some (.mk k 0 ns m (fun q => (joinP (xs q) (xs' q)).getD .bad))) := Lib.hid (join_cases.2 (.inr (.inr ⟨H7.out, H7.out, rfl, nmEq_iff.2 ⟨rfl, fun q hq => absurd hq (Nat.not_lt_zero q)⟩, fun q hq => hFA.out.2.2.2.2 q hq, rfl⟩)))
                obtain ⟨f1, f2, f3, f4, _⟩ := hFA.out
                obtain ⟨A2, ca2, B2, cb2, rfl, rfl, hTr⟩ := hRC.out.tree KK.out.1 f1 f2 f3 f4
                have HTr := Lib.hid hTr
                have HR3 := Lib.hid HT.out.2.2
                clear f1 f2 f3 f4 hTr
                go_wp2_with (refine stT rfl _ _ rfl (w.heap.size + 1 + 1) #[.int .i64 k, .slice A2 0 ca2, .slice B2 m cb2] #[.int .i64 0, .slice none 0 0, .slice none 0 0] rfl rfl HR3.out rfl rfl (by simp [Value.oneCell']) ?_)
                refine bodyPost_ret (results_typ2 rfl _ _ (w.heap.size + 1 + 1) _ _ rfl rfl (HR3.out.put _) rfl) rfl ⟨below_row HBw.out (by omega) _, ?_⟩
                rw [HJ.out]
                refine ⟨_, rfl, (HTr.out.keep (by simp [World.setRow]) fun b hb _ => setRow_other _ _ _ _ ?_).imp fun b hb _ => ?_⟩
                · have := HV.out
                  rcases hb with hb | hb
                  · omega
                  · omega
                · have := HV.out
                  rcases hb with hb | hb
                  · exact .inl hb.1
                  · exact .inr (by omega)
end Go.Proofs.YtcmohggnehkjeaaGreat
namespace Go.Proofs.YtcmohggnehkjeaaGreat
open Go.RowKit

set_option maxRecDepth 20000 in
set_option maxHeartbeats 2000000 in
theorem sameR_any : ∀ (a b : TT) (v u : Array Value) (Q Q' : Nat → Prop) (w : World), TW w Q v a → TW w Q' u b → Calls Tryz.prog 13 #[.agg v, .agg u] w fun e w' => e = .returned (.bool (sameB a b)) ∧ Below w.heap.size w w' := by
  intro a
  induction a with
  | bad => intro b v u Q Q' w hv; cases hv
  | mk k c ns m xs ih =>
    intro b v u Q Q' w hv hu
    cases b with
    | bad => cases hu
    | mk k' c' ns' m' xs' =>
      cases hv with
      | mk _ A _ ca B _ cb _ _ vs hk hc hm hA hB0 hns hB hxs =>
        cases hu with
        | mk _ A' _ ca' B' _ cb' _ _ us hk' hc' hm' hA' hB0' hns' hB' hxs' =>
          have hmx : m ≤ 9223372036854775807 := by have := hm; unfold maxLen at this; omega
          have hcx : c ≤ 9223372036854775807 := by have := hc; unfold maxLen at this; omega
          obtain ⟨r, hr⟩ : ∃ r, r = sameB (.mk k c ns m xs) (.mk k' c' ns' m' xs') := ⟨_, rfl⟩
          rw [← hr]
          rw [sameB] at hr
          have HN := Lib.hid (And.intro hns hns')
          have HT := Lib.hid (And.intro hB (And.intro hB' (And.intro hxs hxs')))
          have HIH := Lib.hid ih
          have HR := Lib.hid hr
          unfold tfields
          obtain ⟨hb0, hx0, hx1⟩ := two_boxes w #[.int .i64 k, .slice A c ca, .slice B m cb] #[.int .i64 k', .slice A' c' ca', .slice B' m' cb']
          have HB0 := Lib.hid hb0
          have HX := Lib.hid (And.intro hx0 hx1)
          clear hA hB0 hA' hB0' hns hns' hB hB' hxs hxs' hr ih hk hk' hc hc' hm hm' hb0 hx0 hx1
          by_cases hkk : ¬ k = k'
          · have tk : (k != k') = true := by simpa using hkk
            have HF : Hid (r = false) := Lib.hid (by rw [HR.out, decide_eq_false hkk]; rfl)
            clear hkk
            go_enter Tryz.func13, Tryz.ntmps13
            go_wp2_with fail
            go_ret
            exact ⟨by rw [HF.out]; rfl, HB0.out⟩
          have hkk' : k = k' := Decidable.not_not.1 hkk
          clear hkk
          subst hkk'
          have tk : (k != k) = false := by simp
          by_cases hcc : ¬ c = c'
          · have tc : ((c : Int) != (c' : Int)) = true := by simp; omega
            have HF : Hid (r = false) := Lib.hid (by rw [HR.out]; unfold nmEq; rw [decide_eq_false hcc]; simp)
            clear hcc
            go_enter Tryz.func13, Tryz.ntmps13
            go_wp2_with fail
            go_ret
            exact ⟨by rw [HF.out]; rfl, HB0.out⟩
          have hcc' : c = c' := Decidable.not_not.1 hcc
          clear hcc
          subst hcc'
          have tc : ((c : Int) != (c : Int)) = false := by simp
          by_cases hmm : ¬ m = m'
          · have tm : ((m : Int) != (m' : Int)) = true := by simp; omega
            have HF : Hid (r = false) := Lib.hid (by rw [HR.out, decide_eq_false hmm]; simp)
            clear hmm
            go_enter Tryz.func13, Tryz.ntmps13
            go_wp2_with fail
            go_ret
            exact ⟨by rw [HF.out]; rfl, HB0.out⟩
          have hmm' : m = m' := Decidable.not_not.1 hmm
          clear hmm
          subst hmm'
          have tm : ((m : Int) != (m : Int)) = false := by simp
          go_enter Tryz.func13, Tryz.ntmps13
          go_wp2_with fail
          obtain ⟨W1, hW1⟩ : ∃ W1, W1 = (w.alloc (.cells #[.int .i64 k, .slice A c ca, .slice B m cb] 25)).alloc (.cells #[.int .i64 k, .slice A' c ca', .slice B' m cb'] 25) := ⟨_, rfl⟩
          rw [← hW1] at HB0 HX ⊢
          clear hW1
          go_loopw [5] (fun iv wr => ∃ i : Nat, i ≤ c ∧ iv = .int .i64 i ∧ Hid (Below W1.heap.size W1 wr ∧ ∀ j, j < i → ns j = ns' j)) (fun iv _ => c - (intOf iv).toNat)
          case atStart => exact ⟨0, Nat.zero_le _, rfl, Lib.hid ⟨Below.refl _ _, fun j hj => absurd hj (Nat.not_lt_zero j)⟩⟩
          case round =>
            obtain ⟨i, hi, rfl, hb⟩ := hrel
            obtain ⟨a0, a1, a2, _, _⟩ := (HX.out.1.below hb.out.1).cells
            obtain ⟨b0, b1, b2, _, _⟩ := (HX.out.2.below hb.out.1).cells
            by_cases hlt : i < c
            · obtain ⟨g, o, rfl, _, hg, hx⟩ := HN.out.1 (by omega)
              obtain ⟨g', o', rfl, _, hg', hx'⟩ := HN.out.2 (by omega)
              have hbw : Below w.heap.size w wr := HB0.out.trans (hb.out.1.mono HB0.out.size)
              have n1 : wr.cell? ⟨g, o + i, none⟩ = some (.string (ns i)) := (hbw.cell (p := ⟨g, o + i, none⟩) hg).trans (hx i hlt).1
              have n2 : wr.cell? ⟨g', o' + i, none⟩ = some (.string (ns' i)) := (hbw.cell (p := ⟨g', o' + i, none⟩) hg').trans (hx' i hlt).1
              clear hx hx' hbw
              by_cases he : ns i = ns' i
              · have HE := Lib.hid he
                rw [← he] at n2
                clear he
                go_wp2_with fail
                go_quiet (fail)
                have hd : Below wr.heap.size wr (wr.drewN nq) := below_drewN (Below.refl _ _) _
                generalize wr.drewN nq = w2 at hd ⊢
                have HB2 := Lib.hid (hb.out.1.trans (hd.mono hb.out.1.size))
                clear hd
                go_wp2_with fail
                go_roundw
                case rel => exact ⟨i + 1, by omega, by go_num, Lib.hid ⟨HB2.out, fun j hj => by
                  by_cases e : j = i
                  · subst e; exact HE.out
                  · exact hb.out.2 j (by omega)⟩⟩
                case measure => simp [intOf]; omega
              · have tb := str_ne he
                have HF : Hid (r = false) := Lib.hid (by
                  cases e : r with
                  | false => rfl
                  | true =>
                    rw [HR.out] at e
                    simp only [Bool.and_eq_true] at e
                    exact absurd ((nmEq_iff.1 e.1.2).2 i hlt) he)
                generalize ns i = s1 at *
                generalize ns' i = s2 at *
                clear he
                go_wp2_with fail
                go_quiet (fail)
                have hd : Below wr.heap.size wr (wr.drewN nq) := below_drewN (Below.refl _ _) _
                generalize wr.drewN nq = w2 at hd ⊢
                have HB2 := Lib.hid (hb.out.1.trans (hd.mono hb.out.1.size))
                clear hd
                go_wp2_with fail
                go_ret
                exact ⟨by rw [HF.out]; rfl, HB0.out.trans (HB2.out.mono HB0.out.size)⟩
            · have HNM : Hid (nmEq c c ns ns' = true) := Lib.hid (nmEq_iff.2 ⟨rfl, fun j hj => hb.out.2 j (by omega)⟩)
              have HBb := Lib.hid hb.out.1
              clear hb
              go_wp2_with fail
              go_loopw [6] (fun iv wr => ∃ j : Nat, j ≤ m ∧ iv = .int .i64 j ∧ Hid (Below W1.heap.size W1 wr ∧ ∀ q, q < j → sameB (xs q) (xs' q) = true)) (fun iv _ => m - (intOf iv).toNat)
              case atStart => exact ⟨0, Nat.zero_le _, rfl, Lib.hid ⟨HBb.out, fun j hj => absurd hj (Nat.not_lt_zero j)⟩⟩
              case round =>
                obtain ⟨j, hj, rfl, hb⟩ := hrel
                obtain ⟨a0, a1, a2, af, al⟩ := (HX.out.1.below hb.out.1).cells
                obtain ⟨b0, b1, b2, bf, bl⟩ := (HX.out.2.below hb.out.1).cells
                by_cases hjt : j < m
                · obtain ⟨hB, hB', hxs, hxs'⟩ := HT.out
                  obtain ⟨g, o, rfl, _, hg, hx⟩ := hB (by omega)
                  obtain ⟨g', o', rfl, _, hg', hx'⟩ := hB' (by omega)
                  have hbb := HB0.out.trans (hb.out.1.mono HB0.out.size)
                  have hdr : Below w.heap.size w wr.drew := hbb.drew
                  have hvi := hxs j hjt
                  have hvi' := hxs' j hjt
                  have hcall := HIH.out j (xs' j) (vs j) (us j) Q Q' wr.drew (hvi.stay hdr) (hvi'.stay hdr)
                  have h1 : ThreeAt wr g (o + j * 3) (vs j) := (hx j hjt).keep fun o => hbb.cell (p := ⟨g, o, none⟩) hg
                  have h2 : ThreeAt wr g' (o' + j * 3) (us j) := (hx' j hjt).keep fun o => hbb.cell (p := ⟨g', o, none⟩) hg'
                  obtain ⟨p0, p1, p2, p3, p4, p5, p6, e1⟩ := hvi.form
                  obtain ⟨r0, r1, r2, r3, r4, r5, r6, e2⟩ := hvi'.form
                  rw [e1] at h1 hcall
                  rw [e2] at h2 hcall
                  obtain ⟨c0, c1, c2⟩ := h1.cells
                  obtain ⟨d0, d1, d2⟩ := h2.cells
                  obtain ⟨q, hq⟩ : ∃ q, sameB (xs j) (xs' j) = q := ⟨_, rfl⟩
                  rw [hq] at hcall
                  have HQ := Lib.hid hq
                  clear hB hB' hxs hxs' hx hx' hvi hvi' h1 h2 e1 e2 hbb hdr hq
                  cases q with
                  | true =>
                    go_wp2_with fail
                    go_region_law (go_simp; go_at_call 13; refine hcall.mono ?_; rintro e w5 ⟨rfl, hb5⟩)
                    all_goals
                      go_wp2_with fail
                      go_roundw
                      case rel => exact ⟨j + 1, by omega, by go_num, Lib.hid ⟨(hb.out.1.drew).trans (hb5.mono (Nat.le_trans hb.out.1.size (Nat.le_refl _))), fun q' hq' => by
                        by_cases e : q' = j
                        · subst e; exact HQ.out
                        · exact hb.out.2 q' (by omega)⟩⟩
                      case measure => simp [intOf]; omega
                  | false =>
                    have HF : Hid (r = false) := Lib.hid (by
                      cases e : r with
                      | false => rfl
                      | true =>
                        rw [HR.out] at e
                        simp only [Bool.and_eq_true] at e
                        have := all_range.1 e.2.2 j hjt
                        rw [HQ.out] at this
                        cases this)
                    go_wp2_with fail
                    go_region_law (go_simp; go_at_call 13; refine hcall.mono ?_; rintro e w5 ⟨rfl, hb5⟩)
                    all_goals
                      go_wp2_with fail
                      go_ret
                      exact ⟨by rw [HF.out]; rfl, HB0.out.trans (((hb.out.1.drew).trans (hb5.mono (Nat.le_trans hb.out.1.size (Nat.le_refl _)))).mono HB0.out.size)⟩
                · have HF : Hid (r = true) := Lib.hid (by
                    rw [HR.out, HNM.out]
                    simp only [Bool.and_eq_true, decide_eq_true_eq, all_range]
                    exact ⟨⟨trivial, trivial⟩, trivial, fun q hq => hb.out.2 q (by omega)⟩)
                  have HBb := Lib.hid hb.out.1
                  clear hb
                  go_wp2_with fail
                  go_ret
                  exact ⟨by rw [HF.out]; rfl, HB0.out.trans (HBb.out.mono HB0.out.size)⟩
end Go.Proofs.YtcmohggnehkjeaaGreat
namespace Go.Proofs.YtcmohggnehkjeaaGreat
open Go.RowKit

theorem isB_no {a b : TT} (h : ¬ (tokV a = true ∧ tokV b = true)) : isB a b = false := by unfold isB; rw [joinR_no h]
theorem isB_none {a b : TT} (ha : Rt a) (hb : Rt b) (h : joinP a b = none) : isB a b = false := by unfold isB; rw [ha.join hb, joinE_none h]
theorem isB_some {a b t : TT} (ha : Rt a) (hb : Rt b) (h : joinP a b = some t) : isB a b = sameB t b := by unfold isB; rw [ha.join hb, joinE_some h]
theorem Rt.rjoin {a b : TT} {v u : Array Value} {Q Q' : Nat → Prop} {w : World} (ra : Rt a) (rb : Rt b) (hv : TW w Q v a) (hu : TW w Q' u b) : Calls Tryz.prog 17 #[.agg v, .agg u] w (RJoined (fun _ => True) (joinP a b) w) :=
  rjoin_any a b v u _ w (hv.imp fun _ _ _ => trivial) (hu.imp fun _ _ _ => trivial) ra.sh rb.sh ra.nn rb.nn ra.fw
set_option maxRecDepth 20000 in
set_option maxHeartbeats 2000000 in
theorem RIs_any {a b : TT} {v u : Array Value} {Q Q' : Nat → Prop} {w : World} (hv : TW w Q v a) (hu : TW w Q' u b) :
    Calls Tryz.prog 15 #[.agg v, .agg u] w fun e w' => e = .returned (.bool (isB a b)) ∧ Below w.heap.size w w' := by
  obtain ⟨hb0, hx0, hx1⟩ := two_boxes w v u
  obtain ⟨a0, a1, a2, a3, a4, a5, a6, rfl⟩ := hv.form
  obtain ⟨b0, b1, b2, b3, b4, b5, b6, rfl⟩ := hu.form
  have T := Lib.hid fun W (h : Below w.heap.size w W) => TypeRight_any (hv.stay h).val
  have T' := Lib.hid fun W (h : Below w.heap.size w W) => TypeRight_any (hu.stay h).val
  have J := Lib.hid fun W (h : Below w.heap.size w W) (ra : Rt a) (rb : Rt b) => ra.rjoin rb (hv.stay h) (hu.stay h)
  have RA := Lib.hid fun (h : tokV a = true) => hv.rt h
  have RB := Lib.hid fun (h : tokV b = true) => hu.rt h
  have HU := Lib.hid hu
  have HB0 := Lib.hid hb0
  have HX := Lib.hid (And.intro hx0 hx1)
  obtain ⟨x0, x1, x2, _, _⟩ := hx0.cells
  clear hb0 hx0 hx1 hv hu
  cases ta : tokV a with
  | false =>
    rw [isB_no (by rw [ta]; simp)]
    rw [ta] at T
    clear ta
    go_enter Tryz.func15, Tryz.ntmps15
    go_wp2_with (go_at_call 16; refine (T.out _ HB0.out).mono ?_; rintro e w1 ⟨rfl, hb1⟩)
    go_ret
    exact ⟨rfl, HB0.out.trans (hb1.mono HB0.out.size)⟩
  | true =>
    have ra := RA.out ta
    rw [ta] at T
    cases tb : tokV b with
    | false =>
      rw [isB_no (by rw [tb]; simp)]
      rw [tb] at T'
      clear ta tb ra
      go_enter Tryz.func15, Tryz.ntmps15
      go_wp2_with (go_at_call 16; refine (T.out _ HB0.out).mono ?_; rintro e w1 ⟨rfl, hb1⟩; refine Hid.out ?_)
      refine Lib.hid ?_
      have HB1 := Lib.hid (HB0.out.trans (hb1.mono HB0.out.size))
      obtain ⟨y0, y1, y2, _, _⟩ := (HX.out.2.below hb1).cells
      clear hb1 x0 x1 x2
      go_wp2_with (go_at_call 16; refine (T'.out _ HB1.out).mono ?_; rintro e w2 ⟨rfl, hb2⟩)
      go_ret
      exact ⟨rfl, HB1.out.trans (hb2.mono HB1.out.size)⟩
    | true =>
      have rb := RB.out tb
      rw [tb] at T'
      have HRR := Lib.hid (And.intro ra rb)
      clear ta tb
      go_enter Tryz.func15, Tryz.ntmps15
      go_wp2_with (go_at_call 16; refine (T.out _ HB0.out).mono ?_; rintro e w1 ⟨rfl, hb1⟩; refine Hid.out ?_)
      refine Lib.hid ?_
      have HB1 := Lib.hid (HB0.out.trans (hb1.mono HB0.out.size))
      have HX1 := Lib.hid (And.intro (HX.out.1.below hb1) (HX.out.2.below hb1))
      obtain ⟨y0, y1, y2, _, _⟩ := HX1.out.2.cells
      clear hb1 x0 x1 x2
      go_wp2_with (go_at_call 16; refine (T'.out _ HB1.out).mono ?_; rintro e w2 ⟨rfl, hb2⟩; refine Hid.out ?_)
      refine Lib.hid ?_
      have HB2 := Lib.hid (HB1.out.trans (hb2.mono HB1.out.size))
      have HX2 := Lib.hid (And.intro (HX1.out.1.below hb2) (HX1.out.2.below hb2))
      clear hb2 y0 y1 y2
      obtain ⟨x0, x1, x2, _, _⟩ := HX2.out.1.cells
      obtain ⟨y0, y1, y2, _, _⟩ := HX2.out.2.cells
      have C := J.out _ HB2.out HRR.out.1 HRR.out.2
      unfold RJoined at C
      cases hj : joinP a b with
      | none =>
        rw [hj] at C
        have HF := Lib.hid (isB_none ra rb hj)
        clear hj ra rb
        go_wp2_with (go_at_call 17; refine C.mono ?_; rintro e w3 ⟨hb3, rfl⟩)
        go_ret
        exact ⟨by rw [HF.out]; rfl, (HB2.out.trans (hb3.mono HB2.out.size)).alloc (Nat.le_trans HB2.out.size hb3.size) _⟩
      | some t =>
        rw [hj] at C
        have HF := Lib.hid (isB_some ra rb hj)
        clear hj ra rb
        go_wp2_with (go_at_call 17; refine C.mono ?_; rintro e w3 ⟨hb3, x, rfl, hx⟩; refine Hid.out ?_)
        refine Lib.hid ?_
        obtain ⟨z0, z1, z2, z3, z4, z5, z6, rfl⟩ := hx.form
        have hb4 : Below w3.heap.size w3 (w3.alloc (.cells #[.int .i64 z0, .slice z1 z2 z3, .slice z4 z5 z6] 25)) := (Below.refl _ _).alloc (Nat.le_refl _) _
        obtain ⟨s0, s1, s2, _, _⟩ := ((HX2.out.2.below hb3).below hb4).cells
        have HBN := Lib.hid ((HB2.out.trans (hb3.mono HB2.out.size)).trans (hb4.mono (Nat.le_trans HB2.out.size hb3.size)))
        have S := Lib.hid (sameR_any _ _ _ _ _ _ _ (hx.stay hb4) (HU.out.stay HBN.out))
        clear hb3 hb4 hx x0 x1 x2 y0 y1 y2 C
        go_wp2_with (go_at_call 13; refine S.out.mono ?_; rintro e w4 ⟨rfl, hb5⟩)
        go_ret
        exact ⟨by rw [HF.out]; rfl, HBN.out.trans (hb5.mono HBN.out.size)⟩
end Go.Proofs.YtcmohggnehkjeaaGreat
namespace Go.Proofs.YtcmohggnehkjeaaGreat.typesJoin
open Go.RowKit

def Yes (w : World) (e : Ending) (w' : World) : Prop := e = .returned (.bool true) ∧ Below w.heap.size w w'
theorem box1 (w : World) (v : Array Value) : Below w.heap.size w (w.alloc (.cells v 25)) := (Below.refl _ _).alloc (Nat.le_refl _) _
theorem two_ne (s : Bool) : (s != s) = false := by cases s <;> rfl
set_option maxRecDepth 20000 in
set_option maxHeartbeats 4000000 in
theorem walk {ta tb : TT} {a b : Array Value} {w : World} (ha : TW w (fun _ => True) a ta) (hb : TW w (fun _ => True) b tb) :
    Calls Tryz.prog 3 #[.agg a, .agg b] w (Yes w) := by
  have C0 := Lib.hid fun (W : World) (_ : Below w.heap.size w W) => awake9 W
  obtain ⟨hb0, q0, q1⟩ := two_boxes w a b
  obtain ⟨a0, a1, a2, a3, a4, a5, a6, rfl⟩ := ha.form
  obtain ⟨b0, b1, b2, b3, b4, b5, b6, rfl⟩ := hb.form
  have HB := Lib.hid hb0
  have HXa := Lib.hid q0
  have HXb := Lib.hid q1
  have HTa := Lib.hid (ha.stay hb0)
  have HTb := Lib.hid (hb.stay hb0)
  have TR := Lib.hid fun (t : TT) (W : World) (v : Array Value) (h : TW W (fun _ => True) v t) => TypeRight_any h.val
  have TS := Lib.hid fun (t : TT) (W : World) (v : Array Value) (h : TW W (fun _ => True) v t) => tsmall_any h.val
  have JN := Lib.hid fun (t u : TT) (W : World) (v x : Array Value) (h : TW W (fun _ => True) v t) (g : TW W (fun _ => True) x u) => Join_t h g
  have SM := Lib.hid fun (t u : TT) (W : World) (v x : Array Value) (h : TW W (fun _ => True) v t) (g : TW W (fun _ => True) x u) => Same_t _ _ _ _ _ _ _ h g
  have SR := Lib.hid fun (t u : TT) (W : World) (v x : Array Value) (h : TW W (fun _ => True) v t) (g : TW W (fun _ => True) x u) => sameR_any _ _ _ _ _ _ _ h g
  have IS := Lib.hid fun (t u : TT) (W : World) (v x : Array Value) (h : TW W (fun _ => True) v t) (g : TW W (fun _ => True) x u) => Is_t h g
  have RI := Lib.hid fun (t u : TT) (W : World) (v x : Array Value) (h : TW W (fun _ => True) v t) (g : TW W (fun _ => True) x u) => RIs_any h g
  have RJ := Lib.hid fun (t u : TT) (W : World) (v x : Array Value) (h : TW W (fun _ => True) v t) (g : TW W (fun _ => True) x u) (r : Rt t) (r' : Rt u) => r.rjoin r' h g
  have RT : Hid (∀ t W v, TW W (fun _ => True) v t → tokV t = true → Rt t) := Lib.hid fun t W v h e => h.rt e
  have ZS : Hid (sameB nilT nilT = true) := Lib.hid zero_same
  clear hb0 q0 q1 ha hb
  unfold Yes
  obtain ⟨s, hs⟩ : ∃ s, sameB ta tb = s := ⟨_, rfl⟩
  obtain ⟨q, hq⟩ : ∃ q, isB ta tb = q := ⟨_, rfl⟩
  have HSQ := Lib.hid (And.intro hs hq)
  clear hs hq
  have ns := two_ne s
  have nq := two_ne q
  cases ma : tsmallV ta with
  | false =>
    go_enter Tryz.func3, Tryz.ntmps3
    go_wp2_with (go_at_call 9; refine (C0.out _ HB.out).mono ?_; rintro e w1 ⟨rfl, hb1⟩; refine Hid.out ?_)
    refine Lib.hid ?_
    have hsz1 := HB.out.size
    replace HB := Lib.hid (HB.out.trans (hb1.mono HB.out.size))
    clear hsz1
    replace HXa := Lib.hid (HXa.out.below hb1)
    replace HTa := Lib.hid (HTa.out.stay hb1)
    replace HXb := Lib.hid (HXb.out.below hb1)
    replace HTb := Lib.hid (HTb.out.stay hb1)
    clear hb1
    have CT := TS.out _ _ _ HTa.out
    rw [ma] at CT
    obtain ⟨ka0, ka1, ka2, _, _⟩ := HXa.out.cells
    go_wp2_with (go_at_call 10; refine (CT).mono ?_; rintro e w2 ⟨rfl, hb2⟩; refine Hid.out ?_)
    refine Lib.hid ?_
    clear ka0 ka1 ka2
    have hsz2 := HB.out.size
    replace HB := Lib.hid (HB.out.trans (hb2.mono HB.out.size))
    clear hsz2
    replace HXa := Lib.hid (HXa.out.below hb2)
    replace HTa := Lib.hid (HTa.out.stay hb2)
    replace HXb := Lib.hid (HXb.out.below hb2)
    replace HTb := Lib.hid (HTb.out.stay hb2)
    clear hb2
    clear CT
    go_wp2_with (go_at_call 9; refine (C0.out _ HB.out).mono ?_; rintro e w3 ⟨rfl, hb3⟩; refine Hid.out ?_)
    refine Lib.hid ?_
    have hsz3 := HB.out.size
    replace HB := Lib.hid (HB.out.trans (hb3.mono HB.out.size))
    clear hsz3
    replace HXa := Lib.hid (HXa.out.below hb3)
    replace HTa := Lib.hid (HTa.out.stay hb3)
    replace HXb := Lib.hid (HXb.out.below hb3)
    replace HTb := Lib.hid (HTb.out.stay hb3)
    clear hb3
    go_wp2_with fail
    go_ret
    exact ⟨rfl, HB.out⟩
  | true =>
    cases mb : tsmallV tb with
    | false =>
      go_enter Tryz.func3, Tryz.ntmps3
      go_wp2_with (go_at_call 9; refine (C0.out _ HB.out).mono ?_; rintro e w1 ⟨rfl, hb1⟩; refine Hid.out ?_)
      refine Lib.hid ?_
      have hsz1 := HB.out.size
      replace HB := Lib.hid (HB.out.trans (hb1.mono HB.out.size))
      clear hsz1
      replace HXa := Lib.hid (HXa.out.below hb1)
      replace HTa := Lib.hid (HTa.out.stay hb1)
      replace HXb := Lib.hid (HXb.out.below hb1)
      replace HTb := Lib.hid (HTb.out.stay hb1)
      clear hb1
      have CT := TS.out _ _ _ HTa.out
      rw [ma] at CT
      obtain ⟨ka0, ka1, ka2, _, _⟩ := HXa.out.cells
      go_wp2_with (go_at_call 10; refine (CT).mono ?_; rintro e w2 ⟨rfl, hb2⟩; refine Hid.out ?_)
      refine Lib.hid ?_
      clear ka0 ka1 ka2
      have hsz2 := HB.out.size
      replace HB := Lib.hid (HB.out.trans (hb2.mono HB.out.size))
      clear hsz2
      replace HXa := Lib.hid (HXa.out.below hb2)
      replace HTa := Lib.hid (HTa.out.stay hb2)
      replace HXb := Lib.hid (HXb.out.below hb2)
      replace HTb := Lib.hid (HTb.out.stay hb2)
      clear hb2
      clear CT
      have CT := TS.out _ _ _ HTb.out
      rw [mb] at CT
      obtain ⟨kb0, kb1, kb2, _, _⟩ := HXb.out.cells
      go_wp2_with (go_at_call 10; refine (CT).mono ?_; rintro e w3 ⟨rfl, hb3⟩; refine Hid.out ?_)
      refine Lib.hid ?_
      clear kb0 kb1 kb2
      have hsz3 := HB.out.size
      replace HB := Lib.hid (HB.out.trans (hb3.mono HB.out.size))
      clear hsz3
      replace HXa := Lib.hid (HXa.out.below hb3)
      replace HTa := Lib.hid (HTa.out.stay hb3)
      replace HXb := Lib.hid (HXb.out.below hb3)
      replace HTb := Lib.hid (HTb.out.stay hb3)
      clear hb3
      clear CT
      go_wp2_with (go_at_call 9; refine (C0.out _ HB.out).mono ?_; rintro e w4 ⟨rfl, hb4⟩; refine Hid.out ?_)
      refine Lib.hid ?_
      have hsz4 := HB.out.size
      replace HB := Lib.hid (HB.out.trans (hb4.mono HB.out.size))
      clear hsz4
      replace HXa := Lib.hid (HXa.out.below hb4)
      replace HTa := Lib.hid (HTa.out.stay hb4)
      replace HXb := Lib.hid (HXb.out.below hb4)
      replace HTb := Lib.hid (HTb.out.stay hb4)
      clear hb4
      go_wp2_with fail
      go_ret
      exact ⟨rfl, HB.out⟩
    | true =>
      cases ha : tokV ta with
      | false =>
        have ej : joinR ta tb = .error 2 := joinR_no (by rw [ha]; simp)
        go_enter Tryz.func3, Tryz.ntmps3
        go_wp2_with (go_at_call 9; refine (C0.out _ HB.out).mono ?_; rintro e w1 ⟨rfl, hb1⟩; refine Hid.out ?_)
        refine Lib.hid ?_
        have hsz1 := HB.out.size
        replace HB := Lib.hid (HB.out.trans (hb1.mono HB.out.size))
        clear hsz1
        replace HXa := Lib.hid (HXa.out.below hb1)
        replace HTa := Lib.hid (HTa.out.stay hb1)
        replace HXb := Lib.hid (HXb.out.below hb1)
        replace HTb := Lib.hid (HTb.out.stay hb1)
        clear hb1
        have CT := TS.out _ _ _ HTa.out
        rw [ma] at CT
        obtain ⟨ka0, ka1, ka2, _, _⟩ := HXa.out.cells
        go_wp2_with (go_at_call 10; refine (CT).mono ?_; rintro e w2 ⟨rfl, hb2⟩; refine Hid.out ?_)
        refine Lib.hid ?_
        clear ka0 ka1 ka2
        have hsz2 := HB.out.size
        replace HB := Lib.hid (HB.out.trans (hb2.mono HB.out.size))
        clear hsz2
        replace HXa := Lib.hid (HXa.out.below hb2)
        replace HTa := Lib.hid (HTa.out.stay hb2)
        replace HXb := Lib.hid (HXb.out.below hb2)
        replace HTb := Lib.hid (HTb.out.stay hb2)
        clear hb2
        clear CT
        have CT := TS.out _ _ _ HTb.out
        rw [mb] at CT
        obtain ⟨kb0, kb1, kb2, _, _⟩ := HXb.out.cells
        go_wp2_with (go_at_call 10; refine (CT).mono ?_; rintro e w3 ⟨rfl, hb3⟩; refine Hid.out ?_)
        refine Lib.hid ?_
        clear kb0 kb1 kb2
        have hsz3 := HB.out.size
        replace HB := Lib.hid (HB.out.trans (hb3.mono HB.out.size))
        clear hsz3
        replace HXa := Lib.hid (HXa.out.below hb3)
        replace HTa := Lib.hid (HTa.out.stay hb3)
        replace HXb := Lib.hid (HXb.out.below hb3)
        replace HTb := Lib.hid (HTb.out.stay hb3)
        clear hb3
        clear CT
        obtain ⟨ka0, ka1, ka2, _, _⟩ := HXa.out.cells
        obtain ⟨kb0, kb1, kb2, _, _⟩ := HXb.out.cells
        have CJ := JN.out _ _ _ _ _ HTa.out HTb.out
        rw [ej] at CJ
        go_wp2_with (go_at_call 11; refine CJ.mono ?_; rintro e w4 ⟨hb4, rfl⟩; refine Hid.out ?_)
        refine Lib.hid ?_
        clear CJ
        clear ka0 ka1 ka2 kb0 kb1 kb2
        have hsz4 := HB.out.size
        replace HB := Lib.hid (HB.out.trans (hb4.mono HB.out.size))
        clear hsz4
        replace HXa := Lib.hid (HXa.out.below hb4)
        replace HTa := Lib.hid (HTa.out.stay hb4)
        replace HXb := Lib.hid (HXb.out.below hb4)
        replace HTb := Lib.hid (HTb.out.stay hb4)
        clear hb4
        have hx4 := box1 w4 #[.int .i64 0, .slice none 0 0, .slice none 0 0]
        have HTt := Lib.hid ((TW.zero w4 (fun _ => True)).stay hx4)
        have HXt := Lib.hid (TB.new w4 #[.int .i64 0, .slice none 0 0, .slice none 0 0])
        have hsz4 := HB.out.size
        replace HB := Lib.hid (HB.out.trans (hx4.mono HB.out.size))
        clear hsz4
        replace HXa := Lib.hid (HXa.out.below hx4)
        replace HTa := Lib.hid (HTa.out.stay hx4)
        replace HXb := Lib.hid (HXb.out.below hx4)
        replace HTb := Lib.hid (HTb.out.stay hx4)
        clear hx4
        obtain ⟨wX, hwX⟩ : ∃ W, W = w4.alloc (.cells #[.int .i64 0, .slice none 0 0, .slice none 0 0] 25) := ⟨_, rfl⟩
        rw [← hwX] at HB HXa HXb HXt HTa HTb HTt
        go_wp2_with fail
        rw [← hwX]
        clear hwX
        have HC := Lib.hid (fun (W : World) (hW : Below wX.heap.size wX W) => And.intro ((HXa.out.below hW).cells).1 (And.intro ((HXa.out.below hW).cells).2.1 (And.intro ((HXa.out.below hW).cells).2.2.1 (And.intro ((HXb.out.below hW).cells).1 (And.intro ((HXb.out.below hW).cells).2.1 ((HXb.out.below hW).cells).2.2.1)))))
        refine wp_region_held_drew (S := fun W => Below wX.heap.size wX W) (by kernel_rfl) (Below.refl _ _).drew (fun _ => ?_)
        refine takeG (i := 0) (some 28) (.agg #[.int .i64 a0, .slice a1 a2 a3, .slice a4 a5 a6]) rfl rfl (by kernel_rfl) (by kernel_rfl) (by kernel_rfl) (fun _ _ _ h => h) (Below.refl _ _).drew (by kernel_rfl) (fun W hW => by obtain ⟨f0, f1, f2, f3, f4, f5⟩ := HC.out W hW; go_simp) ?_
        simp only [Act.put, List.setIfInBounds_toArray, List.set_cons_zero, List.set_cons_succ]
        refine takeG (i := 1) (some 29) (.agg #[.int .i64 b0, .slice b1 b2 b3, .slice b4 b5 b6]) rfl rfl (by kernel_rfl) (by kernel_rfl) (by kernel_rfl) (fun _ _ _ h => h) (Below.refl _ _).drew (by kernel_rfl) (fun W hW => by obtain ⟨f0, f1, f2, f3, f4, f5⟩ := HC.out W hW; go_simp) ?_
        simp only [Act.put, List.setIfInBounds_toArray, List.set_cons_zero, List.set_cons_succ]
        refine takeG (i := 3) (some 31) (.agg #[.int .i64 a0, .slice a1 a2 a3, .slice a4 a5 a6]) rfl rfl (by kernel_rfl) (by kernel_rfl) (by kernel_rfl) (fun _ _ _ h => h) (Below.refl _ _).drew (by kernel_rfl) (fun W hW => by obtain ⟨f0, f1, f2, f3, f4, f5⟩ := HC.out W hW; go_simp) ?_
        simp only [Act.put, List.setIfInBounds_toArray, List.set_cons_zero, List.set_cons_succ]
        refine takeG (i := 4) (some 32) (.agg #[.int .i64 b0, .slice b1 b2 b3, .slice b4 b5 b6]) rfl rfl (by kernel_rfl) (by kernel_rfl) (by kernel_rfl) (fun _ _ _ h => h) (Below.refl _ _).drew (by kernel_rfl) (fun W hW => by obtain ⟨f0, f1, f2, f3, f4, f5⟩ := HC.out W hW; go_simp) ?_
        simp only [Act.put, List.setIfInBounds_toArray, List.set_cons_zero, List.set_cons_succ]
        have hs0 : Below wX.heap.size wX wX.drew := (Below.refl _ _).drew
        have CT := SM.out _ _ _ _ _ (HTa.out.stay hs0) (HTb.out.stay hs0)
        rw [HSQ.out.1] at CT
        refine wpAnyH_ready (rs := [2]) (by kernel_rfl) (by simp) (AllReadyH.cons rfl (fun K1 hK1 => ?_) AllReadyH.nil)
        refine branchC 12 #[.agg #[.int .i64 a0, .slice a1 a2 a3, .slice a4 a5 a6], .agg #[.int .i64 b0, .slice b1 b2 b3, .slice b4 b5 b6]] (some 30) rfl (by kernel_rfl) (by go_simp) (CT.mono ?_)
        rintro e v1 ⟨rfl, hb1⟩
        have hs1 : Below wX.heap.size wX v1 := hs0.trans (hb1.mono hs0.size)
        clear CT hb1
        refine ⟨_, rfl, ?_⟩
        refine hK1.out _ _ hs1 (fun _ => ?_)
        simp only [Act.put, List.setIfInBounds_toArray, List.set_cons_zero, List.set_cons_succ]
        have CT := SR.out _ _ _ _ _ (HTa.out.stay hs1) (HTb.out.stay hs1)
        rw [HSQ.out.1] at CT
        refine wpAnyH_ready (rs := [5]) (by kernel_rfl) (by simp) (AllReadyH.cons rfl (fun K2 hK2 => ?_) AllReadyH.nil)
        refine branchC 13 #[.agg #[.int .i64 a0, .slice a1 a2 a3, .slice a4 a5 a6], .agg #[.int .i64 b0, .slice b1 b2 b3, .slice b4 b5 b6]] (some 33) rfl (by kernel_rfl) (by go_simp) (CT.mono ?_)
        rintro e v2 ⟨rfl, hb2⟩
        have hs2 : Below wX.heap.size wX v2 := hs1.trans (hb2.mono hs1.size)
        clear CT hb2
        refine ⟨_, rfl, ?_⟩
        refine hK2.out _ _ hs2 (fun _ => ?_)
        simp only [Act.put, List.setIfInBounds_toArray, List.set_cons_zero, List.set_cons_succ]
        refine takeG (i := 6) (some 34) (.bool false) rfl rfl (by kernel_rfl) (by kernel_rfl) (by kernel_rfl) (fun _ _ _ h => h) hs2 (by kernel_rfl) (fun W hW => by obtain ⟨f0, f1, f2, f3, f4, f5⟩ := HC.out W hW; go_simp) ?_
        simp only [Act.put, List.setIfInBounds_toArray, List.set_cons_zero, List.set_cons_succ]
        refine takeG (i := 7) (some 35) (.bool false) rfl rfl (by kernel_rfl) (by kernel_rfl) (by kernel_rfl) (fun _ _ _ h => h) hs2 (by kernel_rfl) (fun W hW => by obtain ⟨f0, f1, f2, f3, f4, f5⟩ := HC.out W hW; go_simp) ?_
        simp only [Act.put, List.setIfInBounds_toArray, List.set_cons_zero, List.set_cons_succ]
        refine takeG (i := 8) (some 36) (.agg #[.int .i64 a0, .slice a1 a2 a3, .slice a4 a5 a6]) rfl rfl (by kernel_rfl) (by kernel_rfl) (by kernel_rfl) (fun _ _ _ h => h) hs2 (by kernel_rfl) (fun W hW => by obtain ⟨f0, f1, f2, f3, f4, f5⟩ := HC.out W hW; go_simp) ?_
        simp only [Act.put, List.setIfInBounds_toArray, List.set_cons_zero, List.set_cons_succ]
        refine takeG (i := 9) (some 37) (.agg #[.int .i64 b0, .slice b1 b2 b3, .slice b4 b5 b6]) rfl rfl (by kernel_rfl) (by kernel_rfl) (by kernel_rfl) (fun _ _ _ h => h) hs2 (by kernel_rfl) (fun W hW => by obtain ⟨f0, f1, f2, f3, f4, f5⟩ := HC.out W hW; go_simp) ?_
        simp only [Act.put, List.setIfInBounds_toArray, List.set_cons_zero, List.set_cons_succ]
        refine takeG (i := 11) (some 39) (.agg #[.int .i64 a0, .slice a1 a2 a3, .slice a4 a5 a6]) rfl rfl (by kernel_rfl) (by kernel_rfl) (by kernel_rfl) (fun _ _ _ h => h) hs2 (by kernel_rfl) (fun W hW => by obtain ⟨f0, f1, f2, f3, f4, f5⟩ := HC.out W hW; go_simp) ?_
        simp only [Act.put, List.setIfInBounds_toArray, List.set_cons_zero, List.set_cons_succ]
        refine takeG (i := 12) (some 40) (.agg #[.int .i64 b0, .slice b1 b2 b3, .slice b4 b5 b6]) rfl rfl (by kernel_rfl) (by kernel_rfl) (by kernel_rfl) (fun _ _ _ h => h) hs2 (by kernel_rfl) (fun W hW => by obtain ⟨f0, f1, f2, f3, f4, f5⟩ := HC.out W hW; go_simp) ?_
        simp only [Act.put, List.setIfInBounds_toArray, List.set_cons_zero, List.set_cons_succ]
        have CT := IS.out _ _ _ _ _ (HTa.out.stay hs2) (HTb.out.stay hs2)
        rw [HSQ.out.2] at CT
        refine wpAnyH_ready (rs := [10]) (by kernel_rfl) (by simp) (AllReadyH.cons rfl (fun K3 hK3 => ?_) AllReadyH.nil)
        refine branchC 14 #[.agg #[.int .i64 a0, .slice a1 a2 a3, .slice a4 a5 a6], .agg #[.int .i64 b0, .slice b1 b2 b3, .slice b4 b5 b6]] (some 38) rfl (by kernel_rfl) (by go_simp) (CT.mono ?_)
        rintro e v3 ⟨rfl, hb3⟩
        have hs3 : Below wX.heap.size wX v3 := hs2.trans (hb3.mono hs2.size)
        clear CT hb3
        refine ⟨_, rfl, ?_⟩
        refine hK3.out _ _ hs3 (fun _ => ?_)
        simp only [Act.put, List.setIfInBounds_toArray, List.set_cons_zero, List.set_cons_succ]
        have CT := RI.out _ _ _ _ _ (HTa.out.stay hs3) (HTb.out.stay hs3)
        rw [HSQ.out.2] at CT
        refine wpAnyH_ready (rs := [13]) (by kernel_rfl) (by simp) (AllReadyH.cons rfl (fun K4 hK4 => ?_) AllReadyH.nil)
        refine branchC 15 #[.agg #[.int .i64 a0, .slice a1 a2 a3, .slice a4 a5 a6], .agg #[.int .i64 b0, .slice b1 b2 b3, .slice b4 b5 b6]] (some 41) rfl (by kernel_rfl) (by go_simp) (CT.mono ?_)
        rintro e v4 ⟨rfl, hb4⟩
        have hs4 : Below wX.heap.size wX v4 := hs3.trans (hb4.mono hs3.size)
        clear CT hb4
        refine ⟨_, rfl, ?_⟩
        refine hK4.out _ _ hs4 (fun _ => ?_)
        simp only [Act.put, List.setIfInBounds_toArray, List.set_cons_zero, List.set_cons_succ]
        refine takeG (i := 14) (some 42) (.bool false) rfl rfl (by kernel_rfl) (by kernel_rfl) (by kernel_rfl) (fun _ _ _ h => h) hs4 (by kernel_rfl) (fun W hW => by obtain ⟨f0, f1, f2, f3, f4, f5⟩ := HC.out W hW; go_simp) ?_
        simp only [Act.put, List.setIfInBounds_toArray, List.set_cons_zero, List.set_cons_succ]
        refine takeG (i := 15) (some 43) (.bool false) rfl rfl (by kernel_rfl) (by kernel_rfl) (by kernel_rfl) (fun _ _ _ h => h) hs4 (by kernel_rfl) (fun W hW => by obtain ⟨f0, f1, f2, f3, f4, f5⟩ := HC.out W hW; go_simp) ?_
        simp only [Act.put, List.setIfInBounds_toArray, List.set_cons_zero, List.set_cons_succ]
        refine wpAnyH_done (by kernel_rfl) ?_ _
        refine Hid.out ?_
        refine Lib.hid ?_
        clear hs0 hs1 hs2 hs3 HC
        have hsz4 := HB.out.size
        replace HB := Lib.hid (HB.out.trans (hs4.mono HB.out.size))
        clear hsz4
        replace HXa := Lib.hid (HXa.out.below hs4)
        replace HTa := Lib.hid (HTa.out.stay hs4)
        replace HXb := Lib.hid (HXb.out.below hs4)
        replace HTb := Lib.hid (HTb.out.stay hs4)
        replace HXt := Lib.hid (HXt.out.below hs4)
        replace HTt := Lib.hid (HTt.out.stay hs4)
        clear hs4
        have CT := TR.out _ _ _ HTa.out
        rw [ha] at CT
        obtain ⟨ka0, ka1, ka2, _, _⟩ := HXa.out.cells
        go_wp2_with (go_at_call 16; refine (CT).mono ?_; rintro e w5 ⟨rfl, hb5⟩; refine Hid.out ?_)
        refine Lib.hid ?_
        clear ka0 ka1 ka2
        have hsz5 := HB.out.size
        replace HB := Lib.hid (HB.out.trans (hb5.mono HB.out.size))
        clear hsz5
        replace HXa := Lib.hid (HXa.out.below hb5)
        replace HTa := Lib.hid (HTa.out.stay hb5)
        replace HXb := Lib.hid (HXb.out.below hb5)
        replace HTb := Lib.hid (HTb.out.stay hb5)
        replace HXt := Lib.hid (HXt.out.below hb5)
        replace HTt := Lib.hid (HTt.out.stay hb5)
        clear hb5
        clear CT
        obtain ⟨kt0, kt1, kt2, _, _⟩ := HXt.out.cells
        have CT := SR.out _ _ _ _ _ HTt.out (TW.zero _ (fun _ => True))
        rw [ZS.out] at CT
        go_wp2_with (go_at_call 13; refine CT.mono ?_; rintro e w6 ⟨rfl, hb6⟩)
        go_ret
        exact ⟨rfl, HB.out.trans (hb6.mono HB.out.size)⟩
      | true =>
        cases hb : tokV tb with
        | false =>
          have ej : joinR ta tb = .error 2 := joinR_no (by rw [hb]; simp)
          go_enter Tryz.func3, Tryz.ntmps3
          go_wp2_with (go_at_call 9; refine (C0.out _ HB.out).mono ?_; rintro e w1 ⟨rfl, hb1⟩; refine Hid.out ?_)
          refine Lib.hid ?_
          have hsz1 := HB.out.size
          replace HB := Lib.hid (HB.out.trans (hb1.mono HB.out.size))
          clear hsz1
          replace HXa := Lib.hid (HXa.out.below hb1)
          replace HTa := Lib.hid (HTa.out.stay hb1)
          replace HXb := Lib.hid (HXb.out.below hb1)
          replace HTb := Lib.hid (HTb.out.stay hb1)
          clear hb1
          have CT := TS.out _ _ _ HTa.out
          rw [ma] at CT
          obtain ⟨ka0, ka1, ka2, _, _⟩ := HXa.out.cells
          go_wp2_with (go_at_call 10; refine (CT).mono ?_; rintro e w2 ⟨rfl, hb2⟩; refine Hid.out ?_)
          refine Lib.hid ?_
          clear ka0 ka1 ka2
          have hsz2 := HB.out.size
          replace HB := Lib.hid (HB.out.trans (hb2.mono HB.out.size))
          clear hsz2
          replace HXa := Lib.hid (HXa.out.below hb2)
          replace HTa := Lib.hid (HTa.out.stay hb2)
          replace HXb := Lib.hid (HXb.out.below hb2)
          replace HTb := Lib.hid (HTb.out.stay hb2)
          clear hb2
          clear CT
          have CT := TS.out _ _ _ HTb.out
          rw [mb] at CT
          obtain ⟨kb0, kb1, kb2, _, _⟩ := HXb.out.cells
          go_wp2_with (go_at_call 10; refine (CT).mono ?_; rintro e w3 ⟨rfl, hb3⟩; refine Hid.out ?_)
          refine Lib.hid ?_
          clear kb0 kb1 kb2
          have hsz3 := HB.out.size
          replace HB := Lib.hid (HB.out.trans (hb3.mono HB.out.size))
          clear hsz3
          replace HXa := Lib.hid (HXa.out.below hb3)
          replace HTa := Lib.hid (HTa.out.stay hb3)
          replace HXb := Lib.hid (HXb.out.below hb3)
          replace HTb := Lib.hid (HTb.out.stay hb3)
          clear hb3
          clear CT
          obtain ⟨ka0, ka1, ka2, _, _⟩ := HXa.out.cells
          obtain ⟨kb0, kb1, kb2, _, _⟩ := HXb.out.cells
          have CJ := JN.out _ _ _ _ _ HTa.out HTb.out
          rw [ej] at CJ
          go_wp2_with (go_at_call 11; refine CJ.mono ?_; rintro e w4 ⟨hb4, rfl⟩; refine Hid.out ?_)
          refine Lib.hid ?_
          clear CJ
          clear ka0 ka1 ka2 kb0 kb1 kb2
          have hsz4 := HB.out.size
          replace HB := Lib.hid (HB.out.trans (hb4.mono HB.out.size))
          clear hsz4
          replace HXa := Lib.hid (HXa.out.below hb4)
          replace HTa := Lib.hid (HTa.out.stay hb4)
          replace HXb := Lib.hid (HXb.out.below hb4)
          replace HTb := Lib.hid (HTb.out.stay hb4)
          clear hb4
          have hx4 := box1 w4 #[.int .i64 0, .slice none 0 0, .slice none 0 0]
          have HTt := Lib.hid ((TW.zero w4 (fun _ => True)).stay hx4)
          have HXt := Lib.hid (TB.new w4 #[.int .i64 0, .slice none 0 0, .slice none 0 0])
          have hsz4 := HB.out.size
          replace HB := Lib.hid (HB.out.trans (hx4.mono HB.out.size))
          clear hsz4
          replace HXa := Lib.hid (HXa.out.below hx4)
          replace HTa := Lib.hid (HTa.out.stay hx4)
          replace HXb := Lib.hid (HXb.out.below hx4)
          replace HTb := Lib.hid (HTb.out.stay hx4)
          clear hx4
          obtain ⟨wX, hwX⟩ : ∃ W, W = w4.alloc (.cells #[.int .i64 0, .slice none 0 0, .slice none 0 0] 25) := ⟨_, rfl⟩
          rw [← hwX] at HB HXa HXb HXt HTa HTb HTt
          go_wp2_with fail
          rw [← hwX]
          clear hwX
          have HC := Lib.hid (fun (W : World) (hW : Below wX.heap.size wX W) => And.intro ((HXa.out.below hW).cells).1 (And.intro ((HXa.out.below hW).cells).2.1 (And.intro ((HXa.out.below hW).cells).2.2.1 (And.intro ((HXb.out.below hW).cells).1 (And.intro ((HXb.out.below hW).cells).2.1 ((HXb.out.below hW).cells).2.2.1)))))
          refine wp_region_held_drew (S := fun W => Below wX.heap.size wX W) (by kernel_rfl) (Below.refl _ _).drew (fun _ => ?_)
          refine takeG (i := 0) (some 28) (.agg #[.int .i64 a0, .slice a1 a2 a3, .slice a4 a5 a6]) rfl rfl (by kernel_rfl) (by kernel_rfl) (by kernel_rfl) (fun _ _ _ h => h) (Below.refl _ _).drew (by kernel_rfl) (fun W hW => by obtain ⟨f0, f1, f2, f3, f4, f5⟩ := HC.out W hW; go_simp) ?_
          simp only [Act.put, List.setIfInBounds_toArray, List.set_cons_zero, List.set_cons_succ]
          refine takeG (i := 1) (some 29) (.agg #[.int .i64 b0, .slice b1 b2 b3, .slice b4 b5 b6]) rfl rfl (by kernel_rfl) (by kernel_rfl) (by kernel_rfl) (fun _ _ _ h => h) (Below.refl _ _).drew (by kernel_rfl) (fun W hW => by obtain ⟨f0, f1, f2, f3, f4, f5⟩ := HC.out W hW; go_simp) ?_
          simp only [Act.put, List.setIfInBounds_toArray, List.set_cons_zero, List.set_cons_succ]
          refine takeG (i := 3) (some 31) (.agg #[.int .i64 a0, .slice a1 a2 a3, .slice a4 a5 a6]) rfl rfl (by kernel_rfl) (by kernel_rfl) (by kernel_rfl) (fun _ _ _ h => h) (Below.refl _ _).drew (by kernel_rfl) (fun W hW => by obtain ⟨f0, f1, f2, f3, f4, f5⟩ := HC.out W hW; go_simp) ?_
          simp only [Act.put, List.setIfInBounds_toArray, List.set_cons_zero, List.set_cons_succ]
          refine takeG (i := 4) (some 32) (.agg #[.int .i64 b0, .slice b1 b2 b3, .slice b4 b5 b6]) rfl rfl (by kernel_rfl) (by kernel_rfl) (by kernel_rfl) (fun _ _ _ h => h) (Below.refl _ _).drew (by kernel_rfl) (fun W hW => by obtain ⟨f0, f1, f2, f3, f4, f5⟩ := HC.out W hW; go_simp) ?_
          simp only [Act.put, List.setIfInBounds_toArray, List.set_cons_zero, List.set_cons_succ]
          have hs0 : Below wX.heap.size wX wX.drew := (Below.refl _ _).drew
          have CT := SM.out _ _ _ _ _ (HTa.out.stay hs0) (HTb.out.stay hs0)
          rw [HSQ.out.1] at CT
          refine wpAnyH_ready (rs := [2]) (by kernel_rfl) (by simp) (AllReadyH.cons rfl (fun K1 hK1 => ?_) AllReadyH.nil)
          refine branchC 12 #[.agg #[.int .i64 a0, .slice a1 a2 a3, .slice a4 a5 a6], .agg #[.int .i64 b0, .slice b1 b2 b3, .slice b4 b5 b6]] (some 30) rfl (by kernel_rfl) (by go_simp) (CT.mono ?_)
          rintro e v1 ⟨rfl, hb1⟩
          have hs1 : Below wX.heap.size wX v1 := hs0.trans (hb1.mono hs0.size)
          clear CT hb1
          refine ⟨_, rfl, ?_⟩
          refine hK1.out _ _ hs1 (fun _ => ?_)
          simp only [Act.put, List.setIfInBounds_toArray, List.set_cons_zero, List.set_cons_succ]
          have CT := SR.out _ _ _ _ _ (HTa.out.stay hs1) (HTb.out.stay hs1)
          rw [HSQ.out.1] at CT
          refine wpAnyH_ready (rs := [5]) (by kernel_rfl) (by simp) (AllReadyH.cons rfl (fun K2 hK2 => ?_) AllReadyH.nil)
          refine branchC 13 #[.agg #[.int .i64 a0, .slice a1 a2 a3, .slice a4 a5 a6], .agg #[.int .i64 b0, .slice b1 b2 b3, .slice b4 b5 b6]] (some 33) rfl (by kernel_rfl) (by go_simp) (CT.mono ?_)
          rintro e v2 ⟨rfl, hb2⟩
          have hs2 : Below wX.heap.size wX v2 := hs1.trans (hb2.mono hs1.size)
          clear CT hb2
          refine ⟨_, rfl, ?_⟩
          refine hK2.out _ _ hs2 (fun _ => ?_)
          simp only [Act.put, List.setIfInBounds_toArray, List.set_cons_zero, List.set_cons_succ]
          refine takeG (i := 6) (some 34) (.bool false) rfl rfl (by kernel_rfl) (by kernel_rfl) (by kernel_rfl) (fun _ _ _ h => h) hs2 (by kernel_rfl) (fun W hW => by obtain ⟨f0, f1, f2, f3, f4, f5⟩ := HC.out W hW; go_simp) ?_
          simp only [Act.put, List.setIfInBounds_toArray, List.set_cons_zero, List.set_cons_succ]
          refine takeG (i := 7) (some 35) (.bool false) rfl rfl (by kernel_rfl) (by kernel_rfl) (by kernel_rfl) (fun _ _ _ h => h) hs2 (by kernel_rfl) (fun W hW => by obtain ⟨f0, f1, f2, f3, f4, f5⟩ := HC.out W hW; go_simp) ?_
          simp only [Act.put, List.setIfInBounds_toArray, List.set_cons_zero, List.set_cons_succ]
          refine takeG (i := 8) (some 36) (.agg #[.int .i64 a0, .slice a1 a2 a3, .slice a4 a5 a6]) rfl rfl (by kernel_rfl) (by kernel_rfl) (by kernel_rfl) (fun _ _ _ h => h) hs2 (by kernel_rfl) (fun W hW => by obtain ⟨f0, f1, f2, f3, f4, f5⟩ := HC.out W hW; go_simp) ?_
          simp only [Act.put, List.setIfInBounds_toArray, List.set_cons_zero, List.set_cons_succ]
          refine takeG (i := 9) (some 37) (.agg #[.int .i64 b0, .slice b1 b2 b3, .slice b4 b5 b6]) rfl rfl (by kernel_rfl) (by kernel_rfl) (by kernel_rfl) (fun _ _ _ h => h) hs2 (by kernel_rfl) (fun W hW => by obtain ⟨f0, f1, f2, f3, f4, f5⟩ := HC.out W hW; go_simp) ?_
          simp only [Act.put, List.setIfInBounds_toArray, List.set_cons_zero, List.set_cons_succ]
          refine takeG (i := 11) (some 39) (.agg #[.int .i64 a0, .slice a1 a2 a3, .slice a4 a5 a6]) rfl rfl (by kernel_rfl) (by kernel_rfl) (by kernel_rfl) (fun _ _ _ h => h) hs2 (by kernel_rfl) (fun W hW => by obtain ⟨f0, f1, f2, f3, f4, f5⟩ := HC.out W hW; go_simp) ?_
          simp only [Act.put, List.setIfInBounds_toArray, List.set_cons_zero, List.set_cons_succ]
          refine takeG (i := 12) (some 40) (.agg #[.int .i64 b0, .slice b1 b2 b3, .slice b4 b5 b6]) rfl rfl (by kernel_rfl) (by kernel_rfl) (by kernel_rfl) (fun _ _ _ h => h) hs2 (by kernel_rfl) (fun W hW => by obtain ⟨f0, f1, f2, f3, f4, f5⟩ := HC.out W hW; go_simp) ?_
          simp only [Act.put, List.setIfInBounds_toArray, List.set_cons_zero, List.set_cons_succ]
          have CT := IS.out _ _ _ _ _ (HTa.out.stay hs2) (HTb.out.stay hs2)
          rw [HSQ.out.2] at CT
          refine wpAnyH_ready (rs := [10]) (by kernel_rfl) (by simp) (AllReadyH.cons rfl (fun K3 hK3 => ?_) AllReadyH.nil)
          refine branchC 14 #[.agg #[.int .i64 a0, .slice a1 a2 a3, .slice a4 a5 a6], .agg #[.int .i64 b0, .slice b1 b2 b3, .slice b4 b5 b6]] (some 38) rfl (by kernel_rfl) (by go_simp) (CT.mono ?_)
          rintro e v3 ⟨rfl, hb3⟩
          have hs3 : Below wX.heap.size wX v3 := hs2.trans (hb3.mono hs2.size)
          clear CT hb3
          refine ⟨_, rfl, ?_⟩
          refine hK3.out _ _ hs3 (fun _ => ?_)
          simp only [Act.put, List.setIfInBounds_toArray, List.set_cons_zero, List.set_cons_succ]
          have CT := RI.out _ _ _ _ _ (HTa.out.stay hs3) (HTb.out.stay hs3)
          rw [HSQ.out.2] at CT
          refine wpAnyH_ready (rs := [13]) (by kernel_rfl) (by simp) (AllReadyH.cons rfl (fun K4 hK4 => ?_) AllReadyH.nil)
          refine branchC 15 #[.agg #[.int .i64 a0, .slice a1 a2 a3, .slice a4 a5 a6], .agg #[.int .i64 b0, .slice b1 b2 b3, .slice b4 b5 b6]] (some 41) rfl (by kernel_rfl) (by go_simp) (CT.mono ?_)
          rintro e v4 ⟨rfl, hb4⟩
          have hs4 : Below wX.heap.size wX v4 := hs3.trans (hb4.mono hs3.size)
          clear CT hb4
          refine ⟨_, rfl, ?_⟩
          refine hK4.out _ _ hs4 (fun _ => ?_)
          simp only [Act.put, List.setIfInBounds_toArray, List.set_cons_zero, List.set_cons_succ]
          refine takeG (i := 14) (some 42) (.bool false) rfl rfl (by kernel_rfl) (by kernel_rfl) (by kernel_rfl) (fun _ _ _ h => h) hs4 (by kernel_rfl) (fun W hW => by obtain ⟨f0, f1, f2, f3, f4, f5⟩ := HC.out W hW; go_simp) ?_
          simp only [Act.put, List.setIfInBounds_toArray, List.set_cons_zero, List.set_cons_succ]
          refine takeG (i := 15) (some 43) (.bool false) rfl rfl (by kernel_rfl) (by kernel_rfl) (by kernel_rfl) (fun _ _ _ h => h) hs4 (by kernel_rfl) (fun W hW => by obtain ⟨f0, f1, f2, f3, f4, f5⟩ := HC.out W hW; go_simp) ?_
          simp only [Act.put, List.setIfInBounds_toArray, List.set_cons_zero, List.set_cons_succ]
          refine wpAnyH_done (by kernel_rfl) ?_ _
          refine Hid.out ?_
          refine Lib.hid ?_
          clear hs0 hs1 hs2 hs3 HC
          have hsz4 := HB.out.size
          replace HB := Lib.hid (HB.out.trans (hs4.mono HB.out.size))
          clear hsz4
          replace HXa := Lib.hid (HXa.out.below hs4)
          replace HTa := Lib.hid (HTa.out.stay hs4)
          replace HXb := Lib.hid (HXb.out.below hs4)
          replace HTb := Lib.hid (HTb.out.stay hs4)
          replace HXt := Lib.hid (HXt.out.below hs4)
          replace HTt := Lib.hid (HTt.out.stay hs4)
          clear hs4
          have CT := TR.out _ _ _ HTa.out
          rw [ha] at CT
          obtain ⟨ka0, ka1, ka2, _, _⟩ := HXa.out.cells
          go_wp2_with (go_at_call 16; refine (CT).mono ?_; rintro e w5 ⟨rfl, hb5⟩; refine Hid.out ?_)
          refine Lib.hid ?_
          clear ka0 ka1 ka2
          have hsz5 := HB.out.size
          replace HB := Lib.hid (HB.out.trans (hb5.mono HB.out.size))
          clear hsz5
          replace HXa := Lib.hid (HXa.out.below hb5)
          replace HTa := Lib.hid (HTa.out.stay hb5)
          replace HXb := Lib.hid (HXb.out.below hb5)
          replace HTb := Lib.hid (HTb.out.stay hb5)
          replace HXt := Lib.hid (HXt.out.below hb5)
          replace HTt := Lib.hid (HTt.out.stay hb5)
          clear hb5
          clear CT
          have CT := TR.out _ _ _ HTb.out
          rw [hb] at CT
          obtain ⟨kb0, kb1, kb2, _, _⟩ := HXb.out.cells
          go_wp2_with (go_at_call 16; refine (CT).mono ?_; rintro e w6 ⟨rfl, hb6⟩; refine Hid.out ?_)
          refine Lib.hid ?_
          clear kb0 kb1 kb2
          have hsz6 := HB.out.size
          replace HB := Lib.hid (HB.out.trans (hb6.mono HB.out.size))
          clear hsz6
          replace HXa := Lib.hid (HXa.out.below hb6)
          replace HTa := Lib.hid (HTa.out.stay hb6)
          replace HXb := Lib.hid (HXb.out.below hb6)
          replace HTb := Lib.hid (HTb.out.stay hb6)
          replace HXt := Lib.hid (HXt.out.below hb6)
          replace HTt := Lib.hid (HTt.out.stay hb6)
          clear hb6
          clear CT
          obtain ⟨kt0, kt1, kt2, _, _⟩ := HXt.out.cells
          have CT := SR.out _ _ _ _ _ HTt.out (TW.zero _ (fun _ => True))
          rw [ZS.out] at CT
          go_wp2_with (go_at_call 13; refine CT.mono ?_; rintro e w7 ⟨rfl, hb7⟩)
          go_ret
          exact ⟨rfl, HB.out.trans (hb7.mono HB.out.size)⟩
        | true =>
          have Ra := RT.out _ _ _ HTa.out ha
          have Rb := RT.out _ _ _ HTb.out hb
          have Eab := Ra.join Rb
          go_enter Tryz.func3, Tryz.ntmps3
          go_wp2_with (go_at_call 9; refine (C0.out _ HB.out).mono ?_; rintro e w1 ⟨rfl, hb1⟩; refine Hid.out ?_)
          refine Lib.hid ?_
          have hsz1 := HB.out.size
          replace HB := Lib.hid (HB.out.trans (hb1.mono HB.out.size))
          clear hsz1
          replace HXa := Lib.hid (HXa.out.below hb1)
          replace HTa := Lib.hid (HTa.out.stay hb1)
          replace HXb := Lib.hid (HXb.out.below hb1)
          replace HTb := Lib.hid (HTb.out.stay hb1)
          clear hb1
          have CT := TS.out _ _ _ HTa.out
          rw [ma] at CT
          obtain ⟨ka0, ka1, ka2, _, _⟩ := HXa.out.cells
          go_wp2_with (go_at_call 10; refine (CT).mono ?_; rintro e w2 ⟨rfl, hb2⟩; refine Hid.out ?_)
          refine Lib.hid ?_
          clear ka0 ka1 ka2
          have hsz2 := HB.out.size
          replace HB := Lib.hid (HB.out.trans (hb2.mono HB.out.size))
          clear hsz2
          replace HXa := Lib.hid (HXa.out.below hb2)
          replace HTa := Lib.hid (HTa.out.stay hb2)
          replace HXb := Lib.hid (HXb.out.below hb2)
          replace HTb := Lib.hid (HTb.out.stay hb2)
          clear hb2
          clear CT
          have CT := TS.out _ _ _ HTb.out
          rw [mb] at CT
          obtain ⟨kb0, kb1, kb2, _, _⟩ := HXb.out.cells
          go_wp2_with (go_at_call 10; refine (CT).mono ?_; rintro e w3 ⟨rfl, hb3⟩; refine Hid.out ?_)
          refine Lib.hid ?_
          clear kb0 kb1 kb2
          have hsz3 := HB.out.size
          replace HB := Lib.hid (HB.out.trans (hb3.mono HB.out.size))
          clear hsz3
          replace HXa := Lib.hid (HXa.out.below hb3)
          replace HTa := Lib.hid (HTa.out.stay hb3)
          replace HXb := Lib.hid (HXb.out.below hb3)
          replace HTb := Lib.hid (HTb.out.stay hb3)
          clear hb3
          clear CT
          cases hj : joinP ta tb with
          | none =>
            have e1 := joinE_none hj
            obtain ⟨ka0, ka1, ka2, _, _⟩ := HXa.out.cells
            obtain ⟨kb0, kb1, kb2, _, _⟩ := HXb.out.cells
            have CJ := JN.out _ _ _ _ _ HTa.out HTb.out
            rw [Eab, e1] at CJ
            go_wp2_with (go_at_call 11; refine CJ.mono ?_; rintro e w4 ⟨hb4, rfl⟩; refine Hid.out ?_)
            refine Lib.hid ?_
            clear CJ
            clear ka0 ka1 ka2 kb0 kb1 kb2
            have hsz4 := HB.out.size
            replace HB := Lib.hid (HB.out.trans (hb4.mono HB.out.size))
            clear hsz4
            replace HXa := Lib.hid (HXa.out.below hb4)
            replace HTa := Lib.hid (HTa.out.stay hb4)
            replace HXb := Lib.hid (HXb.out.below hb4)
            replace HTb := Lib.hid (HTb.out.stay hb4)
            clear hb4
            have hx4 := box1 w4 #[.int .i64 0, .slice none 0 0, .slice none 0 0]
            have HTt := Lib.hid ((TW.zero w4 (fun _ => True)).stay hx4)
            have HXt := Lib.hid (TB.new w4 #[.int .i64 0, .slice none 0 0, .slice none 0 0])
            have hsz4 := HB.out.size
            replace HB := Lib.hid (HB.out.trans (hx4.mono HB.out.size))
            clear hsz4
            replace HXa := Lib.hid (HXa.out.below hx4)
            replace HTa := Lib.hid (HTa.out.stay hx4)
            replace HXb := Lib.hid (HXb.out.below hx4)
            replace HTb := Lib.hid (HTb.out.stay hx4)
            clear hx4
            obtain ⟨wX, hwX⟩ : ∃ W, W = w4.alloc (.cells #[.int .i64 0, .slice none 0 0, .slice none 0 0] 25) := ⟨_, rfl⟩
            rw [← hwX] at HB HXa HXb HXt HTa HTb HTt
            go_wp2_with fail
            rw [← hwX]
            clear hwX
            have HC := Lib.hid (fun (W : World) (hW : Below wX.heap.size wX W) => And.intro ((HXa.out.below hW).cells).1 (And.intro ((HXa.out.below hW).cells).2.1 (And.intro ((HXa.out.below hW).cells).2.2.1 (And.intro ((HXb.out.below hW).cells).1 (And.intro ((HXb.out.below hW).cells).2.1 ((HXb.out.below hW).cells).2.2.1)))))
            refine wp_region_held_drew (S := fun W => Below wX.heap.size wX W) (by kernel_rfl) (Below.refl _ _).drew (fun _ => ?_)
            refine takeG (i := 0) (some 28) (.agg #[.int .i64 a0, .slice a1 a2 a3, .slice a4 a5 a6]) rfl rfl (by kernel_rfl) (by kernel_rfl) (by kernel_rfl) (fun _ _ _ h => h) (Below.refl _ _).drew (by kernel_rfl) (fun W hW => by obtain ⟨f0, f1, f2, f3, f4, f5⟩ := HC.out W hW; go_simp) ?_
            simp only [Act.put, List.setIfInBounds_toArray, List.set_cons_zero, List.set_cons_succ]
            refine takeG (i := 1) (some 29) (.agg #[.int .i64 b0, .slice b1 b2 b3, .slice b4 b5 b6]) rfl rfl (by kernel_rfl) (by kernel_rfl) (by kernel_rfl) (fun _ _ _ h => h) (Below.refl _ _).drew (by kernel_rfl) (fun W hW => by obtain ⟨f0, f1, f2, f3, f4, f5⟩ := HC.out W hW; go_simp) ?_
            simp only [Act.put, List.setIfInBounds_toArray, List.set_cons_zero, List.set_cons_succ]
            refine takeG (i := 3) (some 31) (.agg #[.int .i64 a0, .slice a1 a2 a3, .slice a4 a5 a6]) rfl rfl (by kernel_rfl) (by kernel_rfl) (by kernel_rfl) (fun _ _ _ h => h) (Below.refl _ _).drew (by kernel_rfl) (fun W hW => by obtain ⟨f0, f1, f2, f3, f4, f5⟩ := HC.out W hW; go_simp) ?_
            simp only [Act.put, List.setIfInBounds_toArray, List.set_cons_zero, List.set_cons_succ]
            refine takeG (i := 4) (some 32) (.agg #[.int .i64 b0, .slice b1 b2 b3, .slice b4 b5 b6]) rfl rfl (by kernel_rfl) (by kernel_rfl) (by kernel_rfl) (fun _ _ _ h => h) (Below.refl _ _).drew (by kernel_rfl) (fun W hW => by obtain ⟨f0, f1, f2, f3, f4, f5⟩ := HC.out W hW; go_simp) ?_
            simp only [Act.put, List.setIfInBounds_toArray, List.set_cons_zero, List.set_cons_succ]
            have hs0 : Below wX.heap.size wX wX.drew := (Below.refl _ _).drew
            have CT := SM.out _ _ _ _ _ (HTa.out.stay hs0) (HTb.out.stay hs0)
            rw [HSQ.out.1] at CT
            refine wpAnyH_ready (rs := [2]) (by kernel_rfl) (by simp) (AllReadyH.cons rfl (fun K1 hK1 => ?_) AllReadyH.nil)
            refine branchC 12 #[.agg #[.int .i64 a0, .slice a1 a2 a3, .slice a4 a5 a6], .agg #[.int .i64 b0, .slice b1 b2 b3, .slice b4 b5 b6]] (some 30) rfl (by kernel_rfl) (by go_simp) (CT.mono ?_)
            rintro e v1 ⟨rfl, hb1⟩
            have hs1 : Below wX.heap.size wX v1 := hs0.trans (hb1.mono hs0.size)
            clear CT hb1
            refine ⟨_, rfl, ?_⟩
            refine hK1.out _ _ hs1 (fun _ => ?_)
            simp only [Act.put, List.setIfInBounds_toArray, List.set_cons_zero, List.set_cons_succ]
            have CT := SR.out _ _ _ _ _ (HTa.out.stay hs1) (HTb.out.stay hs1)
            rw [HSQ.out.1] at CT
            refine wpAnyH_ready (rs := [5]) (by kernel_rfl) (by simp) (AllReadyH.cons rfl (fun K2 hK2 => ?_) AllReadyH.nil)
            refine branchC 13 #[.agg #[.int .i64 a0, .slice a1 a2 a3, .slice a4 a5 a6], .agg #[.int .i64 b0, .slice b1 b2 b3, .slice b4 b5 b6]] (some 33) rfl (by kernel_rfl) (by go_simp) (CT.mono ?_)
            rintro e v2 ⟨rfl, hb2⟩
            have hs2 : Below wX.heap.size wX v2 := hs1.trans (hb2.mono hs1.size)
            clear CT hb2
            refine ⟨_, rfl, ?_⟩
            refine hK2.out _ _ hs2 (fun _ => ?_)
            simp only [Act.put, List.setIfInBounds_toArray, List.set_cons_zero, List.set_cons_succ]
            refine takeG (i := 6) (some 34) (.bool false) rfl rfl (by kernel_rfl) (by kernel_rfl) (by kernel_rfl) (fun _ _ _ h => h) hs2 (by kernel_rfl) (fun W hW => by obtain ⟨f0, f1, f2, f3, f4, f5⟩ := HC.out W hW; go_simp) ?_
            simp only [Act.put, List.setIfInBounds_toArray, List.set_cons_zero, List.set_cons_succ]
            refine takeG (i := 7) (some 35) (.bool false) rfl rfl (by kernel_rfl) (by kernel_rfl) (by kernel_rfl) (fun _ _ _ h => h) hs2 (by kernel_rfl) (fun W hW => by obtain ⟨f0, f1, f2, f3, f4, f5⟩ := HC.out W hW; go_simp) ?_
            simp only [Act.put, List.setIfInBounds_toArray, List.set_cons_zero, List.set_cons_succ]
            refine takeG (i := 8) (some 36) (.agg #[.int .i64 a0, .slice a1 a2 a3, .slice a4 a5 a6]) rfl rfl (by kernel_rfl) (by kernel_rfl) (by kernel_rfl) (fun _ _ _ h => h) hs2 (by kernel_rfl) (fun W hW => by obtain ⟨f0, f1, f2, f3, f4, f5⟩ := HC.out W hW; go_simp) ?_
            simp only [Act.put, List.setIfInBounds_toArray, List.set_cons_zero, List.set_cons_succ]
            refine takeG (i := 9) (some 37) (.agg #[.int .i64 b0, .slice b1 b2 b3, .slice b4 b5 b6]) rfl rfl (by kernel_rfl) (by kernel_rfl) (by kernel_rfl) (fun _ _ _ h => h) hs2 (by kernel_rfl) (fun W hW => by obtain ⟨f0, f1, f2, f3, f4, f5⟩ := HC.out W hW; go_simp) ?_
            simp only [Act.put, List.setIfInBounds_toArray, List.set_cons_zero, List.set_cons_succ]
            refine takeG (i := 11) (some 39) (.agg #[.int .i64 a0, .slice a1 a2 a3, .slice a4 a5 a6]) rfl rfl (by kernel_rfl) (by kernel_rfl) (by kernel_rfl) (fun _ _ _ h => h) hs2 (by kernel_rfl) (fun W hW => by obtain ⟨f0, f1, f2, f3, f4, f5⟩ := HC.out W hW; go_simp) ?_
            simp only [Act.put, List.setIfInBounds_toArray, List.set_cons_zero, List.set_cons_succ]
            refine takeG (i := 12) (some 40) (.agg #[.int .i64 b0, .slice b1 b2 b3, .slice b4 b5 b6]) rfl rfl (by kernel_rfl) (by kernel_rfl) (by kernel_rfl) (fun _ _ _ h => h) hs2 (by kernel_rfl) (fun W hW => by obtain ⟨f0, f1, f2, f3, f4, f5⟩ := HC.out W hW; go_simp) ?_
            simp only [Act.put, List.setIfInBounds_toArray, List.set_cons_zero, List.set_cons_succ]
            have CT := IS.out _ _ _ _ _ (HTa.out.stay hs2) (HTb.out.stay hs2)
            rw [HSQ.out.2] at CT
            refine wpAnyH_ready (rs := [10]) (by kernel_rfl) (by simp) (AllReadyH.cons rfl (fun K3 hK3 => ?_) AllReadyH.nil)
            refine branchC 14 #[.agg #[.int .i64 a0, .slice a1 a2 a3, .slice a4 a5 a6], .agg #[.int .i64 b0, .slice b1 b2 b3, .slice b4 b5 b6]] (some 38) rfl (by kernel_rfl) (by go_simp) (CT.mono ?_)
            rintro e v3 ⟨rfl, hb3⟩
            have hs3 : Below wX.heap.size wX v3 := hs2.trans (hb3.mono hs2.size)
            clear CT hb3
            refine ⟨_, rfl, ?_⟩
            refine hK3.out _ _ hs3 (fun _ => ?_)
            simp only [Act.put, List.setIfInBounds_toArray, List.set_cons_zero, List.set_cons_succ]
            have CT := RI.out _ _ _ _ _ (HTa.out.stay hs3) (HTb.out.stay hs3)
            rw [HSQ.out.2] at CT
            refine wpAnyH_ready (rs := [13]) (by kernel_rfl) (by simp) (AllReadyH.cons rfl (fun K4 hK4 => ?_) AllReadyH.nil)
            refine branchC 15 #[.agg #[.int .i64 a0, .slice a1 a2 a3, .slice a4 a5 a6], .agg #[.int .i64 b0, .slice b1 b2 b3, .slice b4 b5 b6]] (some 41) rfl (by kernel_rfl) (by go_simp) (CT.mono ?_)
            rintro e v4 ⟨rfl, hb4⟩
            have hs4 : Below wX.heap.size wX v4 := hs3.trans (hb4.mono hs3.size)
            clear CT hb4
            refine ⟨_, rfl, ?_⟩
            refine hK4.out _ _ hs4 (fun _ => ?_)
            simp only [Act.put, List.setIfInBounds_toArray, List.set_cons_zero, List.set_cons_succ]
            refine takeG (i := 14) (some 42) (.bool false) rfl rfl (by kernel_rfl) (by kernel_rfl) (by kernel_rfl) (fun _ _ _ h => h) hs4 (by kernel_rfl) (fun W hW => by obtain ⟨f0, f1, f2, f3, f4, f5⟩ := HC.out W hW; go_simp) ?_
            simp only [Act.put, List.setIfInBounds_toArray, List.set_cons_zero, List.set_cons_succ]
            refine takeG (i := 15) (some 43) (.bool false) rfl rfl (by kernel_rfl) (by kernel_rfl) (by kernel_rfl) (fun _ _ _ h => h) hs4 (by kernel_rfl) (fun W hW => by obtain ⟨f0, f1, f2, f3, f4, f5⟩ := HC.out W hW; go_simp) ?_
            simp only [Act.put, List.setIfInBounds_toArray, List.set_cons_zero, List.set_cons_succ]
            refine wpAnyH_done (by kernel_rfl) ?_ _
            refine Hid.out ?_
            refine Lib.hid ?_
            clear hs0 hs1 hs2 hs3 HC
            have hsz4 := HB.out.size
            replace HB := Lib.hid (HB.out.trans (hs4.mono HB.out.size))
            clear hsz4
            replace HXa := Lib.hid (HXa.out.below hs4)
            replace HTa := Lib.hid (HTa.out.stay hs4)
            replace HXb := Lib.hid (HXb.out.below hs4)
            replace HTb := Lib.hid (HTb.out.stay hs4)
            replace HXt := Lib.hid (HXt.out.below hs4)
            replace HTt := Lib.hid (HTt.out.stay hs4)
            clear hs4
            have CT := TR.out _ _ _ HTa.out
            rw [ha] at CT
            obtain ⟨ka0, ka1, ka2, _, _⟩ := HXa.out.cells
            go_wp2_with (go_at_call 16; refine (CT).mono ?_; rintro e w5 ⟨rfl, hb5⟩; refine Hid.out ?_)
            refine Lib.hid ?_
            clear ka0 ka1 ka2
            have hsz5 := HB.out.size
            replace HB := Lib.hid (HB.out.trans (hb5.mono HB.out.size))
            clear hsz5
            replace HXa := Lib.hid (HXa.out.below hb5)
            replace HTa := Lib.hid (HTa.out.stay hb5)
            replace HXb := Lib.hid (HXb.out.below hb5)
            replace HTb := Lib.hid (HTb.out.stay hb5)
            replace HXt := Lib.hid (HXt.out.below hb5)
            replace HTt := Lib.hid (HTt.out.stay hb5)
            clear hb5
            clear CT
            have CT := TR.out _ _ _ HTb.out
            rw [hb] at CT
            obtain ⟨kb0, kb1, kb2, _, _⟩ := HXb.out.cells
            go_wp2_with (go_at_call 16; refine (CT).mono ?_; rintro e w6 ⟨rfl, hb6⟩; refine Hid.out ?_)
            refine Lib.hid ?_
            clear kb0 kb1 kb2
            have hsz6 := HB.out.size
            replace HB := Lib.hid (HB.out.trans (hb6.mono HB.out.size))
            clear hsz6
            replace HXa := Lib.hid (HXa.out.below hb6)
            replace HTa := Lib.hid (HTa.out.stay hb6)
            replace HXb := Lib.hid (HXb.out.below hb6)
            replace HTb := Lib.hid (HTb.out.stay hb6)
            replace HXt := Lib.hid (HXt.out.below hb6)
            replace HTt := Lib.hid (HTt.out.stay hb6)
            clear hb6
            clear CT
            obtain ⟨ka0, ka1, ka2, _, _⟩ := HXa.out.cells
            obtain ⟨kb0, kb1, kb2, _, _⟩ := HXb.out.cells
            have CJ := RJ.out _ _ _ _ _ HTa.out HTb.out Ra Rb
            unfold RJoined at CJ
            rw [hj] at CJ
            go_wp2_with (go_at_call 17; refine CJ.mono ?_; rintro e w7 ⟨hb7, rfl⟩; refine Hid.out ?_)
            refine Lib.hid ?_
            clear CJ
            clear ka0 ka1 ka2 kb0 kb1 kb2
            have hsz7 := HB.out.size
            replace HB := Lib.hid (HB.out.trans (hb7.mono HB.out.size))
            clear hsz7
            replace HXa := Lib.hid (HXa.out.below hb7)
            replace HTa := Lib.hid (HTa.out.stay hb7)
            replace HXb := Lib.hid (HXb.out.below hb7)
            replace HTb := Lib.hid (HTb.out.stay hb7)
            replace HXt := Lib.hid (HXt.out.below hb7)
            replace HTt := Lib.hid (HTt.out.stay hb7)
            clear hb7
            have hx7 := box1 w7 #[.int .i64 0, .slice none 0 0, .slice none 0 0]
            have HTu := Lib.hid ((TW.zero w7 (fun _ => True)).stay hx7)
            have HXu := Lib.hid (TB.new w7 #[.int .i64 0, .slice none 0 0, .slice none 0 0])
            have hsz7 := HB.out.size
            replace HB := Lib.hid (HB.out.trans (hx7.mono HB.out.size))
            clear hsz7
            replace HXa := Lib.hid (HXa.out.below hx7)
            replace HTa := Lib.hid (HTa.out.stay hx7)
            replace HXb := Lib.hid (HXb.out.below hx7)
            replace HTb := Lib.hid (HTb.out.stay hx7)
            replace HXt := Lib.hid (HXt.out.below hx7)
            replace HTt := Lib.hid (HTt.out.stay hx7)
            clear hx7
            obtain ⟨kt0, kt1, kt2, _, _⟩ := HXt.out.cells
            have CT := SR.out _ _ _ _ _ HTt.out (TW.zero _ (fun _ => True))
            rw [ZS.out] at CT
            go_wp2_with (go_at_call 13; refine CT.mono ?_; rintro e w8 ⟨rfl, hb8⟩)
            go_ret
            exact ⟨rfl, HB.out.trans (hb8.mono HB.out.size)⟩
          | some tt =>
            have e1 := joinE_some hj
            have ss := sameB_refl tt (join_fit _ _ _ hj Ra.sh Rb.sh Ra.fw Rb.fw).2
            obtain ⟨ka0, ka1, ka2, _, _⟩ := HXa.out.cells
            obtain ⟨kb0, kb1, kb2, _, _⟩ := HXb.out.cells
            have CJ := JN.out _ _ _ _ _ HTa.out HTb.out
            rw [Eab, e1] at CJ
            go_wp2_with (go_at_call 11; refine CJ.mono ?_; rintro e w4 ⟨hb4, vt, rfl, htt⟩; refine Hid.out ?_)
            refine Lib.hid ?_
            clear CJ
            obtain ⟨t0, t1, t2, t3, t4, t5, t6, rfl⟩ := htt.form
            clear ka0 ka1 ka2 kb0 kb1 kb2
            have hsz4 := HB.out.size
            replace HB := Lib.hid (HB.out.trans (hb4.mono HB.out.size))
            clear hsz4
            replace HXa := Lib.hid (HXa.out.below hb4)
            replace HTa := Lib.hid (HTa.out.stay hb4)
            replace HXb := Lib.hid (HXb.out.below hb4)
            replace HTb := Lib.hid (HTb.out.stay hb4)
            clear hb4
            have hx4 := box1 w4 #[.int .i64 t0, .slice t1 t2 t3, .slice t4 t5 t6]
            have HTt := Lib.hid ((htt.imp (Q := fun _ => True) fun _ _ _ => trivial).stay hx4)
            clear htt
            have HXt := Lib.hid (TB.new w4 #[.int .i64 t0, .slice t1 t2 t3, .slice t4 t5 t6])
            have hsz4 := HB.out.size
            replace HB := Lib.hid (HB.out.trans (hx4.mono HB.out.size))
            clear hsz4
            replace HXa := Lib.hid (HXa.out.below hx4)
            replace HTa := Lib.hid (HTa.out.stay hx4)
            replace HXb := Lib.hid (HXb.out.below hx4)
            replace HTb := Lib.hid (HTb.out.stay hx4)
            clear hx4
            obtain ⟨wX, hwX⟩ : ∃ W, W = w4.alloc (.cells #[.int .i64 t0, .slice t1 t2 t3, .slice t4 t5 t6] 25) := ⟨_, rfl⟩
            rw [← hwX] at HB HXa HXb HXt HTa HTb HTt
            go_wp2_with fail
            rw [← hwX]
            clear hwX
            have HC := Lib.hid (fun (W : World) (hW : Below wX.heap.size wX W) => And.intro ((HXa.out.below hW).cells).1 (And.intro ((HXa.out.below hW).cells).2.1 (And.intro ((HXa.out.below hW).cells).2.2.1 (And.intro ((HXb.out.below hW).cells).1 (And.intro ((HXb.out.below hW).cells).2.1 ((HXb.out.below hW).cells).2.2.1)))))
            refine wp_region_held_drew (S := fun W => Below wX.heap.size wX W) (by kernel_rfl) (Below.refl _ _).drew (fun _ => ?_)
            refine takeG (i := 0) (some 28) (.agg #[.int .i64 a0, .slice a1 a2 a3, .slice a4 a5 a6]) rfl rfl (by kernel_rfl) (by kernel_rfl) (by kernel_rfl) (fun _ _ _ h => h) (Below.refl _ _).drew (by kernel_rfl) (fun W hW => by obtain ⟨f0, f1, f2, f3, f4, f5⟩ := HC.out W hW; go_simp) ?_
            simp only [Act.put, List.setIfInBounds_toArray, List.set_cons_zero, List.set_cons_succ]
            refine takeG (i := 1) (some 29) (.agg #[.int .i64 b0, .slice b1 b2 b3, .slice b4 b5 b6]) rfl rfl (by kernel_rfl) (by kernel_rfl) (by kernel_rfl) (fun _ _ _ h => h) (Below.refl _ _).drew (by kernel_rfl) (fun W hW => by obtain ⟨f0, f1, f2, f3, f4, f5⟩ := HC.out W hW; go_simp) ?_
            simp only [Act.put, List.setIfInBounds_toArray, List.set_cons_zero, List.set_cons_succ]
            refine takeG (i := 3) (some 31) (.agg #[.int .i64 a0, .slice a1 a2 a3, .slice a4 a5 a6]) rfl rfl (by kernel_rfl) (by kernel_rfl) (by kernel_rfl) (fun _ _ _ h => h) (Below.refl _ _).drew (by kernel_rfl) (fun W hW => by obtain ⟨f0, f1, f2, f3, f4, f5⟩ := HC.out W hW; go_simp) ?_
            simp only [Act.put, List.setIfInBounds_toArray, List.set_cons_zero, List.set_cons_succ]
            refine takeG (i := 4) (some 32) (.agg #[.int .i64 b0, .slice b1 b2 b3, .slice b4 b5 b6]) rfl rfl (by kernel_rfl) (by kernel_rfl) (by kernel_rfl) (fun _ _ _ h => h) (Below.refl _ _).drew (by kernel_rfl) (fun W hW => by obtain ⟨f0, f1, f2, f3, f4, f5⟩ := HC.out W hW; go_simp) ?_
            simp only [Act.put, List.setIfInBounds_toArray, List.set_cons_zero, List.set_cons_succ]
            have hs0 : Below wX.heap.size wX wX.drew := (Below.refl _ _).drew
            have CT := SM.out _ _ _ _ _ (HTa.out.stay hs0) (HTb.out.stay hs0)
            rw [HSQ.out.1] at CT
            refine wpAnyH_ready (rs := [2]) (by kernel_rfl) (by simp) (AllReadyH.cons rfl (fun K1 hK1 => ?_) AllReadyH.nil)
            refine branchC 12 #[.agg #[.int .i64 a0, .slice a1 a2 a3, .slice a4 a5 a6], .agg #[.int .i64 b0, .slice b1 b2 b3, .slice b4 b5 b6]] (some 30) rfl (by kernel_rfl) (by go_simp) (CT.mono ?_)
            rintro e v1 ⟨rfl, hb1⟩
            have hs1 : Below wX.heap.size wX v1 := hs0.trans (hb1.mono hs0.size)
            clear CT hb1
            refine ⟨_, rfl, ?_⟩
            refine hK1.out _ _ hs1 (fun _ => ?_)
            simp only [Act.put, List.setIfInBounds_toArray, List.set_cons_zero, List.set_cons_succ]
            have CT := SR.out _ _ _ _ _ (HTa.out.stay hs1) (HTb.out.stay hs1)
            rw [HSQ.out.1] at CT
            refine wpAnyH_ready (rs := [5]) (by kernel_rfl) (by simp) (AllReadyH.cons rfl (fun K2 hK2 => ?_) AllReadyH.nil)
            refine branchC 13 #[.agg #[.int .i64 a0, .slice a1 a2 a3, .slice a4 a5 a6], .agg #[.int .i64 b0, .slice b1 b2 b3, .slice b4 b5 b6]] (some 33) rfl (by kernel_rfl) (by go_simp) (CT.mono ?_)
            rintro e v2 ⟨rfl, hb2⟩
            have hs2 : Below wX.heap.size wX v2 := hs1.trans (hb2.mono hs1.size)
            clear CT hb2
            refine ⟨_, rfl, ?_⟩
            refine hK2.out _ _ hs2 (fun _ => ?_)
            simp only [Act.put, List.setIfInBounds_toArray, List.set_cons_zero, List.set_cons_succ]
            refine takeG (i := 6) (some 34) (.bool false) rfl rfl (by kernel_rfl) (by kernel_rfl) (by kernel_rfl) (fun _ _ _ h => h) hs2 (by kernel_rfl) (fun W hW => by obtain ⟨f0, f1, f2, f3, f4, f5⟩ := HC.out W hW; go_simp) ?_
            simp only [Act.put, List.setIfInBounds_toArray, List.set_cons_zero, List.set_cons_succ]
            refine takeG (i := 7) (some 35) (.bool false) rfl rfl (by kernel_rfl) (by kernel_rfl) (by kernel_rfl) (fun _ _ _ h => h) hs2 (by kernel_rfl) (fun W hW => by obtain ⟨f0, f1, f2, f3, f4, f5⟩ := HC.out W hW; go_simp) ?_
            simp only [Act.put, List.setIfInBounds_toArray, List.set_cons_zero, List.set_cons_succ]
            refine takeG (i := 8) (some 36) (.agg #[.int .i64 a0, .slice a1 a2 a3, .slice a4 a5 a6]) rfl rfl (by kernel_rfl) (by kernel_rfl) (by kernel_rfl) (fun _ _ _ h => h) hs2 (by kernel_rfl) (fun W hW => by obtain ⟨f0, f1, f2, f3, f4, f5⟩ := HC.out W hW; go_simp) ?_
            simp only [Act.put, List.setIfInBounds_toArray, List.set_cons_zero, List.set_cons_succ]
            refine takeG (i := 9) (some 37) (.agg #[.int .i64 b0, .slice b1 b2 b3, .slice b4 b5 b6]) rfl rfl (by kernel_rfl) (by kernel_rfl) (by kernel_rfl) (fun _ _ _ h => h) hs2 (by kernel_rfl) (fun W hW => by obtain ⟨f0, f1, f2, f3, f4, f5⟩ := HC.out W hW; go_simp) ?_
            simp only [Act.put, List.setIfInBounds_toArray, List.set_cons_zero, List.set_cons_succ]
            refine takeG (i := 11) (some 39) (.agg #[.int .i64 a0, .slice a1 a2 a3, .slice a4 a5 a6]) rfl rfl (by kernel_rfl) (by kernel_rfl) (by kernel_rfl) (fun _ _ _ h => h) hs2 (by kernel_rfl) (fun W hW => by obtain ⟨f0, f1, f2, f3, f4, f5⟩ := HC.out W hW; go_simp) ?_
            simp only [Act.put, List.setIfInBounds_toArray, List.set_cons_zero, List.set_cons_succ]
            refine takeG (i := 12) (some 40) (.agg #[.int .i64 b0, .slice b1 b2 b3, .slice b4 b5 b6]) rfl rfl (by kernel_rfl) (by kernel_rfl) (by kernel_rfl) (fun _ _ _ h => h) hs2 (by kernel_rfl) (fun W hW => by obtain ⟨f0, f1, f2, f3, f4, f5⟩ := HC.out W hW; go_simp) ?_
            simp only [Act.put, List.setIfInBounds_toArray, List.set_cons_zero, List.set_cons_succ]
            have CT := IS.out _ _ _ _ _ (HTa.out.stay hs2) (HTb.out.stay hs2)
            rw [HSQ.out.2] at CT
            refine wpAnyH_ready (rs := [10]) (by kernel_rfl) (by simp) (AllReadyH.cons rfl (fun K3 hK3 => ?_) AllReadyH.nil)
            refine branchC 14 #[.agg #[.int .i64 a0, .slice a1 a2 a3, .slice a4 a5 a6], .agg #[.int .i64 b0, .slice b1 b2 b3, .slice b4 b5 b6]] (some 38) rfl (by kernel_rfl) (by go_simp) (CT.mono ?_)
            rintro e v3 ⟨rfl, hb3⟩
            have hs3 : Below wX.heap.size wX v3 := hs2.trans (hb3.mono hs2.size)
            clear CT hb3
            refine ⟨_, rfl, ?_⟩
            refine hK3.out _ _ hs3 (fun _ => ?_)
            simp only [Act.put, List.setIfInBounds_toArray, List.set_cons_zero, List.set_cons_succ]
            have CT := RI.out _ _ _ _ _ (HTa.out.stay hs3) (HTb.out.stay hs3)
            rw [HSQ.out.2] at CT
            refine wpAnyH_ready (rs := [13]) (by kernel_rfl) (by simp) (AllReadyH.cons rfl (fun K4 hK4 => ?_) AllReadyH.nil)
            refine branchC 15 #[.agg #[.int .i64 a0, .slice a1 a2 a3, .slice a4 a5 a6], .agg #[.int .i64 b0, .slice b1 b2 b3, .slice b4 b5 b6]] (some 41) rfl (by kernel_rfl) (by go_simp) (CT.mono ?_)
            rintro e v4 ⟨rfl, hb4⟩
            have hs4 : Below wX.heap.size wX v4 := hs3.trans (hb4.mono hs3.size)
            clear CT hb4
            refine ⟨_, rfl, ?_⟩
            refine hK4.out _ _ hs4 (fun _ => ?_)
            simp only [Act.put, List.setIfInBounds_toArray, List.set_cons_zero, List.set_cons_succ]
            refine takeG (i := 14) (some 42) (.bool false) rfl rfl (by kernel_rfl) (by kernel_rfl) (by kernel_rfl) (fun _ _ _ h => h) hs4 (by kernel_rfl) (fun W hW => by obtain ⟨f0, f1, f2, f3, f4, f5⟩ := HC.out W hW; go_simp) ?_
            simp only [Act.put, List.setIfInBounds_toArray, List.set_cons_zero, List.set_cons_succ]
            refine takeG (i := 15) (some 43) (.bool false) rfl rfl (by kernel_rfl) (by kernel_rfl) (by kernel_rfl) (fun _ _ _ h => h) hs4 (by kernel_rfl) (fun W hW => by obtain ⟨f0, f1, f2, f3, f4, f5⟩ := HC.out W hW; go_simp) ?_
            simp only [Act.put, List.setIfInBounds_toArray, List.set_cons_zero, List.set_cons_succ]
            refine wpAnyH_done (by kernel_rfl) ?_ _
            refine Hid.out ?_
            refine Lib.hid ?_
            clear hs0 hs1 hs2 hs3 HC
            have hsz4 := HB.out.size
            replace HB := Lib.hid (HB.out.trans (hs4.mono HB.out.size))
            clear hsz4
            replace HXa := Lib.hid (HXa.out.below hs4)
            replace HTa := Lib.hid (HTa.out.stay hs4)
            replace HXb := Lib.hid (HXb.out.below hs4)
            replace HTb := Lib.hid (HTb.out.stay hs4)
            replace HXt := Lib.hid (HXt.out.below hs4)
            replace HTt := Lib.hid (HTt.out.stay hs4)
            clear hs4
            have CT := TR.out _ _ _ HTa.out
            rw [ha] at CT
            obtain ⟨ka0, ka1, ka2, _, _⟩ := HXa.out.cells
            go_wp2_with (go_at_call 16; refine (CT).mono ?_; rintro e w5 ⟨rfl, hb5⟩; refine Hid.out ?_)
            refine Lib.hid ?_
            clear ka0 ka1 ka2
            have hsz5 := HB.out.size
            replace HB := Lib.hid (HB.out.trans (hb5.mono HB.out.size))
            clear hsz5
            replace HXa := Lib.hid (HXa.out.below hb5)
            replace HTa := Lib.hid (HTa.out.stay hb5)
            replace HXb := Lib.hid (HXb.out.below hb5)
            replace HTb := Lib.hid (HTb.out.stay hb5)
            replace HXt := Lib.hid (HXt.out.below hb5)
            replace HTt := Lib.hid (HTt.out.stay hb5)
            clear hb5
            clear CT
            have CT := TR.out _ _ _ HTb.out
            rw [hb] at CT
            obtain ⟨kb0, kb1, kb2, _, _⟩ := HXb.out.cells
            go_wp2_with (go_at_call 16; refine (CT).mono ?_; rintro e w6 ⟨rfl, hb6⟩; refine Hid.out ?_)
            refine Lib.hid ?_
            clear kb0 kb1 kb2
            have hsz6 := HB.out.size
            replace HB := Lib.hid (HB.out.trans (hb6.mono HB.out.size))
            clear hsz6
            replace HXa := Lib.hid (HXa.out.below hb6)
            replace HTa := Lib.hid (HTa.out.stay hb6)
            replace HXb := Lib.hid (HXb.out.below hb6)
            replace HTb := Lib.hid (HTb.out.stay hb6)
            replace HXt := Lib.hid (HXt.out.below hb6)
            replace HTt := Lib.hid (HTt.out.stay hb6)
            clear hb6
            clear CT
            obtain ⟨ka0, ka1, ka2, _, _⟩ := HXa.out.cells
            obtain ⟨kb0, kb1, kb2, _, _⟩ := HXb.out.cells
            have CJ := RJ.out _ _ _ _ _ HTa.out HTb.out Ra Rb
            unfold RJoined at CJ
            rw [hj] at CJ
            go_wp2_with (go_at_call 17; refine CJ.mono ?_; rintro e w7 ⟨hb7, vu, rfl, htu⟩; refine Hid.out ?_)
            refine Lib.hid ?_
            clear CJ
            obtain ⟨u0, u1, u2, u3, u4, u5, u6, rfl⟩ := htu.form
            clear ka0 ka1 ka2 kb0 kb1 kb2
            have hsz7 := HB.out.size
            replace HB := Lib.hid (HB.out.trans (hb7.mono HB.out.size))
            clear hsz7
            replace HXa := Lib.hid (HXa.out.below hb7)
            replace HTa := Lib.hid (HTa.out.stay hb7)
            replace HXb := Lib.hid (HXb.out.below hb7)
            replace HTb := Lib.hid (HTb.out.stay hb7)
            replace HXt := Lib.hid (HXt.out.below hb7)
            replace HTt := Lib.hid (HTt.out.stay hb7)
            clear hb7
            have hx7 := box1 w7 #[.int .i64 u0, .slice u1 u2 u3, .slice u4 u5 u6]
            have HTu := Lib.hid ((htu.imp (Q := fun _ => True) fun _ _ _ => trivial).stay hx7)
            clear htu
            have HXu := Lib.hid (TB.new w7 #[.int .i64 u0, .slice u1 u2 u3, .slice u4 u5 u6])
            have hsz7 := HB.out.size
            replace HB := Lib.hid (HB.out.trans (hx7.mono HB.out.size))
            clear hsz7
            replace HXa := Lib.hid (HXa.out.below hx7)
            replace HTa := Lib.hid (HTa.out.stay hx7)
            replace HXb := Lib.hid (HXb.out.below hx7)
            replace HTb := Lib.hid (HTb.out.stay hx7)
            replace HXt := Lib.hid (HXt.out.below hx7)
            replace HTt := Lib.hid (HTt.out.stay hx7)
            clear hx7
            have CT := SR.out _ _ _ _ _ HTt.out HTu.out
            rw [ss] at CT
            obtain ⟨kt0, kt1, kt2, _, _⟩ := HXt.out.cells
            obtain ⟨ku0, ku1, ku2, _, _⟩ := HXu.out.cells
            go_wp2_with (go_at_call 13; refine (CT).mono ?_; rintro e w8 ⟨rfl, hb8⟩; refine Hid.out ?_)
            refine Lib.hid ?_
            clear kt0 kt1 kt2 ku0 ku1 ku2
            have hsz8 := HB.out.size
            replace HB := Lib.hid (HB.out.trans (hb8.mono HB.out.size))
            clear hsz8
            replace HXa := Lib.hid (HXa.out.below hb8)
            replace HTa := Lib.hid (HTa.out.stay hb8)
            replace HXb := Lib.hid (HXb.out.below hb8)
            replace HTb := Lib.hid (HTb.out.stay hb8)
            replace HXt := Lib.hid (HXt.out.below hb8)
            replace HTt := Lib.hid (HTt.out.stay hb8)
            replace HXu := Lib.hid (HXu.out.below hb8)
            replace HTu := Lib.hid (HTu.out.stay hb8)
            clear hb8
            clear CT
            go_wp2_with fail
            go_ret
            exact ⟨rfl, HB.out⟩
end Go.Proofs.YtcmohggnehkjeaaGreat.typesJoin

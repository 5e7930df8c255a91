/-
  The pieces of a graph, as the second walk gathers them; those that lie on loops.
-/
import Derived.Test.YtmbjmibjobpdgaaM24
namespace Go.Proofs.Ytmbjmibjobpdgaa

/-- The pieces that were gathered, all from place j on having been looked at. -/
structure Pcs (R : Nat → List Nat) (l : List Nat) (j : Nat) (Ps : List (List Nat)) (met : Nat → Bool) : Prop where
  cls : ∀ P ∈ Ps, ∃ x ∈ P, ∀ v, v ∈ P ↔ Eqv R x v
  mem : ∀ v, met v = true ↔ ∃ P ∈ Ps, v ∈ P
  done : ∀ i, j ≤ i → ∀ x, l[i]? = some x → met x = true
  apart : Ps.flatten.Nodup
section
variable {R Q : Nat → List Nat} {l : List Nat} {j : Nat} {Ps : List (List Nat)} {met : Nat → Bool}
theorem Pcs.nil (R : Nat → List Nat) (l : List Nat) : Pcs R l l.length [] (fun _ => false) := by
  refine ⟨fun P h => (by cases h), fun v => ⟨(by intro h; cases h), fun ⟨P, h, _⟩ => (by cases h)⟩, fun i hi x hx => ?_, List.nodup_nil⟩
  rw [List.getElem?_eq_none hi] at hx; cases hx
theorem Pcs.skip (h : Pcs R l (j + 1) Ps met) {x : Nat} (hx : l[j]? = some x) (hm : met x = true) : Pcs R l j Ps met := by
  refine ⟨h.cls, h.mem, fun i hi y hy => ?_, h.apart⟩
  by_cases e : i = j
  · subst e
    rw [hx] at hy
    injection hy with hy
    subst hy; exact hm
  · exact h.done i (by omega) y hy
theorem Pcs.full (h : Pcs R l j Ps met) {x u : Nat} (hx : met x = false) (he : Eqv R x u) : ¬ met u = true := fun hu => by
  obtain ⟨P, hP, hu⟩ := (h.mem u).1 hu
  obtain ⟨y, _, hc⟩ := h.cls P hP
  have hxP : x ∈ P := (hc x).2 (Eqv.trans ((hc u).1 hu) he.symm)
  have := (h.mem x).2 ⟨P, hP, hxP⟩
  rw [hx] at this; cases this
theorem Pcs.add {roots : Nat → Prop} {d d2 : Ds} (h : Pcs R d.lft (j + 1) Ps met) (h1 : Inv R (fun _ => False) roots d) (hQ : ∀ x y, y ∈ Q x ↔ x ∈ R y) (hall : ∀ z, (∃ y, y ∈ R z) → z ∈ d.lft) {x : Nat} (hx : d.lft[j]? = some x) (hm : met x = false)
    (h2 : Inv Q (fun v => met v = true) (fun y => y = x) d2) (hs2 : d2.stk = []) (hx2 : x ∈ d2.lft) : Pcs R d.lft j (Ps ++ [d2.lft]) d2.met := by
  have hnd : d.lft.Nodup := (List.nodup_append.1 h1.nodup).1
  have hxl : x ∈ d.lft := List.mem_of_getElem? hx
  have hpx := pos_of hnd hx
  have hold : ∀ z, ¬ met z = true → (∃ y, y ∈ R z) → z ∈ d.lft ∧ pos d.lft z ≤ pos d.lft x := fun z hz hy => by
    have hzl := hall z hy
    refine ⟨hzl, ?_⟩
    rw [hpx]
    apply Classical.byContradiction
    intro hn
    exact hz (h.done (pos d.lft z) (by omega) z (pos_at hzl))
  have hc := piece_class h1 hQ hxl hold (fun u hu => h.full hm hu) h2 hs2 hx2
  have hmet : ∀ v, d2.met v = true ↔ met v = true ∨ v ∈ d2.lft := fun v => by
    rw [h2.met v, hs2]; simp
  refine ⟨fun P hP => ?_, fun v => ?_, fun i hi y hy => ?_, ?_⟩
  · rcases List.mem_append.1 hP with hP | hP
    · exact h.cls P hP
    · have e : P = d2.lft := by simpa using hP
      subst e
      exact ⟨x, hx2, hc⟩
  · rw [hmet v, h.mem v]
    constructor
    · rintro (⟨P, hP, hv⟩ | hv)
      · exact ⟨P, List.mem_append_left _ hP, hv⟩
      · exact ⟨_, by simp, hv⟩
    · rintro ⟨P, hP, hv⟩
      rcases List.mem_append.1 hP with hP | hP
      · exact .inl ⟨P, hP, hv⟩
      · have e : P = d2.lft := by simpa using hP
        subst e; exact .inr hv
  · rw [hmet y]
    by_cases e : i = j
    · subst e
      rw [hx] at hy
      injection hy with hy
      subst hy; exact .inr hx2
    · exact .inl (h.done i (by omega) y hy)
  · rw [List.flatten_append]
    simp only [List.flatten_cons, List.flatten_nil, List.append_nil]
    refine List.nodup_append.2 ⟨h.apart, (List.nodup_append.1 h2.nodup).1, fun a ha b hb e => ?_⟩
    subst e
    obtain ⟨P, hP, ha⟩ := List.mem_flatten.1 ha
    exact (h2.new a (.inl hb)).2 ((h.mem a).2 ⟨P, hP, ha⟩)
theorem flat_nodup {L : List (List Nat)} (h : L.flatten.Nodup) : ∀ P ∈ L, P.Nodup := by
  induction L with
  | nil => intro P hP; cases hP
  | cons A L ih =>
    rw [List.flatten_cons] at h
    have h := List.nodup_append.1 h
    intro P hP
    rcases List.mem_cons.1 hP with rfl | hP
    · exact h.1
    · exact ih h.2.1 P hP
/-- On a loop. -/
def Cyc (R : Nat → List Nat) (v : Nat) : Prop := ∃ u ∈ R v, Rch R (fun _ => False) u v
theorem Rch.head {x y : Nat} (h : Rch R (fun _ => False) x y) : x = y ∨ ∃ u ∈ R x, Rch R (fun _ => False) u y := by
  induction h with
  | refl => exact .inl rfl
  | snoc _ e ho ih =>
    rcases ih with rfl | ⟨u, hu, hr⟩
    · exact .inr ⟨_, e, .refl _⟩
    · exact .inr ⟨u, hu, .snoc hr e ho⟩
/-- Does a piece lie on a loop? -/
def onLoop (R : Nat → List Nat) (P : List Nat) : Bool := decide (1 < P.length) || (R (P.headD 0)).contains (P.headD 0)
theorem Pcs.loops (h : Pcs R l 0 Ps met) (v : Nat) (hv : v ∈ l) : v ∈ (Ps.filter (onLoop R)).flatten ↔ Cyc R v := by
  constructor
  · intro hm
    obtain ⟨P, hP, hvP⟩ := List.mem_flatten.1 hm
    obtain ⟨hP, hf⟩ := List.mem_filter.1 hP
    obtain ⟨x, _, hc⟩ := h.cls P hP
    have hnd : P.Nodup := by
      have := h.apart
      exact flat_nodup this P hP
    unfold onLoop at hf
    rw [Bool.or_eq_true] at hf
    rcases hf with hf | hf
    · have hf := of_decide_eq_true hf
      have : ∃ w ∈ P, w ≠ v := by
        apply Classical.byContradiction
        intro hn
        have hall : ∀ w ∈ P, w = v := fun w hw => Classical.byContradiction fun e => hn ⟨w, hw, e⟩
        match P, hf, hnd, hall with
        | a :: b :: _, _, hnd, hall =>
          have ha := hall a (by simp)
          have hb := hall b (by simp)
          subst ha
          rw [List.nodup_cons] at hnd
          exact hnd.1 (by rw [hb]; simp)
      obtain ⟨w, hw, hne⟩ := this
      have hvw : Eqv R v w := Eqv.trans ((hc v).1 hvP).symm ((hc w).1 hw)
      rcases hvw.1.head with e | ⟨u, hu, hr⟩
      · exact absurd e.symm hne
      · exact ⟨u, hu, hr.trans hvw.2⟩
    · by_cases hl : 1 < P.length
      · have : ∃ w ∈ P, w ≠ v := by
          apply Classical.byContradiction
          intro hn
          have hall : ∀ w ∈ P, w = v := fun w hw => Classical.byContradiction fun e => hn ⟨w, hw, e⟩
          match P, hl, hnd, hall with
          | a :: b :: _, _, hnd, hall =>
            have ha := hall a (by simp)
            have hb := hall b (by simp)
            subst ha
            rw [List.nodup_cons] at hnd
            exact hnd.1 (by rw [hb]; simp)
        obtain ⟨w, hw, hne⟩ := this
        have hvw : Eqv R v w := Eqv.trans ((hc v).1 hvP).symm ((hc w).1 hw)
        rcases hvw.1.head with e | ⟨u, hu, hr⟩
        · exact absurd e.symm hne
        · exact ⟨u, hu, hr.trans hvw.2⟩
      · match P, hvP, hl, hf with
        | [a], hvP, _, hf =>
          have : v = a := by simpa using hvP
          subst this
          have hf : (R v).contains v = true := hf
          exact ⟨v, by simpa using hf, .refl v⟩
        | a :: b :: t, _, hl, _ => exact absurd (by simp) hl
  · rintro ⟨u, hu, hr⟩
    obtain ⟨i, hi⟩ := List.getElem?_of_mem hv
    obtain ⟨P, hP, hvP⟩ := (h.mem v).1 (h.done i (Nat.zero_le _) v hi)
    obtain ⟨x, _, hc⟩ := h.cls P hP
    refine List.mem_flatten.2 ⟨P, List.mem_filter.2 ⟨hP, ?_⟩, hvP⟩
    have huP : u ∈ P := (hc u).2 (Eqv.trans ((hc v).1 hvP) ⟨.snoc (.refl _) hu (fun h => h), hr⟩)
    unfold onLoop
    rw [Bool.or_eq_true]
    match P, hvP, huP with
    | [a], hvP, huP =>
      have e1 : v = a := by simpa using hvP
      have e2 : u = a := by simpa using huP
      subst e1
      subst e2
      right
      show (R u).contains u = true
      simpa using hu
    | a :: b :: t, _, _ => left; simp
end
end Go.Proofs.Ytmbjmibjobpdgaa

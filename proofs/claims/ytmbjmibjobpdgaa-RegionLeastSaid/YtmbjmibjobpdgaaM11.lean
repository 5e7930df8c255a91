/-
  Ways through a graph, plainly: the document's rounds come to what is reached; a graph without loops has a node that may stand next.
  The document's region: its order.
-/
import Derived.Test.YtmbjmibjobpdgaaM10
namespace Go.Proofs.Ytmbjmibjobpdgaa

/-- An edge leads from i to j. -/
def Stp (G : GT) (i j : Nat) : Prop := i < G.n ∧ j < G.n ∧ ∃ e ∈ edgesL G G.n, e.1 = (i : Int) ∧ e.2.2 = (j : Int)
/-- A way of one edge or more. -/
inductive Path (G : GT) : Nat → Nat → Prop
  | one {i j : Nat} (h : Stp G i j) : Path G i j
  | snoc {i j k : Nat} (h : Path G i j) (s : Stp G j k) : Path G i k
theorem Path.trans {G : GT} {i j k : Nat} (h : Path G i j) (h' : Path G j k) : Path G i k := by
  induction h' with
  | one s => exact .snoc h s
  | snoc _ s ih => exact .snoc ih s
theorem Path.lt {G : GT} {i j : Nat} (h : Path G i j) : i < G.n ∧ j < G.n := by
  induction h with
  | one s => exact ⟨s.1, s.2.1⟩
  | snoc _ s ih => exact ⟨ih.1, s.2.1⟩

def Leqf (f g : Nat → Bool) : Prop := ∀ t, f t = true → g t = true
section
variable {n s : Nat} {E : List Edge} {f g : Nat → Bool}
theorem hitE_mono (h : Leqf f g) {e : Edge} (he : hitE n s f e = true) : hitE n s g e = true := by
  unfold hitE at *
  simp only [Bool.and_eq_true, Bool.or_eq_true, decide_eq_true_eq] at *
  exact ⟨he.1, he.2.imp id (h _)⟩
theorem stepE_le (e : Edge) : Leqf f (stepE n s f e) := by
  intro t ht
  unfold stepE
  split
  · unfold upd
    split
    · rfl
    · exact ht
  · exact ht
theorem fold_le (E : List Edge) : ∀ f, Leqf f (E.foldl (stepE n s) f) := by
  induction E with
  | nil => intro f t h; exact h
  | cons e E ih => intro f t h; exact ih _ t (stepE_le e t h)
def Closed (n s : Nat) (E : List Edge) (f : Nat → Bool) : Prop := ∀ e ∈ E, hitE n s f e = true → f e.2.2.toNat = true
theorem step_same {e : Edge} (h : hitE n s f e = true → f e.2.2.toNat = true) : stepE n s f e = f := by
  unfold stepE
  split
  · rename_i hh
    funext t
    unfold upd
    split
    · rename_i ht; rw [ht]; exact (h hh).symm
    · rfl
  · rfl
theorem pass_same (h : Closed n s E f) : passE n s E f = f := by
  unfold passE
  induction E with
  | nil => rfl
  | cons e E ih =>
    rw [List.foldl_cons, step_same (h e (by simp))]
    exact ih (fun x hx => h x (List.mem_cons_of_mem _ hx))
theorem pass_new (h : ¬ Closed n s E f) : ∃ t, t < n ∧ f t = false ∧ passE n s E f t = true := by
  unfold Closed at h
  simp only [Classical.not_forall] at h
  obtain ⟨e, he, hh, hf⟩ := h
  obtain ⟨A, B, rfl⟩ := List.append_of_mem he
  have hh0 := hh
  unfold hitE at hh0
  simp only [Bool.and_eq_true, decide_eq_true_eq] at hh0
  refine ⟨e.2.2.toNat, by omega, by simpa using hf, ?_⟩
  unfold passE
  rw [List.foldl_append, List.foldl_cons]
  refine fold_le B _ _ ?_
  have hh2 : hitE n s (A.foldl (stepE n s) f) e = true := hitE_mono (fold_le A f) hh
  generalize A.foldl (stepE n s) f = f' at *
  unfold stepE
  rw [if_pos hh2, upd_same]
theorem pick_le {f g : Nat → Bool} (h : Leqf f g) (n : Nat) : (pickL n f).length ≤ (pickL n g).length := by
  induction n with
  | zero => simp [pickL]
  | succ n ih =>
    rw [pickL_succ, pickL_succ, List.length_append, List.length_append]
    cases hf : f n
    · simp; omega
    · rw [h n hf]; simp; exact ih
theorem pick_lt {f g : Nat → Bool} (h : Leqf f g) {n t : Nat} (ht : t < n) (hf : f t = false) (hg : g t = true) : (pickL n f).length < (pickL n g).length := by
  induction n with
  | zero => omega
  | succ n ih =>
    rw [pickL_succ, pickL_succ, List.length_append, List.length_append]
    by_cases e : t = n
    · subst e
      rw [hf, hg]
      have := pick_le h t
      simp; omega
    · have := ih (by omega)
      cases hfn : f n
      · simp; omega
      · rw [h n hfn]; simp; exact this
theorem rounds_grow (k : Nat) : Closed n s E (roundsE n s E k) ∨ k ≤ (pickL n (roundsE n s E k)).length := by
  induction k with
  | zero => exact .inr (Nat.zero_le _)
  | succ k ih =>
    show Closed n s E (passE n s E _) ∨ k + 1 ≤ (pickL n (passE n s E _)).length
    by_cases hc : Closed n s E (roundsE n s E k)
    · rw [pass_same hc]
      exact .inl hc
    · obtain ⟨t, ht, h0, h1⟩ := pass_new hc
      have := pick_lt (fold_le E (roundsE n s E k)) ht h0 h1
      rcases ih with h | h
      · exact absurd h hc
      · exact .inr (by unfold passE; omega)
theorem rounds_closed : Closed n s E (roundsE n s E (n + 1)) := by
  rcases rounds_grow (n := n) (s := s) (E := E) (n + 1) with h | h
  · exact h
  · have := pickL_len n (roundsE n s E (n + 1))
    omega
end
theorem rounds_path {G : GT} {s : Nat} (hs : s < G.n) {E : List Edge} (hE : ∀ e ∈ E, e ∈ edgesL G G.n) : ∀ (f : Nat → Bool), (∀ t, f t = true → Path G s t) → ∀ t, E.foldl (stepE G.n s) f t = true → Path G s t := by
  induction E with
  | nil => intro f h t ht; exact h t ht
  | cons e E ih =>
    intro f h t ht
    refine ih (fun x hx => hE x (List.mem_cons_of_mem _ hx)) (stepE G.n s f e) (fun u hu => ?_) t ht
    unfold stepE at hu
    split at hu
    · rename_i hh
      unfold upd at hu
      split at hu
      · rename_i he
        unfold hitE at hh
        simp only [Bool.and_eq_true, Bool.or_eq_true, decide_eq_true_eq, beq_iff_eq] at hh
        obtain ⟨⟨h0, h1⟩, h2⟩ := hh
        have hm := hE e (by simp)
        have hfr := edgesL_from e hm
        have hu' : e.2.2 = (u : Int) := by omega
        rcases h2 with h2 | h2
        · exact .one ⟨hs, by omega, e, hm, h2, hu'⟩
        · have hp := h _ h2
          exact .snoc hp ⟨hp.lt.2, by omega, e, hm, by omega, hu'⟩
      · exact h u hu
    · exact h u hu
theorem reach_sound {G : GT} {s : Nat} (hs : s < G.n) (k : Nat) : ∀ t, roundsE G.n s (edgesL G G.n) k t = true → Path G s t := by
  induction k with
  | zero => intro t h; cases h
  | succ k ih => exact rounds_path hs (fun e h => h) _ ih
/-- The document's Reach tells just what is reached. -/
theorem reachB_iff {G : GT} {s t : Nat} (hs : s < G.n) : reachB G s t = true ↔ Path G s t := by
  constructor
  · exact reach_sound hs _ t
  · intro h
    have hc : Closed G.n s (edgesL G G.n) (reachB G s) := rounds_closed
    induction h with
    | one st =>
      obtain ⟨_, hj, e, he, h1, h2⟩ := st
      have := hc e he (by unfold hitE; simp only [Bool.and_eq_true, Bool.or_eq_true, decide_eq_true_eq, beq_iff_eq]; exact ⟨⟨by omega, by omega⟩, .inl h1⟩)
      rw [h2] at this
      simpa using this
    | snoc _ st ih =>
      obtain ⟨_, hj, e, he, h1, h2⟩ := st
      have := hc e he (by unfold hitE; simp only [Bool.and_eq_true, Bool.or_eq_true, decide_eq_true_eq, beq_iff_eq]; exact ⟨⟨by omega, by omega⟩, .inr (by rw [h1]; simpa using ih)⟩)
      rw [h2] at this
      simpa using this
/-- A model without loops. -/
def Acyc (G : GT) : Prop := ∀ i, ¬ Path G i i
theorem loops_nil {G : GT} : loopsL G = [] ↔ Acyc G := by
  unfold loopsL Acyc
  constructor
  · intro h i hp
    have hi := hp.lt.1
    have : (i : Int) ∈ pickL G.n (loopB G) := pickL_mem.2 ⟨i, rfl, hi, (reachB_iff hi).2 hp⟩
    rw [h] at this
    cases this
  · intro h
    apply List.eq_nil_iff_forall_not_mem.2
    intro x hx
    obtain ⟨i, _, hi, hb⟩ := pickL_mem.1 hx
    exact h i ((reachB_iff hi).1 hb)
/-- How many lead to a node. -/
def ancs (G : GT) (i : Nat) : Nat := (pickL G.n (fun j => decide (j < G.n) && reachB G j i)).length
theorem ancs_lt {G : GT} (ha : Acyc G) {p i : Nat} (hs : Stp G p i) : ancs G p < ancs G i := by
  refine pick_lt (t := p) (fun t ht => ?_) hs.1 ?_ ?_
  · simp only [Bool.and_eq_true, decide_eq_true_eq] at *
    exact ⟨ht.1, (reachB_iff ht.1).2 (.snoc ((reachB_iff ht.1).1 ht.2) hs)⟩
  · simp only [Bool.and_eq_false_iff]
    right
    cases h : reachB G p p
    · rfl
    · exact absurd ((reachB_iff hs.1).1 h) (ha p)
  · simp only [Bool.and_eq_true, decide_eq_true_eq]
    exact ⟨hs.1, (reachB_iff hs.1).2 (.one hs)⟩
/-- Where not all are done, one may stand next. -/
theorem next_free {G : GT} (ha : Acyc G) (done : Nat → Bool) : ∀ (k i : Nat), ancs G i ≤ k → i < G.n → done i = false → ∃ j, j < G.n ∧ done j = false ∧ ∀ p, Stp G p j → done p = true := by
  intro k
  induction k with
  | zero =>
    intro i hk hi hd
    refine ⟨i, hi, hd, fun p hp => ?_⟩
    have := ancs_lt ha hp
    omega
  | succ k ih =>
    intro i hk hi hd
    by_cases h : ∀ p, Stp G p i → done p = true
    · exact ⟨i, hi, hd, h⟩
    · simp only [Classical.not_forall] at h
      obtain ⟨p, hp, hdp⟩ := h
      have := ancs_lt ha hp
      exact ih p (by omega) hp.1 (by simpa using hdp)
end Go.Proofs.Ytmbjmibjobpdgaa
namespace Go.Proofs.Ytmbjmibjobpdgaa
open Go.RowKit

def okP (done : Nat → Bool) (i : Nat) (e : Edge) : Bool := !(e.2.2 == (i : Int)) || done e.1.toNat
/-- May a node stand next? -/
def readyB (E : List Edge) (done : Nat → Bool) (i : Nat) : Bool := !done i && E.all (okP done i)
def nextN (n : Nat) (E : List Edge) (done : Nat → Bool) : Option Nat := (List.range n).find? (readyB E done)
def doneK (n : Nat) (E : List Edge) : Nat → Nat → Bool
  | 0 => fun _ => false
  | k + 1 => match nextN n E (doneK n E k) with
    | some i => upd (doneK n E k) i true
    | none => doneK n E k
def ordK (n : Nat) (E : List Edge) (k : Nat) : Nat := (nextN n E (doneK n E k)).getD 0
def ordL (n : Nat) (E : List Edge) (k : Nat) : List Int := (List.range k).map fun j => (ordK n E j : Int)
/-- The document's order of a model without loops. -/
def orderL (G : GT) : List Int := ordL G.n (inE G) G.n
theorem ordL_len (n : Nat) (E : List Edge) (k : Nat) : (ordL n E k).length = k := by simp [ordL]
theorem ordL_succ (n : Nat) (E : List Edge) (k : Nat) : ordL n E (k + 1) = ordL n E k ++ [(ordK n E k : Int)] := by simp [ordL, List.range_succ]
theorem nextN_first {n : Nat} {E : List Edge} {done : Nat → Bool} {i : Nat} (hi : i < n) (hb : readyB E done i = true) (hf : ∀ j, j < i → readyB E done j = false) : nextN n E done = some i := by
  unfold nextN
  rw [List.find?_eq_some_iff_getElem]
  refine ⟨hb, i, by simpa using hi, by simp, fun j hj => ?_⟩
  simp [hf j hj]
theorem inE_stp {G : GT} {e : Edge} (he : e ∈ inE G) : ∃ p j : Nat, e.1 = (p : Int) ∧ e.2.2 = (j : Int) ∧ Stp G p j := by
  unfold inE at he
  obtain ⟨hm, ht⟩ := List.mem_filter.1 he
  have hf := edgesL_from e hm
  unfold toN at ht
  simp only [Bool.and_eq_true, decide_eq_true_eq] at ht
  exact ⟨e.1.toNat, e.2.2.toNat, by omega, by omega, by omega, by omega, e, hm, by omega, by omega⟩
theorem stp_inE {G : GT} {p j : Nat} (h : Stp G p j) : ∃ e ∈ inE G, e.1 = (p : Int) ∧ e.2.2 = (j : Int) := by
  obtain ⟨hp, hj, e, he, h1, h2⟩ := h
  refine ⟨e, ?_, h1, h2⟩
  unfold inE
  refine List.mem_filter.2 ⟨he, ?_⟩
  unfold toN
  simp only [Bool.and_eq_true, decide_eq_true_eq]
  omega
theorem ready_iff {G : GT} {done : Nat → Bool} {i : Nat} : readyB (inE G) done i = true ↔ done i = false ∧ ∀ p, Stp G p i → done p = true := by
  unfold readyB okP
  simp only [Bool.and_eq_true, Bool.not_eq_true', List.all_eq_true, Bool.or_eq_true, beq_eq_false_iff_ne]
  constructor
  · rintro ⟨h1, h2⟩
    refine ⟨h1, fun p hp => ?_⟩
    obtain ⟨e, he, e1, e2⟩ := stp_inE hp
    rcases h2 e he with h | h
    · exact absurd e2 h
    · rw [e1] at h; simpa using h
  · rintro ⟨h1, h2⟩
    refine ⟨h1, fun e he => ?_⟩
    obtain ⟨p, j, e1, e2, hs⟩ := inE_stp he
    by_cases h : e.2.2 = (i : Int)
    · right
      have hj : j = i := by omega
      subst hj
      rw [e1]
      simpa using h2 p hs
    · exact .inl h
/-- There is always a next one, until all are done. -/
theorem next_some {G : GT} (ha : Acyc G) {done : Nat → Bool} {i : Nat} (hi : i < G.n) (hd : done i = false) : ∃ j, j < G.n ∧ readyB (inE G) done j = true := by
  obtain ⟨j, hj, h1, h2⟩ := next_free ha done _ i (Nat.le_refl _) hi hd
  exact ⟨j, hj, ready_iff.2 ⟨h1, h2⟩⟩
theorem pick_upd {f : Nat → Bool} {n t : Nat} (ht : t < n) (hf : f t = false) : (pickL n (upd f t true)).length = (pickL n f).length + 1 := by
  induction n with
  | zero => omega
  | succ n ih =>
    rw [pickL_succ, pickL_succ, List.length_append, List.length_append]
    by_cases e : t = n
    · subst e
      rw [upd_same, hf]
      have : pickL t (upd f t true) = pickL t f := by
        unfold pickL
        congr 1
        refine List.filter_congr fun x hx => ?_
        exact upd_far (by have := List.mem_range.1 hx; omega)
      simp [this]
    · rw [ih (by omega), upd_far (fun h => e h.symm)]
      omega
theorem done_count {G : GT} (ha : Acyc G) : ∀ k, k ≤ G.n → (pickL G.n (doneK G.n (inE G) k)).length = k := by
  intro k
  induction k with
  | zero => intro _; simp [doneK, pickL]
  | succ k ih =>
    intro hk
    have ih := ih (by omega)
    have : ∃ i, i < G.n ∧ doneK G.n (inE G) k i = false := by
      apply Classical.byContradiction
      intro h
      have hall : ∀ i, i < G.n → doneK G.n (inE G) k i = true := fun i hi => by
        cases e : doneK G.n (inE G) k i
        · exact absurd ⟨i, hi, e⟩ h
        · rfl
      have : (pickL G.n (doneK G.n (inE G) k)).length = G.n := by
        unfold pickL
        rw [List.length_map, List.filter_eq_self.2 (fun x hx => hall x (List.mem_range.1 hx))]
        simp
      omega
    obtain ⟨i, hi, hd⟩ := this
    obtain ⟨j, hj, hr⟩ := next_some ha hi hd
    unfold doneK
    cases hn : nextN G.n (inE G) (doneK G.n (inE G) k) with
    | none =>
      unfold nextN at hn
      have := List.find?_eq_none.1 hn j (List.mem_range.2 hj)
      exact absurd hr this
    | some x =>
      have hx := List.find?_some hn
      have hxn := List.mem_range.1 (List.mem_of_find?_eq_some hn)
      simp only
      rw [pick_upd hxn (ready_iff.1 hx).1, ih]
theorem done_next {G : GT} (ha : Acyc G) {k : Nat} (hk : k < G.n) : ∃ j, j < G.n ∧ readyB (inE G) (doneK G.n (inE G) k) j = true := by
  have hc := done_count ha k (by omega)
  apply Classical.byContradiction
  intro h
  have hall : ∀ i, i < G.n → doneK G.n (inE G) k i = true := fun i hi => by
    cases e : doneK G.n (inE G) k i
    · exact absurd (next_some ha hi e) h
    · rfl
  have : (pickL G.n (doneK G.n (inE G) k)).length = G.n := by
    unfold pickL
    rw [List.length_map, List.filter_eq_self.2 (fun x hx => hall x (List.mem_range.1 hx))]
    simp
  omega
end Go.Proofs.Ytmbjmibjobpdgaa

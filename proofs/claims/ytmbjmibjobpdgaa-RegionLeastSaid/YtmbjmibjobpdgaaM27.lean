/-
  A heap of numbers, plainly.
  Rows of edges that count; the order as the program takes it: by how many edges into a node are left.
  A walk in depth in memory: what was met, the ways that weren't gone yet; rows of the call's own.
-/
import Derived.Test.YtmbjmibjobpdgaaM24
import Derived.Test.YtmbjmibjobpdgaaM15
import Derived.Test.YtmbjmibjobpdgaaM26
import Derived.Test.YtmbjmibjobpdgaaM18
namespace Go.Proofs.Ytmbjmibjobpdgaa

def swp (f : Nat → Int) (i j : Nat) : Nat → Int := fun k => if k = i then f j else if k = j then f i else f k
/-- Each stands at or above the one over it. -/
def HeapOk (f : Nat → Int) (n : Nat) : Prop := ∀ c, 0 < c → c < n → f ((c - 1) / 2) ≤ f c
/-- A heap but for place j, whose number may be too small. -/
def UpI (f : Nat → Int) (n j : Nat) : Prop := (∀ c, 0 < c → c < n → c ≠ j → f ((c - 1) / 2) ≤ f c) ∧ ∀ c, 0 < c → c < n → (c - 1) / 2 = j → 0 < j → f ((j - 1) / 2) ≤ f c
/-- A heap but for place i, whose number may be too great. -/
def DnI (f : Nat → Int) (n i : Nat) : Prop := (∀ c, 0 < c → c < n → (c - 1) / 2 ≠ i → f ((c - 1) / 2) ≤ f c) ∧ ∀ c, 0 < c → c < n → (c - 1) / 2 = i → 0 < i → f ((i - 1) / 2) ≤ f c
/-- The same numbers, none twice. -/
def Numbs (f : Nat → Int) (n : Nat) (Q : Int → Prop) : Prop := (∀ x, Q x ↔ ∃ k, k < n ∧ f k = x) ∧ ∀ i j, i < n → j < n → f i = f j → i = j
section
variable {f : Nat → Int} {n i j : Nat} {Q : Int → Prop}
theorem HeapOk.least (h : HeapOk f n) : ∀ k, k < n → f 0 ≤ f k := by
  intro k
  induction k using Nat.strongRecOn with
  | ind k ih =>
    intro hk
    rcases Nat.eq_zero_or_pos k with rfl | h0
    · exact Int.le_refl _
    · exact Int.le_trans (ih _ (by omega) (by omega)) (h k h0 hk)
theorem swp_i : swp f i j i = f j := if_pos rfl
theorem swp_j : swp f i j j = f i := by
  unfold swp
  by_cases e : j = i
  · rw [if_pos e, e]
  · rw [if_neg e, if_pos rfl]
theorem swp_o {k : Nat} (h1 : k ≠ i) (h2 : k ≠ j) : swp f i j k = f k := by
  unfold swp
  rw [if_neg h1, if_neg h2]
theorem Numbs.turn (h : Numbs f n Q) (hi : i < n) (hj : j < n) : Numbs (swp f i j) n Q := by
  have hmap : ∀ k, k < n → ∃ l, l < n ∧ swp f i j l = f k := fun k hk => by
    by_cases e : k = i
    · subst e; exact ⟨j, hj, swp_j⟩
    · by_cases e2 : k = j
      · subst e2; exact ⟨i, hi, swp_i⟩
      · exact ⟨k, hk, swp_o e e2⟩
  have hback : ∀ k, k < n → ∃ l, l < n ∧ swp f i j k = f l := fun k hk => by
    by_cases e : k = i
    · subst e; exact ⟨j, hj, swp_i⟩
    · by_cases e2 : k = j
      · subst e2; exact ⟨i, hi, swp_j⟩
      · exact ⟨k, hk, swp_o e e2⟩
  refine ⟨fun x => ?_, fun k l hk hl he => ?_⟩
  · rw [h.1 x]
    constructor
    · rintro ⟨k, hk, rfl⟩; exact hmap k hk
    · rintro ⟨k, hk, e⟩
      obtain ⟨l, hl, e2⟩ := hback k hk
      exact ⟨l, hl, by rw [← e2, e]⟩
  · unfold swp at he
    have hin := h.2
    by_cases a1 : k = i
    · rw [if_pos a1] at he
      by_cases b1 : l = i
      · omega
      · rw [if_neg b1] at he
        by_cases b2 : l = j
        · rw [if_pos b2] at he
          have := hin _ _ hj hi he
          omega
        · rw [if_neg b2] at he
          have := hin _ _ hj hl he
          omega
    · rw [if_neg a1] at he
      by_cases a2 : k = j
      · rw [if_pos a2] at he
        by_cases b1 : l = i
        · rw [if_pos b1] at he
          have := hin _ _ hi hj he
          omega
        · rw [if_neg b1] at he
          by_cases b2 : l = j
          · omega
          · rw [if_neg b2] at he
            have := hin _ _ hi hl he
            omega
      · rw [if_neg a2] at he
        by_cases b1 : l = i
        · rw [if_pos b1] at he
          have := hin _ _ hk hj he
          omega
        · rw [if_neg b1] at he
          by_cases b2 : l = j
          · rw [if_pos b2] at he
            have := hin _ _ hk hi he
            omega
          · rw [if_neg b2] at he
            exact hin _ _ hk hl he
/-- A number more, at the end. -/
theorem Numbs.add (h : Numbs f n Q) {g : Nat → Int} (hg : ∀ k, k < n → g k = f k) {x : Int} (hx : g n = x) (hn : ¬ Q x) : Numbs g (n + 1) (fun y => Q y ∨ y = x) := by
  refine ⟨fun y => ?_, fun k l hk hl he => ?_⟩
  · show Q y ∨ y = x ↔ _
    rw [h.1 y]
    constructor
    · rintro (⟨k, hk, e⟩ | e)
      · exact ⟨k, by omega, by rw [hg k hk]; exact e⟩
      · exact ⟨n, by omega, by rw [hx, e]⟩
    · rintro ⟨k, hk, e⟩
      by_cases e2 : k = n
      · subst e2; exact .inr (by rw [← e, hx])
      · exact .inl ⟨k, by omega, by rw [← hg k (by omega)]; exact e⟩
  · by_cases a : k = n
    · by_cases b : l = n
      · omega
      · subst a
        rw [hx, hg l (by omega)] at he
        exact absurd ((h.1 x).2 ⟨l, by omega, he.symm⟩) hn
    · by_cases b : l = n
      · subst b
        rw [hx, hg k (by omega)] at he
        exact absurd ((h.1 x).2 ⟨k, by omega, he⟩) hn
      · rw [hg k (by omega), hg l (by omega)] at he
        exact h.2 k l (by omega) (by omega) he
/-- Without the last one. -/
theorem Numbs.drop (h : Numbs f (n + 1) Q) : Numbs f n (fun y => Q y ∧ y ≠ f n) := by
  refine ⟨fun y => ?_, fun k l hk hl he => h.2 k l (by omega) (by omega) he⟩
  show Q y ∧ y ≠ f n ↔ _
  rw [h.1 y]
  constructor
  · rintro ⟨⟨k, hk, e⟩, hne⟩
    by_cases e2 : k = n
    · subst e2; exact absurd e.symm hne
    · exact ⟨k, by omega, e⟩
  · rintro ⟨k, hk, e⟩
    refine ⟨⟨k, by omega, e⟩, fun e2 => ?_⟩
    have := h.2 k n (by omega) (by omega) (by rw [e, e2])
    omega
theorem UpI.start (h : HeapOk f n) {g : Nat → Int} (hg : ∀ k, k < n → g k = f k) : UpI g (n + 1) n := by
  refine ⟨fun c h0 hc hne => ?_, fun c h0 hc he _ => absurd he (by omega)⟩
  rw [hg c (by omega), hg ((c - 1) / 2) (by omega)]
  exact h c h0 (by omega)
theorem UpI.stop (h : UpI f n j) (hs : j = 0 ∨ f ((j - 1) / 2) ≤ f j) : HeapOk f n := by
  intro c h0 hc
  by_cases e : c = j
  · subst e
    rcases hs with hs | hs
    · omega
    · exact hs
  · exact h.1 c h0 hc e
theorem UpI.step (h : UpI f n j) (hj : j < n) (h0 : 0 < j) (hl : f j < f ((j - 1) / 2)) : UpI (swp f ((j - 1) / 2) j) n ((j - 1) / 2) := by
  have hp : (j - 1) / 2 < j := by omega
  generalize hpd : (j - 1) / 2 = p at *
  have hpj : p ≠ j := by omega
  refine ⟨fun c c0 hc hne => ?_, fun c c0 hc he p0 => ?_⟩
  · by_cases e : c = j
    · subst e
      rw [hpd, swp_i, swp_j]; omega
    · rw [swp_o hne e]
      by_cases e2 : (c - 1) / 2 = p
      · rw [e2, swp_i]
        have := h.1 c c0 hc e
        rw [e2] at this
        omega
      · by_cases e3 : (c - 1) / 2 = j
        · rw [e3, swp_j]
          have := h.2 c c0 hc e3 h0
          rw [hpd] at this
          exact this
        · rw [swp_o e2 e3]
          exact h.1 c c0 hc e
  · have h1 := h.1 p p0 (by omega) hpj
    rw [swp_o (show (p - 1) / 2 ≠ p by omega) (by omega)]
    by_cases e : c = j
    · subst e
      rw [swp_j]
      exact h1
    · rw [swp_o (show c ≠ p by omega) e]
      have := h.1 c c0 hc e
      rw [he] at this
      omega
theorem DnI.start {g : Nat → Int} (h : HeapOk f (n + 1)) (hg : ∀ k, 0 < k → k < n → g k = f k) : DnI g n 0 := by
  refine ⟨fun c h0 hc hne => ?_, fun c _ _ _ h0 => absurd h0 (by omega)⟩
  rw [hg c h0 hc, hg ((c - 1) / 2) (by omega) (by omega)]
  exact h c h0 (by omega)
theorem DnI.stop (h : DnI f n i) (hs : ∀ c, 0 < c → c < n → (c - 1) / 2 = i → f i ≤ f c) : HeapOk f n := by
  intro c h0 hc
  by_cases e : (c - 1) / 2 = i
  · rw [e]; exact hs c h0 hc e
  · exact h.1 c h0 hc e
theorem DnI.step (h : DnI f n i) {j : Nat} (hj : j < n) (hji : (j - 1) / 2 = i) (h0 : 0 < j) (hmin : ∀ c, 0 < c → c < n → (c - 1) / 2 = i → f j ≤ f c) (hl : f j < f i) : DnI (swp f i j) n j := by
  have hij : i < j := by omega
  refine ⟨fun c c0 hc hne => ?_, fun c c0 hc he _ => ?_⟩
  · by_cases e : (c - 1) / 2 = i
    · rw [e, swp_i]
      by_cases e2 : c = j
      · subst e2; rw [swp_j]; omega
      · rw [swp_o (by omega) e2]; exact hmin c c0 hc e
    · rw [swp_o e hne]
      by_cases e2 : c = i
      · subst e2
        rw [swp_i]
        exact h.2 j h0 hj hji c0
      · have e3 : c ≠ j := fun e3 => by subst e3; exact e hji
        rw [swp_o e2 e3]
        exact h.1 c c0 hc e
  · rw [hji, swp_i]
    have h1 : (c - 1) / 2 ≠ i := by omega
    have := h.1 c c0 hc h1
    rw [he] at this
    rw [swp_o (by omega) (by omega)]
    exact this
end
end Go.Proofs.Ytmbjmibjobpdgaa
namespace Go.Proofs.Ytmbjmibjobpdgaa

/-- Where the edges from a node that count lead, as often as they stand; where those into it come from. -/
def outN (G : GT) (i : Nat) : List Nat := ((inE G).filter fun e => e.1 == (i : Int)).map fun e => e.2.2.toNat
def inN (G : GT) (i : Nat) : List Nat := ((inE G).filter fun e => e.2.2 == (i : Int)).map fun e => e.1.toNat
section
variable {G : GT}
theorem mem_outN {i j : Nat} : j ∈ outN G i ↔ Stp G i j := by
  unfold outN
  rw [List.mem_map]
  constructor
  · rintro ⟨e, he, rfl⟩
    obtain ⟨he, h1⟩ := List.mem_filter.1 he
    obtain ⟨p, q, e1, e2, hs⟩ := inE_stp he
    have h1 : e.1 = (i : Int) := by simpa using h1
    have : p = i := by omega
    subst this
    rw [e2, Int.toNat_natCast]
    exact hs
  · intro h
    obtain ⟨e, he, e1, e2⟩ := stp_inE h
    exact ⟨e, List.mem_filter.2 ⟨he, by simpa using e1⟩, by rw [e2]; simp⟩
theorem mem_inN {i j : Nat} : i ∈ inN G j ↔ Stp G i j := by
  unfold inN
  rw [List.mem_map]
  constructor
  · rintro ⟨e, he, rfl⟩
    obtain ⟨he, h1⟩ := List.mem_filter.1 he
    obtain ⟨p, q, e1, e2, hs⟩ := inE_stp he
    have h1 : e.2.2 = (j : Int) := by simpa using h1
    have : q = j := by omega
    subst this
    rw [e1, Int.toNat_natCast]
    exact hs
  · intro h
    obtain ⟨e, he, e1, e2⟩ := stp_inE h
    exact ⟨e, List.mem_filter.2 ⟨he, by simpa using e2⟩, by rw [e1]; simp⟩
theorem count_rows (i t : Nat) : (outN G i).count t = (inN G t).count i := by
  unfold outN inN
  have key : ∀ (L : List Edge), (∀ e ∈ L, ∃ p q : Nat, e.1 = (p : Int) ∧ e.2.2 = (q : Int)) → ((L.filter fun e => e.1 == (i : Int)).map fun e => e.2.2.toNat).count t = ((L.filter fun e => e.2.2 == (t : Int)).map fun e => e.1.toNat).count i := by
    intro L
    induction L with
    | nil => intro _; rfl
    | cons e L ih =>
      intro h
      have ih := ih (fun x hx => h x (List.mem_cons_of_mem _ hx))
      obtain ⟨p, q, e1, e2⟩ := h e (by simp)
      by_cases a : p = i
      · by_cases b : q = t
        · rw [List.filter_cons_of_pos (by simp [e1, a]), List.filter_cons_of_pos (by simp [e2, b]), List.map_cons, List.map_cons, e1, e2, a, b]
          simp only [Int.toNat_natCast, List.count_cons_self]
          rw [ih]
        · rw [List.filter_cons_of_pos (by simp [e1, a]), List.filter_cons_of_neg (by simp [e2]; omega), List.map_cons, e2]
          rw [List.count_cons_of_ne (by simpa using b)]
          exact ih
      · by_cases b : q = t
        · rw [List.filter_cons_of_neg (by simp [e1]; omega), List.filter_cons_of_pos (by simp [e2, b]), List.map_cons, e1]
          rw [List.count_cons_of_ne (by simpa using a)]
          exact ih
        · rw [List.filter_cons_of_neg (by simp [e1]; omega), List.filter_cons_of_neg (by simp [e2]; omega)]
          exact ih
  exact key _ fun e he => by
    obtain ⟨p, j, e1, e2, _⟩ := inE_stp he
    exact ⟨p, j, e1, e2⟩
/-- How many edges into a node come from nodes that aren't done. -/
def cntD (G : GT) (done : Nat → Bool) (t : Nat) : Nat := (inN G t).countP fun p => !done p
theorem cntD_none (t : Nat) : cntD G (fun _ => false) t = (inN G t).length := by
  unfold cntD
  simp
theorem cntD_upd {done : Nat → Bool} {v : Nat} (hv : done v = false) (t : Nat) : cntD G (upd done v true) t + (outN G v).count t = cntD G done t := by
  rw [count_rows]
  unfold cntD
  induction inN G t with
  | nil => rfl
  | cons p L ih =>
    rw [List.countP_cons, List.countP_cons, List.count_cons]
    by_cases e : p = v
    · subst e
      rw [upd_same, hv]
      simp
      omega
    · rw [upd_far e]
      have : (p == v) = false := by simpa using e
      rw [this]
      simp
      omega
theorem cntD_zero {done : Nat → Bool} {t : Nat} : cntD G done t = 0 ↔ ∀ p, Stp G p t → done p = true := by
  unfold cntD
  rw [List.countP_eq_zero]
  constructor
  · intro h p hp
    have := h p (mem_inN.2 hp)
    simpa using this
  · intro h p hp
    have := h p (mem_inN.1 hp)
    simp [this]
/-- Those that may stand next. -/
def Rdy (G : GT) (done : Nat → Bool) (lf : Nat → Nat) (x : Int) : Prop := ∃ i : Nat, x = i ∧ i < G.n ∧ done i = false ∧ lf i = 0
theorem rdy_iff {done : Nat → Bool} {i : Nat} : readyB (inE G) done i = true ↔ done i = false ∧ cntD G done i = 0 := by
  rw [ready_iff, cntD_zero]
/-- All that are done have none that isn't ahead of them. -/
def DoneOk (G : GT) (done : Nat → Bool) : Prop := ∀ t, done t = true → cntD G done t = 0 ∧ ¬ Path G t t
theorem DoneOk.next {done : Nat → Bool} (h : DoneOk G done) {v : Nat} (hv : done v = false) (h0 : cntD G done v = 0) : DoneOk G (upd done v true) := by
  intro t ht
  have hle : ∀ u, cntD G (upd done v true) u ≤ cntD G done u := fun u => by have := cntD_upd (G := G) hv u; omega
  by_cases e : t = v
  · subst e
    refine ⟨by have := hle t; omega, fun hp => ?_⟩
    cases hp with
    | one s =>
      have := cntD_zero.1 h0 t s
      rw [hv] at this; cases this
    | snoc hp s =>
      rename_i p
      have hd := cntD_zero.1 h0 p s
      exact (h p hd).2 (Path.trans (.one s) hp)
  · rw [upd_far e] at ht
    exact ⟨by have := hle t; have := (h t ht).1; omega, (h t ht).2⟩
theorem DoneOk.keep {done : Nat → Bool} (h : DoneOk G done) : ∀ t p, done t = true → Stp G p t → done p = true := fun t p ht hs => cntD_zero.1 (h t ht).1 p hs
/-- Amid a node's ways: how many edges are left. -/
def lfK (G : GT) (done : Nat → Bool) (pre : List Nat) (t : Nat) : Nat := cntD G done t - pre.count t
theorem lfK_nil (done : Nat → Bool) (t : Nat) : lfK G done [] t = cntD G done t := by simp [lfK]
theorem lfK_all {done : Nat → Bool} {v : Nat} (hv : done v = false) (t : Nat) : lfK G done (outN G v) t = cntD G (upd done v true) t := by
  have := cntD_upd (G := G) hv t
  unfold lfK
  omega
theorem lfK_step {done : Nat → Bool} {v : Nat} (hv : done v = false) {pre post : List Nat} {to : Nat} (h : outN G v = pre ++ to :: post) : 1 ≤ lfK G done pre to ∧ lfK G done (pre ++ [to]) to = lfK G done pre to - 1 ∧ ∀ t, t ≠ to → lfK G done (pre ++ [to]) t = lfK G done pre t := by
  have h1 := cntD_upd (G := G) hv to
  rw [h, List.count_append, List.count_cons_self] at h1
  unfold lfK
  refine ⟨by omega, ?_, fun t ht => ?_⟩
  · rw [List.count_append, List.count_singleton_self]; omega
  · rw [List.count_append]
    have : ([to] : List Nat).count t = 0 := by rw [List.count_singleton]; simp; omega
    omega
/-- A way is gone: the node that it leads to may stand next, or not yet. -/
theorem rdy_step {done : Nat → Bool} (hd : DoneOk G done) {v : Nat} (hv : done v = false) (h0 : cntD G done v = 0) {pre post : List Nat} {to : Nat} (h : outN G v = pre ++ to :: post) :
    ¬ Rdy G (upd done v true) (lfK G done pre) (to : Int) ∧ ∀ x, Rdy G (upd done v true) (lfK G done (pre ++ [to])) x ↔ (Rdy G (upd done v true) (lfK G done pre) x ∨ (lfK G done (pre ++ [to]) to = 0 ∧ x = (to : Int))) := by
  obtain ⟨a1, a2, a3⟩ := lfK_step hv h
  have hto : Stp G v to := mem_outN.1 (by rw [h]; simp)
  have hc : 1 ≤ cntD G done to := by unfold lfK at a1; omega
  have htv : to ≠ v := fun e => by subst e; omega
  have htd : done to = false := by
    cases e : done to
    · rfl
    · have := (hd to e).1; omega
  have key : ¬ Rdy G (upd done v true) (lfK G done pre) (to : Int) := by
    rintro ⟨i, e, _, _, hl⟩
    have : i = to := by omega
    subst this
    omega
  refine ⟨key, fun x => ?_⟩
  constructor
  · rintro ⟨i, rfl, hi, hdi, hl⟩
    by_cases e : i = to
    · subst e; exact .inr ⟨hl, rfl⟩
    · exact .inl ⟨i, rfl, hi, hdi, by rw [← a3 i e]; exact hl⟩
  · rintro (⟨i, rfl, hi, hdi, hl⟩ | ⟨hl, rfl⟩)
    · have e : i ≠ to := fun e => by subst e; omega
      exact ⟨i, rfl, hi, hdi, by rw [a3 i e]; exact hl⟩
    · exact ⟨to, rfl, hto.2.1, by rw [upd_far htv]; exact htd, hl⟩
/-- The least that may stand next is the document's next one. -/
theorem next_least {done : Nat → Bool} {v : Nat} (hv : Rdy G done (cntD G done) (v : Int)) (hl : ∀ x, Rdy G done (cntD G done) x → (v : Int) ≤ x) : nextN G.n (inE G) done = some v := by
  obtain ⟨i, e, hi, hd, hc⟩ := hv
  have : i = v := by omega
  subst this
  refine nextN_first hi (rdy_iff.2 ⟨hd, hc⟩) fun j hj => ?_
  cases hb : readyB (inE G) done j
  · rfl
  · obtain ⟨h1, h2⟩ := rdy_iff.1 hb
    have := hl (j : Int) ⟨j, rfl, by omega, h1, h2⟩
    omega
/-- Amid the order: k were taken. -/
structure Kn (G : GT) (k : Nat) : Prop where
  le : k ≤ G.n
  ok : DoneOk G (doneK G.n (inE G) k)
  num : (pickL G.n (doneK G.n (inE G) k)).length = k
theorem Kn.zero : Kn G 0 := by
  refine ⟨Nat.zero_le _, fun t h => (by cases h), by simp [doneK, pickL]⟩
theorem Kn.succ {k : Nat} (h : Kn G k) {v : Nat} (hn : nextN G.n (inE G) (doneK G.n (inE G) k) = some v) : doneK G.n (inE G) (k + 1) = upd (doneK G.n (inE G) k) v true ∧ ordK G.n (inE G) k = v ∧ v < G.n ∧ doneK G.n (inE G) k v = false ∧ cntD G (doneK G.n (inE G) k) v = 0 ∧ Kn G (k + 1) := by
  have e1 : doneK G.n (inE G) (k + 1) = upd (doneK G.n (inE G) k) v true := by
    show (match nextN G.n (inE G) (doneK G.n (inE G) k) with | some i => upd (doneK G.n (inE G) k) i true | none => doneK G.n (inE G) k) = _
    rw [hn]
  have e2 : ordK G.n (inE G) k = v := by unfold ordK; rw [hn]; rfl
  have hvn : v < G.n := List.mem_range.1 (List.mem_of_find?_eq_some hn)
  obtain ⟨hv, h0⟩ := rdy_iff.1 (List.find?_some hn)
  have hnum : (pickL G.n (doneK G.n (inE G) (k + 1))).length = k + 1 := by rw [e1, pick_upd hvn hv, h.num]
  refine ⟨e1, e2, hvn, hv, h0, ⟨?_, ?_, hnum⟩⟩
  · have := pickL_len G.n (doneK G.n (inE G) (k + 1))
    omega
  · rw [e1]; exact h.ok.next hv h0
/-- Where none may stand next: all were taken just if there is no loop. -/
theorem Kn.stop {k : Nat} (h : Kn G k) (hq : ∀ x, ¬ Rdy G (doneK G.n (inE G) k) (cntD G (doneK G.n (inE G) k)) x) : k = G.n ↔ Acyc G := by
  constructor
  · intro hk i hp
    have hi := hp.lt.1
    have : doneK G.n (inE G) k i = true := by
      cases e : doneK G.n (inE G) k i
      · have := pick_upd hi e
        have := pickL_len G.n (upd (doneK G.n (inE G) k) i true)
        have := h.num
        omega
      · rfl
    exact (h.ok i this).2 hp
  · intro ha
    apply Classical.byContradiction
    intro hne
    have hk : k < G.n := by have := h.le; omega
    obtain ⟨j, hj, hr⟩ := done_next ha hk
    obtain ⟨h1, h2⟩ := rdy_iff.1 hr
    exact hq (j : Int) ⟨j, rfl, hj, h1, h2⟩
end
end Go.Proofs.Ytmbjmibjobpdgaa
namespace Go.Proofs.Ytmbjmibjobpdgaa
open Go.RowKit

/-- All below B but for two blocks is kept. -/
structure Bu (B g1 g2 : Nat) (w w' : World) : Prop where
  os : w'.os = w.os
  tape : w'.tape = w.tape
  output : w'.output = w.output
  size : w.heap.size ≤ w'.heap.size
  block : ∀ k, k < B → k ≠ g1 → k ≠ g2 → w'.heap[k]? = w.heap[k]?
section
variable {B g1 g2 : Nat} {w w' w'' : World}
theorem Bu.refl (B g1 g2 : Nat) (w : World) : Bu B g1 g2 w w := ⟨rfl, rfl, rfl, Nat.le_refl _, fun _ _ _ _ => rfl⟩
theorem Bu.trans (h : Bu B g1 g2 w w') (h' : Bu B g1 g2 w' w'') : Bu B g1 g2 w w'' :=
  ⟨h'.os.trans h.os, h'.tape.trans h.tape, h'.output.trans h.output, Nat.le_trans h.size h'.size, fun k hk h1 h2 => (h'.block k hk h1 h2).trans (h.block k hk h1 h2)⟩
theorem Bu.mono (h : Bu B g1 g2 w w') {B' : Nat} (hB : B' ≤ B) : Bu B' g1 g2 w w' := ⟨h.os, h.tape, h.output, h.size, fun k hk => h.block k (by omega)⟩
theorem Bu.of_below (h : Below B w w') : Bu B g1 g2 w w' := ⟨h.os, h.tape, h.output, h.size, fun k hk _ _ => h.block k hk⟩
theorem Bu.below (h : Bu B g1 g2 w w') {lim : Nat} (hB : lim ≤ B) (h1 : lim ≤ g1) (h2 : lim ≤ g2) : Below lim w w' := ⟨h.os, h.tape, h.output, h.size, fun k hk => h.block k (by omega) (by omega) (by omega)⟩
theorem Bu.set1 (h : Bu B g1 g2 w w') (i : Nat) (v : Value) : Bu B g1 g2 w (w'.setCell ⟨g1, i, none⟩ v) :=
  ⟨h.os, h.tape, h.output, by simpa using h.size, fun k hk n1 n2 => (Below.heap_setCell _ _ _ _ (by intro e; exact n1 (by rw [e]))).trans (h.block k hk n1 n2)⟩
theorem Bu.set2 (h : Bu B g1 g2 w w') (i : Nat) (v : Value) : Bu B g1 g2 w (w'.setCell ⟨g2, i, none⟩ v) :=
  ⟨h.os, h.tape, h.output, by simpa using h.size, fun k hk n1 n2 => (Below.heap_setCell _ _ _ _ (by intro e; exact n2 (by rw [e]))).trans (h.block k hk n1 n2)⟩
theorem Bu.step (h : Bu B g1 g2 w w') (hb : Below w'.heap.size w' w'') (hB : B ≤ w'.heap.size) : Bu B g1 g2 w w'' := h.trans (Bu.of_below (hb.mono hB))
theorem Bu.grown {row : Option Nat} (h : Bu B g1 g2 w w') (hg : w'.grownBy w'' row) (hB : B ≤ w'.heap.size) (hrow : ∀ k, row = some k → B ≤ k) : Bu B g1 g2 w w'' :=
  ⟨hg.os.trans h.os, hg.tape.trans h.tape, hg.output.trans h.output, Nat.le_trans h.size hg.size, fun k hk n1 n2 => (hg.block k (by omega) (fun e => by have := hrow k e.symm; omega)).trans (h.block k hk n1 n2)⟩
end
theorem LieI.tail {w : World} {lim : Nat} {g o : Nat} {x : Int} {L : List Int} (h : ∀ i (h : i < (x :: L).length), w.cell? ⟨g, o + i, none⟩ = some (.int .i64 (x :: L)[i])) (hg : g < lim) : LieI w lim (some ⟨g, o + 1, none⟩) L := fun _ =>
  ⟨g, o + 1, rfl, hg, fun i hi => by
    have := h (i + 1) (by simpa using hi)
    rw [show o + 1 + i = o + (i + 1) by omega]
    simpa using this⟩
/-- The ways that weren't gone yet, row by row: the rows themselves lie below lim. -/
def OpnAt (w : World) (lim g n : Nat) (opn : Nat → List Nat) : Prop := ∃ us, CB w 30 g n us ∧ ∀ i, i < n → ∃ A c, us i = .slice A (opn i).length c ∧ (opn i).length ≤ c ∧ LieI w lim A (ofNs (opn i))
section
variable {w w' : World} {lim g n : Nat} {opn : Nat → List Nat}
theorem OpnAt.keep (h : OpnAt w lim g n opn) (hg : w'.heap[g]? = w.heap[g]?) (hb : Below lim w w') : OpnAt w' lim g n opn := by
  obtain ⟨us, hc, hr⟩ := h
  refine ⟨us, hc.block hg, fun i hi => ?_⟩
  obtain ⟨A, c, e, hlc, hl⟩ := hr i hi
  exact ⟨A, c, e, hlc, hl.keep fun g o hg => hb.cell (p := ⟨g, o, none⟩) hg⟩
theorem OpnAt.set (h : OpnAt w lim g n opn) (hlg : lim ≤ g) {x : Nat} {r : List Nat} {A : Option Addr} {c : Nat} (hc : r.length ≤ c) (hl : LieI w lim A (ofNs r)) : OpnAt (w.setCell ⟨g, x, none⟩ (.slice A r.length c)) lim g n (fup opn x r) := by
  obtain ⟨us, hcb, hr⟩ := h
  have hk : ∀ k o, k < lim → (w.setCell ⟨g, x, none⟩ (.slice A r.length c)).cell? ⟨k, o, none⟩ = w.cell? ⟨k, o, none⟩ := fun k o hk => by
    have e : (w.setCell ⟨g, x, none⟩ (.slice A r.length c)).heap[k]? = w.heap[k]? := Below.heap_setCell _ ⟨g, x, none⟩ _ _ (show k ≠ g by omega)
    simp only [World.cell?, e]
  refine ⟨upd us x (.slice A r.length c), hcb.set x _, fun i hi => ?_⟩
  by_cases e : i = x
  · subst e
    rw [upd_same, fup_same]
    exact ⟨A, c, rfl, hc, hl.keep hk⟩
  · rw [upd_far e, fup_far e]
    obtain ⟨A', c', e', hlc, hl'⟩ := hr i hi
    exact ⟨A', c', e', hlc, hl'.keep hk⟩
end
/-- What was met. -/
def MetAt (w : World) (g n : Nat) (met : Nat → Bool) : Prop := CB w 4 g n (fun i => .bool (met i))
theorem MetAt.set {w : World} {g n : Nat} {met : Nat → Bool} (h : MetAt w g n met) (x : Nat) : MetAt (w.setCell ⟨g, x, none⟩ (.bool true)) g n (fup met x true) := by
  refine (CB.set h x (.bool true)).congr fun i _ => ?_
  unfold upd fup
  split <;> rfl
theorem OwnI.pop {w : World} {B : Nat} {v : Value} {L : List Int} {x : Int} (h : OwnI w B v (L ++ [x])) : ∃ g cap, v = .slice (some ⟨g, 0, none⟩) (L.length + 1) cap ∧ w.cell? ⟨g, L.length, none⟩ = some (.int .i64 x) ∧ OwnI w B (.slice (some ⟨g, 0, none⟩) L.length cap) L ∧ L.length + 1 ≤ cap := by
  unfold OwnI at h
  rw [List.map_append, List.length_append, List.map_singleton, List.length_singleton] at h
  rcases h.2 with ⟨_, h0⟩ | ⟨g, cap, cur, rfl, hb, hg, h1, h2, h3, h4⟩
  · omega
  · have hat : w.cell? ⟨g, L.length, none⟩ = some (.int .i64 x) := by
      rw [h.cellAt L.length (by omega)]
      simp
    refine ⟨g, cap, rfl, hat, ⟨by simp, .inr ⟨g, cap, cur, rfl, hb, hg, by omega, h2, h3, ?_⟩⟩, h1⟩
    have := congrArg (List.take (L.length * 1)) h4
    rw [List.take_take] at this
    rw [show min (L.length * 1) ((L.length + 1) * 1) = L.length * 1 by omega] at this
    rw [this]
    simp
theorem ofNs_app (L : List Nat) (x : Nat) : ofNs (L ++ [x]) = ofNs L ++ [(x : Int)] := by simp [ofNs]
theorem Ds.step_pop {d : Ds} {x : Nat} {s : List Nat} (hs : d.stk = x :: s) (ho : d.opn x = []) : d.step = d.pop x s := by
  unfold Ds.step
  rw [hs]
  dsimp only
  rw [ho]
theorem Ds.step_go {d : Ds} {x y : Nat} {s r : List Nat} (hs : d.stk = x :: s) (ho : d.opn x = y :: r) (hm : d.met y = true) : d.step = d.go x r := by
  unfold Ds.step
  rw [hs]
  dsimp only
  rw [ho]
  exact if_pos hm
theorem Ds.step_push {d : Ds} {x y : Nat} {s r : List Nat} (hs : d.stk = x :: s) (ho : d.opn x = y :: r) (hm : d.met y = false) : d.step = (d.go x r).push y := by
  unfold Ds.step
  rw [hs]
  dsimp only
  rw [ho]
  exact if_neg (by rw [hm]; exact Bool.false_ne_true)
/-- A walk's steps. -/
def steps (d : Ds) : Nat → Ds
  | 0 => d
  | k + 1 => (steps d k).step
/-- How much is left to do. -/
def opnSum (opn : Nat → List Nat) : Nat → Nat
  | 0 => 0
  | n + 1 => opnSum opn n + (opn n).length
theorem opnSum_cut {opn : Nat → List Nat} {x y : Nat} {r : List Nat} (ho : opn x = y :: r) : ∀ n, x < n → opnSum (fup opn x r) n + 1 = opnSum opn n := by
  have hfar : ∀ n, n ≤ x → opnSum (fup opn x r) n = opnSum opn n := by
    intro n
    induction n with
    | zero => intro _; rfl
    | succ n ih =>
      intro h
      show opnSum (fup opn x r) n + (fup opn x r n).length = _
      rw [ih (by omega), fup_far (by omega)]
      rfl
  intro n
  induction n with
  | zero => intro h; omega
  | succ n ih =>
    intro h
    show opnSum (fup opn x r) n + (fup opn x r n).length + 1 = opnSum opn n + (opn n).length
    by_cases e : n = x
    · subst e
      rw [hfar n (Nat.le_refl _), fup_same, ho]
      simp; omega
    · rw [fup_far e]
      have := ih (by omega)
      omega
/-- .. as it is read off the memory. -/
def lenAt (w : World) (g : Nat) (i : Nat) : Nat := match w.cell? ⟨g, i, none⟩ with
  | some (.slice _ l _) => l
  | _ => 0
def memSum (w : World) (g : Nat) : Nat → Nat
  | 0 => 0
  | n + 1 => memSum w g n + lenAt w g n
theorem OpnAt.sum {w : World} {lim g n : Nat} {opn : Nat → List Nat} (h : OpnAt w lim g n opn) : ∀ m, m ≤ n → memSum w g m = opnSum opn m := by
  obtain ⟨us, hc, hr⟩ := h
  intro m
  induction m with
  | zero => intro _; rfl
  | succ m ih =>
    intro hm
    show memSum w g m + lenAt w g m = opnSum opn m + _
    rw [ih (by omega)]
    obtain ⟨A, c, e, _, _⟩ := hr m (by omega)
    have : lenAt w g m = (opn m).length := by
      unfold lenAt
      rw [hc.cell (by omega), e]
    omega
end Go.Proofs.Ytmbjmibjobpdgaa

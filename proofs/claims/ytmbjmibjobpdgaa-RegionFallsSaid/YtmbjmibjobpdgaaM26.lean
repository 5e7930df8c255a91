/-
  Dominators over places, plainly: what stands over each place, lifted in rounds till nothing asks for more.
  The landed meet and lift.
-/
import Derived.Test.YtmbjmibjobpdgaaM24
import Derived.Test.YtmbjmibjobpdgaaM15
namespace Go.Proofs.Ytmbjmibjobpdgaa

/-- A place that is come to from place 0 past place d. -/
inductive Av (S : Nat → List Nat) (d : Nat) : Nat → Prop
  | root (h : 0 ≠ d) : Av S d 0
  | step {s p : Nat} (h : Av S d s) (e : s ∈ S p) (hp : p ≠ d) : Av S d p
/-- Each way to p leads over d. -/
def PD (S : Nat → List Nat) (d p : Nat) : Prop := ¬ Av S d p
/-- The places, the sources of each; each but the first has one ahead of it. -/
structure Srcs (S : Nat → List Nat) (m : Nat) : Prop where
  pos : 0 < m
  lt : ∀ p s, s ∈ S p → p < m ∧ s < m
  pre : ∀ p, p < m → 0 < p → ∃ s ∈ S p, s < p
theorem PD.up {S : Nat → List Nat} {d p s : Nat} (h : PD S d p) (hs : s ∈ S p) (hne : p ≠ d) : PD S d s := fun ha => h (.step ha hs hne)
theorem PD.le {S : Nat → List Nat} {m : Nat} (hS : Srcs S m) {d : Nat} : ∀ p, p < m → PD S d p → d ≤ p := by
  intro p
  induction p using Nat.strongRecOn with
  | ind p ih =>
    intro hp h
    by_cases e : p = d
    · omega
    · rcases Nat.eq_zero_or_pos p with rfl | h0
      · exact absurd (Av.root e) h
      · obtain ⟨s, hs, hlt⟩ := hS.pre p hp h0
        have := ih s hlt (by omega) (h.up hs e)
        omega
/-- What stands over each place, so far: -1 where that isn't known. -/
structure Ov (S : Nat → List Nat) (m : Nat) (o : Nat → Int) : Prop where
  zero : o 0 = 0
  good : ∀ p, p < m → 0 < p → o p = -1 ∨ (0 ≤ o p ∧ o p < p ∧ o (o p).toNat ≠ -1)
  just : ∀ p, p < m → 0 < p → o p ≠ -1 → ∀ d, PD S d p → d ≠ p → PD S d (o p).toNat
section
variable {S : Nat → List Nat} {m : Nat} {o : Nat → Int}
theorem Ov.known (h : Ov S m o) {p : Nat} (hp : p < m) (hk : o p ≠ -1) : 0 ≤ o p ∧ (o p).toNat ≤ p ∧ (0 < p → (o p).toNat < p) ∧ o (o p).toNat ≠ -1 := by
  rcases Nat.eq_zero_or_pos p with rfl | h0
  · rw [h.zero]
    refine ⟨by omega, by simp, by omega, ?_⟩
    show o (0 : Int).toNat ≠ -1
    rw [show (0 : Int).toNat = 0 from rfl, h.zero]; omega
  · rcases h.good p hp h0 with a | ⟨a, b, c⟩
    · exact absurd a hk
    · exact ⟨a, by omega, fun _ => by omega, c⟩
/-- What stands over both. -/
def mt (o : Nat → Int) : Nat → Nat → Nat → Nat
  | 0, a, _ => a
  | k + 1, a, b => if a = b then a else if b < a then mt o k (o a).toNat b else mt o k a (o b).toNat
def mtv (o : Nat → Int) (a b : Nat) : Nat := mt o (a + b + 1) a b
theorem mt_fuel (h : Ov S m o) : ∀ (k l a b : Nat), a < m → b < m → o a ≠ -1 → o b ≠ -1 → a + b < k → a + b < l → mt o k a b = mt o l a b := by
  intro k
  induction k with
  | zero => intro l a b _ _ _ _ h1 _; omega
  | succ k ih =>
    intro l a b ha hb ka kb h1 h2
    cases l with
    | zero => omega
    | succ l =>
      unfold mt
      by_cases e : a = b
      · rw [if_pos e, if_pos e]
      · rw [if_neg e, if_neg e]
        by_cases hl : b < a
        · rw [if_pos hl, if_pos hl]
          obtain ⟨x1, x2, x3, x4⟩ := h.known ha ka
          have := x3 (by omega)
          exact ih l _ _ (by omega) hb x4 kb (by omega) (by omega)
        · rw [if_neg hl, if_neg hl]
          obtain ⟨x1, x2, x3, x4⟩ := h.known hb kb
          have := x3 (by omega)
          exact ih l _ _ ha (by omega) ka x4 (by omega) (by omega)
theorem mtv_same (a : Nat) : mtv o a a = a := by
  unfold mtv mt
  rw [if_pos rfl]
theorem mtv_left (h : Ov S m o) {a b : Nat} (ha : a < m) (hb : b < m) (ka : o a ≠ -1) (kb : o b ≠ -1) (hl : b < a) : mtv o a b = mtv o (o a).toNat b := by
  obtain ⟨x1, x2, x3, x4⟩ := h.known ha ka
  have := x3 (by omega)
  show mt o (a + b + 1) a b = _
  rw [show mt o (a + b + 1) a b = mt o (a + b) (o a).toNat b by rw [mt, if_neg (by omega), if_pos hl]]
  exact mt_fuel h _ _ _ _ (by omega) hb x4 kb (by omega) (by omega)
theorem mtv_right (h : Ov S m o) {a b : Nat} (ha : a < m) (hb : b < m) (ka : o a ≠ -1) (kb : o b ≠ -1) (hl : a < b) : mtv o a b = mtv o a (o b).toNat := by
  obtain ⟨x1, x2, x3, x4⟩ := h.known hb kb
  have := x3 (by omega)
  show mt o (a + b + 1) a b = _
  rw [show mt o (a + b + 1) a b = mt o (a + b) a (o b).toNat by rw [mt, if_neg (by omega), if_neg (by omega)]]
  exact mt_fuel h _ _ _ _ ha (by omega) ka x4 (by omega) (by omega)
/-- Stands over it, or is it. -/
inductive Anc (o : Nat → Int) (a : Nat) : Nat → Prop
  | self : Anc o a a
  | up {p : Nat} (hp : 0 < p) (h : Anc o a (o p).toNat) : Anc o a p
/-- What the meeting place is. -/
theorem mtv_spec (h : Ov S m o) : ∀ (k a b : Nat), a + b ≤ k → a < m → b < m → o a ≠ -1 → o b ≠ -1 →
    mtv o a b ≤ a ∧ mtv o a b ≤ b ∧ o (mtv o a b) ≠ -1 ∧ Anc o (mtv o a b) a ∧ Anc o (mtv o a b) b := by
  intro k
  induction k with
  | zero =>
    intro a b hk _ _ ka _
    obtain ⟨rfl, rfl⟩ : a = 0 ∧ b = 0 := by omega
    rw [mtv_same]
    exact ⟨Nat.le_refl _, Nat.le_refl _, ka, .self, .self⟩
  | succ k ih =>
    intro a b hk ha hb ka kb
    rcases Nat.lt_trichotomy a b with hl | rfl | hl
    · rw [mtv_right h ha hb ka kb hl]
      obtain ⟨x1, x2, x3, x4⟩ := h.known hb kb
      have := x3 (by omega)
      obtain ⟨y1, y2, y3, y4, y5⟩ := ih a (o b).toNat (by omega) ha (by omega) ka x4
      exact ⟨y1, by omega, y3, y4, .up (by omega) y5⟩
    · rw [mtv_same]
      exact ⟨Nat.le_refl _, Nat.le_refl _, ka, .self, .self⟩
    · rw [mtv_left h ha hb ka kb hl]
      obtain ⟨x1, x2, x3, x4⟩ := h.known ha ka
      have := x3 (by omega)
      obtain ⟨y1, y2, y3, y4, y5⟩ := ih (o a).toNat b (by omega) (by omega) hb x4 kb
      exact ⟨by omega, y2, y3, .up (by omega) y4, y5⟩
/-- What dominates both dominates the meeting place. -/
theorem mtv_dom (hS : Srcs S m) (h : Ov S m o) {d : Nat} : ∀ (k a b : Nat), a + b ≤ k → a < m → b < m → o a ≠ -1 → o b ≠ -1 → PD S d a → PD S d b → PD S d (mtv o a b) := by
  intro k
  induction k with
  | zero =>
    intro a b hk _ _ _ _ da _
    obtain ⟨rfl, rfl⟩ : a = 0 ∧ b = 0 := by omega
    rw [mtv_same]; exact da
  | succ k ih =>
    intro a b hk ha hb ka kb da db
    rcases Nat.lt_trichotomy a b with hl | rfl | hl
    · rw [mtv_right h ha hb ka kb hl]
      obtain ⟨x1, x2, x3, x4⟩ := h.known hb kb
      have := x3 (by omega)
      have hne : d ≠ b := fun e => by
        subst e
        have := da.le hS a ha
        omega
      exact ih a (o b).toNat (by omega) ha (by omega) ka x4 da (h.just b hb (by omega) kb d db hne)
    · rw [mtv_same]; exact da
    · rw [mtv_left h ha hb ka kb hl]
      obtain ⟨x1, x2, x3, x4⟩ := h.known ha ka
      have := x3 (by omega)
      have hne : d ≠ a := fun e => by
        subst e
        have := db.le hS b hb
        omega
      exact ih (o a).toNat b (by omega) (by omega) hb x4 kb (h.just a ha (by omega) ka d da hne) db
/-- One source is asked. -/
def lift1 (p : Nat) (o : Nat → Int) (s : Nat) : Nat → Int := if o s = -1 then o else if o p = -1 then fup o p (s : Int) else fup o p (mtv o (o p).toNat s : Int)
/-- What is known stays known; what is known gets no greater. -/
def Low (m : Nat) (o o' : Nat → Int) : Prop := ∀ p, p < m → o p ≠ -1 → o' p ≠ -1 ∧ o' p ≤ o p
theorem Low.refl (m : Nat) (o : Nat → Int) : Low m o o := fun _ _ h => ⟨h, Int.le_refl _⟩
theorem Low.trans {o o' o'' : Nat → Int} (h : Low m o o') (h' : Low m o' o'') : Low m o o'' := fun p hp hk =>
  ⟨(h' p hp (h p hp hk).1).1, Int.le_trans (h' p hp (h p hp hk).1).2 (h p hp hk).2⟩
/-- Amid a round, at place p. -/
def Mid (m : Nat) (p : Nat) (o : Nat → Int) : Prop := (∀ q, q < p → o q ≠ -1) ∧ ((∀ q, q < m → o q ≠ -1) ∨ ∀ q, p < q → q < m → o q = -1)
theorem lift1_ov (hS : Srcs S m) (h : Ov S m o) {p s : Nat} (hmid : Mid m p o) (hs : s ∈ S p) : Ov S m (lift1 p o s) ∧ Low m o (lift1 p o s) ∧ Mid m p (lift1 p o s) ∧ (o s ≠ -1 → lift1 p o s p ≠ -1) := by
  obtain ⟨hp, hsm⟩ := hS.lt p s hs
  unfold lift1
  by_cases ks : o s = -1
  · rw [if_pos ks]; exact ⟨h, Low.refl _ _, hmid, fun hk => absurd ks hk⟩
  rw [if_neg ks]
  by_cases kp : o p = -1
  · rw [if_pos kp]
    have hp0 : 0 < p := by
      rcases Nat.eq_zero_or_pos p with rfl | h0
      · rw [h.zero] at kp; omega
      · exact h0
    have hsp : s ≠ p := fun e => by subst e; exact ks kp
    have hslt : s < p := by
      rcases hmid.2 with a | a
      · exact absurd kp (a p hp)
      · apply Classical.byContradiction
        intro hn
        exact ks (a s (by omega) hsm)
    have hkeep : ∀ q, o q ≠ -1 → fup o p (s : Int) q = o q := fun q hq => fup_far (fun e => by subst e; exact hq kp)
    refine ⟨⟨by rw [hkeep 0 (by rw [h.zero]; omega)]; exact h.zero, fun q hq h0 => ?_, fun q hq h0 hk d hd hne => ?_⟩, fun q hq hk => by rw [hkeep q hk]; exact ⟨hk, Int.le_refl _⟩, ⟨fun q hq => by rw [hkeep q (hmid.1 q hq)]; exact hmid.1 q hq, ?_⟩, fun _ => by rw [fup_same]; omega⟩
    · by_cases e : q = p
      · subst e
        rw [fup_same]
        refine .inr ⟨by omega, by omega, ?_⟩
        rw [Int.toNat_natCast, hkeep s ks]
        exact ks
      · rw [fup_far e]
        rcases h.good q hq h0 with a | ⟨a, b, c⟩
        · exact .inl a
        · exact .inr ⟨a, b, by rw [hkeep _ c]; exact c⟩
    · by_cases e : q = p
      · subst e
        rw [fup_same]
        exact hd.up hs (Ne.symm hne)
      · rw [fup_far e] at hk ⊢
        exact h.just q hq h0 hk d hd hne
    · rcases hmid.2 with a | a
      · exact absurd kp (a p hp)
      · exact .inr fun q hq hqm => by rw [fup_far (by omega)]; exact a q hq hqm
  · rw [if_neg kp]
    obtain ⟨x1, x2, x3, x4⟩ := h.known hp kp
    obtain ⟨y1, y2, y3, y4, y5⟩ := mtv_spec h _ (o p).toNat s (Nat.le_refl _) (by omega) hsm x4 ks
    have hdm : ∀ d, PD S d p → d ≠ p → 0 < p → PD S d (mtv o (o p).toNat s) := fun d hd hne h0 =>
      mtv_dom hS h _ (o p).toNat s (Nat.le_refl _) (by omega) hsm x4 ks (h.just p hp h0 kp d hd hne) (hd.up hs (Ne.symm hne))
    generalize mtv o (o p).toNat s = r at *
    have hkn : ∀ q, o q ≠ -1 → fup o p (r : Int) q ≠ -1 := fun q hq => by
      by_cases e : q = p
      · subst e; rw [fup_same]; omega
      · rw [fup_far e]; exact hq
    refine ⟨⟨?_, fun q hq h0 => ?_, fun q hq h0 hk d hd hne => ?_⟩, fun q hq hk => ⟨hkn q hk, ?_⟩, ⟨fun q hq => hkn q (hmid.1 q hq), ?_⟩, fun _ => by rw [fup_same]; omega⟩
    · by_cases e : (0 : Nat) = p
      · subst e
        rw [fup_same]
        rw [h.zero] at y1
        simp at y1
        omega
      · rw [fup_far e]; exact h.zero
    · by_cases e : q = p
      · subst e
        have := x3 h0
        rw [fup_same]
        exact .inr ⟨by omega, by omega, by rw [Int.toNat_natCast]; exact hkn r y3⟩
      · rw [fup_far e]
        rcases h.good q hq h0 with a | ⟨a, b, c⟩
        · exact .inl a
        · exact .inr ⟨a, b, hkn _ c⟩
    · by_cases e : q = p
      · subst e
        rw [fup_same, Int.toNat_natCast]
        exact hdm d hd hne h0
      · rw [fup_far e] at hk ⊢
        exact h.just q hq h0 hk d hd hne
    · by_cases e : q = p
      · subst e; rw [fup_same]; omega
      · rw [fup_far e]; exact Int.le_refl _
    · rcases hmid.2 with a | a
      · exact .inl fun q hq => hkn q (a q hq)
      · exact .inr fun q hq hqm => by rw [fup_far (by omega)]; exact a q hq hqm
/-- All sources of a place are asked. -/
def liftF (p : Nat) (o : Nat → Int) (L : List Nat) : Nat → Int := L.foldl (lift1 p) o
theorem liftF_ov (hS : Srcs S m) {p : Nat} (L : List Nat) : ∀ {o : Nat → Int}, Ov S m o → Mid m p o → (∀ s ∈ L, s ∈ S p) → Ov S m (liftF p o L) ∧ Low m o (liftF p o L) ∧ Mid m p (liftF p o L) ∧ ((p < m ∧ o p ≠ -1) ∨ (∃ s ∈ L, o s ≠ -1) → liftF p o L p ≠ -1) := by
  induction L with
  | nil => intro o h hm _; exact ⟨h, Low.refl _ _, hm, fun hk => hk.elim (fun a => a.2) fun ⟨s, hs, _⟩ => (by cases hs)⟩
  | cons s L ih =>
    intro o h hm hL
    have hs := hL s (by simp)
    obtain ⟨hp, hsm⟩ := hS.lt p s hs
    obtain ⟨a1, a2, a3, a4⟩ := lift1_ov hS h hm hs
    obtain ⟨b1, b2, b3, b4⟩ := ih a1 a3 (fun t ht => hL t (List.mem_cons_of_mem _ ht))
    refine ⟨b1, a2.trans b2, b3, fun hk => ?_⟩
    rcases hk with ⟨_, hk⟩ | ⟨t, ht, hk⟩
    · exact b4 (.inl ⟨hp, (a2 p hp hk).1⟩)
    · rcases List.mem_cons.1 ht with rfl | ht
      · exact b4 (.inl ⟨hp, a4 hk⟩)
      · exact b4 (.inr ⟨t, ht, (a2 t (hS.lt p t (hL t (List.mem_cons_of_mem _ ht))).2 hk).1⟩)
/-- The first k places of a round. -/
def roundF (S : Nat → List Nat) (o : Nat → Int) : Nat → Nat → Int
  | 0 => o
  | k + 1 => liftF k (roundF S o k) (S k)
/-- Ahead of place k. -/
def Pre (m k : Nat) (o : Nat → Int) : Prop := (∀ q, q < k → o q ≠ -1) ∧ ((∀ q, q < m → o q ≠ -1) ∨ ∀ q, k ≤ q → 0 < q → q < m → o q = -1)
theorem roundF_ov (hS : Srcs S m) (h : Ov S m o) (h0 : Pre m 0 o) : ∀ k, k ≤ m → Ov S m (roundF S o k) ∧ Low m o (roundF S o k) ∧ Pre m k (roundF S o k) := by
  intro k
  induction k with
  | zero => intro _; exact ⟨h, Low.refl _ _, h0⟩
  | succ k ih =>
    intro hk
    obtain ⟨a1, a2, a3⟩ := ih (by omega)
    have hmid : Mid m k (roundF S o k) := ⟨a3.1, a3.2.imp id fun a q hq hqm => a q (by omega) (by omega) hqm⟩
    obtain ⟨b1, b2, b3, b4⟩ := liftF_ov hS (S k) a1 hmid (fun _ h => h)
    refine ⟨b1, a2.trans b2, ⟨fun q hq => ?_, b3.2.imp id fun a q hq _ hqm => a q (by omega) hqm⟩⟩
    by_cases e : q = k
    · subst e
      rcases Nat.eq_zero_or_pos q with rfl | hq0
      · exact b4 (.inl ⟨hS.pos, by rw [a1.zero]; omega⟩)
      · obtain ⟨s, hs, hlt⟩ := hS.pre q (by omega) hq0
        exact b4 (.inr ⟨s, hs, a3.1 s hlt⟩)
    · exact b3.1 q (by omega)
/-- All is known, and no edge asks for more. -/
def AllK (m : Nat) (o : Nat → Int) : Prop := ∀ q, q < m → o q ≠ -1
def Chk (S : Nat → List Nat) (m : Nat) (o : Nat → Int) : Prop := ∀ p, p < m → ∀ s ∈ S p, mtv o (o p).toNat s = (o p).toNat
def sumO (o : Nat → Int) : Nat → Nat
  | 0 => 0
  | k + 1 => sumO o k + (o k).toNat
theorem sumO_le {o o' : Nat → Int} : ∀ k, (∀ p, p < k → (o' p).toNat ≤ (o p).toNat) → sumO o' k ≤ sumO o k := by
  intro k
  induction k with
  | zero => intro _; exact Nat.le_refl _
  | succ k ih =>
    intro h
    have := ih (fun p hp => h p (by omega))
    have := h k (by omega)
    show sumO o' k + _ ≤ sumO o k + _
    omega
theorem sumO_lt {o o' : Nat → Int} {p : Nat} : ∀ k, p < k → (∀ q, q < k → (o' q).toNat ≤ (o q).toNat) → (o' p).toNat < (o p).toNat → sumO o' k < sumO o k := by
  intro k
  induction k with
  | zero => intro h; omega
  | succ k ih =>
    intro hp h hlt
    show sumO o' k + _ < sumO o k + _
    by_cases e : p = k
    · subst e
      have := sumO_le p (fun q hq => h q (by omega))
      omega
    · have := ih (by omega) (fun q hq => h q (by omega)) hlt
      have := h k (by omega)
      omega
theorem sumO_bound {o : Nat → Int} (B : Nat) : ∀ k, (∀ p, p < k → (o p).toNat ≤ B) → sumO o k ≤ k * B := by
  intro k
  induction k with
  | zero => intro _; simp [sumO]
  | succ k ih =>
    intro h
    have := ih (fun p hp => h p (by omega))
    have := h k (by omega)
    show sumO o k + _ ≤ _
    rw [Nat.succ_mul]
    omega
theorem fup_self {o : Nat → Int} {p : Nat} {v : Int} (h : v = o p) : fup o p v = o := by
  funext q
  unfold fup
  split
  · rename_i e; rw [e, h]
  · rfl
theorem Low.sum {o o' : Nat → Int} (h : Low m o o') (hk : AllK m o) : sumO o' m ≤ sumO o m := sumO_le m fun p hp => by
  have := (h p hp (hk p hp)).2
  omega
theorem Low.all {o o' : Nat → Int} (h : Low m o o') (hk : AllK m o) : AllK m o' := fun q hq => (h q hq (hk q hq)).1
theorem lift1_same (hS : Srcs S m) (h : Ov S m o) (hk : AllK m o) {p s : Nat} (hs : s ∈ S p) : (lift1 p o s = o ∧ mtv o (o p).toNat s = (o p).toNat) ∨ sumO (lift1 p o s) m < sumO o m := by
  obtain ⟨hp, hsm⟩ := hS.lt p s hs
  have hmid : Mid m p o := ⟨fun q hq => hk q (by omega), .inl hk⟩
  have hlow := (lift1_ov hS h hmid hs).2.1
  obtain ⟨x1, x2, x3, x4⟩ := h.known hp (hk p hp)
  obtain ⟨y1, _⟩ := mtv_spec h _ (o p).toNat s (Nat.le_refl _) (by omega) hsm x4 (hk s hsm)
  have e : lift1 p o s = fup o p (mtv o (o p).toNat s : Int) := by
    unfold lift1
    rw [if_neg (hk s hsm), if_neg (hk p hp)]
  by_cases he : mtv o (o p).toNat s = (o p).toNat
  · exact .inl ⟨by rw [e]; exact fup_self (by omega), he⟩
  · refine .inr (sumO_lt (p := p) m hp (fun q hq => ?_) ?_)
    · have := (hlow q hq (hk q hq)).2
      omega
    · rw [e, fup_same]
      omega
theorem liftF_same (hS : Srcs S m) {p : Nat} (L : List Nat) : ∀ {o : Nat → Int}, Ov S m o → AllK m o → (∀ s ∈ L, s ∈ S p) → (liftF p o L = o ∧ ∀ s ∈ L, mtv o (o p).toNat s = (o p).toNat) ∨ sumO (liftF p o L) m < sumO o m := by
  induction L with
  | nil => intro o _ _ _; exact .inl ⟨rfl, fun s hs => (by cases hs)⟩
  | cons s L ih =>
    intro o h hk hL
    have hs := hL s (by simp)
    have hp := (hS.lt p s hs).1
    have hmid : Mid m p o := ⟨fun q hq => hk q (by omega), .inl hk⟩
    obtain ⟨a1, a2, a3, _⟩ := lift1_ov hS h hmid hs
    have hL' : ∀ t ∈ L, t ∈ S p := fun t ht => hL t (List.mem_cons_of_mem _ ht)
    rcases lift1_same hS h hk hs with ⟨e, hm⟩ | hlt
    · rcases ih h hk hL' with ⟨e2, hm2⟩ | hlt
      · refine .inl ⟨?_, fun t ht => ?_⟩
        · show liftF p (lift1 p o s) L = o
          rw [e]; exact e2
        · rcases List.mem_cons.1 ht with rfl | ht
          · exact hm
          · exact hm2 t ht
      · right
        show sumO (liftF p (lift1 p o s) L) m < _
        rw [e]; exact hlt
    · right
      have := (liftF_ov hS L a1 a3 hL').2.1.sum (a2.all hk)
      show sumO (liftF p (lift1 p o s) L) m < _
      omega
theorem roundF_same (hS : Srcs S m) (h : Ov S m o) (hk : AllK m o) : ∀ k, k ≤ m → (roundF S o k = o ∧ ∀ p, p < k → ∀ s ∈ S p, mtv o (o p).toNat s = (o p).toNat) ∨ sumO (roundF S o k) m < sumO o m := by
  intro k
  induction k with
  | zero => intro _; exact .inl ⟨rfl, fun p hp => absurd hp (by omega)⟩
  | succ k ih =>
    intro hkm
    have h0 : Pre m 0 o := ⟨fun q hq => absurd hq (by omega), .inl hk⟩
    obtain ⟨a1, a2, a3⟩ := roundF_ov hS h h0 k (by omega)
    have hk1 : AllK m (roundF S o k) := a2.all hk
    rcases ih (by omega) with ⟨e, hm⟩ | hlt
    · rcases liftF_same hS (p := k) (S k) h hk (fun _ h => h) with ⟨e2, hm2⟩ | hlt
      · refine .inl ⟨?_, fun p hp s hs => ?_⟩
        · show liftF k (roundF S o k) (S k) = o
          rw [e]; exact e2
        · by_cases hpk : p = k
          · subst hpk; exact hm2 s hs
          · exact hm p (by omega) s hs
      · right
        show sumO (liftF k (roundF S o k) (S k)) m < _
        rw [e]; exact hlt
    · right
      have hmid : Mid m k (roundF S o k) := ⟨fun q hq => hk1 q (by omega), .inl hk1⟩
      have := (liftF_ov hS (S k) a1 hmid (fun _ h => h)).2.1.sum hk1
      show sumO (liftF k (roundF S o k) (S k)) m < _
      omega
theorem Anc.trans {a b c : Nat} (h : Anc o a b) (h' : Anc o b c) : Anc o a c := by
  induction h' with
  | self => exact h
  | up hp _ ih => exact .up hp ih
/-- Where no edge asks for more, who stands over a place dominates it. -/
theorem Chk.dom (hS : Srcs S m) (h : Ov S m o) (hk : AllK m o) (hc : Chk S m o) {a p : Nat} (ha : Anc o a p) : PD S a p := by
  intro hv
  induction hv with
  | root hne =>
    cases ha with
    | self => exact hne rfl
    | up hp _ => omega
  | @step s p _ e hp ih =>
    obtain ⟨hpm, hsm⟩ := hS.lt p s e
    cases ha with
    | self => exact hp rfl
    | up h0 ha =>
      obtain ⟨x1, x2, x3, x4⟩ := h.known hpm (hk p hpm)
      obtain ⟨_, _, _, _, y5⟩ := mtv_spec h _ (o p).toNat s (Nat.le_refl _) (by omega) hsm x4 (hk s hsm)
      rw [hc p hpm s e] at y5
      exact ih (ha.trans y5)
theorem Ov.anc (h : Ov S m o) (hk : AllK m o) {d : Nat} : ∀ p, p < m → PD S d p → Anc o d p := by
  intro p
  induction p using Nat.strongRecOn with
  | ind p ih =>
    intro hp hd
    by_cases e : d = p
    · subst e; exact .self
    · rcases Nat.eq_zero_or_pos p with rfl | h0
      · exact absurd (Av.root (fun e2 => e e2.symm)) hd
      · obtain ⟨x1, x2, x3, x4⟩ := h.known hp (hk p hp)
        have := x3 h0
        exact .up h0 (ih _ this (by omega) (h.just p hp h0 (hk p hp) d hd e))
/-- Before the first round. -/
theorem Ov.start (S : Nat → List Nat) (m : Nat) : Ov S m (fup (fun _ => -1) 0 0) ∧ Pre m 0 (fup (fun _ => -1) 0 0) := by
  have hz : fup (fun _ : Nat => (-1 : Int)) 0 0 0 = 0 := fup_same _ _ _
  have hf : ∀ q, 0 < q → fup (fun _ : Nat => (-1 : Int)) 0 0 q = -1 := fun q hq => fup_far (by omega)
  exact ⟨⟨hz, fun p _ h0 => .inl (hf p h0), fun p _ h0 hk => absurd (hf p h0) hk⟩, fun q hq => absurd hq (by omega), .inr fun q _ h0 _ => hf q h0⟩
end
end Go.Proofs.Ytmbjmibjobpdgaa
namespace Go.Proofs.Ytmbjmibjobpdgaa
open Go.RowKit

def ofNs (L : List Nat) : List Int := L.map fun (i : Nat) => (i : Int)
/-- Block g holds what stands over each place. -/
def OAt (w : World) (g m : Nat) (o : Nat → Int) : Prop := CB w 3 g m (fun i => .int .i64 (o i))
theorem OAt.set {w : World} {g m : Nat} {o : Nat → Int} (h : OAt w g m o) (p : Nat) (v : Int) : OAt (w.setCell ⟨g, p, none⟩ (.int .i64 v)) g m (fup o p v) := by
  refine (CB.set h p (.int .i64 v)).congr fun i _ => ?_
  unfold upd fup
  split <;> rfl
set_option maxRecDepth 20000 in
set_option maxHeartbeats 1000000 in
theorem meet_any {w : World} {g m c a b : Nat} {o : Nat → Int} {S : Nat → List Nat} (hg : OAt w g m o) (h : Ov S m o) (ha : a < m) (hb : b < m) (ka : o a ≠ -1) (kb : o b ≠ -1) :
    Calls Try.prog 70 #[.slice (some ⟨g, 0, none⟩) m c, .int .i64 a, .int .i64 b] w fun e w' => e = .returned (.int .i64 (mtv o a b)) ∧ w = w' := by
  have HG := Lib.hid hg
  have HO := Lib.hid h
  clear hg h
  have HA : Hid (a < m ∧ b < m ∧ o a ≠ -1 ∧ o b ≠ -1) := Lib.hid ⟨ha, hb, ka, kb⟩
  clear ha hb ka kb
  obtain ⟨r, hr⟩ : ∃ r, r = mtv o a b := ⟨_, rfl⟩
  rw [← hr]
  have HR := Lib.hid hr
  clear hr
  go_enter Try.func70, Try.ntmps70
  go_wp2_with fail
  go_loopw [1, 2] (fun av bv wr => ∃ a' b' : Nat, av = .int .i64 a' ∧ bv = .int .i64 b' ∧ Hid (a' < m ∧ b' < m ∧ o a' ≠ -1 ∧ o b' ≠ -1) ∧ Hid (r = mtv o a' b') ∧ wr = w) (fun av bv _ => (intOf av).toNat + (intOf bv).toNat)
  case atStart => exact ⟨a, b, rfl, rfl, HA, HR, rfl⟩
  case round =>
    obtain ⟨a', b', rfl, rfl, hk, he, rfl⟩ := hrel
    obtain ⟨ha', hb', ka, kb⟩ := hk.out
    rcases Nat.lt_trichotomy a' b' with hl | rfl | hl
    · obtain ⟨x1, x2, x3, x4⟩ := HO.out.known hb' kb
      have x3 := x3 (by omega)
      have e2 : Hid (r = mtv o a' (o b').toNat) := Lib.hid (by rw [he.out]; exact mtv_right HO.out ha' hb' ka kb hl)
      have k2 : Hid (a' < m ∧ (o b').toNat < m ∧ o a' ≠ -1 ∧ o (o b').toNat ≠ -1) := Lib.hid ⟨ha', by omega, ka, x4⟩
      have c1 := HG.out.cell hb'
      obtain ⟨d, hd⟩ : ∃ d : Nat, (o b').toNat = d := ⟨_, rfl⟩
      have hd' : o b' = (d : Int) := by omega
      rw [hd'] at c1
      rw [hd] at e2 k2 x3
      clear x1 x2 x4 ka kb hk he hd hd' HR HA ha'
      have t0 : ((a' : Int) != (b' : Int)) = true := by simp; omega
      have t1 : decide ((b' : Int) < (a' : Int)) = false := by simp; omega
      go_wp2_with fail
      go_roundw
      case rel => exact ⟨a', d, rfl, rfl, k2, e2, trivial⟩
      case measure => simp [intOf]; omega
    · rw [mtv_same] at he
      have t0 : ((a' : Int) != (a' : Int)) = false := by simp
      clear HR HA hk ka kb
      go_wp2_with fail
      go_ret
      exact ⟨by rw [he.out]; rfl, rfl⟩
    · obtain ⟨x1, x2, x3, x4⟩ := HO.out.known ha' ka
      have x3 := x3 (by omega)
      have e2 : Hid (r = mtv o (o a').toNat b') := Lib.hid (by rw [he.out]; exact mtv_left HO.out ha' hb' ka kb hl)
      have k2 : Hid ((o a').toNat < m ∧ b' < m ∧ o (o a').toNat ≠ -1 ∧ o b' ≠ -1) := Lib.hid ⟨by omega, hb', x4, kb⟩
      have c1 := HG.out.cell ha'
      obtain ⟨d, hd⟩ : ∃ d : Nat, (o a').toNat = d := ⟨_, rfl⟩
      have hd' : o a' = (d : Int) := by omega
      rw [hd'] at c1
      rw [hd] at e2 k2 x3
      clear x1 x2 x4 ka kb hk he hd hd' HR HA hb'
      have t0 : ((a' : Int) != (b' : Int)) = true := by simp; omega
      have t1 : decide ((b' : Int) < (a' : Int)) = true := by simp; omega
      go_wp2_with fail
      go_roundw
      case rel => exact ⟨d, b', rfl, rfl, k2, e2, trivial⟩
      case measure => simp [intOf]; omega
end Go.Proofs.Ytmbjmibjobpdgaa

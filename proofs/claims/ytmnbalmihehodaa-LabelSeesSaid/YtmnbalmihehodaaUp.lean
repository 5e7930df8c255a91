/-
  Labels that rise along edges, plainly: no walk.
-/
import Derived.Test.YtmnbalmihehodaaAlg
import Derived.Test.YtmnbalmihehodaaFan2
namespace Go.Proofs.Ytmnbalmihehodaa
open Go.RowKit

section
variable {n : Nat} {A B : Nat → Nat} {L : Nat → Nat → Bool}
theorem leqB_isL {a b : Int} (h : leqB n A a b = true) : isL n a = true ∧ isL n b = true := by
  simp only [leqB, Bool.and_eq_true] at h
  exact ⟨h.1, h.2.1⟩
theorem GLat.leq (h : GLat n A B L) {a b : Int} (ha : isL n a = true) (hb : isL n b = true) : leqB n A a b = L a.toNat b.toNat := by
  rw [h.up.leq_eq, rleq, ha, hb]
  rfl
theorem GLat.refl (h : GLat n A B L) {a : Int} (ha : isL n a = true) : leqB n A a a = true := by
  have := isL_iff.1 ha
  rw [h.leq ha ha]
  exact h.lat.refl _ (by omega)
theorem GLat.trans (h : GLat n A B L) {a b c : Int} (h1 : leqB n A a b = true) (h2 : leqB n A b c = true) : leqB n A a c = true := by
  obtain ⟨ia, ib⟩ := leqB_isL h1
  obtain ⟨_, ic⟩ := leqB_isL h2
  rw [h.leq ia ib] at h1
  rw [h.leq ib ic] at h2
  rw [h.leq ia ic]
  have := isL_iff.1 ia
  have := isL_iff.1 ib
  have := isL_iff.1 ic
  exact h.lat.trans _ _ _ (by omega) (by omega) (by omega) h1 h2
theorem GLat.anti (h : GLat n A B L) {a b : Int} (h1 : leqB n A a b = true) (h2 : leqB n A b a = true) : a = b := by
  obtain ⟨ia, ib⟩ := leqB_isL h1
  rw [h.leq ia ib] at h1
  rw [h.leq ib ia] at h2
  have := isL_iff.1 ia
  have := isL_iff.1 ib
  have := h.lat.anti _ _ (by omega) (by omega) h1 h2
  omega

/-- The join of two labels, as a number. -/
def jI (n : Nat) (A : Nat → Nat) (a b : Int) : Int := ((jn n A a.toNat b.toNat : Nat) : Int)
theorem GLat.jI_isL (h : GLat n A B L) {a b : Int} (ha : isL n a = true) (hb : isL n b = true) : isL n (jI n A a b) = true := by
  have := isL_iff.1 ha
  have := isL_iff.1 hb
  have := h.jn_lt a.toNat b.toNat (by omega) (by omega)
  exact isL_iff.2 ⟨by unfold jI; omega, by unfold jI; omega⟩
theorem GLat.jI_up (h : GLat n A B L) {a b : Int} (ha : isL n a = true) (hb : isL n b = true) : leqB n A a (jI n A a b) = true ∧ leqB n A b (jI n A a b) = true := by
  have hj := h.jI_isL ha hb
  rw [h.leq ha hj, h.leq hb hj]
  have := isL_iff.1 ha
  have := isL_iff.1 hb
  have hs := jn_spec h.up h.lat (a := a.toNat) (b := b.toNat) (by omega) (by omega)
  have e : (jI n A a b).toNat = jn n A a.toNat b.toNat := by unfold jI; omega
  rw [e]
  exact ⟨hs.2.1, hs.2.2.1⟩
theorem GLat.jI_least (h : GLat n A B L) {a b d : Int} (h1 : leqB n A a d = true) (h2 : leqB n A b d = true) : leqB n A (jI n A a b) d = true := by
  obtain ⟨ia, id⟩ := leqB_isL h1
  obtain ⟨ib, _⟩ := leqB_isL h2
  have hj := h.jI_isL ia ib
  rw [h.leq ia id] at h1
  rw [h.leq ib id] at h2
  rw [h.leq hj id]
  have := isL_iff.1 ia
  have := isL_iff.1 ib
  have := isL_iff.1 id
  have hs := jn_spec h.up h.lat (a := a.toNat) (b := b.toNat) (by omega) (by omega)
  have e : (jI n A a b).toNat = jn n A a.toNat b.toNat := by unfold jI; omega
  rw [e]
  exact hs.2.2.2 _ (by omega) h1 h2
theorem GLat.jI_eq (h : GLat n A B L) {a b : Int} (h1 : leqB n A a b = true) : jI n A a b = b := by
  obtain ⟨ia, ib⟩ := leqB_isL h1
  exact h.anti (h.jI_least h1 (h.refl ib)) (h.jI_up ia ib).2
end

/-! ### How far a label may rise -/
def room (n : Nat) (A : Nat → Nat) (a : Int) : Nat := ((List.range n).filter fun (y : Nat) => leqB n A a (y : Int)).length
theorem room_le (n : Nat) (A : Nat → Nat) (a : Int) : room n A a ≤ n := Nat.le_trans (List.length_filter_le _ _) (by simp)

theorem filter_lt {P Q : Nat → Bool} (x : Nat) : ∀ l : List Nat, (∀ y, P y = true → Q y = true) → x ∈ l → P x = false → Q x = true → (l.filter P).length < (l.filter Q).length
  | [], _, hx, _, _ => by simp at hx
  | y :: l, h, hx, hp, hq => by
    have hle : (l.filter P).length ≤ (l.filter Q).length := by
      clear hx
      induction l with
      | nil => simp
      | cons z l ih =>
        simp only [List.filter_cons]
        by_cases hz : P z = true
        · simp [hz, h z hz, ih]
        · by_cases hz2 : Q z = true
          · simp [hz, hz2]; omega
          · simp [hz, hz2, ih]
    rcases List.mem_cons.1 hx with rfl | hx'
    · simp only [List.filter_cons, hp, hq]
      simp
      omega
    · have := filter_lt x l h hx' hp hq
      simp only [List.filter_cons]
      by_cases hz : P y = true
      · simp [hz, h y hz, this]
      · by_cases hz2 : Q y = true
        · simp [hz, hz2]; omega
        · simp [hz, hz2, this]

section
variable {n : Nat} {A B : Nat → Nat} {L : Nat → Nat → Bool}
theorem GLat.room_lt (h : GLat n A B L) {a b : Int} (h1 : leqB n A a b = true) (h2 : leqB n A b a = false) : room n A b < room n A a := by
  obtain ⟨ia, ib⟩ := leqB_isL h1
  have := isL_iff.1 ia
  refine filter_lt a.toNat _ (fun y hy => h.trans h1 hy) (List.mem_range.2 (by omega)) ?_ ?_
  · show leqB n A b ((a.toNat : Nat) : Int) = false
    rw [show ((a.toNat : Nat) : Int) = a by omega]
    exact h2
  · show leqB n A a ((a.toNat : Nat) : Int) = true
    rw [show ((a.toNat : Nat) : Int) = a by omega]
    exact h.refl ia
end

/-- What all of m labels may rise. -/
def rooms (n : Nat) (A : Nat → Nat) (c : Nat → Int) : Nat → Nat
  | 0 => 0
  | k + 1 => rooms n A c k + room n A (c k)
theorem rooms_le (n : Nat) (A : Nat → Nat) (c : Nat → Int) : ∀ k, rooms n A c k ≤ n * k
  | 0 => Nat.zero_le _
  | k + 1 => by
    have h1 := rooms_le n A c k
    have h2 := room_le n A (c k)
    rw [rooms, Nat.mul_succ]
    omega
theorem rooms_upd_far (n : Nat) (A : Nat → Nat) (c : Nat → Int) (x : Nat) (v : Int) : ∀ k, k ≤ x → rooms n A (updI c x v) k = rooms n A c k
  | 0, _ => rfl
  | k + 1, h => by rw [rooms, rooms, rooms_upd_far n A c x v k (by omega), updI_far (by omega)]
theorem rooms_upd (n : Nat) (A : Nat → Nat) (c : Nat → Int) (x : Nat) (v : Int) : ∀ k, x < k → rooms n A (updI c x v) k + room n A (c x) = rooms n A c k + room n A v
  | 0, h => by omega
  | k + 1, h => by
    rw [rooms, rooms]
    by_cases e : x = k
    · subst e
      rw [rooms_upd_far n A c x v x (Nat.le_refl _), updI_same]
      omega
    · have := rooms_upd n A c x v k (by omega)
      rw [updI_far (fun h => e h.symm)]
      omega

/-! ### The chains of edges -/
theorem foF_spec (p : Nat → Int) (x : Nat) : ∀ k, (foF p k x = -1 ∧ ∀ i, i < k → (p i).toNat ≠ x) ∨ (∃ j, j < k ∧ foF p k x = (j : Int) ∧ (p j).toNat = x ∧ ∀ i, i < k → (p i).toNat = x → i ≤ j)
  | 0 => .inl ⟨rfl, fun i hi => absurd hi (Nat.not_lt_zero _)⟩
  | k + 1 => by
    by_cases h : (p k).toNat = x
    · refine .inr ⟨k, by omega, ?_, h, fun i hi _ => by omega⟩
      rw [foF, h, updI_same]
    · have e : foF p (k + 1) x = foF p k x := by rw [foF, updI_far (fun e => h e.symm)]
      rw [e]
      rcases foF_spec p x k with ⟨h1, h2⟩ | ⟨j, j1, j2, j3, j4⟩
      · refine .inl ⟨h1, fun i hi hx => ?_⟩
        by_cases hik : i = k
        · exact h (hik ▸ hx)
        · exact h2 i (by omega) hx
      · refine .inr ⟨j, by omega, j2, j3, fun i hi hx => ?_⟩
        by_cases hik : i = k
        · exact absurd (hik ▸ hx) h
        · exact j4 i (by omega) hx
theorem foN_eq (p : Nat → Int) (i : Nat) : ∀ k, i < k → foN p k i = foF p i (p i).toNat
  | 0, h => by omega
  | k + 1, h => by
    rw [foN]
    by_cases e : i = k
    · subst e; rw [updI_same]
    · rw [updI_far e, foN_eq p i k (by omega)]

/-- Labels that don't fall along any edge. -/
def Ups (n : Nat) (A : Nat → Nat) (p q : Nat → Int) (len : Nat) (o : Nat → Int) : Prop := ∀ i, i < len → leqB n A (o (p i).toNat) (o (q i).toNat) = true

/-- What holds at the head of each round of rise: the labels c, what is left of each thing's edges ce, the stack st. -/
structure RI (n : Nat) (A : Nat → Nat) (m : Nat) (p q : Nat → Int) (len : Nat) (f c ce : Nat → Int) (st : List Nat) : Prop where
  low : ∀ x, x < m → leqB n A (f x) (c x) = true
  least : ∀ o, Ups n A p q len o → (∀ x, x < m → leqB n A (f x) (o x) = true) → ∀ x, x < m → leqB n A (c x) (o x) = true
  things : ∀ x, x ∈ st → x < m
  chain : ∀ x, x < m → ce x = -1 ∨ ∃ j : Nat, j < len ∧ ce x = (j : Int) ∧ (p j).toNat = x
  pend : ∀ i, i < len → leqB n A (c (p i).toNat) (c (q i).toNat) = true ∨ ((p i).toNat ∈ st ∧ (i : Int) ≤ ce (p i).toNat)
  size : st.length + rooms n A c m ≤ m + n * m

/-- What rise leaves. -/
structure Raised (n : Nat) (A : Nat → Nat) (m : Nat) (p q : Nat → Int) (len : Nat) (f c : Nat → Int) : Prop where
  low : ∀ x, x < m → leqB n A (f x) (c x) = true
  up : Ups n A p q len c
  least : ∀ o, Ups n A p q len o → (∀ x, x < m → leqB n A (f x) (o x) = true) → ∀ x, x < m → leqB n A (c x) (o x) = true

/-- Both ends of each edge are things. -/
def Things (m : Nat) (p q : Nat → Int) (len : Nat) : Prop := ∀ i, i < len → (p i).toNat < m ∧ (q i).toNat < m

section
variable {n : Nat} {A B : Nat → Nat} {L : Nat → Nat → Bool} {m len : Nat} {p q f c ce : Nat → Int} {st : List Nat}

theorem RI.isL (h : RI n A m p q len f c ce st) {x : Nat} (hx : x < m) : isL n (c x) = true := (leqB_isL (h.low x hx)).2

theorem RI.start (h : GLat n A B L) (hE : Things m p q len) (hf : ∀ x, x < m → Ytmnbalmihehodaa.isL n (f x) = true) : RI n A m p q len f f (foF p len) (List.range m) where
  low x hx := h.refl (hf x hx)
  least o _ ho := ho
  things x hx := List.mem_range.1 hx
  chain x hx := by
    rcases foF_spec p x len with ⟨h1, _⟩ | ⟨j, j1, j2, j3, _⟩
    · exact .inl h1
    · exact .inr ⟨j, j1, j2, j3⟩
  pend i hi := by
    refine .inr ⟨List.mem_range.2 (hE i hi).1, ?_⟩
    rcases foF_spec p (p i).toNat len with ⟨_, h2⟩ | ⟨j, j1, j2, j3, j4⟩
    · exact absurd rfl (h2 i hi)
    · rw [j2]
      have := j4 i hi rfl
      omega
  size := by
    have := rooms_le n A f m
    rw [List.length_range]
    omega

/-- An edge along which nothing falls is passed by. -/
theorem RI.pass (h : RI n A m p q len f c ce st) {x i : Nat} (hx : x < m) (hi : i < len) (hc : ce x = (i : Int)) (hp : (p i).toNat = x) (hle : leqB n A (c x) (c (q i).toNat) = true) :
    RI n A m p q len f c (updI ce x (foN p len i)) st where
  low := h.low
  least := h.least
  things := h.things
  chain y hy := by
    by_cases e : y = x
    · subst e
      rw [updI_same, foN_eq p i len hi]
      rcases foF_spec p (p i).toNat i with ⟨h1, _⟩ | ⟨j, j1, j2, j3, _⟩
      · exact .inl h1
      · exact .inr ⟨j, by omega, j2, j3.trans hp⟩
    · rw [updI_far e]
      exact h.chain y hy
  pend j hj := by
    rcases h.pend j hj with hl | ⟨hs, hcj⟩
    · exact .inl hl
    · by_cases e : (p j).toNat = x
      · rw [e, hc] at hcj
        by_cases eji : j = i
        · subst eji
          rw [hp]
          exact .inl hle
        · refine .inr ⟨hs, ?_⟩
          rw [e, updI_same, foN_eq p i len hi, hp]
          rcases foF_spec p x i with ⟨_, h2⟩ | ⟨k, _, k2, _, k4⟩
          · exact absurd e (h2 j (by omega))
          · rw [k2]
            have := k4 j (by omega) e
            omega
      · rw [updI_far e]
        exact .inr ⟨hs, hcj⟩
  size := h.size

theorem foN_lt {i : Nat} (hi : i < len) : -1 ≤ foN p len i ∧ foN p len i < i := by
  rw [foN_eq p i len hi]
  rcases foF_spec p (p i).toNat i with ⟨h1, _⟩ | ⟨j, j1, j2, _, _⟩
  · rw [h1]; omega
  · rw [j2]; omega

/-- An edge along which something falls: its end is lifted, and stands on the stack anew. -/
theorem RI.lift (hG : GLat n A B L) (hE : Things m p q len) (h : RI n A m p q len f c ce st) {x i : Nat} (hx : x < m) (hi : i < len) (hc : ce x = (i : Int)) (hp : (p i).toNat = x)
    (hle : leqB n A (c x) (c (q i).toNat) = false) :
    RI n A m p q len f (updI c (q i).toNat (jI n A (c x) (c (q i).toNat))) (updI (updI ce x (foN p len i)) (q i).toNat (foF p len (q i).toNat)) (st ++ [(q i).toNat]) ∧
    rooms n A (updI c (q i).toNat (jI n A (c x) (c (q i).toNat))) m < rooms n A c m := by
  have hqm := (hE i hi).2
  have ix := h.isL hx
  have iq := h.isL hqm
  obtain ⟨u1, u2⟩ := hG.jI_up ix iq
  have hne : x ≠ (q i).toNat := by
    intro e
    rw [← e, hG.refl ix] at hle
    cases hle
  have hup : ∀ y, y < m → leqB n A (c y) (updI c (q i).toNat (jI n A (c x) (c (q i).toNat)) y) = true := by
    intro y hy
    by_cases e : y = (q i).toNat
    · subst e; rw [updI_same]; exact u2
    · rw [updI_far e]; exact hG.refl (h.isL hy)
  have hro := rooms_upd n A c (q i).toNat (jI n A (c x) (c (q i).toNat)) m hqm
  have hrl : room n A (jI n A (c x) (c (q i).toNat)) < room n A (c (q i).toNat) := hG.room_lt u2 (by
    cases hb : leqB n A (jI n A (c x) (c (q i).toNat)) (c (q i).toNat)
    · rfl
    · rw [hG.trans u1 hb] at hle; cases hle)
  refine ⟨⟨fun y hy => hG.trans (h.low y hy) (hup y hy), ?_, ?_, ?_, ?_, ?_⟩, by omega⟩
  · intro o ho hlo y hy
    have := h.least o ho hlo
    by_cases e : y = (q i).toNat
    · subst e
      rw [updI_same]
      refine hG.jI_least (hG.trans (this x hx) ?_) (this _ hy)
      have := ho i hi
      rwa [hp] at this
    · rw [updI_far e]
      exact this y hy
  · intro y hy
    rcases List.mem_append.1 hy with hy | hy
    · exact h.things y hy
    · rw [List.mem_singleton.1 hy]; exact hqm
  · intro y hy
    by_cases e : y = (q i).toNat
    · subst e
      rw [updI_same]
      rcases foF_spec p (q i).toNat len with ⟨h1, _⟩ | ⟨j, j1, j2, j3, _⟩
      · exact .inl h1
      · exact .inr ⟨j, j1, j2, j3⟩
    · rw [updI_far e]
      by_cases e2 : y = x
      · subst e2
        rw [updI_same, foN_eq p i len hi]
        rcases foF_spec p (p i).toNat i with ⟨h1, _⟩ | ⟨j, j1, j2, j3, _⟩
        · exact .inl h1
        · exact .inr ⟨j, by omega, j2, j3.trans hp⟩
      · rw [updI_far e2]
        exact h.chain y hy
  · intro j hj
    by_cases ej : (p j).toNat = (q i).toNat
    · refine .inr ⟨by rw [ej]; simp, ?_⟩
      rw [ej, updI_same]
      rcases foF_spec p (q i).toNat len with ⟨_, h2⟩ | ⟨k, _, k2, _, k4⟩
      · exact absurd ej (h2 j hj)
      · rw [k2]
        have := k4 j hj ej
        omega
    · have hcp : updI c (q i).toNat (jI n A (c x) (c (q i).toNat)) (p j).toNat = c (p j).toNat := updI_far ej
      rw [hcp, updI_far ej]
      rcases h.pend j hj with hl | ⟨hs, hcj⟩
      · exact .inl (hG.trans hl (hup _ (hE j hj).2))
      · by_cases e : (p j).toNat = x
        · rw [e, hc] at hcj
          by_cases eji : j = i
          · subst eji
            refine .inl ?_
            rw [hp, updI_same]
            exact u1
          · refine .inr ⟨List.mem_append_left _ hs, ?_⟩
            rw [e, updI_same, foN_eq p i len hi, hp]
            rcases foF_spec p x i with ⟨_, h2⟩ | ⟨k, _, k2, _, k4⟩
            · exact absurd e (h2 j (by omega))
            · rw [k2]
              have := k4 j (by omega) e
              omega
        · rw [updI_far e]
          exact .inr ⟨List.mem_append_left _ hs, hcj⟩
  · have := h.size
    rw [List.length_append, List.length_singleton]
    omega

/-- A thing whose edges are all passed by leaves the stack. -/
theorem RI.pop {x : Nat} (h : RI n A m p q len f c ce (st ++ [x])) (hc : ce x = -1) : RI n A m p q len f c ce st where
  low := h.low
  least := h.least
  things y hy := h.things y (List.mem_append_left _ hy)
  chain := h.chain
  pend i hi := by
    rcases h.pend i hi with hl | ⟨hs, hci⟩
    · exact .inl hl
    · rcases List.mem_append.1 hs with hs | hs
      · exact .inr ⟨hs, hci⟩
      · rw [List.mem_singleton.1 hs, hc] at hci
        omega
  size := by
    have := h.size
    rw [List.length_append, List.length_singleton] at this
    omega

theorem RI.done (h : RI n A m p q len f c ce []) : Raised n A m p q len f c :=
  ⟨h.low, (fun i hi => by
    rcases h.pend i hi with hl | ⟨hs, _⟩
    · exact hl
    · cases hs), h.least⟩

/-- There is just one such. -/
theorem Raised.one (hG : GLat n A B L) {d : Nat → Int} (h : Raised n A m p q len f c) (h' : Raised n A m p q len f d) {x : Nat} (hx : x < m) : c x = d x :=
  hG.anti (h.least d h'.up h'.low x hx) (h'.least c h.up h.low x hx)
end
end Go.Proofs.Ytmnbalmihehodaa

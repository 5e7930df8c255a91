/-
  The document's rounds, plainly: behind eight for each thing nothing falls along any edge.
-/
import Derived.Test.YtmnbalmihehodaaUp
namespace Go.Proofs.Ytmnbalmihehodaa
open Go.RowKit

/-- One edge: its end is joined with what it leads from. -/
def edStep (n : Nat) (A : Nat → Nat) (p q c : Nat → Int) (i : Nat) : Nat → Int := updI c (q i).toNat (jI n A (c (p i).toNat) (c (q i).toNat))
def edK (n : Nat) (A : Nat → Nat) (p q c : Nat → Int) : Nat → (Nat → Int)
  | 0 => c
  | k + 1 => edStep n A p q (edK n A p q c k) k
/-- So many rounds. -/
def roK (n : Nat) (A : Nat → Nat) (p q : Nat → Int) (len : Nat) (f : Nat → Int) : Nat → (Nat → Int)
  | 0 => f
  | t + 1 => edK n A p q (roK n A p q len f t) len

/-- At or above what was given, at or below whatever else rises. -/
structure UI (n : Nat) (A : Nat → Nat) (m : Nat) (p q : Nat → Int) (len : Nat) (f c : Nat → Int) : Prop where
  low : ∀ x, x < m → leqB n A (f x) (c x) = true
  least : ∀ o, Ups n A p q len o → (∀ x, x < m → leqB n A (f x) (o x) = true) → ∀ x, x < m → leqB n A (c x) (o x) = true

section
variable {n : Nat} {A B : Nat → Nat} {L : Nat → Nat → Bool} {m len : Nat} {p q f c : Nat → Int}

theorem UI.isL (h : UI n A m p q len f c) {x : Nat} (hx : x < m) : isL n (c x) = true := (leqB_isL (h.low x hx)).2

theorem UI.step (hG : GLat n A B L) (hE : Things m p q len) (h : UI n A m p q len f c) {i : Nat} (hi : i < len) : UI n A m p q len f (edStep n A p q c i) := by
  obtain ⟨hp, hq⟩ := hE i hi
  obtain ⟨u1, u2⟩ := hG.jI_up (h.isL hp) (h.isL hq)
  refine ⟨fun x hx => ?_, fun o ho hlo x hx => ?_⟩
  · unfold edStep
    by_cases e : x = (q i).toNat
    · subst e; rw [updI_same]; exact hG.trans (h.low _ hq) u2
    · rw [updI_far e]; exact h.low x hx
  · have hl := h.least o ho hlo
    unfold edStep
    by_cases e : x = (q i).toNat
    · subst e; rw [updI_same]; exact hG.jI_least (hG.trans (hl _ hp) (ho i hi)) (hl _ hq)
    · rw [updI_far e]; exact hl x hx
theorem UI.edges (hG : GLat n A B L) (hE : Things m p q len) (h : UI n A m p q len f c) : ∀ k, k ≤ len → UI n A m p q len f (edK n A p q c k)
  | 0, _ => h
  | k + 1, hk => (h.edges hG hE k (by omega)).step hG hE (by omega)
theorem ui_rounds (hG : GLat n A B L) (hE : Things m p q len) (hf : ∀ x, x < m → Ytmnbalmihehodaa.isL n (f x) = true) : ∀ t, UI n A m p q len f (roK n A p q len f t)
  | 0 => ⟨fun x hx => hG.refl (hf x hx), fun _ _ h => h⟩
  | t + 1 => (ui_rounds hG hE hf t).edges hG hE len (Nat.le_refl _)

theorem step_same (hG : GLat n A B L) {i : Nat} (h : leqB n A (c (p i).toNat) (c (q i).toNat) = true) : edStep n A p q c i = c := by
  funext x
  unfold edStep
  by_cases e : x = (q i).toNat
  · subst e; rw [updI_same, hG.jI_eq h]
  · rw [updI_far e]
theorem step_less (hG : GLat n A B L) {i : Nat} (hp : (p i).toNat < m) (hq : (q i).toNat < m) (hl : ∀ x, x < m → Ytmnbalmihehodaa.isL n (c x) = true) (h : leqB n A (c (p i).toNat) (c (q i).toNat) = false) :
    rooms n A (edStep n A p q c i) m < rooms n A c m := by
  obtain ⟨u1, u2⟩ := hG.jI_up (hl _ hp) (hl _ hq)
  have hro := rooms_upd n A c (q i).toNat (jI n A (c (p i).toNat) (c (q i).toNat)) m hq
  have hrl : room n A (jI n A (c (p i).toNat) (c (q i).toNat)) < room n A (c (q i).toNat) := hG.room_lt u2 (by
    cases hb : leqB n A (jI n A (c (p i).toNat) (c (q i).toNat)) (c (q i).toNat)
    · rfl
    · rw [hG.trans u1 hb] at h; cases h)
  unfold edStep
  omega

theorem edges_less (hG : GLat n A B L) (hE : Things m p q len) (h : UI n A m p q len f c) : ∀ k, k ≤ len →
    (edK n A p q c k = c ∧ ∀ i, i < k → leqB n A (c (p i).toNat) (c (q i).toNat) = true) ∨ rooms n A (edK n A p q c k) m < rooms n A c m
  | 0, _ => .inl ⟨rfl, fun i hi => absurd hi (Nat.not_lt_zero _)⟩
  | k + 1, hk => by
    obtain ⟨hp, hq⟩ := hE k (by omega)
    have hu := h.edges hG hE k (by omega)
    rcases edges_less hG hE h k (by omega) with ⟨he, hl⟩ | hr
    · rw [edK, he]
      cases hb : leqB n A (c (p k).toNat) (c (q k).toNat)
      · exact .inr (step_less hG hp hq (fun x hx => h.isL hx) hb)
      · refine .inl ⟨step_same hG hb, fun i hi => ?_⟩
        by_cases e : i = k
        · subst e; exact hb
        · exact hl i (by omega)
    · refine .inr ?_
      rw [edK]
      cases hb : leqB n A (edK n A p q c k (p k).toNat) (edK n A p q c k (q k).toNat)
      · exact Nat.lt_trans (step_less hG hp hq (fun x hx => hu.isL hx) hb) hr
      · rw [step_same hG hb]; exact hr
theorem edges_same (hG : GLat n A B L) (h : Ups n A p q len c) : ∀ k, k ≤ len → edK n A p q c k = c
  | 0, _ => rfl
  | k + 1, hk => by
    rw [edK, edges_same hG h k (by omega)]
    exact step_same hG (h k (by omega))

theorem rounds_less (hG : GLat n A B L) (hE : Things m p q len) (hf : ∀ x, x < m → Ytmnbalmihehodaa.isL n (f x) = true) : ∀ t,
    Ups n A p q len (roK n A p q len f t) ∨ rooms n A (roK n A p q len f t) m + t ≤ n * m
  | 0 => .inr (rooms_le n A f m)
  | t + 1 => by
    rcases rounds_less hG hE hf t with h | h
    · refine .inl ?_
      rw [roK, edges_same hG h len (Nat.le_refl _)]
      exact h
    · rcases edges_less hG hE (ui_rounds hG hE hf t) len (Nat.le_refl _) with ⟨he, hl⟩ | hr
      · refine .inl ?_
        rw [roK, he]
        exact hl
      · refine .inr ?_
        rw [roK]
        omega

theorem room_pos (hG : GLat n A B L) {a : Int} (ha : Ytmnbalmihehodaa.isL n a = true) : 1 ≤ room n A a := by
  have := isL_iff.1 ha
  unfold room
  refine List.length_pos_of_mem (a := a.toNat) (List.mem_filter.2 ⟨List.mem_range.2 (by omega), ?_⟩)
  rw [show ((a.toNat : Nat) : Int) = a by omega]
  exact hG.refl ha
theorem rooms_pos (hG : GLat n A B L) (k : Nat) (hk : 1 ≤ k) (hl : ∀ x, x < k → Ytmnbalmihehodaa.isL n (c x) = true) : 1 ≤ rooms n A c k := by
  match k, hk with
  | k + 1, _ =>
    have := room_pos hG (hl k (by omega))
    rw [rooms]
    omega

/-- The document's rounds raise the labels. -/
theorem ref_raised (hG : GLat n A B L) (hE : Things m p q len) (hf : ∀ x, x < m → Ytmnbalmihehodaa.isL n (f x) = true) : Raised n A m p q len f (roK n A p q len f (8 * m)) := by
  have hu := ui_rounds hG hE hf (8 * m)
  refine ⟨hu.low, ?_, hu.least⟩
  rcases rounds_less hG hE hf (8 * m) with h | h
  · exact h
  · intro i hi
    have h1 := (hE i hi).1
    have h2 := rooms_pos (c := roK n A p q len f (8 * m)) hG m (by omega) (fun x hx => hu.isL hx)
    have h3 : n * m ≤ 8 * m := Nat.mul_le_mul_right m hG.n8
    omega
end
end Go.Proofs.Ytmnbalmihehodaa

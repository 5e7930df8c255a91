/-
  Joins and meets of a lattice, plainly: no walk.
-/
import Derived.Test.YtmnbalmihehodaaMath3
namespace Go.Proofs.Ytmnbalmihehodaa
open Go.RowKit

/-- The sets above and below, and the order that they tell, are a lattice. -/
structure GLat (n : Nat) (A B : Nat → Nat) (L : Nat → Nat → Bool) : Prop where
  pos : 1 ≤ n
  n8 : n ≤ 8
  up : Rel n A L
  dn : Rel n B (flip L)
  lat : IsLat n L

section
variable {n : Nat} {A B : Nat → Nat} {L : Nat → Nat → Bool}

theorem jn_spec (hr : Rel n A L) (hl : IsLat n L) {a b : Nat} (ha : a < n) (hb : b < n) :
    jn n A a b < n ∧ L a (jn n A a b) = true ∧ L b (jn n A a b) = true ∧ ∀ d, d < n → L a d = true → L b d = true → L (jn n A a b) d = true := by
  unfold jn
  rw [hr.fnd_eq ha hb]
  obtain ⟨c, hc⟩ := Option.isSome_iff_exists.1 (hl.join a b ha hb)
  obtain ⟨h1, h2⟩ := rJ_is hc
  rw [hc]
  obtain ⟨c1, c2, c3⟩ := isJ_iff.1 h2
  exact ⟨h1, c1, c2, c3⟩
theorem GLat.jn_lt (h : GLat n A B L) (x y : Nat) (hx : x < n) (hy : y < n) : jn n A x y < n := (jn_spec h.up h.lat hx hy).1
theorem GLat.mt_lt (h : GLat n A B L) (x y : Nat) (hx : x < n) (hy : y < n) : jn n B x y < n := (jn_spec h.dn h.lat.dual hx hy).1
theorem GLat.rJ_eq (h : GLat n A B L) {x y : Nat} (hx : x < n) (hy : y < n) : rJ n L x y = some (jn n A x y) := by
  obtain ⟨c, hc⟩ := Option.isSome_iff_exists.1 (h.lat.join x y hx hy)
  unfold jn
  rw [h.up.fnd_eq hx hy, hc]
  rfl
theorem GLat.rM_eq (h : GLat n A B L) {x y : Nat} (hx : x < n) (hy : y < n) : rJ n (flip L) x y = some (jn n B x y) := by
  obtain ⟨c, hc⟩ := Option.isSome_iff_exists.1 (h.lat.dual.join x y hx hy)
  unfold jn
  rw [h.dn.fnd_eq hx hy, hc]
  rfl
theorem GLat.bot_lt (h : GLat n A B L) : botK n A n < n := by rw [botK_eq h.up h.lat h.pos]; exact rbF_lt h.pos _
theorem GLat.top_lt (h : GLat n A B L) : topK n A n < n := by rw [topK_eq h.up h.lat h.pos]; exact rbF_lt h.pos _
theorem GLat.bot_le (h : GLat n A B L) {x : Nat} (hx : x < n) : L (botK n A n) x = true := by
  rw [botK_eq h.up h.lat h.pos]
  exact h.lat.dual.rb_top h.pos (n - 1) (by omega) x (by omega)
end

theorem mk_good {n : Int} {len : Nat} {p q : Nat → Int} (hm : mbo n len p q = true) (hl : mkL n len p q = true) : GLat n.toNat (mkA n len p q) (mkB n len p q) (rcl n.toNat len p q) := by
  obtain ⟨h1, h2⟩ := mk_rel hm
  obtain ⟨b1, b2, _, _⟩ := mbo_iff hm
  exact ⟨by omega, by omega, h1, h2, (mkL_iff hm).1 hl⟩
end Go.Proofs.Ytmnbalmihehodaa

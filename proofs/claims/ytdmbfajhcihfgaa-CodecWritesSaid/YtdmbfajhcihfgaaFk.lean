/-
  Keys of floats, plainly (where a seat has not the whole of the laws' facts on floats: the same names).
-/
import Derived.Test.YtdmbfajhcihfgaaFa
namespace Go.Proofs.Ytdmbfajhcihfgaa
open Go.RowKit Ieee

theorem canon_nan {b : Nat} (h : nanB b = true) : canonW b = 9221120237041090560 := by unfold canonW; rw [if_pos h]
theorem word_is {a b : Nat} (ha : okW a) (hb : okW b) (hs : sgn a = sgn b) (hr : rung a = rung b) : a = b := by
  have h1 := word_parts a ha
  have h2 := word_parts b hb
  unfold sgn at hs
  unfold rung at hr
  rw [← h1, ← h2, hs, hr]
theorem rung_nan {b : Nat} (h : nanB b = true) : 9218868437227405312 < rung b := by unfold nanB at h; simpa using h
theorem rung_num {b : Nat} (h : nanB b = false) : rung b ≤ 9218868437227405312 := by unfold nanB at h; simpa using h
theorem canon_num {b : Nat} (h : nanB b = false) : canonW b = b := by unfold canonW; rw [if_neg (by rw [h]; exact Bool.false_ne_true)]
/-- Two stand at one place just if they are one, once all NaN are one. -/
theorem same_key {a b : Nat} (ha : okW a) (hb : okW b) : (keyI a = keyI b) ↔ canonW a = canonW b := by
  cases hna : nanB a
  · cases hnb : nanB b
    · obtain ⟨ka, ra⟩ := keyI_num ha hna
      obtain ⟨kb, rb⟩ := keyI_num hb hnb
      rw [ka, kb, canon_num hna, canon_num hnb]
      constructor
      · intro h
        refine word_is ha hb ?_ ?_
        · cases hs : sgn a <;> cases ht : sgn b <;> simp [hs, ht] at h <;> first | rfl | omega
        · cases hs : sgn a <;> cases ht : sgn b <;> simp [hs, ht] at h <;> omega
      · rintro rfl; rfl
    · obtain ⟨ka, ra⟩ := keyI_num ha hna
      rw [ka, keyI_nan hnb, canon_num hna, canon_nan hnb]
      constructor
      · intro h; split at h <;> omega
      · rintro rfl; exact absurd hna (by decide)
  · cases hnb : nanB b
    · obtain ⟨kb, rb⟩ := keyI_num hb hnb
      rw [kb, keyI_nan hna, canon_num hnb, canon_nan hna]
      constructor
      · intro h; split at h <;> omega
      · intro h; rw [← h] at hnb; exact absurd hnb (by decide)
    · rw [keyI_nan hna, keyI_nan hnb, canon_nan hna, canon_nan hnb]
      exact ⟨fun _ => rfl, fun _ => rfl⟩
theorem ord_zero (x y : Int) : ordI x y = 0 ↔ x = y := by unfold ordI; split <;> (try split) <;> omega
end Go.Proofs.Ytdmbfajhcihfgaa

/-
  The document's reader: Type, whole.
-/
import Derived.Test.YteclpehbpicpaaaJem
import Derived.Test.YteclpehbpicpaaaJfm
namespace Go.Proofs.Yteclpehbpicpaaa
open Go.RowKit

theorem tendP_eq (r : Except Nat (List (ByteArray × TT) × Nat × List UInt8)) : tendP r = (match r with | .error c => .error c | .ok (xs, p', r) => .ok (trec xs, p', r)) := by
  cases r with
  | error c => rfl
  | ok q => obtain ⟨xs, p, l⟩ := q; rfl
/-- The document's reader of a type answers tP. -/
theorem RType_any {g : Nat} {s : ByteArray} (hs : s.size ≤ 1000000000) : ∀ (q : Nat) (w : World) (a p : Nat), q ≤ 13 → Rdr w g s a 0 p → a ≤ s.size → p ≤ 200 →
    Calls Try.prog 65 #[.pointer (some ⟨g, 0, none⟩), .int .i64 (13 - (q : Int))] w fun x w' => TEnds s w g (tP q p (left s a)) x w' := by
  intro q
  induction q with
  | zero =>
    intro w a p hq h ha hp
    exact RType_begin h (by omega) (.inl (by omega))
  | succ q ih =>
    intro w a p hq h ha hp
    have hd : (13 - ((q + 1 : Nat) : Int)) + 1 = 13 - (q : Int) := by omega
    by_cases ha' : a < s.size
    · rw [left_cons ha', tP_cons]
      by_cases h1 : 200 < p + 1
      · rw [if_pos h1]
        exact RType_begin h (by omega) (.inr h1)
      · have hb : ¬ (12 < 13 - ((q + 1 : Nat) : Int) ∨ 200 < p + 1) := by omega
        rw [if_neg h1]
        by_cases h2 : s[a].toNat < 1 ∨ 7 < s[a].toNat
        · rw [if_pos h2]
          exact RType_kind h hb ha' hs rfl (by omega)
        · rw [if_neg h2]
          by_cases h5 : s[a].toNat = 5
          · rw [if_pos h5]
            have := RType_5 (F := tP q) (by omega) (tP_parts q) (fun w a p h1 h2 h3 => by rw [hd]; exact ih w a p (by omega) h1 h2 h3) h hb ha' hs (by rw [h5]; rfl)
            unfold tlP at this
            exact this
          · rw [if_neg h5]
            by_cases h6 : s[a].toNat = 6
            · rw [if_pos h6]
              cases hm : mP (left s (a + 1)) with
              | error c => exact RType_6e hm h hb ha' hs (by rw [h6]; rfl)
              | ok z =>
                obtain ⟨n, l0⟩ := z
                have := RType_6 (F := tP q) (by omega) (tP_parts q) (fun w a p h1 h2 h3 => by rw [hd]; exact ih w a p (by omega) h1 h2 h3) hm (mP_le hm) h hb ha' hs (by rw [h6]; rfl)
                rw [tendP_eq] at this
                exact this
            · rw [if_neg h6]
              exact RType_leaf (by omega) (by omega) h5 h6 h hb ha' hs rfl
    · rw [left_nil (by omega), tP_nil]
      by_cases h1 : 200 < p + 1
      · rw [if_pos h1]
        exact RType_begin h (by omega) (.inr h1)
      · rw [if_neg h1]
        exact RType_end h (by omega) (by omega)
end Go.Proofs.Yteclpehbpicpaaa

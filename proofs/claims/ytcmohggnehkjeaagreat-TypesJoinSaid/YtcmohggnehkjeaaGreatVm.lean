/-
  Contracts of basculeref04's right, Right, over trees.
-/
import Derived.Test.YtcmohggnehkjeaaGreatVk5
import Derived.Test.YtcmohggnehkjeaaGreatVk6
namespace Go.Proofs.YtcmohggnehkjeaaGreat
open Go.RowKit

theorem right_any : ∀ (t : VT) (v : Array Value) (far : Int) (w : World), Val w w.heap.size v t → 0 ≤ far → far ≤ 1000 →
    Calls Tryz.prog 75 #[.agg v, .int .i64 far] w fun e w' => e = .returned (.bool (rightV t far)) ∧ Below w.heap.size w w' := by
  intro t
  induction t with
  | bad => intro v far w h; cases h
  | mk k n f s c ns m xs ih =>
    intro v far w h h0 h9
    cases h with
    | mk _ _ _ _ A _ ca B _ cb _ _ vs hk hn hf hs hc hm hns hB hxs =>
      have hcx : c ≤ 9223372036854775807 := by have := hc; unfold maxLen at this; omega
      have hmx : m ≤ 9223372036854775807 := by have := hm; unfold maxLen at this; omega
      unfold rightV
      by_cases h1 : 1 ≤ far
      · rw [decide_eq_true h1, Bool.true_and]
        by_cases k5 : k = 5
        · subst k5
          rw [if_pos (.inl rfl)]
          exact right_5 h1 h9 hmx hB hxs fun i => ih i
        · by_cases k6 : k = 6
          · subst k6
            rw [if_pos (.inr rfl)]
            exact right_6 h1 h9 hmx hcx hns hB hxs fun i => ih i
          · rw [if_neg (by omega)]
            by_cases k1 : k = 1
            · subst k1; exact right_1 h1
            · by_cases k2 : k = 2
              · subst k2; exact right_2 h1
              · by_cases k3 : k = 3
                · subst k3; exact right_3 h1
                · by_cases k4 : k = 4
                  · subst k4; exact right_4 h1
                  · have e : plainB k n f s c m = false := by unfold plainB; rw [if_neg k1, if_neg k2, if_neg k3, if_neg k4]
                    rw [e]
                    exact right_none h1 ⟨k1, k2, k3, k4, k5, k6⟩
      · rw [decide_eq_false h1, Bool.false_and]
        exact right_far h1
def okV (t : VT) : Bool := decide (cntV t 0 ≤ 200) && rightV t 12
theorem Right_any {t : VT} {v : Array Value} {w : World} (hv : Val w w.heap.size v t) : Calls Tryz.prog 41 #[.agg v] w fun e w' => e = .returned (.bool (okV t)) ∧ Below w.heap.size w w' := by
  have hbW : Below w.heap.size w (w.alloc (.cells v 38)) := (Below.refl _ _).alloc (Nat.le_refl _) _
  have hvW := (hv.stay hbW).mono hbW.size
  have P := vparts_any hvW
  have R := fun w' (hb : Below (w.alloc (.cells v 38)).heap.size (w.alloc (.cells v 38)) w') => right_any t v 12 w' ((hvW.stay hb).mono hb.size) (by omega) (by omega)
  obtain ⟨a0, a1, a2, a3, a4, a5, rfl⟩ := hv.six
  have HK := box_stays (w := w) (a0 := a0) (a1 := a1) (a2 := a2) (a3 := a3) (a4 := a4) (a5 := a5) (t := 38)
  have HR := Lib.hid R
  unfold okV
  have h2 := cntV_in t 0 (by omega) (by omega)
  generalize cntV t 0 = p at *
  generalize rightV t 12 = r at *
  clear hv hvW R
  by_cases hp : p ≤ 200
  · go_enter Tryz.func41, Tryz.ntmps41
    go_wp2_with fail
    refine P.mono ?_
    rintro e w1 ⟨rfl, hb1⟩
    obtain ⟨c0, c1, c2, c3, c4, c5⟩ := HK.out w1 hb1
    have hfin := hbW.trans (hb1.mono hbW.size)
    go_wp2_with (go_at_call 75; refine (HR.out w1 hb1).mono ?_; rintro e w2 ⟨rfl, hb2⟩)
    go_ret
    exact ⟨by rw [decide_eq_true hp, Bool.true_and]; rfl, hfin.trans (hb2.mono hfin.size)⟩
  · go_enter Tryz.func41, Tryz.ntmps41
    go_wp2_with fail
    refine P.mono ?_
    rintro e w1 ⟨rfl, hb1⟩
    have hfin := hbW.trans (hb1.mono hbW.size)
    go_wp2_with fail
    go_ret
    exact ⟨by simp only [decide_eq_false (show ¬ p ≤ 200 by omega), Bool.false_and]; rfl, hfin⟩
end Go.Proofs.YtcmohggnehkjeaaGreat

/-
  Contracts of basculeref08's right, Right, Small, over trees.
-/
import Derived.Test.YtcmohggnehkjeaaGreatXr2
import Derived.Test.YtcmohggnehkjeaaGreatXr3
namespace Go.Proofs.YtcmohggnehkjeaaGreat
open Go.RowKit


theorem right_e : ∀ (t : ET) (v : Array Value) (far : Int) (w : World), EVal w w.heap.size v t → far ≤ 1000 → -9223372036854775000 ≤ far →
    Calls Tryz.prog 62 #[.agg v, .int .i64 far] w fun e w' => e = .returned (.bool (rightE t far)) ∧ Below w.heap.size w w' := by
  intro t
  induction t with
  | bad => intro v far w h; cases h
  | mk k s v0 c ns m xs ih =>
    intro v far w h h9 h0
    cases h with
    | mk _ _ a0 a1 a2 a3 a4 a5 _ A _ ca B _ cb _ _ vs hk hs hv hc hm hns hB hxs =>
      have hcx : c ≤ 9223372036854775807 := by have := hc; unfold maxLen at this; omega
      have hmx : m ≤ 9223372036854775807 := by have := hm; unfold maxLen at this; omega
      have hsx : s.size ≤ 9223372036854775807 := by unfold maxLen at hs; omega
      by_cases k1 : k = 1
      · subst k1; exact right_e1 h9 hmx hcx hsx hv hns hB hxs (fun i => ih i) h0
      by_cases k2 : k = 2
      · subst k2; exact right_e2 h9 hmx hcx hsx hv hns hB hxs (fun i => ih i) h0
      by_cases k17 : k = 17
      · subst k17; exact right_e17 h9 hmx hcx hsx hv hns hB hxs (fun i => ih i) h0
      by_cases k18 : k = 18
      · subst k18; exact right_e18 h9 hmx hcx hsx hv hns hB hxs (fun i => ih i) h0
      exact right_ex k1 k2 k17 k18 h9 hmx hcx hsx hv hns hB hxs (fun i => ih i) h0
def okE (t : ET) : Bool := decide (ecntV t 0 ≤ 200) && rightE t 12
set_option maxRecDepth 20000 in
theorem Right_e {t : ET} {v : Array Value} {w : World} (hv : EVal w w.heap.size v t) : Calls Tryz.prog 27 #[.agg v] w fun e w' => e = .returned (.bool (okE t)) ∧ Below w.heap.size w w' := by
  have hbW : Below w.heap.size w (w.alloc (.cells v 44)) := (Below.refl _ _).alloc (Nat.le_refl _) _
  have hvW := (hv.stay hbW).mono hbW.size
  have P := eparts_any hvW
  have R := fun w' (hb : Below (w.alloc (.cells v 44)).heap.size (w.alloc (.cells v 44)) w') => right_e t v 12 w' ((hvW.stay hb).mono hb.size) (by omega) (by omega)
  obtain ⟨b0, b1, b2, b3, b4, b5, b6, b7, b8, b9, rfl⟩ := hv.ten
  have HK := ten_stays (w := w) (b0 := b0) (b1 := b1) (b2 := b2) (b3 := b3) (b4 := b4) (b5 := b5) (b6 := b6) (b7 := b7) (b8 := b8) (b9 := b9) (t := 44)
  have HR := Lib.hid R
  unfold okE
  have h2 := ecntV_in t 0 (by omega) (by omega)
  generalize ecntV t 0 = p at *
  generalize rightE t 12 = r at *
  clear hv hvW R
  by_cases hp : p ≤ 200
  · go_enter Tryz.func27, Tryz.ntmps27
    go_wp2_with fail
    refine P.mono ?_
    rintro e w1 ⟨rfl, hb1⟩
    obtain ⟨c0, c1, c2, c3, c4, c5, c6, c7, c8, c9⟩ := HK.out w1 hb1
    have hfin := hbW.trans (hb1.mono hbW.size)
    go_wp2_with (go_at_call 62; refine (HR.out w1 hb1).mono ?_; rintro e w2 ⟨rfl, hb2⟩)
    go_ret
    exact ⟨by rw [decide_eq_true hp, Bool.true_and]; rfl, hfin.trans (hb2.mono hfin.size)⟩
  · go_enter Tryz.func27, Tryz.ntmps27
    go_wp2_with fail
    refine P.mono ?_
    rintro e w1 ⟨rfl, hb1⟩
    have hfin := hbW.trans (hb1.mono hbW.size)
    go_wp2_with fail
    go_ret
    exact ⟨by simp only [decide_eq_false (show ¬ p ≤ 200 by omega), Bool.false_and]; rfl, hfin⟩
/-- Small enough to be gone over. -/
def smallE : ET → Bool
  | .bad => false
  | .mk k s v c ns m xs => decide (edepV (.mk k s v c ns m xs) 40 ≤ 30) && (decide (ecntV (.mk k s v c ns m xs) 0 < 500) && (smallV v && (List.range m).all fun i => smallE (xs i)))
set_option maxRecDepth 20000 in
set_option maxHeartbeats 2000000 in
theorem Small_e : ∀ (t : ET) (v : Array Value) (w : World), EVal w w.heap.size v t →
    Calls Tryz.prog 20 #[.agg v] w fun e w' => e = .returned (.bool (smallE t)) ∧ Below w.heap.size w w' := by
  intro t
  induction t with
  | bad => intro v w h; cases h
  | mk k s v0 c ns m xs ih =>
    intro v w h
    have hall := h
    cases h with
    | mk _ _ a0 a1 a2 a3 a4 a5 _ A _ ca B _ cb _ _ vs hk hs hv hc hm hns hB hxs =>
      have hmx : m ≤ 9223372036854775807 := by have := hm; unfold maxLen at this; omega
      unfold efields at *
      obtain ⟨W1, hW1⟩ : ∃ W1, W1 = w.alloc (.cells #[.int .i64 k, .string s, a0, a1, a2, a3, a4, a5, .slice A c ca, .slice B m cb] 44) := ⟨_, rfl⟩
      have hbW : Below w.heap.size w (w.alloc (.cells #[.int .i64 k, .string s, a0, a1, a2, a3, a4, a5, .slice A c ca, .slice B m cb] 44)) := (Below.refl _ _).alloc (Nat.le_refl _) _
      have hvW := (hall.stay hbW).mono hbW.size
      have D := edepth_any _ _ 40 _ hvW (by omega) (by omega)
      have P := fun w' (hb : Below _ _ w') => eparts_any ((hvW.stay hb).mono hb.size)
      have S := fun w' (hb : Below _ _ w') => small_any ((((hv.stay hbW).mono hbW.size).stay hb).mono hb.size)
      have HK := ten_stays (w := w) (b0 := .int .i64 k) (b1 := .string s) (b2 := a0) (b3 := a1) (b4 := a2) (b5 := a3) (b6 := a4) (b7 := a5) (b8 := .slice A c ca) (b9 := .slice B m cb) (t := 44)
      have HP := Lib.hid P
      have HS := Lib.hid S
      have HW1 := Lib.hid hW1
      have HFIN : Hid (∀ w', Below W1.heap.size W1 w' → Below w.heap.size w w') := Lib.hid fun w' h => by rw [hW1] at h; exact hbW.trans (h.mono hbW.size)
      have HCEL : Hid (∀ w', Below W1.heap.size W1 w' → w'.cell? ⟨w.heap.size, 9, none⟩ = some (.slice B m cb)) := Lib.hid fun w' h => by
        rw [hW1] at h
        obtain ⟨_, _, _, _, _, _, _, _, _, q9⟩ := HK.out w' h
        exact q9
      obtain ⟨T, hT0⟩ : ∃ T, T = smallE (.mk k s v0 c ns m xs) := ⟨_, rfl⟩
      rw [← hT0]
      unfold smallE at hT0
      have d1 := edepV_in (.mk k s v0 c ns m xs) 40
      have p1 := ecntV_in (.mk k s v0 c ns m xs) 0 (by omega) (by omega)
      generalize edepV (.mk k s v0 c ns m xs) 40 = d at *
      generalize ecntV (.mk k s v0 c ns m xs) 0 = p at *
      clear hall hvW P S hW1 hv hns
      by_cases hd : d ≤ 30
      · have td : decide (30 < d) = false := by simp; omega
        rw [decide_eq_true hd, Bool.true_and] at hT0
        by_cases hp : p < 500
        · have tp : decide (500 ≤ p) = false := by simp; omega
          rw [decide_eq_true hp, Bool.true_and] at hT0
          cases hsv : smallV v0 with
          | false =>
            have R : Hid (T = false) := Lib.hid (by rw [hT0, hsv]; rfl)
            rw [hsv] at HS
            clear hT0 hsv ih hxs hB hbW
            go_enter Tryz.func20, Tryz.ntmps20
            go_wp2_with (first
              | (go_at_call 43; refine D.mono ?_; rintro e w1 ⟨rfl, hb1⟩; obtain ⟨c0, c1, c2, c3, c4, c5, c6, c7, c8, c9⟩ := HK.out w1 hb1)
              | (go_at_call 44; refine (HP.out w1 hb1).mono ?_; rintro e w2 ⟨rfl, hb2⟩; have hb3 := hb1.trans (hb2.mono hb1.size); obtain ⟨e0, e1, e2, e3, e4, e5, e6, e7, e8, e9⟩ := HK.out w2 hb3)
              | (go_at_call 18; refine (HS.out w2 hb3).mono ?_; rintro e w3 ⟨rfl, hb4⟩))
            go_ret
            exact ⟨by rw [R.out]; rfl, HFIN.out _ (by rw [HW1.out]; exact hb3.trans (hb4.mono hb3.size))⟩
          | true =>
            have HT : Hid (T = (List.range m).all fun i => smallE (xs i)) := Lib.hid (by rw [hT0, hsv, Bool.true_and])
            rw [hsv] at HS
            clear hT0 hsv hbW
            go_enter Tryz.func20, Tryz.ntmps20
            go_wp2_with (first
              | (go_at_call 43; refine D.mono ?_; rintro e w1 ⟨rfl, hb1⟩; obtain ⟨c0, c1, c2, c3, c4, c5, c6, c7, c8, c9⟩ := HK.out w1 hb1)
              | (go_at_call 44; refine (HP.out w1 hb1).mono ?_; rintro e w2 ⟨rfl, hb2⟩; have hb3 := hb1.trans (hb2.mono hb1.size); obtain ⟨e0, e1, e2, e3, e4, e5, e6, e7, e8, e9⟩ := HK.out w2 hb3)
              | (go_at_call 18; refine (HS.out w2 hb3).mono ?_; rintro e w3 ⟨rfl, hb4⟩))
            have hb5 := hb3.trans (hb4.mono hb3.size)
            rw [← HW1.out] at hb5
            clear hb1 hb2 hb3 hb4 c0 c1 c2 c3 c4 c5 c6 c7 c8 c9 e0 e1 e2 e3 e4 e5 e6 e7 e8 e9 D HP HS
            go_loopw [3] (fun iv wr => ∃ i : Nat, i ≤ m ∧ iv = .int .i64 i ∧ Hid (∀ j, j < i → smallE (xs j) = true) ∧ Below W1.heap.size W1 wr) (fun iv _ => m - (intOf iv).toNat)
            case atStart => exact ⟨0, Nat.zero_le _, by go_num, Lib.hid fun j hj => absurd hj (by omega), hb5⟩
            case round =>
              obtain ⟨i, hi, rfl, hh, hbS⟩ := hrel
              have n9 := HCEL.out _ hbS
              have hfin := HFIN.out _ hbS
              by_cases hlt : i < m
              · obtain ⟨g, o, rfl, hg, hx⟩ := hB (by omega)
                have hvr := ((hxs i hlt).stay hfin).mono hfin.size
                have hcall := ih i (vs i) _ hvr
                have hten := (hx i hlt).keep fun o => hfin.cell (p := ⟨g, o, none⟩) hg
                obtain ⟨e0, e1, e2, e3, e4, e5, e6, e7, e8, e9, hv0⟩ := (hxs i hlt).ten
                rw [hv0] at hten hcall
                obtain ⟨x0, x1, x2, x3, x4, x5, x6, x7, x8, x9⟩ := hten.cells
                have yes : smallE (xs i) = true → Hid (∀ j, j < i + 1 → smallE (xs j) = true) := fun hy => Lib.hid fun j hj => by
                  by_cases e : j = i
                  · subst e; exact hy
                  · exact hh.out j (by omega)
                have no : smallE (xs i) = false → Hid (T = false) := fun hn => Lib.hid (by
                  rw [HT.out, List.all_eq_false.2 ⟨i, List.mem_range.2 hlt, by rw [hn]; simp⟩])
                clear hv0 hten hvr hx hB ih hxs hh
                cases hr : smallE (xs i)
                · have N := no hr
                  rw [hr] at hcall
                  clear yes no hr HT
                  go_wp2_with (go_at_call 20; refine hcall.mono ?_; rintro e w5 ⟨rfl, hb5⟩)
                  go_ret
                  exact ⟨by rw [N.out]; rfl, hfin.trans (hb5.mono hfin.size)⟩
                · have Y := yes hr
                  rw [hr] at hcall
                  clear yes no hr HT
                  go_wp2_with (go_at_call 20; refine hcall.mono ?_; rintro e w5 ⟨rfl, hb5⟩)
                  go_roundw
                  case rel => exact ⟨i + 1, by omega, by go_num, Y, hbS.trans (hb5.mono hbS.size)⟩
                  case measure => simp [intOf]; omega
              · have R : Hid (T = true) := Lib.hid (by rw [HT.out, List.all_eq_true.2 fun j hj => hh.out j (by have := List.mem_range.1 hj; omega)])
                clear hh HT ih hxs hB
                go_wp2_with fail
                go_ret
                exact ⟨by rw [R.out]; rfl, hfin⟩
        · have tp : decide (500 ≤ p) = true := by simp; omega
          have R : Hid (T = false) := Lib.hid (by rw [hT0, decide_eq_false hp]; rfl)
          clear hT0 ih hxs hB hbW hp
          go_enter Tryz.func20, Tryz.ntmps20
          go_wp2_with (first
            | (go_at_call 43; refine D.mono ?_; rintro e w1 ⟨rfl, hb1⟩; obtain ⟨c0, c1, c2, c3, c4, c5, c6, c7, c8, c9⟩ := HK.out w1 hb1)
            | (go_at_call 44; refine (HP.out w1 hb1).mono ?_; rintro e w2 ⟨rfl, hb2⟩; have hb3 := hb1.trans (hb2.mono hb1.size)))
          go_ret
          exact ⟨by rw [R.out]; rfl, HFIN.out _ (by rw [HW1.out]; exact hb3)⟩
      · have td : decide (30 < d) = true := by simp; omega
        have R : Hid (T = false) := Lib.hid (by rw [hT0, decide_eq_false hd]; rfl)
        clear hT0 ih hxs hB hbW hd
        go_enter Tryz.func20, Tryz.ntmps20
        go_wp2_with (go_at_call 43; refine D.mono ?_; rintro e w1 ⟨rfl, hb1⟩)
        go_ret
        exact ⟨by rw [R.out]; rfl, HFIN.out _ (by rw [HW1.out]; exact hb1)⟩
end Go.Proofs.YtcmohggnehkjeaaGreat

/-
  Contracts of the program's isRightWithin, isRight, TypeRight, of types.
-/
import Derived.Test.YtdmbfajhcihfgaaPt
namespace Go.Proofs.Ytdmbfajhcihfgaa
open Go.RowKit

set_option maxHeartbeats 2000000 in
theorem twithin_any : ∀ (t : TT) (v : Array Value) (far : Int) (w : World), TVal w w.heap.size v t → 0 ≤ far → far ≤ 1000 →
    Calls Try.prog 97 #[.agg v, .int .i64 far, .func (.func 67) #[] #[], .func (.func 68) #[] #[]] w fun e w' => e = .returned (.bool (trightV t far)) ∧ Below w.heap.size w w' := by
  intro t
  induction t with
  | bad => intro v q w hv; cases hv
  | mk k c ns m xs ih =>
    intro v far w hv h0 h9
    cases hv with
    | mk _ A _ ca B _ cb _ _ vs hk hc hm hns hB hxs =>
      have hmx : m ≤ 9223372036854775807 := by have := hm; unfold maxLen at this; omega
      have hcx : c ≤ 9223372036854775807 := by have := hc; unfold maxLen at this; omega
      have hbW : Below w.heap.size w (w.alloc (.cells (tfields k A c ca B m cb) 30)) := (Below.refl _ _).alloc (Nat.le_refl _) _
      have HK := box3_stays (w := w) (a0 := .int .i64 k) (a1 := .slice A c ca) (a2 := .slice B m cb) (t := 30)
      have I := fun W => titems_any (k := k) (A := A) (c := c) (ca := ca) (B := B) (m := m) (cb := cb) W
      have AL := talone_f (k := k) (A := A) (c := c) (ca := ca) (B := B) (m := m) (cb := cb) (ns := ns) (strs_mono (strs_keep hns hbW) hbW.size) hcx
      unfold tfields at *
      by_cases hz : far = 0
      · have R : Hid (trightV (.mk k c ns m xs) far = false) := Lib.hid (by unfold trightV; rw [decide_eq_false (by omega), Bool.false_and])
        subst hz
        clear ih hxs hB AL I hns
        go_enter Try.func97, Try.ntmps97
        go_wp2_with fail
        go_ret
        exact ⟨by rw [R.out]; rfl, hbW⟩
      · have tz : (far == 0) = false := by simpa using hz
        have RM := tright_mk k c ns m xs (show 1 ≤ far by omega)
        cases ha : taloneB k c ns m with
        | false =>
          rw [ha] at AL
          have R : Hid (trightV (.mk k c ns m xs) far = false) := Lib.hid (by rw [RM, ha, Bool.false_and])
          clear ih hxs hB I hns RM ha
          go_enter Try.func97, Try.ntmps97
          go_wp2_with (go_at_call 68; refine AL.mono ?_; rintro e w1 ⟨rfl, hb1⟩)
          go_ret
          exact ⟨by rw [R.out]; rfl, hbW.trans (hb1.mono hbW.size)⟩
        | true =>
          rw [ha] at AL RM
          rw [Bool.true_and] at RM
          have HR := Lib.hid RM
          clear RM ha
          go_enter Try.func97, Try.ntmps97
          go_wp2_with (first | (go_at_call 68; refine AL.mono ?_; rintro e w1 ⟨rfl, hb1⟩; obtain ⟨q0, q1, q2⟩ := HK.out w1 hb1) | (go_at_call 67; refine (I _).mono ?_; rintro e w2 ⟨rfl, hb2⟩))
          have hW1 : Below w.heap.size w w1 := hbW.trans (hb1.mono hbW.size)
          have hW2 : Below w.heap.size w w2 := hW1.trans (hb2.mono hW1.size)
          clear hbW hb1 I AL hW1 hb2 q0 q1 q2
          go_loopw [23] (fun iv wr => ∃ (i : Nat), i ≤ m ∧ iv = .int .i64 i ∧ Hid (∀ j, j < i → trightV (xs j) (far - 1) = true) ∧ Below w2.heap.size w2 wr) (fun iv _ => m - (intOf iv).toNat)
          case atStart => exact ⟨0, Nat.zero_le _, rfl, Lib.hid fun j hj => absurd hj (by omega), Below.refl _ _⟩
          case round =>
            obtain ⟨i, hi, rfl, hh, hb⟩ := hrel
            have hfin : Below w.heap.size w wr := hW2.trans (hb.mono hW2.size)
            by_cases hlt : i < m
            · obtain ⟨g, o, rfl, hg, hx⟩ := hB (by omega)
              have hsix := (hx i hlt).keep (w' := wr) fun o => hfin.cell (p := ⟨g, o, none⟩) hg
              have hvr := ((hxs i hlt).stay hfin).mono hfin.size
              have hcall := fun (V : World) (hV : Below wr.heap.size wr V) => ih i (vs i) (far - 1) V ((hvr.stay hV).mono hV.size) (by omega) (by omega)
              obtain ⟨b0, b1, b2, b3, b4, b5, b6, hv0⟩ := (hxs i hlt).four
              rw [hv0] at hsix hcall
              obtain ⟨e0, e1, e2⟩ := hsix.cells
              have hbN : ∀ x, Below wr.heap.size wr (wr.alloc x) := fun x => (Below.refl _ _).alloc (Nat.le_refl _) x
              cases hr : trightV (xs i) (far - 1) with
              | false =>
                have R : Hid (trightV (.mk k c ns m xs) far = false) := Lib.hid (by
                  rw [HR.out, List.all_eq_false]
                  exact ⟨i, List.mem_range.2 hlt, by rw [hr]; simp⟩)
                rw [hr] at hcall
                have HF := Lib.hid hfin
                clear hv0 hsix hvr hx hB ih hxs hns hfin hr hh
                go_wp2_with (go_at_call 97; refine (hcall _ (hbN _)).mono ?_; rintro e w3 ⟨rfl, hb3⟩)
                go_ret
                have h2 := (hbN _).trans (hb3.mono (hbN _).size)
                exact ⟨by rw [R.out]; rfl, HF.out.trans (h2.mono HF.out.size)⟩
              | true =>
                have hN : Hid (∀ j, j < i + 1 → trightV (xs j) (far - 1) = true) := Lib.hid fun j hj => by
                  by_cases e : j = i
                  · subst e; exact hr
                  · exact hh.out j (by omega)
                rw [hr] at hcall
                have HF := Lib.hid hfin
                clear hv0 hsix hvr hx hB ih hxs hns hfin hr hh
                go_wp2_with (go_at_call 97; refine (hcall _ (hbN _)).mono ?_; rintro e w3 ⟨rfl, hb3⟩)
                go_roundw
                case rel => exact ⟨i + 1, by omega, by go_num, hN, hb.trans (((hbN _).trans (hb3.mono (hbN _).size)).mono hb.size)⟩
                case measure => simp [intOf]; omega
            · have R : Hid (trightV (.mk k c ns m xs) far = true) := Lib.hid (by
                rw [HR.out, List.all_eq_true]
                exact fun j hj => hh.out j (by have := List.mem_range.1 hj; omega))
              clear hB hxs ih hns hh
              go_wp2_with fail
              go_ret
              exact ⟨by rw [R.out]; rfl, hfin⟩
theorem tisright_any {t : TT} {v : Array Value} {w : World} (hv : TVal w w.heap.size v t) :
    Calls Try.prog 66 #[.agg v, .func (.func 67) #[] #[], .func (.func 68) #[] #[]] w fun e w' => e = .returned (.bool (tokV t)) ∧ Below w.heap.size w w' := by
  have hbW : Below w.heap.size w (w.alloc (.cells v 30)) := (Below.refl _ _).alloc (Nat.le_refl _) _
  have hvW := (hv.stay hbW).mono hbW.size
  have P := tcap_any t v 201 _ hvW (by omega) (by omega)
  have R := fun w' (hb : Below (w.alloc (.cells v 30)).heap.size (w.alloc (.cells v 30)) w') => twithin_any t v 12 w' ((hvW.stay hb).mono hb.size) (by omega) (by omega)
  have hcnt := tcnt_tot hv 0 (by omega) (by omega)
  obtain ⟨a0, a1, a2, rfl⟩ := hv.three
  have HK := box3_stays (w := w) (a0 := a0) (a1 := a1) (a2 := a2) (t := 30)
  have HR := Lib.hid R
  have hok : tokV t = (decide (ttot t ≤ 200) && trightV t 12) := by
    unfold tokV; rw [hcnt]
    congr 1
    rw [decide_eq_decide]
    omega
  rw [hok]
  generalize trightV t 12 = r at *
  clear hv hvW R hcnt hok
  by_cases hp : ttot t ≤ 200
  · have e1 : min (ttot t : Int) 201 = ttot t := by omega
    rw [e1] at P
    generalize ttot t = z at *
    go_enter Try.func66, Try.ntmps66
    go_wp2_with (first | (go_at_call 96; refine P.mono ?_; rintro e w1 ⟨rfl, hb1⟩; obtain ⟨c0, c1, c2⟩ := HK.out w1 hb1) | (go_at_call 97; refine (HR.out w1 hb1).mono ?_; rintro e w2 ⟨rfl, hb2⟩))
    go_ret
    have hfin := hbW.trans (hb1.mono hbW.size)
    exact ⟨by rw [decide_eq_true hp, Bool.true_and]; rfl, hfin.trans (hb2.mono hfin.size)⟩
  · have e1 : min (ttot t : Int) 201 = 201 := by omega
    rw [e1] at P
    generalize ttot t = z at *
    go_enter Try.func66, Try.ntmps66
    go_wp2_with (first | (go_at_call 96; refine P.mono ?_; rintro e w1 ⟨rfl, hb1⟩; obtain ⟨c0, c1, c2⟩ := HK.out w1 hb1) | (go_at_call 97; refine (HR.out w1 hb1).mono ?_; rintro e w2 ⟨rfl, hb2⟩))
    go_ret
    have hfin := hbW.trans (hb1.mono hbW.size)
    exact ⟨by rw [decide_eq_false hp, Bool.false_and]; rfl, hfin⟩
theorem typeright_f {t : TT} {v : Array Value} {w : World} (hv : TVal w w.heap.size v t) : Calls Try.prog 37 #[.agg v] w fun e w' => e = .returned (.bool (tokV t)) ∧ Below w.heap.size w w' := by
  have hbW : Below w.heap.size w (w.alloc (.cells v 30)) := (Below.refl _ _).alloc (Nat.le_refl _) _
  have P := tisright_any ((hv.stay hbW).mono hbW.size)
  obtain ⟨a0, a1, a2, rfl⟩ := hv.three
  clear hv
  go_enter Try.func37, Try.ntmps37
  go_wp2_with (go_at_call 66; refine P.mono ?_; rintro e w1 ⟨rfl, hb1⟩)
  go_ret
  exact ⟨rfl, hbW.trans (hb1.mono hbW.size)⟩
end Go.Proofs.Ytdmbfajhcihfgaa

/-
  Contracts of the program's isRightWithin, isRight, Right, of values.
-/
import Derived.Test.YtdmbfajhcihfgaaPa
import Derived.Test.YtdmbfajhcihfgaaVm
namespace Go.Proofs.Ytdmbfajhcihfgaa
open Go.RowKit

theorem plain_none {k n : Int} {f : Nat} {s : ByteArray} {c m : Nat} (h : plainB k n f s c m = true) : m = 0 := by
  unfold plainB at h
  by_cases hm : m = 0
  · exact hm
  · rw [decide_eq_false hm] at h
    simp at h
theorem right_mk (k n : Int) (f : Nat) (s : ByteArray) (c : Nat) (ns : Nat → ByteArray) (m : Nat) (xs : Nat → VT) {far : Int} (h1 : 1 ≤ far) :
    rightV (.mk k n f s c ns m xs) far = (aloneB k n f s c ns m && (List.range m).all (fun i => rightV (xs i) (far - 1))) := by
  rw [rightV]
  rw [decide_eq_true h1, Bool.true_and]
  by_cases h : k = 5 ∨ k = 6
  · rw [if_pos h, alone_head ns h]
  · rw [if_neg h, alone_plain ns (fun e => h (.inl e)) (fun e => h (.inr e))]
    cases hp : plainB k n f s c m with
    | false => rfl
    | true => obtain rfl := plain_none hp; rfl
theorem strs_mono {w : World} {lim lim' : Nat} {A : Option Addr} {c : Nat} {ns : Nat → ByteArray} (h : Strs w lim A c ns) (hl : lim ≤ lim') : Strs w lim' A c ns := fun h0 => by
  obtain ⟨g, o, e, hg, hx⟩ := h h0
  exact ⟨g, o, e, by omega, hx⟩
set_option maxHeartbeats 2000000 in
theorem within_any : ∀ (t : VT) (v : Array Value) (far : Int) (w : World), Val w w.heap.size v t → 0 ≤ far → far ≤ 1000 →
    Calls Try.prog 92 #[.agg v, .int .i64 far, .func (.func 61) #[] #[], .func (.func 62) #[] #[]] w fun e w' => e = .returned (.bool (rightV t far)) ∧ Below w.heap.size w w' := by
  intro t
  induction t with
  | bad => intro v q w hv; cases hv
  | mk k n0 f s c ns m xs ih =>
    intro v far w hv h0 h9
    cases hv with
    | mk _ _ _ _ A _ ca B _ cb _ _ vs hk hn hf hs hc hm hns hB hxs =>
      have hmx : m ≤ 9223372036854775807 := by have := hm; unfold maxLen at this; omega
      have hcx : c ≤ 9223372036854775807 := by have := hc; unfold maxLen at this; omega
      have hbW : Below w.heap.size w (w.alloc (.cells (fields k n0 f s A c ca B m cb) 27)) := (Below.refl _ _).alloc (Nat.le_refl _) _
      have HK := box_stays (w := w) (a0 := .int .i64 k) (a1 := .int .i64 n0) (a2 := .float .f64 f) (a3 := .string s) (a4 := .slice A c ca) (a5 := .slice B m cb) (t := 27)
      have I := fun W => items_any (k := k) (n := n0) (f := f) (s := s) (A := A) (c := c) (ca := ca) (B := B) (m := m) (cb := cb) W
      have AL := alone_f (k := k) (n := n0) (f := f) (s := s) (A := A) (c := c) (ca := ca) (B := B) (m := m) (cb := cb) (ns := ns) hf (strs_mono (strs_keep hns hbW) hbW.size) hcx
      have SF := float_store
      unfold fields at *
      by_cases hz : far = 0
      · have R : Hid (rightV (.mk k n0 f s c ns m xs) far = false) := Lib.hid (by unfold rightV; rw [decide_eq_false (by omega), Bool.false_and])
        subst hz
        clear ih hxs hB AL I hns
        go_enter Try.func92, Try.ntmps92
        go_wp2_with fail
        go_ret
        exact ⟨by rw [R.out]; rfl, hbW⟩
      · have tz : (far == 0) = false := by simpa using hz
        have RM := right_mk k n0 f s c ns m xs (show 1 ≤ far by omega)
        cases ha : aloneB k n0 f s c ns m with
        | false =>
          rw [ha] at AL
          have R : Hid (rightV (.mk k n0 f s c ns m xs) far = false) := Lib.hid (by rw [RM, ha, Bool.false_and])
          clear ih hxs hB I hns RM ha
          go_enter Try.func92, Try.ntmps92
          go_wp2_with (go_at_call 62; refine AL.mono ?_; rintro e w1 ⟨rfl, hb1⟩)
          go_ret
          exact ⟨by rw [R.out]; rfl, hbW.trans (hb1.mono hbW.size)⟩
        | true =>
          rw [ha] at AL RM
          rw [Bool.true_and] at RM
          have HR := Lib.hid RM
          clear RM ha
          go_enter Try.func92, Try.ntmps92
          go_wp2_with (first | (go_at_call 62; refine AL.mono ?_; rintro e w1 ⟨rfl, hb1⟩; obtain ⟨q0, q1, q2, q3, q4, q5⟩ := HK.out w1 hb1) | (go_at_call 61; refine (I _).mono ?_; rintro e w2 ⟨rfl, hb2⟩))
          have hW1 : Below w.heap.size w w1 := hbW.trans (hb1.mono hbW.size)
          have hW2 : Below w.heap.size w w2 := hW1.trans (hb2.mono hW1.size)
          clear hbW hb1 I AL hW1 hb2 q0 q1 q2 q3 q4 q5
          go_loopw [23] (fun iv wr => ∃ (i : Nat), i ≤ m ∧ iv = .int .i64 i ∧ Hid (∀ j, j < i → rightV (xs j) (far - 1) = true) ∧ Below w2.heap.size w2 wr) (fun iv _ => m - (intOf iv).toNat)
          case atStart => exact ⟨0, Nat.zero_le _, rfl, Lib.hid fun j hj => absurd hj (by omega), Below.refl _ _⟩
          case round =>
            obtain ⟨i, hi, rfl, hh, hb⟩ := hrel
            have hfin : Below w.heap.size w wr := hW2.trans (hb.mono hW2.size)
            by_cases hlt : i < m
            · obtain ⟨g, o, rfl, hg, hx⟩ := hB (by omega)
              have hsix := (hx i hlt).keep (w' := wr) fun o => hfin.cell (p := ⟨g, o, none⟩) hg
              have hvr := ((hxs i hlt).stay hfin).mono hfin.size
              have hcall := fun (V : World) (hV : Below wr.heap.size wr V) => ih i (vs i) (far - 1) V ((hvr.stay hV).mono hV.size) (by omega) (by omega)
              obtain ⟨b0, b1, b2, b3, b4, b5, b6, b7, b8, b9, hv0⟩ := (hxs i hlt).eight
              rw [hv0] at hsix hcall
              obtain ⟨e0, e1, e2, e3, e4, e5⟩ := hsix.cells
              have hbN : ∀ x, Below wr.heap.size wr (wr.alloc x) := fun x => (Below.refl _ _).alloc (Nat.le_refl _) x
              cases hr : rightV (xs i) (far - 1) with
              | false =>
                have R : Hid (rightV (.mk k n0 f s c ns m xs) far = false) := Lib.hid (by
                  rw [HR.out, List.all_eq_false]
                  exact ⟨i, List.mem_range.2 hlt, by rw [hr]; simp⟩)
                rw [hr] at hcall
                have HF := Lib.hid hfin
                clear hv0 hsix hvr hx hB ih hxs hns hfin hr hh
                go_wp2_with (go_at_call 92; refine (hcall _ (hbN _)).mono ?_; rintro e w3 ⟨rfl, hb3⟩)
                go_ret
                have h2 := (hbN _).trans (hb3.mono (hbN _).size)
                exact ⟨by rw [R.out]; rfl, HF.out.trans (h2.mono HF.out.size)⟩
              | true =>
                have hN : Hid (∀ j, j < i + 1 → rightV (xs j) (far - 1) = true) := Lib.hid fun j hj => by
                  by_cases e : j = i
                  · subst e; exact hr
                  · exact hh.out j (by omega)
                rw [hr] at hcall
                have HF := Lib.hid hfin
                clear hv0 hsix hvr hx hB ih hxs hns hfin hr hh
                go_wp2_with (go_at_call 92; refine (hcall _ (hbN _)).mono ?_; rintro e w3 ⟨rfl, hb3⟩)
                go_roundw
                case rel => exact ⟨i + 1, by omega, by go_num, hN, hb.trans (((hbN _).trans (hb3.mono (hbN _).size)).mono hb.size)⟩
                case measure => simp [intOf]; omega
            · have R : Hid (rightV (.mk k n0 f s c ns m xs) far = true) := Lib.hid (by
                rw [HR.out, List.all_eq_true]
                exact fun j hj => hh.out j (by have := List.mem_range.1 hj; omega))
              clear hB hxs ih hns hh
              go_wp2_with fail
              go_ret
              exact ⟨by rw [R.out]; rfl, hfin⟩
theorem isright_any {t : VT} {v : Array Value} {w : World} (hv : Val w w.heap.size v t) :
    Calls Try.prog 60 #[.agg v, .func (.func 61) #[] #[], .func (.func 62) #[] #[]] w fun e w' => e = .returned (.bool (okV t)) ∧ Below w.heap.size w w' := by
  have hbW : Below w.heap.size w (w.alloc (.cells v 27)) := (Below.refl _ _).alloc (Nat.le_refl _) _
  have hvW := (hv.stay hbW).mono hbW.size
  have P := cap_any t v 201 _ hvW (by omega) (by omega)
  have R := fun w' (hb : Below (w.alloc (.cells v 27)).heap.size (w.alloc (.cells v 27)) w') => within_any t v 12 w' ((hvW.stay hb).mono hb.size) (by omega) (by omega)
  have hcnt := cnt_tot hv 0 (by omega) (by omega)
  obtain ⟨a0, a1, a2, a3, a4, a5, rfl⟩ := hv.six
  have HK := box_stays (w := w) (a0 := a0) (a1 := a1) (a2 := a2) (a3 := a3) (a4 := a4) (a5 := a5) (t := 27)
  have HR := Lib.hid R
  have hok : okV t = (decide (tot t ≤ 200) && rightV t 12) := by
    unfold okV; rw [hcnt]
    congr 1
    rw [decide_eq_decide]
    omega
  rw [hok]
  generalize rightV t 12 = r at *
  clear hv hvW R hcnt hok
  by_cases hp : tot t ≤ 200
  · have e1 : min (tot t : Int) 201 = tot t := by omega
    rw [e1] at P
    generalize tot t = z at *
    go_enter Try.func60, Try.ntmps60
    go_wp2_with (first | (go_at_call 91; refine P.mono ?_; rintro e w1 ⟨rfl, hb1⟩; obtain ⟨c0, c1, c2, c3, c4, c5⟩ := HK.out w1 hb1) | (go_at_call 92; refine (HR.out w1 hb1).mono ?_; rintro e w2 ⟨rfl, hb2⟩))
    go_ret
    have hfin := hbW.trans (hb1.mono hbW.size)
    exact ⟨by rw [decide_eq_true hp, Bool.true_and]; rfl, hfin.trans (hb2.mono hfin.size)⟩
  · have e1 : min (tot t : Int) 201 = 201 := by omega
    rw [e1] at P
    generalize tot t = z at *
    go_enter Try.func60, Try.ntmps60
    go_wp2_with (first | (go_at_call 91; refine P.mono ?_; rintro e w1 ⟨rfl, hb1⟩; obtain ⟨c0, c1, c2, c3, c4, c5⟩ := HK.out w1 hb1) | (go_at_call 92; refine (HR.out w1 hb1).mono ?_; rintro e w2 ⟨rfl, hb2⟩))
    go_ret
    have hfin := hbW.trans (hb1.mono hbW.size)
    exact ⟨by rw [decide_eq_false hp, Bool.false_and]; rfl, hfin⟩
theorem right_f {t : VT} {v : Array Value} {w : World} (hv : Val w w.heap.size v t) : Calls Try.prog 35 #[.agg v] w fun e w' => e = .returned (.bool (okV t)) ∧ Below w.heap.size w w' := by
  have hbW : Below w.heap.size w (w.alloc (.cells v 27)) := (Below.refl _ _).alloc (Nat.le_refl _) _
  have P := isright_any ((hv.stay hbW).mono hbW.size)
  obtain ⟨a0, a1, a2, a3, a4, a5, rfl⟩ := hv.six
  clear hv
  go_enter Try.func35, Try.ntmps35
  go_wp2_with (go_at_call 60; refine P.mono ?_; rintro e w1 ⟨rfl, hb1⟩)
  go_ret
  exact ⟨rfl, hbW.trans (hb1.mono hbW.size)⟩
end Go.Proofs.Ytdmbfajhcihfgaa

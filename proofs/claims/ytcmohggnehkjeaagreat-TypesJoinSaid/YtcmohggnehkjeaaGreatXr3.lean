/-
  Contract of basculeref08's right, of records.
-/
import Derived.Test.YtcmohggnehkjeaaGreatXr
namespace Go.Proofs.YtcmohggnehkjeaaGreat
open Go.RowKit

set_option maxRecDepth 20000 in
set_option maxHeartbeats 4000000 in
theorem right_e17 {s : ByteArray} {a0 a1 a2 a3 a4 a5 : Value} {v : VT} {A : Option Addr} {c ca : Nat} {B : Option Addr} {m cb : Nat} {w : World} {far : Int} {ns : Nat → ByteArray} {vs : Nat → Array Value} {xs : Nat → ET} (h9 : far ≤ 1000) (hmx : m ≤ 9223372036854775807) (hcx : c ≤ 9223372036854775807) (hsx : s.size ≤ 9223372036854775807)
    (hv : Val w w.heap.size #[a0, a1, a2, a3, a4, a5] v) (hns : Strs w w.heap.size A c ns)
    (hB : 0 < m → ∃ g o, B = some ⟨g, o, none⟩ ∧ g < w.heap.size ∧ ∀ i, i < m → TenAt w g (o + i * 10) (vs i)) (hxs : ∀ i, i < m → EVal w w.heap.size (vs i) (xs i))
    (ih : ∀ (i : Nat) (v : Array Value) (far : Int) (w : World), EVal w w.heap.size v (xs i) → far ≤ 1000 → -9223372036854775000 ≤ far → Calls Tryz.prog 62 #[.agg v, .int .i64 far] w fun e w' => e = .returned (.bool (rightE (xs i) far)) ∧ Below w.heap.size w w') (hfar : -9223372036854775000 ≤ far) :
    Calls Tryz.prog 62 #[.agg (efields 17 s a0 a1 a2 a3 a4 a5 A c ca B m cb), .int .i64 far] w fun e w' => e = .returned (.bool (rightE (.mk 17 s v c ns m xs) far)) ∧ Below w.heap.size w w' := by
  obtain ⟨T, hT0⟩ : ∃ T, T = rightE (.mk 17 s v c ns m xs) far := ⟨_, rfl⟩
  rw [← hT0]
  unfold rightE at hT0
  obtain ⟨W1, hW1⟩ : ∃ W1, W1 = w.alloc (.cells #[.int .i64 17, .string s, a0, a1, a2, a3, a4, a5, .slice A c ca, .slice B m cb] 44) := ⟨_, rfl⟩
  have hbW : Below w.heap.size w (w.alloc (.cells #[.int .i64 17, .string s, a0, a1, a2, a3, a4, a5, .slice A c ca, .slice B m cb] 44)) := (Below.refl _ _).alloc (Nat.le_refl _) _
  have hvW := (hv.stay hbW).mono hbW.size
  have HK := ten_stays (w := w) (b0 := .int .i64 17) (b1 := .string s) (b2 := a0) (b3 := a1) (b4 := a2) (b5 := a3) (b6 := a4) (b7 := a5) (b8 := .slice A c ca) (b9 := .slice B m cb) (t := 44)
  have HW1 := Lib.hid hW1
  have HBW := Lib.hid hbW
  have HFIN : Hid (∀ w', Below W1.heap.size W1 w' → Below w.heap.size w w') := Lib.hid fun w' h => by rw [hW1] at h; exact hbW.trans (h.mono hbW.size)
  have HCEL : Hid (∀ w', Below W1.heap.size W1 w' → w'.cell? ⟨w.heap.size, 8, none⟩ = some (.slice A c ca) ∧ w'.cell? ⟨w.heap.size, 9, none⟩ = some (.slice B m cb)) := Lib.hid fun w' h => by
    rw [hW1] at h
    obtain ⟨_, _, _, _, _, _, _, _, q8, q9⟩ := HK.out w' h
    exact ⟨q8, q9⟩
  clear hW1 hbW hv
  unfold efields
  have hih := ih
  have hhs := hsx
  have hhm := hmx
  have hhc := hcx
  clear hih hhs hhm hhc
  have WA := fun W => wants_any 17 W
  have CV := none_any hvW
  clear hvW
  rw [show wantV 17 = -1 from rfl] at WA
  have E1 : shapeE 17 m far = (decide (1 ≤ far) && true) := by
    unfold shapeE
    rw [show wantV 17 = -1 from rfl]
    rfl
  have E2 : valE 17 v = noneB v := if_neg (by decide)
  have E3 : nameE 17 s = decide (s.toList = []) := (if_neg (by decide)).trans (if_neg (by decide))
  have E4 : lenE 17 c m = decide (c = m) := if_pos rfl
  rw [E1, E2, E3, E4] at hT0
  clear E1 E2 E3 E4
  by_cases hf : far < 1
  · have hf' : decide (1 ≤ far) = false := by simp; omega
    have R : Hid (T = false) := Lib.hid (by rw [hT0]; rw [hf']; rfl)
    have tf : decide (far < 1) = true := by simp; omega
    clear hT0 ih hxs hB hns CV hf hf'
    go_enter Tryz.func62, Tryz.ntmps62
    go_wp2_with (first | (go_at_call 96; refine (WA _).mono ?_; rintro e w1 ⟨rfl, rfl⟩))
    go_ret
    exact ⟨by rw [R.out]; rfl, HFIN.out _ (by rw [HW1.out]; exact Below.refl _ _)⟩
  have hf' : decide (1 ≤ far) = true := by simp; omega
  have tf : decide (far < 1) = false := by simp; omega
  rw [hf', Bool.true_and] at hT0
  clear hf'
  rw [Bool.true_and] at hT0
  cases hcv : noneB v with
  | false =>
    rw [hcv] at CV
    have R : Hid (T = false) := Lib.hid (by rw [hT0]; rw [hcv]; rfl)
    clear hT0 ih hxs hB hns hcv hf
    go_enter Tryz.func62, Tryz.ntmps62
    go_wp2_with (first | (go_at_call 96; refine (WA _).mono ?_; rintro e w1 ⟨rfl, rfl⟩) | (go_at_call 98; refine CV.mono ?_; rintro e w2 ⟨rfl, hb2⟩; obtain ⟨q0, q1, q2, q3, q4, q5, q6, q7, q8, q9⟩ := HK.out w2 hb2))
    go_ret
    exact ⟨by rw [R.out]; rfl, HFIN.out _ (by rw [HW1.out]; exact hb2)⟩
  | true =>
    rw [hcv] at CV
    rw [hcv, Bool.true_and] at hT0
    clear hcv
    by_cases hse : s.toList = []
    · have ts : s.toList.isEmpty = true := by rw [hse]; rfl
      have ts2 : (s.toList == []) = true := by rw [hse]; rfl
      have ts3 : (s.toList != []) = false := by rw [bne, ts2]; rfl
      rw [decide_eq_true hse, Bool.true_and] at hT0
      clear hse
      by_cases hcm : c = m
      · have tc : ((c : Int) != (m : Int)) = false := by rw [bne, beq_iff_eq.2 (show (c : Int) = (m : Int) by omega)]; rfl
        have HT : Hid (T = (fieldsE c ns && (List.range m).all fun i => rightE (xs i) (far - 1))) := Lib.hid (by rw [hT0]; rw [decide_eq_true hcm, Bool.true_and])
        clear hT0 hcm
        go_enter Tryz.func62, Tryz.ntmps62
        go_wp2_with (first | (go_at_call 96; refine (WA _).mono ?_; rintro e w1 ⟨rfl, rfl⟩) | (go_at_call 98; refine CV.mono ?_; rintro e w2 ⟨rfl, hb2⟩; obtain ⟨q0, q1, q2, q3, q4, q5, q6, q7, q8, q9⟩ := HK.out w2 hb2))
        have hb2' := hb2
        rw [← HW1.out] at hb2'
        clear hb2 q0 q1 q2 q3 q4 q5 q6 q7 q8 q9
        go_loopw [6] (fun iv wr => ∃ i : Nat, i ≤ c ∧ iv = .int .i64 i ∧ Hid (∀ j, j < i → fieldAt ns j = true) ∧ Below W1.heap.size W1 wr) (fun iv _ => c - (intOf iv).toNat)
        case atStart => exact ⟨0, Nat.zero_le _, by go_num, Lib.hid fun j hj => absurd hj (by omega), hb2'⟩
        case round =>
          obtain ⟨i, hi, rfl, hh, hbR⟩ := hrel
          obtain ⟨n8, n9⟩ := HCEL.out _ hbR
          have hfin := HFIN.out _ hbR
          by_cases hlt : i < c
          · obtain ⟨g, o, rfl, hg, hx⟩ := hns (by omega)
            have x1 := (hfin.cell (p := ⟨g, o + i, none⟩) hg).trans (hx i hlt).1
            have FA := fun W => field_any (s := ns i) (by have := (hx i hlt).2; unfold maxLen at this; exact this) W
            have yes : fieldAt ns i = true → Hid (∀ j, j < i + 1 → fieldAt ns j = true) := fun hy => Lib.hid fun j hj => by
              by_cases e : j = i
              · subst e; exact hy
              · exact hh.out j (by omega)
            have no : fieldAt ns i = false → Hid (T = false) := fun hn => Lib.hid (by rw [HT.out, fieldsE_no hlt hn]; rfl)
            clear hh ih hxs hB
            cases hn : fieldB (ns i)
            · have N := no (by unfold fieldAt; rw [hn]; rfl)
              rw [hn] at FA
              clear yes no hx hns hn HT
              go_wp2_with fail
              go_quiet ((go_at_call 101; exact Calls.quiet_of_same (FA _)))
              go_wp2_with fail
              go_ret
              exact ⟨by rw [N.out]; rfl, below_drewN hfin _⟩
            · rw [hn] at FA
              by_cases k0 : i = 0
              · have Y := yes (by unfold fieldAt; rw [hn, decide_eq_true k0]; rfl)
                subst k0
                have x1z := x1
                simp only [Nat.add_zero] at x1z
                clear yes no hx hns hn x1 HT
                go_wp2_with fail
                go_quiet ((go_at_call 101; exact Calls.quiet_of_same (FA _)))
                go_wp2_with fail
                go_roundw
                case rel => exact ⟨0 + 1, by omega, by go_num, Y, below_drewN hbR _⟩
                case measure => simp [intOf]; omega
              · obtain ⟨p, rfl⟩ : ∃ p, i = p + 1 := ⟨i - 1, by omega⟩
                have x0 := (hfin.cell (p := ⟨g, o + p, none⟩) hg).trans (hx p (by omega)).1
                cases hless : Op.bytesLess (ns p).toList (ns (p + 1)).toList
                · have N := no (by unfold fieldAt lessS; rw [show p + 1 - 1 = p by omega, hless, decide_eq_false (by omega)]; simp)
                  clear yes no hx hns hn HT
                  go_wp2_with fail
                  go_quiet ((go_at_call 101; exact Calls.quiet_of_same (FA _)))
                  go_wp2_with fail
                  go_ret
                  exact ⟨by rw [N.out]; rfl, below_drewN hfin _⟩
                · have Y := yes (by unfold fieldAt lessS; rw [hn, show p + 1 - 1 = p by omega, hless]; simp)
                  clear yes no hx hns hn HT
                  go_wp2_with fail
                  go_quiet ((go_at_call 101; exact Calls.quiet_of_same (FA _)))
                  go_wp2_with fail
                  go_roundw
                  case rel => exact ⟨p + 1 + 1, by omega, by go_num, Y, below_drewN hbR _⟩
                  case measure => simp [intOf]; omega
          · have HT2 := Lib.hid (HT.out.trans (show _ = ((List.range m).all fun i => rightE (xs i) (far - 1)) by rw [fieldsE_yes fun i h => hh.out i (by omega), Bool.true_and]))
            clear hh hns HT
            have HT := HT2
            clear HT2
            go_wp2_with fail
            clear n8 n9
            go_loopw [7] (fun iv wr => ∃ i : Nat, i ≤ m ∧ iv = .int .i64 i ∧ Hid (∀ j, j < i → rightE (xs j) (far - 1) = true) ∧ Below W1.heap.size W1 wr) (fun iv _ => m - (intOf iv).toNat)
            case atStart => exact ⟨0, Nat.zero_le _, by go_num, Lib.hid fun j hj => absurd hj (by omega), hbR⟩
            case round =>
              obtain ⟨i, hi, rfl, hh, hbS⟩ := hrel
              obtain ⟨n8, n9⟩ := HCEL.out _ hbS
              have hfin := HFIN.out _ hbS
              by_cases hlt : i < m
              · obtain ⟨g, o, rfl, hg, hx⟩ := hB (by omega)
                have hvr := ((hxs i hlt).stay hfin).mono hfin.size
                have hcall := ih i (vs i) (far - 1) _ hvr (by omega) (by omega)
                have hten := (hx i hlt).keep fun o => hfin.cell (p := ⟨g, o, none⟩) hg
                obtain ⟨e0, e1, e2, e3, e4, e5, e6, e7, e8, e9, hv0⟩ := (hxs i hlt).ten
                rw [hv0] at hten hcall
                obtain ⟨x0, x1, x2, x3, x4, x5, x6, x7, x8, x9⟩ := hten.cells
                have yes : rightE (xs i) (far - 1) = true → Hid (∀ j, j < i + 1 → rightE (xs j) (far - 1) = true) := fun hy => Lib.hid fun j hj => by
                  by_cases e : j = i
                  · subst e; exact hy
                  · exact hh.out j (by omega)
                have no : rightE (xs i) (far - 1) = false → Hid (T = false) := fun hn => Lib.hid (by
                  rw [HT.out, List.all_eq_false.2 ⟨i, List.mem_range.2 hlt, by rw [hn]; simp⟩])
                clear hv0 hten hvr hx hB ih hxs hh
                cases hr : rightE (xs i) (far - 1)
                · have N := no hr
                  rw [hr] at hcall
                  clear yes no hr HT
                  go_wp2_with (go_at_call 62; refine hcall.mono ?_; rintro e w5 ⟨rfl, hb5⟩)
                  go_ret
                  exact ⟨by rw [N.out]; rfl, hfin.trans (hb5.mono hfin.size)⟩
                · have Y := yes hr
                  rw [hr] at hcall
                  clear yes no hr HT
                  go_wp2_with (go_at_call 62; refine hcall.mono ?_; rintro e w5 ⟨rfl, hb5⟩)
                  go_roundw
                  case rel => exact ⟨i + 1, by omega, by go_num, Y, hbS.trans (hb5.mono hbS.size)⟩
                  case measure => simp [intOf]; omega
              · have R : Hid (T = true) := Lib.hid (by rw [HT.out, List.all_eq_true.2 fun j hj => hh.out j (by have := List.mem_range.1 hj; omega)])
                clear hh HT ih hxs hB
                go_wp2_with fail
                go_ret
                exact ⟨by rw [R.out]; rfl, hfin⟩
      · have tc : ((c : Int) != (m : Int)) = true := by rw [bne, beq_eq_false_iff_ne.2 (show ¬ (c : Int) = (m : Int) by omega)]; rfl
        have R : Hid (T = false) := Lib.hid (by rw [hT0]; rw [decide_eq_false hcm]; rfl)
        clear hT0 ih hxs hB hns hcm hf
        go_enter Tryz.func62, Tryz.ntmps62
        go_wp2_with (first | (go_at_call 96; refine (WA _).mono ?_; rintro e w1 ⟨rfl, rfl⟩) | (go_at_call 98; refine CV.mono ?_; rintro e w2 ⟨rfl, hb2⟩; obtain ⟨q0, q1, q2, q3, q4, q5, q6, q7, q8, q9⟩ := HK.out w2 hb2))
        go_ret
        exact ⟨by rw [R.out]; rfl, HFIN.out _ (by rw [HW1.out]; exact hb2)⟩
    · have ts : s.toList.isEmpty = false := by simpa using hse
      have ts2 : (s.toList == []) = false := by simpa using hse
      have ts3 : (s.toList != []) = true := by rw [bne, ts2]; rfl
      have R : Hid (T = false) := Lib.hid (by rw [hT0]; rw [decide_eq_false hse]; rfl)
      clear hT0 ih hxs hB hns hse hf
      go_enter Tryz.func62, Tryz.ntmps62
      go_wp2_with (first | (go_at_call 96; refine (WA _).mono ?_; rintro e w1 ⟨rfl, rfl⟩) | (go_at_call 98; refine CV.mono ?_; rintro e w2 ⟨rfl, hb2⟩; obtain ⟨q0, q1, q2, q3, q4, q5, q6, q7, q8, q9⟩ := HK.out w2 hb2))
      go_ret
      exact ⟨by rw [R.out]; rfl, HFIN.out _ (by rw [HW1.out]; exact hb2)⟩
end Go.Proofs.YtcmohggnehkjeaaGreat

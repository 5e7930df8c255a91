/-
  Contract of basculeref08's right, of records.
  Contracts of basculeref08's right, Right, Small, over trees.
  Commands as bytes, plainly.
  The program's writer of commands.
  The program's reader of commands: goOn, small.
-/
import Derived.Test.YtekojglcbalhnaaGreatDoorM26
import Derived.Test.YtekojglcbalhnaaGreatDoorM27
import Derived.Test.YtekojglcbalhnaaGreatDoorM20
import Derived.Test.YtekojglcbalhnaaGreatDoorM23
import Derived.Test.YtekojglcbalhnaaGreatDoorM10
import Derived.Test.YtekojglcbalhnaaGreatDoorM12
import Derived.Test.YtekojglcbalhnaaGreatDoorM19
import Derived.Deep.RegionHeld3
namespace Go.Proofs.YtekojglcbalhnaaGreatDoor
open Go.RowKit

set_option maxRecDepth 20000 in
set_option maxHeartbeats 4000000 in
theorem right_e17 {s : ByteArray} {a0 a1 a2 a3 a4 a5 : Value} {v : VT} {A : Option Addr} {c ca : Nat} {B : Option Addr} {m cb : Nat} {w : World} {far : Int} {ns : Nat → ByteArray} {vs : Nat → Array Value} {xs : Nat → ET} (h9 : far ≤ 1000) (hmx : m ≤ 9223372036854775807) (hcx : c ≤ 9223372036854775807) (hsx : s.size ≤ 9223372036854775807)
    (hv : Val w w.heap.size #[a0, a1, a2, a3, a4, a5] v) (hns : Strs w w.heap.size A c ns)
    (hB : 0 < m → ∃ g o, B = some ⟨g, o, none⟩ ∧ g < w.heap.size ∧ ∀ i, i < m → TenAt w g (o + i * 10) (vs i)) (hxs : ∀ i, i < m → EVal w w.heap.size (vs i) (xs i))
    (ih : ∀ (i : Nat) (v : Array Value) (far : Int) (w : World), EVal w w.heap.size v (xs i) → far ≤ 1000 → -9223372036854775000 ≤ far → Calls Tryz.prog 106 #[.agg v, .int .i64 far] w fun e w' => e = .returned (.bool (rightE (xs i) far)) ∧ Below w.heap.size w w') (hfar : -9223372036854775000 ≤ far) :
    Calls Tryz.prog 106 #[.agg (efields 17 s a0 a1 a2 a3 a4 a5 A c ca B m cb), .int .i64 far] w fun e w' => e = .returned (.bool (rightE (.mk 17 s v c ns m xs) far)) ∧ Below w.heap.size w w' := by
  obtain ⟨T, hT0⟩ : ∃ T, T = rightE (.mk 17 s v c ns m xs) far := ⟨_, rfl⟩
  rw [← hT0]
  unfold rightE at hT0
  obtain ⟨W1, hW1⟩ : ∃ W1, W1 = w.alloc (.cells #[.int .i64 17, .string s, a0, a1, a2, a3, a4, a5, .slice A c ca, .slice B m cb] 97) := ⟨_, rfl⟩
  have hbW : Below w.heap.size w (w.alloc (.cells #[.int .i64 17, .string s, a0, a1, a2, a3, a4, a5, .slice A c ca, .slice B m cb] 97)) := (Below.refl _ _).alloc (Nat.le_refl _) _
  have hvW := (hv.stay hbW).mono hbW.size
  have HK := ten_stays (w := w) (b0 := .int .i64 17) (b1 := .string s) (b2 := a0) (b3 := a1) (b4 := a2) (b5 := a3) (b6 := a4) (b7 := a5) (b8 := .slice A c ca) (b9 := .slice B m cb) (t := 97)
  have HW1 := Lib.hid hW1
  have HBW := Lib.hid hbW
  have HFIN : Hid (∀ w', Below W1.heap.size W1 w' → Below w.heap.size w w') := Lib.hid fun w' h => by rw [hW1] at h; exact hbW.trans (h.mono hbW.size)
  have HCEL : Hid (∀ w', Below W1.heap.size W1 w' → w'.cell? ⟨w.heap.size, 8, none⟩ = some (.slice A c ca) ∧ w'.cell? ⟨w.heap.size, 9, none⟩ = some (.slice B m cb)) := Lib.hid fun w' h => by
    rw [hW1] at h
    obtain ⟨_, _, _, _, _, _, _, _, q8, q9⟩ := HK.out w' h
    exact ⟨q8, q9⟩
  clear hW1 hbW hv
  unfold efields
  have hih := ih
  have hhs := hsx
  have hhm := hmx
  have hhc := hcx
  clear hih hhs hhm hhc
  have WA := fun W => wants_any 17 W
  have CV := none_any hvW
  clear hvW
  rw [show wantV 17 = -1 from rfl] at WA
  have E1 : shapeE 17 m far = (decide (1 ≤ far) && true) := by
    unfold shapeE
    rw [show wantV 17 = -1 from rfl]
    rfl
  have E2 : valE 17 v = noneB v := if_neg (by decide)
  have E3 : nameE 17 s = decide (s.toList = []) := (if_neg (by decide)).trans (if_neg (by decide))
  have E4 : lenE 17 c m = decide (c = m) := if_pos rfl
  rw [E1, E2, E3, E4] at hT0
  clear E1 E2 E3 E4
  by_cases hf : far < 1
  · have hf' : decide (1 ≤ far) = false := by simp; omega
    have R : Hid (T = false) := Lib.hid (by rw [hT0]; rw [hf']; rfl)
    have tf : decide (far < 1) = true := by simp; omega
    clear hT0 ih hxs hB hns CV hf hf'
    go_enter Tryz.func106, Tryz.ntmps106
    go_wp2_with (first | (go_at_call 129; refine (WA _).mono ?_; rintro e w1 ⟨rfl, rfl⟩))
    go_ret
    exact ⟨by rw [R.out]; rfl, HFIN.out _ (by rw [HW1.out]; exact Below.refl _ _)⟩
  have hf' : decide (1 ≤ far) = true := by simp; omega
  have tf : decide (far < 1) = false := by simp; omega
  rw [hf', Bool.true_and] at hT0
  clear hf'
  rw [Bool.true_and] at hT0
  cases hcv : noneB v with
  | false =>
    rw [hcv] at CV
    have R : Hid (T = false) := Lib.hid (by rw [hT0]; rw [hcv]; rfl)
    clear hT0 ih hxs hB hns hcv hf
    go_enter Tryz.func106, Tryz.ntmps106
    go_wp2_with (first | (go_at_call 129; refine (WA _).mono ?_; rintro e w1 ⟨rfl, rfl⟩) | (go_at_call 131; refine CV.mono ?_; rintro e w2 ⟨rfl, hb2⟩; obtain ⟨q0, q1, q2, q3, q4, q5, q6, q7, q8, q9⟩ := HK.out w2 hb2))
    go_ret
    exact ⟨by rw [R.out]; rfl, HFIN.out _ (by rw [HW1.out]; exact hb2)⟩
  | true =>
    rw [hcv] at CV
    rw [hcv, Bool.true_and] at hT0
    clear hcv
    by_cases hse : s.toList = []
    · have ts : s.toList.isEmpty = true := by rw [hse]; rfl
      have ts2 : (s.toList == []) = true := by rw [hse]; rfl
      have ts3 : (s.toList != []) = false := by rw [bne, ts2]; rfl
      rw [decide_eq_true hse, Bool.true_and] at hT0
      clear hse
      by_cases hcm : c = m
      · have tc : ((c : Int) != (m : Int)) = false := by rw [bne, beq_iff_eq.2 (show (c : Int) = (m : Int) by omega)]; rfl
        have HT : Hid (T = (fieldsE c ns && (List.range m).all fun i => rightE (xs i) (far - 1))) := Lib.hid (by rw [hT0]; rw [decide_eq_true hcm, Bool.true_and])
        clear hT0 hcm
        go_enter Tryz.func106, Tryz.ntmps106
        go_wp2_with (first | (go_at_call 129; refine (WA _).mono ?_; rintro e w1 ⟨rfl, rfl⟩) | (go_at_call 131; refine CV.mono ?_; rintro e w2 ⟨rfl, hb2⟩; obtain ⟨q0, q1, q2, q3, q4, q5, q6, q7, q8, q9⟩ := HK.out w2 hb2))
        have hb2' := hb2
        rw [← HW1.out] at hb2'
        clear hb2 q0 q1 q2 q3 q4 q5 q6 q7 q8 q9
        go_loopw [6] (fun iv wr => ∃ i : Nat, i ≤ c ∧ iv = .int .i64 i ∧ Hid (∀ j, j < i → fieldAt ns j = true) ∧ Below W1.heap.size W1 wr) (fun iv _ => c - (intOf iv).toNat)
        case atStart => exact ⟨0, Nat.zero_le _, by go_num, Lib.hid fun j hj => absurd hj (by omega), hb2'⟩
        case round =>
          obtain ⟨i, hi, rfl, hh, hbR⟩ := hrel
          obtain ⟨n8, n9⟩ := HCEL.out _ hbR
          have hfin := HFIN.out _ hbR
          by_cases hlt : i < c
          · obtain ⟨g, o, rfl, hg, hx⟩ := hns (by omega)
            have x1 := (hfin.cell (p := ⟨g, o + i, none⟩) hg).trans (hx i hlt).1
            have FA := fun W => field_any (s := ns i) (by have := (hx i hlt).2; unfold maxLen at this; exact this) W
            have yes : fieldAt ns i = true → Hid (∀ j, j < i + 1 → fieldAt ns j = true) := fun hy => Lib.hid fun j hj => by
              by_cases e : j = i
              · subst e; exact hy
              · exact hh.out j (by omega)
            have no : fieldAt ns i = false → Hid (T = false) := fun hn => Lib.hid (by rw [HT.out, fieldsE_no hlt hn]; rfl)
            clear hh ih hxs hB
            cases hn : fieldB (ns i)
            · have N := no (by unfold fieldAt; rw [hn]; rfl)
              rw [hn] at FA
              clear yes no hx hns hn HT
              go_wp2_with fail
              go_quiet ((go_at_call 134; exact Calls.quiet_of_same (FA _)))
              go_wp2_with fail
              go_ret
              exact ⟨by rw [N.out]; rfl, below_drewN hfin _⟩
            · rw [hn] at FA
              by_cases k0 : i = 0
              · have Y := yes (by unfold fieldAt; rw [hn, decide_eq_true k0]; rfl)
                subst k0
                have x1z := x1
                simp only [Nat.add_zero] at x1z
                clear yes no hx hns hn x1 HT
                go_wp2_with fail
                go_quiet ((go_at_call 134; exact Calls.quiet_of_same (FA _)))
                go_wp2_with fail
                go_roundw
                case rel => exact ⟨0 + 1, by omega, by go_num, Y, below_drewN hbR _⟩
                case measure => simp [intOf]; omega
              · obtain ⟨p, rfl⟩ : ∃ p, i = p + 1 := ⟨i - 1, by omega⟩
                have x0 := (hfin.cell (p := ⟨g, o + p, none⟩) hg).trans (hx p (by omega)).1
                cases hless : Op.bytesLess (ns p).toList (ns (p + 1)).toList
                · have N := no (by unfold fieldAt lessS; rw [show p + 1 - 1 = p by omega, hless, decide_eq_false (by omega)]; simp)
                  clear yes no hx hns hn HT
                  go_wp2_with fail
                  go_quiet ((go_at_call 134; exact Calls.quiet_of_same (FA _)))
                  go_wp2_with fail
                  go_ret
                  exact ⟨by rw [N.out]; rfl, below_drewN hfin _⟩
                · have Y := yes (by unfold fieldAt lessS; rw [hn, show p + 1 - 1 = p by omega, hless]; simp)
                  clear yes no hx hns hn HT
                  go_wp2_with fail
                  go_quiet ((go_at_call 134; exact Calls.quiet_of_same (FA _)))
                  go_wp2_with fail
                  go_roundw
                  case rel => exact ⟨p + 1 + 1, by omega, by go_num, Y, below_drewN hbR _⟩
                  case measure => simp [intOf]; omega
          · have HT2 := Lib.hid (HT.out.trans (show _ = ((List.range m).all fun i => rightE (xs i) (far - 1)) by rw [fieldsE_yes fun i h => hh.out i (by omega), Bool.true_and]))
            clear hh hns HT
            have HT := HT2
            clear HT2
            go_wp2_with fail
            clear n8 n9
            go_loopw [7] (fun iv wr => ∃ i : Nat, i ≤ m ∧ iv = .int .i64 i ∧ Hid (∀ j, j < i → rightE (xs j) (far - 1) = true) ∧ Below W1.heap.size W1 wr) (fun iv _ => m - (intOf iv).toNat)
            case atStart => exact ⟨0, Nat.zero_le _, by go_num, Lib.hid fun j hj => absurd hj (by omega), hbR⟩
            case round =>
              obtain ⟨i, hi, rfl, hh, hbS⟩ := hrel
              obtain ⟨n8, n9⟩ := HCEL.out _ hbS
              have hfin := HFIN.out _ hbS
              by_cases hlt : i < m
              · obtain ⟨g, o, rfl, hg, hx⟩ := hB (by omega)
                have hvr := ((hxs i hlt).stay hfin).mono hfin.size
                have hcall := ih i (vs i) (far - 1) _ hvr (by omega) (by omega)
                have hten := (hx i hlt).keep fun o => hfin.cell (p := ⟨g, o, none⟩) hg
                obtain ⟨e0, e1, e2, e3, e4, e5, e6, e7, e8, e9, hv0⟩ := (hxs i hlt).ten
                rw [hv0] at hten hcall
                obtain ⟨x0, x1, x2, x3, x4, x5, x6, x7, x8, x9⟩ := hten.cells
                have yes : rightE (xs i) (far - 1) = true → Hid (∀ j, j < i + 1 → rightE (xs j) (far - 1) = true) := fun hy => Lib.hid fun j hj => by
                  by_cases e : j = i
                  · subst e; exact hy
                  · exact hh.out j (by omega)
                have no : rightE (xs i) (far - 1) = false → Hid (T = false) := fun hn => Lib.hid (by
                  rw [HT.out, List.all_eq_false.2 ⟨i, List.mem_range.2 hlt, by rw [hn]; simp⟩])
                clear hv0 hten hvr hx hB ih hxs hh
                cases hr : rightE (xs i) (far - 1)
                · have N := no hr
                  rw [hr] at hcall
                  clear yes no hr HT
                  go_wp2_with (go_at_call 106; refine hcall.mono ?_; rintro e w5 ⟨rfl, hb5⟩)
                  go_ret
                  exact ⟨by rw [N.out]; rfl, hfin.trans (hb5.mono hfin.size)⟩
                · have Y := yes hr
                  rw [hr] at hcall
                  clear yes no hr HT
                  go_wp2_with (go_at_call 106; refine hcall.mono ?_; rintro e w5 ⟨rfl, hb5⟩)
                  go_roundw
                  case rel => exact ⟨i + 1, by omega, by go_num, Y, hbS.trans (hb5.mono hbS.size)⟩
                  case measure => simp [intOf]; omega
              · have R : Hid (T = true) := Lib.hid (by rw [HT.out, List.all_eq_true.2 fun j hj => hh.out j (by have := List.mem_range.1 hj; omega)])
                clear hh HT ih hxs hB
                go_wp2_with fail
                go_ret
                exact ⟨by rw [R.out]; rfl, hfin⟩
      · have tc : ((c : Int) != (m : Int)) = true := by rw [bne, beq_eq_false_iff_ne.2 (show ¬ (c : Int) = (m : Int) by omega)]; rfl
        have R : Hid (T = false) := Lib.hid (by rw [hT0]; rw [decide_eq_false hcm]; rfl)
        clear hT0 ih hxs hB hns hcm hf
        go_enter Tryz.func106, Tryz.ntmps106
        go_wp2_with (first | (go_at_call 129; refine (WA _).mono ?_; rintro e w1 ⟨rfl, rfl⟩) | (go_at_call 131; refine CV.mono ?_; rintro e w2 ⟨rfl, hb2⟩; obtain ⟨q0, q1, q2, q3, q4, q5, q6, q7, q8, q9⟩ := HK.out w2 hb2))
        go_ret
        exact ⟨by rw [R.out]; rfl, HFIN.out _ (by rw [HW1.out]; exact hb2)⟩
    · have ts : s.toList.isEmpty = false := by simpa using hse
      have ts2 : (s.toList == []) = false := by simpa using hse
      have ts3 : (s.toList != []) = true := by rw [bne, ts2]; rfl
      have R : Hid (T = false) := Lib.hid (by rw [hT0]; rw [decide_eq_false hse]; rfl)
      clear hT0 ih hxs hB hns hse hf
      go_enter Tryz.func106, Tryz.ntmps106
      go_wp2_with (first | (go_at_call 129; refine (WA _).mono ?_; rintro e w1 ⟨rfl, rfl⟩) | (go_at_call 131; refine CV.mono ?_; rintro e w2 ⟨rfl, hb2⟩; obtain ⟨q0, q1, q2, q3, q4, q5, q6, q7, q8, q9⟩ := HK.out w2 hb2))
      go_ret
      exact ⟨by rw [R.out]; rfl, HFIN.out _ (by rw [HW1.out]; exact hb2)⟩
end Go.Proofs.YtekojglcbalhnaaGreatDoor
namespace Go.Proofs.YtekojglcbalhnaaGreatDoor
open Go.RowKit


theorem right_e : ∀ (t : ET) (v : Array Value) (far : Int) (w : World), EVal w w.heap.size v t → far ≤ 1000 → -9223372036854775000 ≤ far →
    Calls Tryz.prog 106 #[.agg v, .int .i64 far] w fun e w' => e = .returned (.bool (rightE t far)) ∧ Below w.heap.size w w' := by
  intro t
  induction t with
  | bad => intro v far w h; cases h
  | mk k s v0 c ns m xs ih =>
    intro v far w h h9 h0
    cases h with
    | mk _ _ a0 a1 a2 a3 a4 a5 _ A _ ca B _ cb _ _ vs hk hs hv hc hm hns hB hxs =>
      have hcx : c ≤ 9223372036854775807 := by have := hc; unfold maxLen at this; omega
      have hmx : m ≤ 9223372036854775807 := by have := hm; unfold maxLen at this; omega
      have hsx : s.size ≤ 9223372036854775807 := by unfold maxLen at hs; omega
      by_cases k1 : k = 1
      · subst k1; exact right_e1 h9 hmx hcx hsx hv hns hB hxs (fun i => ih i) h0
      by_cases k2 : k = 2
      · subst k2; exact right_e2 h9 hmx hcx hsx hv hns hB hxs (fun i => ih i) h0
      by_cases k17 : k = 17
      · subst k17; exact right_e17 h9 hmx hcx hsx hv hns hB hxs (fun i => ih i) h0
      by_cases k18 : k = 18
      · subst k18; exact right_e18 h9 hmx hcx hsx hv hns hB hxs (fun i => ih i) h0
      exact right_ex k1 k2 k17 k18 h9 hmx hcx hsx hv hns hB hxs (fun i => ih i) h0
def okE (t : ET) : Bool := decide (ecntV t 0 ≤ 200) && rightE t 12
set_option maxRecDepth 20000 in
theorem Right_e {t : ET} {v : Array Value} {w : World} (hv : EVal w w.heap.size v t) : Calls Tryz.prog 73 #[.agg v] w fun e w' => e = .returned (.bool (okE t)) ∧ Below w.heap.size w w' := by
  have hbW : Below w.heap.size w (w.alloc (.cells v 97)) := (Below.refl _ _).alloc (Nat.le_refl _) _
  have hvW := (hv.stay hbW).mono hbW.size
  have P := eparts_any hvW
  have R := fun w' (hb : Below (w.alloc (.cells v 97)).heap.size (w.alloc (.cells v 97)) w') => right_e t v 12 w' ((hvW.stay hb).mono hb.size) (by omega) (by omega)
  obtain ⟨b0, b1, b2, b3, b4, b5, b6, b7, b8, b9, rfl⟩ := hv.ten
  have HK := ten_stays (w := w) (b0 := b0) (b1 := b1) (b2 := b2) (b3 := b3) (b4 := b4) (b5 := b5) (b6 := b6) (b7 := b7) (b8 := b8) (b9 := b9) (t := 97)
  have HR := Lib.hid R
  unfold okE
  have h2 := ecntV_in t 0 (by omega) (by omega)
  generalize ecntV t 0 = p at *
  generalize rightE t 12 = r at *
  clear hv hvW R
  by_cases hp : p ≤ 200
  · go_enter Tryz.func73, Tryz.ntmps73
    go_wp2_with fail
    refine P.mono ?_
    rintro e w1 ⟨rfl, hb1⟩
    obtain ⟨c0, c1, c2, c3, c4, c5, c6, c7, c8, c9⟩ := HK.out w1 hb1
    have hfin := hbW.trans (hb1.mono hbW.size)
    go_wp2_with (go_at_call 106; refine (HR.out w1 hb1).mono ?_; rintro e w2 ⟨rfl, hb2⟩)
    go_ret
    exact ⟨by rw [decide_eq_true hp, Bool.true_and]; rfl, hfin.trans (hb2.mono hfin.size)⟩
  · go_enter Tryz.func73, Tryz.ntmps73
    go_wp2_with fail
    refine P.mono ?_
    rintro e w1 ⟨rfl, hb1⟩
    have hfin := hbW.trans (hb1.mono hbW.size)
    go_wp2_with fail
    go_ret
    exact ⟨by simp only [decide_eq_false (show ¬ p ≤ 200 by omega), Bool.false_and]; rfl, hfin⟩
/-- Small enough to be gone over. -/
def smallE : ET → Bool
  | .bad => false
  | .mk k s v c ns m xs => decide (edepV (.mk k s v c ns m xs) 40 ≤ 30) && (decide (ecntV (.mk k s v c ns m xs) 0 < 500) && (smallV v && (List.range m).all fun i => smallE (xs i)))
end Go.Proofs.YtekojglcbalhnaaGreatDoor
namespace Go.Proofs.YtekojglcbalhnaaGreatDoor
open Go.RowKit

theorem ok_parts {t : VT} (h : okV t = true) : rightV t 12 = true ∧ tot t ≤ 200 := by
  unfold okV at h
  rw [Bool.and_eq_true] at h
  have hr := h.2
  have hc := of_decide_eq_true h.1
  rw [cnt_pure t 12 hr 0 (by omega) (by omega)] at hc
  exact ⟨hr, by omega⟩
theorem left_amid (A X B : ByteArray) : left (A ++ X ++ B) A.size = X.data.toList ++ B.data.toList := by
  unfold left
  rw [ByteArray.data_append, ByteArray.data_append, Array.toList_append, Array.toList_append, List.append_assoc]
  have e : A.data.toList.length = A.size := lst_len A
  rw [← e, List.drop_left]
/-- A command: five numbers, two values. -/
structure Cm where
  k : Int
  n : Int
  l : Int
  i : Int
  d : Int
  K : VT
  V : VT
def okS (n : Int) : Bool := decide (0 ≤ n) && decide (n ≤ 10000)
theorem okS_iff {n : Int} : okS n = true ↔ 0 ≤ n ∧ n ≤ 10000 := by unfold okS; simp
def kindV : VT → Int
  | .bad => 0
  | .mk k _ _ _ _ _ _ _ => k
/-- A value, or none. -/
def someL (t : VT) : List UInt8 := if kindV t = 0 then [0] else 1 :: valL t
def someB (t : VT) : Bool := if kindV t = 0 then noneB t else okV t
def cmdB (c : Cm) : Bool := okS c.k && (okS c.n && (okS c.l && (okS c.i && (okS c.d && (someB c.K && someB c.V)))))
def cmdL (c : Cm) : List UInt8 := uintL c.k.toNat ++ (uintL c.n.toNat ++ (uintL c.l.toNat ++ (uintL c.i.toNat ++ (uintL c.d.toNat ++ (someL c.K ++ someL c.V)))))
/-- What a small number is read as. -/
def smP (l : List UInt8) : Option (Nat × List UInt8) := match uP 0 0 l with
  | .error _ => none
  | .ok (n, r) => if n ≤ 10000 then some (n, r) else none
def noneT : VT := leaf 0 0 0 ⟨#[]⟩
def valP (l : List UInt8) : Option (VT × List UInt8) := match rrV l with
  | .error _ => none
  | .ok z => some z
/-- What a value, or none, is read as. -/
def svP (l : List UInt8) : Option (VT × List UInt8) := (smP l).bind fun a => if a.1 = 0 then some (noneT, a.2) else if a.1 = 1 then valP a.2 else none
def cmdP (l : List UInt8) : Option (Cm × List UInt8) :=
  (smP l).bind fun a => (smP a.2).bind fun b => (smP b.2).bind fun c => (smP c.2).bind fun d => (smP d.2).bind fun e => (svP e.2).bind fun f => (svP f.2).bind fun g =>
    some (⟨a.1, b.1, c.1, d.1, e.1, f.1, g.1⟩, g.2)

theorem smP_in {l r : List UInt8} {n : Nat} (h : smP l = some (n, r)) : n ≤ 10000 ∧ uP 0 0 l = .ok (n, r) := by
  unfold smP at h
  cases hu : uP 0 0 l with
  | error c => rw [hu] at h; cases h
  | ok z =>
    obtain ⟨m, r'⟩ := z
    rw [hu] at h
    dsimp only at h
    split at h
    · injection h with h; cases h; exact ⟨by assumption, rfl⟩
    · cases h
theorem smP_back {n : Int} (h : okS n = true) (r : List UInt8) : smP (uintL n.toNat ++ r) = some (n.toNat, r) := by
  have := okS_iff.1 h
  unfold smP
  rw [U_back (by omega)]
  exact if_pos (by omega)
/-- A first byte below 128 is a number. -/
theorem uP_byte {b : UInt8} {l : List UInt8} (h : b.toNat < 128) : uP 0 0 (b :: l) = .ok (b.toNat, l) := by
  rw [uP_last (by omega) h]
  have : b.toNat % 128 = b.toNat := by omega
  simp [this]
theorem uP_great {b : UInt8} {l r : List UInt8} {n : Nat} (h : ¬ b.toNat < 128) (hu : uP 0 0 (b :: l) = .ok (n, r)) : 128 ≤ n := by
  obtain ⟨m, e, hn, _⟩ := u_one _ _ _ _ _ hu
  have hm : n = m := by simpa using hn
  subst hm
  by_cases h2 : n < 128
  · rw [uintL_last h2] at e
    simp at e
    have := e.1
    subst this
    exact absurd (by rw [byte_lo h2]; exact h2) h
  · omega
theorem svP_nil : svP [] = none := rfl
theorem svP_0 (l : List UInt8) : svP (0 :: l) = some (noneT, l) := by
  unfold svP smP
  rw [uP_byte (by decide)]
  rfl
theorem svP_1 (l : List UInt8) : svP (1 :: l) = valP l := by
  unfold svP smP
  rw [uP_byte (by decide)]
  rfl
theorem svP_2 {b : UInt8} {l : List UInt8} (h : 1 < b.toNat) : svP (b :: l) = none := by
  unfold svP smP
  cases hu : uP 0 0 (b :: l) with
  | error c => rfl
  | ok z =>
    obtain ⟨n, r⟩ := z
    have hn : 1 < n := by
      by_cases h8 : b.toNat < 128
      · rw [uP_byte h8] at hu; injection hu with hu; injection hu with h1 _; omega
      · have := uP_great h8 hu; omega
    dsimp only
    by_cases h4 : n ≤ 10000
    · rw [if_pos h4]
      show (if n = 0 then _ else if n = 1 then _ else none) = _
      rw [if_neg (by omega), if_neg (by omega)]
    · rw [if_neg h4]; rfl
theorem byte_le1 {b : UInt8} (h : ¬ 1 < b.toNat) : b = 0 ∨ b = 1 := by
  have : b.toNat = 0 ∨ b.toNat = 1 := by omega
  rcases this with h | h
  · exact .inl (UInt8.toNat_inj.1 h)
  · exact .inr (UInt8.toNat_inj.1 h)
/-- What a value, or none, is read as, once it was written. -/
def snorm (t : VT) : VT := if kindV t = 0 then noneT else norm t
theorem sv_back {t : VT} (h : someB t = true) (hf : floatsIn t) (hn : numsIn t) (r : List UInt8) : svP (someL t ++ r) = some (snorm t, r) := by
  unfold someB at h
  unfold someL snorm
  by_cases hk : kindV t = 0
  · rw [if_pos hk, if_pos hk]
    exact svP_0 r
  · rw [if_neg hk] at h
    rw [if_neg hk, if_neg hk]
    show svP (1 :: (valL t ++ r)) = _
    obtain ⟨h1, h2⟩ := ok_parts h
    rw [svP_1]
    unfold valP rrV
    have := v_back t 12 0 r h1 hf hn (by omega)
    simp only [this]
    rw [norm_ok h1 h2]
    rfl
def cnorm (c : Cm) : Cm := { c with K := snorm c.K, V := snorm c.V }
theorem cmd_back {c : Cm} (h : cmdB c = true) (hK : floatsIn c.K ∧ numsIn c.K) (hV : floatsIn c.V ∧ numsIn c.V) (r : List UInt8) : cmdP (cmdL c ++ r) = some (cnorm c, r) := by
  unfold cmdB at h
  simp only [Bool.and_eq_true] at h
  obtain ⟨h1, h2, h3, h4, h5, h6, h7⟩ := h
  unfold cmdP cmdL
  simp only [List.append_assoc]
  have e1 := okS_iff.1 h1
  have e2 := okS_iff.1 h2
  have e3 := okS_iff.1 h3
  have e4 := okS_iff.1 h4
  have e5 := okS_iff.1 h5
  rw [smP_back h1, Option.bind_some, smP_back h2, Option.bind_some, smP_back h3, Option.bind_some, smP_back h4, Option.bind_some, smP_back h5, Option.bind_some, sv_back h6 hK.1 hK.2, Option.bind_some, sv_back h7 hV.1 hV.2, Option.bind_some]
  unfold cnorm
  congr 2
  simp
  omega
end Go.Proofs.YtekojglcbalhnaaGreatDoor
namespace Go.Proofs.YtekojglcbalhnaaGreatDoor
open Go.RowKit

theorem pinsist_yes (w : World) : Calls Tryz.prog 63 #[.bool true] w fun e w' => e = .returned (.tuple #[]) ∧ w = w' := by
  go_enter Tryz.func63, Tryz.ntmps63
  go_wp2_with fail
  go_end0
  exact ⟨rfl, rfl⟩
theorem pinsist_no (w : World) : Calls Tryz.prog 63 #[.bool false] w fun e w' => e = .panicked (errL 5) ∧ w = w' := by
  go_enter Tryz.func63, Tryz.ntmps63
  go_wp2_with fail
  exact ⟨rfl, rfl, rfl⟩
/-- A row stays where its own block stays. -/
theorem prow_keep {w w' : World} {base : Nat} {v : Value} {L : List UInt8} (h : Row5 w base v L) (hk : ∀ k, v.ownBlock = some k → w'.heap[k]? = w.heap[k]?) : Row5 w' base v L := by
  obtain ⟨h1, h2⟩ := h
  refine ⟨h1, ?_⟩
  rcases h2 with h2 | ⟨k, cap, cur, hv, hbk, hh, r⟩
  · exact .inl h2
  · exact .inr ⟨k, cap, cur, hv, hbk, by rw [hk k (by subst hv; rfl)]; exact hh, r⟩
/-- The program's writer: the bytes so far. -/
def Wr (w : World) (g : Nat) (L : List UInt8) : Prop := ∃ v, w.heap[g]? = some (.cells #[v] 105 (0, 0)) ∧ Row5 w (g + 1) v L
/-- All but the writer, and the rows of bytes behind it, is as it was. -/
structure Wk (g : Nat) (w w' : World) : Prop where
  os : w'.os = w.os
  tape : w'.tape = w.tape
  output : w'.output = w.output
  size : w.heap.size ≤ w'.heap.size
  block : ∀ k, k < w.heap.size → k ≠ g → (k < g ∨ ∀ cur, w.heap[k]? ≠ some (.cells cur 5 (0, 0))) → w'.heap[k]? = w.heap[k]?
theorem Wk.refl (g : Nat) (w : World) : Wk g w w := ⟨rfl, rfl, rfl, Nat.le_refl _, fun _ _ _ _ => rfl⟩
theorem Wk.trans {g : Nat} {a b c : World} (h : Wk g a b) (k : Wk g b c) : Wk g a c :=
  ⟨k.os.trans h.os, k.tape.trans h.tape, k.output.trans h.output, Nat.le_trans h.size k.size, fun i hi hn hc => by
    have e := h.block i hi hn hc
    have hs := h.size
    rw [← e]
    refine k.block i (by omega) hn ?_
    rcases hc with hc | hc
    · exact .inl hc
    · exact .inr fun cur => by rw [e]; exact hc cur⟩
theorem Wk.of_below {g : Nat} {w w' : World} (h : Below w.heap.size w w') : Wk g w w' := ⟨h.os, h.tape, h.output, h.size, fun k hk _ _ => h.block k hk⟩
theorem Wk.alloc {g : Nat} {a w : World} (h : Wk g a w) (o : Obj) : Wk g a (w.alloc o) := h.trans (.of_below ((Below.refl _ _).alloc (Nat.le_refl _) o))
theorem Wk.below {g : Nat} {w w' : World} (h : Wk g w w') (hg : g ≤ w.heap.size) : Below g w w' := ⟨h.os, h.tape, h.output, h.size, fun k hk => h.block k (by omega) (by omega) (.inl hk)⟩
theorem Wr.lt {w : World} {g : Nat} {L : List UInt8} (h : Wr w g L) : g < w.heap.size := by
  obtain ⟨v, hg, _⟩ := h
  exact (Array.getElem?_eq_some_iff.1 hg).1
theorem Wr.past {w w' : World} {g : Nat} {L : List UInt8} (h : Wr w g L) (hb : Below w.heap.size w w') : Wr w' g L := by
  obtain ⟨v, hg, hr⟩ := h
  exact ⟨v, (hb.block g (Array.getElem?_eq_some_iff.1 hg).1).trans hg, prow_keep hr fun k hk => hb.block k (hr.lt k hk).2⟩
theorem Wr.alloc {w : World} {g : Nat} {L : List UInt8} (h : Wr w g L) (o : Obj) : Wr (w.alloc o) g L := h.past ((Below.refl _ _).alloc (Nat.le_refl _) o)
theorem wr_stored {w w3 : World} {g : Nat} {v v' : Value} {L M : List UInt8} (hg : w.heap[g]? = some (.cells #[v] 105 (0, 0))) (hr : Row5 w (g + 1) v L) (hgr : w.grownBy w3 v.ownBlock) (hr3 : Row5 w3 (g + 1) v' M) :
    w3.cell? ⟨g, 0, none⟩ = some v ∧ w3.frozen? ⟨g, 0, none⟩ = false ∧ Wr (w3.setCell ⟨g, 0, none⟩ v') g M ∧ Wk g w (w3.setCell ⟨g, 0, none⟩ v') := by
  have hlt : g < w.heap.size := (Array.getElem?_eq_some_iff.1 hg).1
  have h3 : w3.heap[g]? = some (.cells #[v] 105 (0, 0)) := (hgr.block g hlt fun e => by have := (hr.lt g e.symm).1; omega).trans hg
  have hk := Keeps.grown hr hgr
  refine ⟨by simp [World.cell?, h3], by simp [World.frozen?, h3], ⟨v', by simp [World.setCell, Array.getElem?_modify, h3], prow_keep hr3 fun k e => ?_⟩, ?_⟩
  · have := (hr3.lt k e).1
    simp [World.setCell, Array.getElem?_modify]
    omega
  · refine ⟨hk.os, hk.tape, hk.output, by simpa [World.setCell] using hk.size, fun k hk1 hk2 hk3 => ?_⟩
    have e : (w3.setCell ⟨g, 0, none⟩ v').heap[k]? = w3.heap[k]? := by
      simp [World.setCell, Array.getElem?_modify]
      omega
    rw [e]
    exact hk.block k hk1 (hk3.elim (fun h => .inl (by omega)) .inr)
set_option maxRecDepth 20000 in
theorem put_any {w : World} {g : Nat} {L : List UInt8} {s : ByteArray} (h : Wr w g L) (hL : L.length ≤ 100000000) (hs : s.size ≤ 100000000) :
    Calls Tryz.prog 52 #[.pointer (some ⟨g, 0, none⟩), .string s] w fun e w' => e = .returned (.tuple #[]) ∧ Wr w' g (L ++ s.data.toList) ∧ Wk g w w' := by
  obtain ⟨v, hg, hr⟩ := h
  have hlt : g < w.heap.size := (Array.getElem?_eq_some_iff.1 hg).1
  have ht : Hid (s.size = s.data.toList.length) := Lib.hid (by rw [Array.length_toList]; rfl)
  obtain ⟨A, cap, rfl⟩ := hr.slice
  have c0 : w.cell? ⟨g, 0, none⟩ = some (.slice A L.length cap) := by simp [World.cell?, hg]
  obtain ⟨i0, hi, hz0, hz1, hz2⟩ := info_parts info5
  have HR := Lib.hid hr
  have HG := Lib.hid hg
  clear hr hg
  go_enter Tryz.func52, Tryz.ntmps52
  go_wp2_with (at_builtin; refine Lib.wpList_append_own_string _ rfl (.tmp 8) (.tmp 9) 103 9 rfl (g + 1) 5 i0 Tryz.underlying103 Tryz.underlying9 hi hz0 hz1 hz2 _ _ _ rfl HR.out s rfl (by unfold maxLen; omega) (by omega) (by omega) ?_; intro v' w3 hown' hgrow3 hnil3; refine Hid.out ?_)
  refine Lib.hid ?_
  have h3 : Row5 w3 (g + 1) v' (L ++ s.data.toList) := Row5.more hown' rfl ht.out
  obtain ⟨d0, d1, h4, hk4⟩ := wr_stored HG.out HR.out hgrow3 h3
  have H4 := Lib.hid h4
  have HK4 := Lib.hid hk4
  obtain ⟨A', cap', hv'⟩ := h3.slice
  rw [List.length_append, ← ht.out] at hv'
  subst hv'
  clear hown' hgrow3 hnil3 h3 h4 hk4 c0
  go_wp2_with fail
  go_end0
  exact ⟨rfl, H4.out, HK4.out⟩
set_option maxRecDepth 20000 in
theorem wsmall_ok {w : World} {g : Nat} {L : List UInt8} {n : Nat} (h : Wr w g L) (hL : L.length ≤ 10000000) (hn : n ≤ 10000) :
    Calls Tryz.prog 37 #[.pointer (some ⟨g, 0, none⟩), .int .i64 n] w fun e w' => e = .returned (.tuple #[]) ∧ Wr w' g (L ++ uintL n) ∧ Wk g w w' := by
  have U := Uint_f (n := n) (by omega) w
  have hl := uintL_len10 (n := n) (by omega)
  have hz : (strL (uintL n)).size = (uintL n).length := by rw [← lst_len, lst_strL]
  have P := fun (w1 : World) (hb : Below w.heap.size w w1) => put_any (s := strL (uintL n)) (h.past hb) (by omega) (by omega)
  rw [lst_strL] at P
  have E1 : IntKind.u64.wrap (n : Int) = n := by rw [IntKind.wrap_u64]; omega
  have t1 : decide ((0 : Int) ≤ (n : Int)) = true := by simp
  have t2 : decide ((n : Int) ≤ (10000 : Int)) = true := by simp; omega
  have HP := Lib.hid P
  have HU := Lib.hid U
  generalize strL (uintL n) = s at *
  generalize uintL n = M at *
  clear P U h hL hn hl hz
  go_enter Tryz.func37, Tryz.ntmps37
  go_wp2_with (first | (go_at_call 63; refine (pinsist_yes _).mono ?_; rintro e w0 ⟨rfl, rfl⟩) | (go_at_call 70; refine HU.out.mono ?_; rintro e w1 ⟨rfl, hb1⟩; have HB1 := Lib.hid hb1; clear hb1) | (go_at_call 52; refine (HP.out _ HB1.out).mono ?_; rintro e w2 ⟨rfl, h2, hk2⟩))
  go_end0
  exact ⟨rfl, h2, (Wk.of_below HB1.out).trans hk2⟩
theorem wsmall_bad {w : World} {g : Nat} {n : Int} (hn : ¬ (0 ≤ n ∧ n ≤ 10000)) :
    Calls Tryz.prog 37 #[.pointer (some ⟨g, 0, none⟩), .int .i64 n] w fun e w' => e = .panicked (errL 5) ∧ w = w' := by
  by_cases h0 : 0 ≤ n
  · have h1 : ¬ n ≤ 10000 := fun h => hn ⟨h0, h⟩
    have t1 : decide ((0 : Int) ≤ n) = true := by simpa using h0
    have t2 : decide (n ≤ (10000 : Int)) = false := by simpa using h1
    clear h0 h1 hn
    go_enter Tryz.func37, Tryz.ntmps37
    go_wp2_with (go_at_call 63; refine (pinsist_no _).mono ?_; rintro e w0 ⟨rfl, rfl⟩)
    exact ⟨rfl, rfl, rfl⟩
  · have t1 : decide ((0 : Int) ≤ n) = false := by simpa using h0
    clear h0 hn
    go_enter Tryz.func37, Tryz.ntmps37
    go_wp2_with (go_at_call 63; refine (pinsist_no _).mono ?_; rintro e w0 ⟨rfl, rfl⟩)
    exact ⟨rfl, rfl, rfl⟩
end Go.Proofs.YtekojglcbalhnaaGreatDoor
namespace Go.Proofs.YtekojglcbalhnaaGreatDoor
open Go.RowKit

/-- The program's reader: the bytes, the place. -/
def Pr (w : World) (g : Nat) (s : ByteArray) (a : Int) : Prop := w.heap[g]? = some (.cells #[.string s, .int .i64 a] 110 (0, 0))
theorem Pr.cells {w : World} {g : Nat} {s : ByteArray} {a : Int} (h : Pr w g s a) : w.cell? ⟨g, 0, none⟩ = some (.string s) ∧ w.cell? ⟨g, 1, none⟩ = some (.int .i64 a) ∧ ∀ o, w.frozen? ⟨g, o, none⟩ = false := by
  unfold Pr at h
  refine ⟨?_, ?_, fun o => ?_⟩
  · simp [World.cell?, h]
  · simp [World.cell?, h]
  · simp [World.frozen?, h]
theorem Pr.lt {w : World} {g : Nat} {s : ByteArray} {a : Int} (h : Pr w g s a) : g < w.heap.size := (Array.getElem?_eq_some_iff.1 h).1
theorem Pr.set1 {w : World} {g : Nat} {s : ByteArray} {a : Int} (h : Pr w g s a) (b : Int) : Pr (w.setCell ⟨g, 1, none⟩ (.int .i64 b)) g s b := by
  unfold Pr at *
  simp [World.setCell, Array.getElem?_modify, h]
theorem Pr.past {w w' : World} {g : Nat} {s : ByteArray} {a : Int} (h : Pr w g s a) (hb : Below w.heap.size w w') : Pr w' g s a := (hb.block g h.lt).trans h
theorem Pr.drew {w : World} {g : Nat} {s : ByteArray} {a : Int} (h : Pr w g s a) : Pr w.drew g s a := h
theorem left_rest {s : ByteArray} {a : Nat} {X l : List UInt8} (ha : a ≤ s.size) (h : left s a = X ++ l) : l = left s (a + X.length) ∧ a + X.length ≤ s.size ∧ s.size - l.length = a + X.length := by
  have h1 : left s (a + X.length) = l := by
    unfold left at *
    rw [← List.drop_drop, h, List.drop_left]
  have h2 := congrArg List.length h
  rw [left_len, List.length_append] at h2
  exact ⟨h1.symm, by omega, by omega⟩
theorem goOn_ok {w : World} {g : Nat} {s : ByteArray} {a : Int} (h : Pr w g s a) (b : Int) :
    Calls Tryz.prog 78 #[.pointer (some ⟨g, 0, none⟩), .int .i64 b, .int .i64 0] w fun e w' => e = .returned (.tuple #[]) ∧ Pr w' g s b ∧ Past g w w' := by
  obtain ⟨c0, c1, cf⟩ := h.cells
  have h2 := Lib.hid (h.set1 b)
  have P := Lib.hid ((Past.refl g w).set 1 (.int .i64 b))
  clear h
  go_enter Tryz.func78, Tryz.ntmps78
  go_wp2_with (go_at_call 63; refine (pinsist_yes _).mono ?_; rintro e w0 ⟨rfl, rfl⟩)
  go_end0
  exact ⟨rfl, h2.out, P.out⟩
theorem goOn_bad {w : World} {g : Nat} {b c : Int} (hc : c ≠ 0) :
    Calls Tryz.prog 78 #[.pointer (some ⟨g, 0, none⟩), .int .i64 b, .int .i64 c] w fun e w' => e = .panicked (errL 5) ∧ w = w' := by
  have t1 : (c == 0) = false := by simpa using hc
  clear hc
  go_enter Tryz.func78, Tryz.ntmps78
  go_wp2_with (go_at_call 63; refine (pinsist_no _).mono ?_; rintro e w0 ⟨rfl, rfl⟩)
  exact ⟨rfl, rfl, rfl⟩
/-- What a small number's reading leaves. -/
def SmEnds (s : ByteArray) (w : World) (g : Nat) (r : Option (Nat × List UInt8)) (e : Ending) (w' : World) : Prop :=
  Past g w w' ∧ match r with
  | none => e = .panicked (errL 5)
  | some (n, l) => e = .returned (.int .i64 n) ∧ ∃ b : Nat, b ≤ s.size ∧ l = left s b ∧ Pr w' g s b
set_option maxRecDepth 20000 in
set_option maxHeartbeats 1000000 in
theorem rsmall_any {w : World} {g : Nat} {s : ByteArray} {a : Nat} (h : Pr w g s a) (ha : a ≤ s.size) (hs : s.size ≤ 1000000000) :
    Calls Tryz.prog 44 #[.pointer (some ⟨g, 0, none⟩)] w fun e w' => SmEnds s w g (smP (left s a)) e w' := by
  obtain ⟨c0, c1, cf⟩ := h.cells
  obtain ⟨d0, d1, df⟩ := h.drew.cells
  have U := ReadUint_f (s := s) (a := (a : Int)) (w := w.drew) hs
  unfold rdU at U
  rw [if_neg (by omega), show ((a : Int)).toNat = a by omega] at U
  have hD : Below w.heap.size w w.drew := (Below.refl _ _).drew
  have HD := Lib.hid hD
  have HP := Lib.hid h
  cases hu : uP 0 0 (left s a) with
  | error c =>
    have hsm : smP (left s a) = none := by unfold smP; rw [hu]
    have hc : (c : Int) ≠ 0 := by rcases uP_err _ _ _ _ hu with rfl | rfl <;> decide
    rw [hu] at U
    rw [hsm]
    unfold faceV at U
    dsimp only at U
    have HU := Lib.hid U
    have G := Lib.hid (fun (W : World) (b : Int) => goOn_bad (w := W) (g := g) (b := b) hc)
    generalize (c : Int) = z at *
    clear U hu hsm hc h hD cf df
    go_enter Tryz.func44, Tryz.ntmps44
    go_wp2_with fail
    go_region_held3 (fun W => W.cell? ⟨g, 0, none⟩ = some (.string s) ∧ W.cell? ⟨g, 1, none⟩ = some (.int .i64 a))
      (first
        | go_keep
        | exact ⟨hp1.out.cells.1, hp1.out.cells.2.1⟩)
      (first
        | (go_simp; go_at_call 77; (with_reducible refine HU.out.mono ?_); rintro e w1 ⟨rfl, hb1⟩; have hp1 := Lib.hid (HP.out.drew.past hb1); have HB1 := Lib.hid (HD.out.trans (Below.mono hb1 (Nat.le_refl _))); clear hb1))
    go_wp2_with (go_at_call 78; refine (G.out _ _).mono ?_; rintro e w2 ⟨rfl, rfl⟩)
    exact ⟨rfl, Past.of_below HB1.out, rfl⟩
  | ok z =>
    obtain ⟨n, l⟩ := z
    obtain ⟨el, eb, en⟩ := left_rest ha (U_one hu)
    rw [hu] at U
    unfold faceV at U
    dsimp only at U
    rw [en] at U
    have HU := Lib.hid U
    have HF := Lib.hid (And.intro eb el)
    generalize a + (uintL n).length = b at *
    have G := Lib.hid (fun (W : World) (hW : Pr W g s a) => goOn_ok hW (b : Int))
    have hin := U_in hu
    by_cases h4 : n ≤ 10000
    · have hsm : smP (left s a) = some (n, l) := by unfold smP; rw [hu]; exact if_pos h4
      have t4 : decide ((n : Int) ≤ (10000 : Int)) = true := by simp; omega
      have E4 : IntKind.i64.wrap (n : Int) = n := by rw [IntKind.wrap_i64]; omega
      rw [hsm]
      clear U hu hsm h hD cf df h4 hin el eb en
      go_enter Tryz.func44, Tryz.ntmps44
      go_wp2_with fail
      go_region_held3 (fun W => W.cell? ⟨g, 0, none⟩ = some (.string s) ∧ W.cell? ⟨g, 1, none⟩ = some (.int .i64 a))
        (first
          | go_keep
          | exact ⟨hp1.out.cells.1, hp1.out.cells.2.1⟩)
        (first
          | (go_simp; go_at_call 77; (with_reducible refine HU.out.mono ?_); rintro e w1 ⟨rfl, hb1⟩; have hp1 := Lib.hid (HP.out.drew.past hb1); have HB1 := Lib.hid (HD.out.trans (Below.mono hb1 (Nat.le_refl _))); clear hb1))
      go_wp2_with (first | (go_at_call 78; refine (G.out _ hp1.out).mono ?_; rintro e w2 ⟨rfl, h2, hp2⟩) | (go_at_call 63; refine (pinsist_yes _).mono ?_; rintro e w3 ⟨rfl, rfl⟩))
      go_ret
      exact ⟨(Past.of_below HB1.out).trans hp2, rfl, b, HF.out.1, HF.out.2, h2⟩
    · have hsm : smP (left s a) = none := by unfold smP; rw [hu]; exact if_neg h4
      have t4 : decide ((n : Int) ≤ (10000 : Int)) = false := by simp; omega
      rw [hsm]
      clear U hu hsm h hD cf df h4 hin el eb en
      go_enter Tryz.func44, Tryz.ntmps44
      go_wp2_with fail
      go_region_held3 (fun W => W.cell? ⟨g, 0, none⟩ = some (.string s) ∧ W.cell? ⟨g, 1, none⟩ = some (.int .i64 a))
        (first
          | go_keep
          | exact ⟨hp1.out.cells.1, hp1.out.cells.2.1⟩)
        (first
          | (go_simp; go_at_call 77; (with_reducible refine HU.out.mono ?_); rintro e w1 ⟨rfl, hb1⟩; have hp1 := Lib.hid (HP.out.drew.past hb1); have HB1 := Lib.hid (HD.out.trans (Below.mono hb1 (Nat.le_refl _))); clear hb1))
      go_wp2_with (first | (go_at_call 78; refine (G.out _ hp1.out).mono ?_; rintro e w2 ⟨rfl, h2, hp2⟩) | (go_at_call 63; refine (pinsist_no _).mono ?_; rintro e w3 ⟨rfl, rfl⟩))
      exact ⟨rfl, (Past.of_below HB1.out).trans hp2, rfl⟩
end Go.Proofs.YtekojglcbalhnaaGreatDoor

/-
  When an expression is right, plainly; contract of basculeref08's right, of constants and variables.
-/
import Derived.Test.YtcmohggnehkjeaaGreatXp
import Derived.Test.YtcmohggnehkjeaaGreatUb
import Derived.Test.YtcmohggnehkjeaaGreatVr
import Derived.BigQuiet
namespace Go.Proofs.YtcmohggnehkjeaaGreat
open Go.RowKit


def shapeE (k : Int) (m : Nat) (far : Int) : Bool := decide (1 ≤ far) && (!decide (wantV k = -2) && (decide (wantV k < 0) || decide ((m : Int) = wantV k)))
def valE (k : Int) (v : VT) : Bool := if k = 1 then constB v else noneB v
def nameE (k : Int) (s : ByteArray) : Bool := if k = 2 then nameB s && !wordB s.data.toList else if k = 18 then fieldB s else decide (s.toList = [])
def lenE (k : Int) (c m : Nat) : Bool := if k = 17 then decide (c = m) else decide (c = 0)
def fieldAt (ns : Nat → ByteArray) (i : Nat) : Bool := fieldB (ns i) && (decide (i = 0) || lessS (ns (i - 1)) (ns i))
def fieldsE (c : Nat) (ns : Nat → ByteArray) : Bool := (List.range c).all (fieldAt ns)
theorem fieldsE_no {c : Nat} {ns : Nat → ByteArray} {i : Nat} (hi : i < c) (h : fieldAt ns i = false) : fieldsE c ns = false := by
  unfold fieldsE
  rw [List.all_eq_false]
  exact ⟨i, List.mem_range.2 hi, by rw [h]; simp⟩
theorem fieldsE_yes {c : Nat} {ns : Nat → ByteArray} (h : ∀ i, i < c → fieldAt ns i = true) : fieldsE c ns = true := by
  unfold fieldsE
  rw [List.all_eq_true]
  exact fun i hi => h i (List.mem_range.1 hi)
def rightE : ET → Int → Bool
  | .bad, _ => false
  | .mk k s v c ns m xs, far => shapeE k m far && (valE k v && (nameE k s && (lenE k c m && (fieldsE c ns && (List.range m).all fun i => rightE (xs i) (far - 1)))))
theorem ten_stays {w : World} {b0 b1 b2 b3 b4 b5 b6 b7 b8 b9 : Value} {t : TypeId} : Hid (∀ w', Below (w.alloc (.cells #[b0, b1, b2, b3, b4, b5, b6, b7, b8, b9] t)).heap.size (w.alloc (.cells #[b0, b1, b2, b3, b4, b5, b6, b7, b8, b9] t)) w' →
    w'.cell? ⟨w.heap.size, 0, none⟩ = some b0 ∧ w'.cell? ⟨w.heap.size, 1, none⟩ = some b1 ∧ w'.cell? ⟨w.heap.size, 2, none⟩ = some b2 ∧ w'.cell? ⟨w.heap.size, 3, none⟩ = some b3 ∧ w'.cell? ⟨w.heap.size, 4, none⟩ = some b4 ∧ w'.cell? ⟨w.heap.size, 5, none⟩ = some b5 ∧ w'.cell? ⟨w.heap.size, 6, none⟩ = some b6 ∧ w'.cell? ⟨w.heap.size, 7, none⟩ = some b7 ∧ w'.cell? ⟨w.heap.size, 8, none⟩ = some b8 ∧ w'.cell? ⟨w.heap.size, 9, none⟩ = some b9) := Lib.hid fun w' hb => by
  have K := fun o => hb.cell (p := ⟨w.heap.size, o, none⟩) (by simp)
  refine ⟨?_, ?_, ?_, ?_, ?_, ?_, ?_, ?_, ?_, ?_⟩ <;> (rw [K, World.cell?_alloc_new]; rfl)
set_option maxRecDepth 20000 in
set_option maxHeartbeats 4000000 in
theorem right_e1 {s : ByteArray} {a0 a1 a2 a3 a4 a5 : Value} {v : VT} {A : Option Addr} {c ca : Nat} {B : Option Addr} {m cb : Nat} {w : World} {far : Int} {ns : Nat → ByteArray} {vs : Nat → Array Value} {xs : Nat → ET} (h9 : far ≤ 1000) (hmx : m ≤ 9223372036854775807) (hcx : c ≤ 9223372036854775807) (hsx : s.size ≤ 9223372036854775807)
    (hv : Val w w.heap.size #[a0, a1, a2, a3, a4, a5] v) (hns : Strs w w.heap.size A c ns)
    (hB : 0 < m → ∃ g o, B = some ⟨g, o, none⟩ ∧ g < w.heap.size ∧ ∀ i, i < m → TenAt w g (o + i * 10) (vs i)) (hxs : ∀ i, i < m → EVal w w.heap.size (vs i) (xs i))
    (ih : ∀ (i : Nat) (v : Array Value) (far : Int) (w : World), EVal w w.heap.size v (xs i) → far ≤ 1000 → -9223372036854775000 ≤ far → Calls Tryz.prog 62 #[.agg v, .int .i64 far] w fun e w' => e = .returned (.bool (rightE (xs i) far)) ∧ Below w.heap.size w w') (hfar : -9223372036854775000 ≤ far) :
    Calls Tryz.prog 62 #[.agg (efields 1 s a0 a1 a2 a3 a4 a5 A c ca B m cb), .int .i64 far] w fun e w' => e = .returned (.bool (rightE (.mk 1 s v c ns m xs) far)) ∧ Below w.heap.size w w' := by
  obtain ⟨T, hT0⟩ : ∃ T, T = rightE (.mk 1 s v c ns m xs) far := ⟨_, rfl⟩
  rw [← hT0]
  unfold rightE at hT0
  obtain ⟨W1, hW1⟩ : ∃ W1, W1 = w.alloc (.cells #[.int .i64 1, .string s, a0, a1, a2, a3, a4, a5, .slice A c ca, .slice B m cb] 44) := ⟨_, rfl⟩
  have hbW : Below w.heap.size w (w.alloc (.cells #[.int .i64 1, .string s, a0, a1, a2, a3, a4, a5, .slice A c ca, .slice B m cb] 44)) := (Below.refl _ _).alloc (Nat.le_refl _) _
  have hvW := (hv.stay hbW).mono hbW.size
  have HK := ten_stays (w := w) (b0 := .int .i64 1) (b1 := .string s) (b2 := a0) (b3 := a1) (b4 := a2) (b5 := a3) (b6 := a4) (b7 := a5) (b8 := .slice A c ca) (b9 := .slice B m cb) (t := 44)
  have HW1 := Lib.hid hW1
  have HBW := Lib.hid hbW
  have HFIN : Hid (∀ w', Below W1.heap.size W1 w' → Below w.heap.size w w') := Lib.hid fun w' h => by rw [hW1] at h; exact hbW.trans (h.mono hbW.size)
  have HCEL : Hid (∀ w', Below W1.heap.size W1 w' → w'.cell? ⟨w.heap.size, 8, none⟩ = some (.slice A c ca) ∧ w'.cell? ⟨w.heap.size, 9, none⟩ = some (.slice B m cb)) := Lib.hid fun w' h => by
    rw [hW1] at h
    obtain ⟨_, _, _, _, _, _, _, _, q8, q9⟩ := HK.out w' h
    exact ⟨q8, q9⟩
  clear hW1 hbW hv
  unfold efields
  have hih := ih
  have hhs := hsx
  have hhm := hmx
  have hhc := hcx
  clear hih hhs hhm hhc
  have WA := fun W => wants_any 1 W
  have CV := constant_any hvW
  clear hvW
  rw [show wantV 1 = 0 from rfl] at WA
  have E1 : shapeE 1 m far = (decide (1 ≤ far) && decide ((m : Int) = 0)) := by
    unfold shapeE
    rw [show wantV 1 = 0 from rfl]
    simp
  have E2 : valE 1 v = constB v := if_pos rfl
  have E3 : nameE 1 s = decide (s.toList = []) := (if_neg (by decide)).trans (if_neg (by decide))
  have E4 : lenE 1 c m = decide (c = 0) := if_neg (by decide)
  rw [E1, E2, E3, E4] at hT0
  clear E1 E2 E3 E4
  by_cases hf : far < 1
  · have hf' : decide (1 ≤ far) = false := by simp; omega
    have R : Hid (T = false) := Lib.hid (by rw [hT0]; rw [hf']; rfl)
    have tf : decide (far < 1) = true := by simp; omega
    clear hT0 ih hxs hB hns CV hf hf'
    go_enter Tryz.func62, Tryz.ntmps62
    go_wp2_with (first | (go_at_call 96; refine (WA _).mono ?_; rintro e w1 ⟨rfl, rfl⟩))
    go_ret
    exact ⟨by rw [R.out]; rfl, HFIN.out _ (by rw [HW1.out]; exact Below.refl _ _)⟩
  have hf' : decide (1 ≤ far) = true := by simp; omega
  have tf : decide (far < 1) = false := by simp; omega
  rw [hf', Bool.true_and] at hT0
  clear hf'
  by_cases hm : m = 0
  · subst hm
    rw [show decide (((0 : Nat) : Int) = 0) = true from rfl, Bool.true_and] at hT0
    cases hcv : constB v with
    | false =>
      rw [hcv] at CV
      have R : Hid (T = false) := Lib.hid (by rw [hT0]; rw [hcv]; rfl)
      clear hT0 ih hxs hB hns hcv hf
      go_enter Tryz.func62, Tryz.ntmps62
      go_wp2_with (first | (go_at_call 96; refine (WA _).mono ?_; rintro e w1 ⟨rfl, rfl⟩) | (go_at_call 97; refine CV.mono ?_; rintro e w2 ⟨rfl, hb2⟩; obtain ⟨q0, q1, q2, q3, q4, q5, q6, q7, q8, q9⟩ := HK.out w2 hb2))
      go_ret
      exact ⟨by rw [R.out]; rfl, HFIN.out _ (by rw [HW1.out]; exact hb2)⟩
    | true =>
      rw [hcv] at CV
      rw [hcv, Bool.true_and] at hT0
      clear hcv
      by_cases hse : s.toList = []
      · have ts : s.toList.isEmpty = true := by rw [hse]; rfl
        have ts2 : (s.toList == []) = true := by rw [hse]; rfl
        have ts3 : (s.toList != []) = false := by rw [bne, ts2]; rfl
        rw [decide_eq_true hse, Bool.true_and] at hT0
        clear hse
        by_cases hc0 : c = 0
        · subst hc0
          have HT : Hid (T = true) := Lib.hid (by rw [hT0]; rw [show decide ((0 : Nat) = 0) = true from rfl, Bool.true_and, show fieldsE 0 ns = true from rfl, Bool.true_and]; rfl)
          clear hT0 hns ih hxs hB
          go_enter Tryz.func62, Tryz.ntmps62
          go_wp2_with (first | (go_at_call 96; refine (WA _).mono ?_; rintro e w1 ⟨rfl, rfl⟩) | (go_at_call 97; refine CV.mono ?_; rintro e w2 ⟨rfl, hb2⟩; obtain ⟨q0, q1, q2, q3, q4, q5, q6, q7, q8, q9⟩ := HK.out w2 hb2))
          have hb2' := hb2
          rw [← HW1.out] at hb2'
          clear hb2 q0 q1 q2 q3 q4 q5 q6 q7 q8 q9
          go_loopw [6] (fun iv wr => iv = .int .i64 0 ∧ Below W1.heap.size W1 wr) (fun _ _ => 0)
          case atStart => exact ⟨by go_num, hb2'⟩
          case round =>
            obtain ⟨rfl, hbR⟩ := hrel
            obtain ⟨n8, n9⟩ := HCEL.out _ hbR
            go_wp2_with fail
            clear n8 n9
            go_loopw [7] (fun iv wr => iv = .int .i64 0 ∧ Below W1.heap.size W1 wr) (fun _ _ => 0)
            case atStart => exact ⟨by go_num, hbR⟩
            case round =>
              obtain ⟨rfl, hbS⟩ := hrel
              obtain ⟨n8, n9⟩ := HCEL.out _ hbS
              have hfin := HFIN.out _ hbS
              go_wp2_with fail
              go_ret
              exact ⟨by rw [HT.out]; rfl, hfin⟩
        · have tc : decide ((0 : Int) < (c : Int)) = true := by simp; omega
          have td : decide (0 < c) = true := by simp; omega
          have R : Hid (T = false) := Lib.hid (by rw [hT0]; rw [decide_eq_false hc0]; rfl)
          clear hT0 ih hxs hB hns hc0 hf
          go_enter Tryz.func62, Tryz.ntmps62
          go_wp2_with (first | (go_at_call 96; refine (WA _).mono ?_; rintro e w1 ⟨rfl, rfl⟩) | (go_at_call 97; refine CV.mono ?_; rintro e w2 ⟨rfl, hb2⟩; obtain ⟨q0, q1, q2, q3, q4, q5, q6, q7, q8, q9⟩ := HK.out w2 hb2))
          go_ret
          exact ⟨by rw [R.out]; rfl, HFIN.out _ (by rw [HW1.out]; exact hb2)⟩
      · have ts : s.toList.isEmpty = false := by simpa using hse
        have ts2 : (s.toList == []) = false := by simpa using hse
        have ts3 : (s.toList != []) = true := by rw [bne, ts2]; rfl
        have R : Hid (T = false) := Lib.hid (by rw [hT0]; rw [decide_eq_false hse]; rfl)
        clear hT0 ih hxs hB hns hse hf
        go_enter Tryz.func62, Tryz.ntmps62
        go_wp2_with (first | (go_at_call 96; refine (WA _).mono ?_; rintro e w1 ⟨rfl, rfl⟩) | (go_at_call 97; refine CV.mono ?_; rintro e w2 ⟨rfl, hb2⟩; obtain ⟨q0, q1, q2, q3, q4, q5, q6, q7, q8, q9⟩ := HK.out w2 hb2))
        go_ret
        exact ⟨by rw [R.out]; rfl, HFIN.out _ (by rw [HW1.out]; exact hb2)⟩
  · have tm : ((m : Int) != 0) = true := by rw [bne, beq_eq_false_iff_ne.2 (show ¬ (m : Int) = 0 by omega)]; rfl
    have R : Hid (T = false) := Lib.hid (by rw [hT0]; rw [decide_eq_false (show ¬ (m : Int) = 0 by omega)]; rfl)
    clear hT0 ih hxs hB hns CV hf hm
    go_enter Tryz.func62, Tryz.ntmps62
    go_wp2_with (first | (go_at_call 96; refine (WA _).mono ?_; rintro e w1 ⟨rfl, rfl⟩))
    go_ret
    exact ⟨by rw [R.out]; rfl, HFIN.out _ (by rw [HW1.out]; exact Below.refl _ _)⟩
set_option maxRecDepth 20000 in
set_option maxHeartbeats 4000000 in
theorem right_e2 {s : ByteArray} {a0 a1 a2 a3 a4 a5 : Value} {v : VT} {A : Option Addr} {c ca : Nat} {B : Option Addr} {m cb : Nat} {w : World} {far : Int} {ns : Nat → ByteArray} {vs : Nat → Array Value} {xs : Nat → ET} (h9 : far ≤ 1000) (hmx : m ≤ 9223372036854775807) (hcx : c ≤ 9223372036854775807) (hsx : s.size ≤ 9223372036854775807)
    (hv : Val w w.heap.size #[a0, a1, a2, a3, a4, a5] v) (hns : Strs w w.heap.size A c ns)
    (hB : 0 < m → ∃ g o, B = some ⟨g, o, none⟩ ∧ g < w.heap.size ∧ ∀ i, i < m → TenAt w g (o + i * 10) (vs i)) (hxs : ∀ i, i < m → EVal w w.heap.size (vs i) (xs i))
    (ih : ∀ (i : Nat) (v : Array Value) (far : Int) (w : World), EVal w w.heap.size v (xs i) → far ≤ 1000 → -9223372036854775000 ≤ far → Calls Tryz.prog 62 #[.agg v, .int .i64 far] w fun e w' => e = .returned (.bool (rightE (xs i) far)) ∧ Below w.heap.size w w') (hfar : -9223372036854775000 ≤ far) :
    Calls Tryz.prog 62 #[.agg (efields 2 s a0 a1 a2 a3 a4 a5 A c ca B m cb), .int .i64 far] w fun e w' => e = .returned (.bool (rightE (.mk 2 s v c ns m xs) far)) ∧ Below w.heap.size w w' := by
  obtain ⟨T, hT0⟩ : ∃ T, T = rightE (.mk 2 s v c ns m xs) far := ⟨_, rfl⟩
  rw [← hT0]
  unfold rightE at hT0
  obtain ⟨W1, hW1⟩ : ∃ W1, W1 = w.alloc (.cells #[.int .i64 2, .string s, a0, a1, a2, a3, a4, a5, .slice A c ca, .slice B m cb] 44) := ⟨_, rfl⟩
  have hbW : Below w.heap.size w (w.alloc (.cells #[.int .i64 2, .string s, a0, a1, a2, a3, a4, a5, .slice A c ca, .slice B m cb] 44)) := (Below.refl _ _).alloc (Nat.le_refl _) _
  have hvW := (hv.stay hbW).mono hbW.size
  have HK := ten_stays (w := w) (b0 := .int .i64 2) (b1 := .string s) (b2 := a0) (b3 := a1) (b4 := a2) (b5 := a3) (b6 := a4) (b7 := a5) (b8 := .slice A c ca) (b9 := .slice B m cb) (t := 44)
  have HW1 := Lib.hid hW1
  have HBW := Lib.hid hbW
  have HFIN : Hid (∀ w', Below W1.heap.size W1 w' → Below w.heap.size w w') := Lib.hid fun w' h => by rw [hW1] at h; exact hbW.trans (h.mono hbW.size)
  have HCEL : Hid (∀ w', Below W1.heap.size W1 w' → w'.cell? ⟨w.heap.size, 8, none⟩ = some (.slice A c ca) ∧ w'.cell? ⟨w.heap.size, 9, none⟩ = some (.slice B m cb)) := Lib.hid fun w' h => by
    rw [hW1] at h
    obtain ⟨_, _, _, _, _, _, _, _, q8, q9⟩ := HK.out w' h
    exact ⟨q8, q9⟩
  clear hW1 hbW hv
  unfold efields
  have hih := ih
  have hhs := hsx
  have hhm := hmx
  have hhc := hcx
  clear hih hhs hhm hhc
  have WA := fun W => wants_any 2 W
  have CV := none_any hvW
  clear hvW
  rw [show wantV 2 = 0 from rfl] at WA
  have E1 : shapeE 2 m far = (decide (1 ≤ far) && decide ((m : Int) = 0)) := by
    unfold shapeE
    rw [show wantV 2 = 0 from rfl]
    simp
  have E2 : valE 2 v = noneB v := if_neg (by decide)
  have E3 : nameE 2 s = (nameB s && !wordB s.data.toList) := if_pos rfl
  have E4 : lenE 2 c m = decide (c = 0) := if_neg (by decide)
  rw [E1, E2, E3, E4] at hT0
  clear E1 E2 E3 E4
  by_cases hf : far < 1
  · have hf' : decide (1 ≤ far) = false := by simp; omega
    have R : Hid (T = false) := Lib.hid (by rw [hT0]; rw [hf']; rfl)
    have tf : decide (far < 1) = true := by simp; omega
    clear hT0 ih hxs hB hns CV hf hf'
    go_enter Tryz.func62, Tryz.ntmps62
    go_wp2_with (first | (go_at_call 96; refine (WA _).mono ?_; rintro e w1 ⟨rfl, rfl⟩))
    go_ret
    exact ⟨by rw [R.out]; rfl, HFIN.out _ (by rw [HW1.out]; exact Below.refl _ _)⟩
  have hf' : decide (1 ≤ far) = true := by simp; omega
  have tf : decide (far < 1) = false := by simp; omega
  rw [hf', Bool.true_and] at hT0
  clear hf'
  by_cases hm : m = 0
  · subst hm
    rw [show decide (((0 : Nat) : Int) = 0) = true from rfl, Bool.true_and] at hT0
    cases hcv : noneB v with
    | false =>
      rw [hcv] at CV
      have R : Hid (T = false) := Lib.hid (by rw [hT0]; rw [hcv]; rfl)
      clear hT0 ih hxs hB hns hcv hf
      go_enter Tryz.func62, Tryz.ntmps62
      go_wp2_with (first | (go_at_call 96; refine (WA _).mono ?_; rintro e w1 ⟨rfl, rfl⟩) | (go_at_call 98; refine CV.mono ?_; rintro e w2 ⟨rfl, hb2⟩; obtain ⟨q0, q1, q2, q3, q4, q5, q6, q7, q8, q9⟩ := HK.out w2 hb2))
      go_ret
      exact ⟨by rw [R.out]; rfl, HFIN.out _ (by rw [HW1.out]; exact hb2)⟩
    | true =>
      rw [hcv] at CV
      rw [hcv, Bool.true_and] at hT0
      clear hcv
      have NA := fun W => name_any hsx W
      have WO := fun W => Word_any s W
      cases hna : nameB s with
      | false =>
        rw [hna] at NA
        have R : Hid (T = false) := Lib.hid (by rw [hT0]; rw [hna]; rfl)
        clear hT0 ih hxs hB hns hna hf WO
        go_enter Tryz.func62, Tryz.ntmps62
        go_wp2_with (first | (go_at_call 96; refine (WA _).mono ?_; rintro e w1 ⟨rfl, rfl⟩) | (go_at_call 98; refine CV.mono ?_; rintro e w2 ⟨rfl, hb2⟩; obtain ⟨q0, q1, q2, q3, q4, q5, q6, q7, q8, q9⟩ := HK.out w2 hb2) | (go_at_call 99; refine (NA _).mono ?_; rintro e w3 ⟨rfl, rfl⟩))
        go_ret
        exact ⟨by rw [R.out]; rfl, HFIN.out _ (by rw [HW1.out]; exact hb2)⟩
      | true =>
        rw [hna] at NA
        rw [hna, Bool.true_and] at hT0
        clear hna
        cases hwo : wordB s.data.toList with
        | true =>
          rw [hwo] at WO
          have R : Hid (T = false) := Lib.hid (by rw [hT0]; rw [hwo]; rfl)
          clear hT0 ih hxs hB hns hwo hf
          go_enter Tryz.func62, Tryz.ntmps62
          go_wp2_with (first | (go_at_call 96; refine (WA _).mono ?_; rintro e w1 ⟨rfl, rfl⟩) | (go_at_call 98; refine CV.mono ?_; rintro e w2 ⟨rfl, hb2⟩; obtain ⟨q0, q1, q2, q3, q4, q5, q6, q7, q8, q9⟩ := HK.out w2 hb2) | (go_at_call 99; refine (NA _).mono ?_; rintro e w3 ⟨rfl, rfl⟩) | (go_at_call 100; refine (WO _).mono ?_; rintro e w4 ⟨rfl, rfl⟩))
          go_ret
          exact ⟨by rw [R.out]; rfl, HFIN.out _ (by rw [HW1.out]; exact hb2)⟩
        | false =>
          rw [hwo] at WO
          rw [hwo, Bool.not_false, Bool.true_and] at hT0
          clear hwo
          by_cases hc0 : c = 0
          · subst hc0
            have HT : Hid (T = true) := Lib.hid (by rw [hT0]; rw [show decide ((0 : Nat) = 0) = true from rfl, Bool.true_and, show fieldsE 0 ns = true from rfl, Bool.true_and]; rfl)
            clear hT0 hns ih hxs hB
            go_enter Tryz.func62, Tryz.ntmps62
            go_wp2_with (first | (go_at_call 96; refine (WA _).mono ?_; rintro e w1 ⟨rfl, rfl⟩) | (go_at_call 98; refine CV.mono ?_; rintro e w2 ⟨rfl, hb2⟩; obtain ⟨q0, q1, q2, q3, q4, q5, q6, q7, q8, q9⟩ := HK.out w2 hb2) | (go_at_call 99; refine (NA _).mono ?_; rintro e w3 ⟨rfl, rfl⟩) | (go_at_call 100; refine (WO _).mono ?_; rintro e w4 ⟨rfl, rfl⟩))
            have hb2' := hb2
            rw [← HW1.out] at hb2'
            clear hb2 q0 q1 q2 q3 q4 q5 q6 q7 q8 q9
            go_loopw [6] (fun iv wr => iv = .int .i64 0 ∧ Below W1.heap.size W1 wr) (fun _ _ => 0)
            case atStart => exact ⟨by go_num, hb2'⟩
            case round =>
              obtain ⟨rfl, hbR⟩ := hrel
              obtain ⟨n8, n9⟩ := HCEL.out _ hbR
              go_wp2_with fail
              clear n8 n9
              go_loopw [7] (fun iv wr => iv = .int .i64 0 ∧ Below W1.heap.size W1 wr) (fun _ _ => 0)
              case atStart => exact ⟨by go_num, hbR⟩
              case round =>
                obtain ⟨rfl, hbS⟩ := hrel
                obtain ⟨n8, n9⟩ := HCEL.out _ hbS
                have hfin := HFIN.out _ hbS
                go_wp2_with fail
                go_ret
                exact ⟨by rw [HT.out]; rfl, hfin⟩
          · have tc : decide ((0 : Int) < (c : Int)) = true := by simp; omega
            have td : decide (0 < c) = true := by simp; omega
            have R : Hid (T = false) := Lib.hid (by rw [hT0]; rw [decide_eq_false hc0]; rfl)
            clear hT0 ih hxs hB hns hc0 hf
            go_enter Tryz.func62, Tryz.ntmps62
            go_wp2_with (first | (go_at_call 96; refine (WA _).mono ?_; rintro e w1 ⟨rfl, rfl⟩) | (go_at_call 98; refine CV.mono ?_; rintro e w2 ⟨rfl, hb2⟩; obtain ⟨q0, q1, q2, q3, q4, q5, q6, q7, q8, q9⟩ := HK.out w2 hb2) | (go_at_call 99; refine (NA _).mono ?_; rintro e w3 ⟨rfl, rfl⟩) | (go_at_call 100; refine (WO _).mono ?_; rintro e w4 ⟨rfl, rfl⟩))
            go_ret
            exact ⟨by rw [R.out]; rfl, HFIN.out _ (by rw [HW1.out]; exact hb2)⟩
  · have tm : ((m : Int) != 0) = true := by rw [bne, beq_eq_false_iff_ne.2 (show ¬ (m : Int) = 0 by omega)]; rfl
    have R : Hid (T = false) := Lib.hid (by rw [hT0]; rw [decide_eq_false (show ¬ (m : Int) = 0 by omega)]; rfl)
    clear hT0 ih hxs hB hns CV hf hm
    go_enter Tryz.func62, Tryz.ntmps62
    go_wp2_with (first | (go_at_call 96; refine (WA _).mono ?_; rintro e w1 ⟨rfl, rfl⟩))
    go_ret
    exact ⟨by rw [R.out]; rfl, HFIN.out _ (by rw [HW1.out]; exact Below.refl _ _)⟩
end Go.Proofs.YtcmohggnehkjeaaGreat

/-
  Contracts of basculeref04's tright, of lists and of records, and TypeRight.
  Contracts of the program's countParts, isTypeRightAlone, isRightWithin, isRight, TypeRight, of types.
-/
import Derived.Test.YteclpehbpicpaaaM30
import Derived.Test.YteclpehbpicpaaaM07
import Derived.Test.YteclpehbpicpaaaM13
namespace Go.Proofs.Yteclpehbpicpaaa
open Go.RowKit

set_option maxHeartbeats 2000000 in
set_option maxRecDepth 10000 in
theorem tright_5 {A : Option Addr} {c ca : Nat} {B : Option Addr} {m cb : Nat} {w : World} {far : Int} {ns : Nat → ByteArray} {vs : Nat → Array Value} {xs : Nat → TT} (h0 : 1 ≤ far) (h9 : far ≤ 1000) (hmx : m ≤ 9223372036854775807)
    (hB : 0 < m → ∃ g o, B = some ⟨g, o, none⟩ ∧ g < w.heap.size ∧ ∀ i, i < m → ThreeAt w g (o + i * 3) (vs i)) (hxs : ∀ i, i < m → TVal w w.heap.size (vs i) (xs i))
    (ih : ∀ (i : Nat) (v : Array Value) (far : Int) (w : World), TVal w w.heap.size v (xs i) → 0 ≤ far → far ≤ 1000 → Calls Try.prog 46 #[.agg v, .int .i64 far] w fun e w' => e = .returned (.bool (trightV (xs i) far)) ∧ Below w.heap.size w w') :
    Calls Try.prog 46 #[.agg (tfields 5 A c ca B m cb), .int .i64 far] w fun e w' => e = .returned (.bool (theadB 5 c ns m && (List.range m).all (fun i => trightV (xs i) (far - 1)))) ∧ Below w.heap.size w w' := by
  have hbW : Below w.heap.size w (w.alloc (.cells (tfields 5 A c ca B m cb) 30)) := (Below.refl _ _).alloc (Nat.le_refl _) _
  have hsz : (w.alloc (.cells (tfields 5 A c ca B m cb) 30)).heap.size = w.heap.size + 1 := by simp
  have HZ := Lib.hid hsz
  clear hsz
  unfold tfields at *
  have HK := box3_stays (w := w) (a0 := .int .i64 5) (a1 := .slice A c ca) (a2 := .slice B m cb) (t := 30)
  have HBW := Lib.hid hbW
  obtain ⟨T, hT0⟩ : ∃ T, T = (theadB 5 c ns m && (List.range m).all (fun i => trightV (xs i) (far - 1))) := ⟨_, rfl⟩
  rw [← hT0]
  by_cases hm : m = 1
  · by_cases hc : c = 0
    · have hT : Hid (T = (List.range m).all (fun i => trightV (xs i) (far - 1))) := Lib.hid (by rw [hT0]; unfold theadB; simp [hc, hm])
      have tm : ((m : Int) == 1) = true := by simp; omega
      have tm2 : ((m : Int) != 1) = false := by simp; omega
      have tc : ((c : Int) == 0) = true := by simp; omega
      have tc2 : ((c : Int) != 0) = false := by simp; omega
      clear hc hT0
      obtain ⟨w1, hw1⟩ : ∃ w1, w1 = w.alloc (.cells #[.int .i64 5, .slice A c ca, .slice B m cb] 30) := ⟨_, rfl⟩
      obtain ⟨q0, q1, q2⟩ := HK.out _ (Below.refl _ _)
      have hz1 : w1.heap.size = w.heap.size + 1 := by rw [hw1]; exact HZ.out
      rw [← hw1] at q0 q1 q2 hbW
      have HM := Lib.hid hm
      clear hm
      go_enter Try.func46, Try.ntmps46
      go_wp2_with fail
      rw [← hw1]
      have HW1 := Lib.hid hw1
      clear hw1
      have HW := Lib.hid (And.intro hbW (show w.heap.size < w1.heap.size by omega))
      have H2 := Lib.hid q2
      clear hz1 hbW q0 q1 q2 HK HBW HZ
      go_loopw [5] (fun iv wr => ∃ i : Nat, i ≤ m ∧ iv = .int .i64 i ∧ Hid (∀ j, j < i → trightV (xs j) (far - 1) = true) ∧ Below w1.heap.size w1 wr) (fun iv _ => m - (intOf iv).toNat)
      case atStart => exact ⟨0, Nat.zero_le _, rfl, Lib.hid fun j hj => absurd hj (by omega), Below.refl _ _⟩
      case round =>
        obtain ⟨i, hi, rfl, hh, hb⟩ := hrel
        have h2r : wr.cell? ⟨w.heap.size, 2, none⟩ = some (.slice B m cb) := (hb.cell (p := ⟨w.heap.size, 2, none⟩) HW.out.2).trans H2.out
        have hfin : Below w.heap.size w wr := HW.out.1.trans (hb.mono HW.out.1.size)
        by_cases hlt : i < m
        · obtain ⟨g, o, rfl, hg, hx⟩ := hB (by omega)
          have hvr := ((hxs i hlt).stay hfin).mono hfin.size
          have hcall := ih i (vs i) (far - 1) wr hvr (by omega) (by omega)
          have hthr := (hx i hlt).keep (w' := wr) fun o => hfin.cell (p := ⟨g, o, none⟩) hg
          obtain ⟨a0, a1, a2, hv0⟩ := (hxs i hlt).three
          rw [hv0] at hthr hcall
          obtain ⟨e0, e1, e2⟩ := hthr.cells
          have yes : trightV (xs i) (far - 1) = true → Hid (∀ j, j < i + 1 → trightV (xs j) (far - 1) = true) := fun hy => Lib.hid fun j hj => by
            by_cases e : j = i
            · subst e; exact hy
            · exact hh.out j (by omega)
          have no : trightV (xs i) (far - 1) = false → Hid (T = false) := fun hn => Lib.hid (by
            rw [hT.out, List.all_eq_false.2 ⟨i, List.mem_range.2 hlt, by rw [hn]; simp⟩])
          clear hv0 hthr hvr hx hB ih hxs hh
          cases hr : trightV (xs i) (far - 1)
          · have N := no hr
            rw [hr] at hcall
            clear yes no hr hT
            go_wp2_with (go_at_call 46; refine hcall.mono ?_; rintro e w3 ⟨rfl, hb3⟩)
            go_ret
            exact ⟨by rw [N.out]; rfl, hfin.trans (hb3.mono hfin.size)⟩
          · have Y := yes hr
            rw [hr] at hcall
            clear yes no hr hT
            go_wp2_with (go_at_call 46; refine hcall.mono ?_; rintro e w3 ⟨rfl, hb3⟩)
            go_roundw
            case rel => exact ⟨i + 1, by omega, by go_num, Y, hb.trans (hb3.mono hb.size)⟩
            case measure => simp [intOf]; omega
        · have R : Hid (T = true) := Lib.hid (by rw [hT.out, List.all_eq_true.2 fun j hj => hh.out j (by have := List.mem_range.1 hj; omega)])
          clear hh hT ih hxs hB
          go_wp2_with fail
          go_ret
          exact ⟨by rw [R.out]; rfl, hfin⟩
    · have R : Hid (T = false) := Lib.hid (by rw [hT0]; unfold theadB; simp [hc])
      have tm : ((m : Int) == 1) = true := by simp; omega
      have tm2 : ((m : Int) != 1) = false := by simp; omega
      have tc : ((c : Int) == 0) = false := by simp; omega
      have tc2 : ((c : Int) != 0) = true := by simp; omega
      clear hc hT0 ih hxs hB hm
      go_enter Try.func46, Try.ntmps46
      go_wp2_with fail
      go_ret
      exact ⟨by rw [R.out]; rfl, hbW⟩
  · have R : Hid (T = false) := Lib.hid (by rw [hT0]; unfold theadB; simp [hm])
    have tm : ((m : Int) == 1) = false := by simp; omega
    have tm2 : ((m : Int) != 1) = true := by simp; omega
    clear hT0 ih hxs hB hm
    go_enter Try.func46, Try.ntmps46
    go_wp2_with fail
    go_ret
    exact ⟨by rw [R.out]; rfl, hbW⟩
set_option maxHeartbeats 2000000 in
set_option maxRecDepth 10000 in
theorem tright_6 {A : Option Addr} {c ca : Nat} {B : Option Addr} {m cb : Nat} {w : World} {far : Int} {ns : Nat → ByteArray} {vs : Nat → Array Value} {xs : Nat → TT} (h0 : 1 ≤ far) (h9 : far ≤ 1000) (hmx : m ≤ 9223372036854775807) (hcx : c ≤ 9223372036854775807) (hns : Strs w w.heap.size A c ns)
    (hB : 0 < m → ∃ g o, B = some ⟨g, o, none⟩ ∧ g < w.heap.size ∧ ∀ i, i < m → ThreeAt w g (o + i * 3) (vs i)) (hxs : ∀ i, i < m → TVal w w.heap.size (vs i) (xs i))
    (ih : ∀ (i : Nat) (v : Array Value) (far : Int) (w : World), TVal w w.heap.size v (xs i) → 0 ≤ far → far ≤ 1000 → Calls Try.prog 46 #[.agg v, .int .i64 far] w fun e w' => e = .returned (.bool (trightV (xs i) far)) ∧ Below w.heap.size w w') :
    Calls Try.prog 46 #[.agg (tfields 6 A c ca B m cb), .int .i64 far] w fun e w' => e = .returned (.bool (theadB 6 c ns m && (List.range m).all (fun i => trightV (xs i) (far - 1)))) ∧ Below w.heap.size w w' := by
  have hbW : Below w.heap.size w (w.alloc (.cells (tfields 6 A c ca B m cb) 30)) := (Below.refl _ _).alloc (Nat.le_refl _) _
  have hsz : (w.alloc (.cells (tfields 6 A c ca B m cb) 30)).heap.size = w.heap.size + 1 := by simp
  have HZ := Lib.hid hsz
  clear hsz
  have Nm := fun (w' : World) (hb : Below w.heap.size w w') => names_any (n := (m : Int)) (ca := ca) (strs_keep hns hb) hb.size hcx
  clear hns
  unfold tfields at *
  have HK := box3_stays (w := w) (a0 := .int .i64 6) (a1 := .slice A c ca) (a2 := .slice B m cb) (t := 30)
  have HBW := Lib.hid hbW
  obtain ⟨T, hT0⟩ : ∃ T, T = (theadB 6 c ns m && (List.range m).all (fun i => trightV (xs i) (far - 1))) := ⟨_, rfl⟩
  rw [← hT0]
  cases hg : (riseB c ns && ((c : Int) == (m : Int)))
  · have R : Hid (T = false) := Lib.hid (by rw [hT0]; unfold theadB; simp only [hg]; simp)
    rw [hg] at Nm
    clear hg hT0 ih hxs hB
    go_enter Try.func46, Try.ntmps46
    go_wp2_with (go_at_call 80; refine (Nm _ HBW.out).mono ?_; rintro e w1 ⟨rfl, hb1⟩; obtain ⟨q0, q1, q2⟩ := HK.out w1 hb1)
    go_ret
    exact ⟨by rw [R.out]; rfl, hbW.trans (hb1.mono hbW.size)⟩
  · have hT : Hid (T = (List.range m).all (fun i => trightV (xs i) (far - 1))) := Lib.hid (by rw [hT0]; unfold theadB; simp only [hg]; simp)
    rw [hg] at Nm
    clear hg hT0
    go_enter Try.func46, Try.ntmps46
    go_wp2_with (go_at_call 80; refine (Nm _ HBW.out).mono ?_; rintro e w1 ⟨rfl, hb1⟩; obtain ⟨q0, q1, q2⟩ := HK.out w1 hb1)
    have HW := Lib.hid (And.intro (hbW.trans (hb1.mono hbW.size)) (show w.heap.size < w1.heap.size by have := hb1.size; have := HZ.out; omega))
    have H2 := Lib.hid q2
    clear hbW hb1 Nm q0 q1 q2 HK HBW HZ
    go_loopw [5] (fun iv wr => ∃ i : Nat, i ≤ m ∧ iv = .int .i64 i ∧ Hid (∀ j, j < i → trightV (xs j) (far - 1) = true) ∧ Below w1.heap.size w1 wr) (fun iv _ => m - (intOf iv).toNat)
    case atStart => exact ⟨0, Nat.zero_le _, rfl, Lib.hid fun j hj => absurd hj (by omega), Below.refl _ _⟩
    case round =>
      obtain ⟨i, hi, rfl, hh, hb⟩ := hrel
      have h2r : wr.cell? ⟨w.heap.size, 2, none⟩ = some (.slice B m cb) := (hb.cell (p := ⟨w.heap.size, 2, none⟩) HW.out.2).trans H2.out
      have hfin : Below w.heap.size w wr := HW.out.1.trans (hb.mono HW.out.1.size)
      by_cases hlt : i < m
      · obtain ⟨g, o, rfl, hg, hx⟩ := hB (by omega)
        have hvr := ((hxs i hlt).stay hfin).mono hfin.size
        have hcall := ih i (vs i) (far - 1) wr hvr (by omega) (by omega)
        have hthr := (hx i hlt).keep (w' := wr) fun o => hfin.cell (p := ⟨g, o, none⟩) hg
        obtain ⟨a0, a1, a2, hv0⟩ := (hxs i hlt).three
        rw [hv0] at hthr hcall
        obtain ⟨e0, e1, e2⟩ := hthr.cells
        have yes : trightV (xs i) (far - 1) = true → Hid (∀ j, j < i + 1 → trightV (xs j) (far - 1) = true) := fun hy => Lib.hid fun j hj => by
          by_cases e : j = i
          · subst e; exact hy
          · exact hh.out j (by omega)
        have no : trightV (xs i) (far - 1) = false → Hid (T = false) := fun hn => Lib.hid (by
          rw [hT.out, List.all_eq_false.2 ⟨i, List.mem_range.2 hlt, by rw [hn]; simp⟩])
        clear hv0 hthr hvr hx hB ih hxs hh
        cases hr : trightV (xs i) (far - 1)
        · have N := no hr
          rw [hr] at hcall
          clear yes no hr hT
          go_wp2_with (go_at_call 46; refine hcall.mono ?_; rintro e w3 ⟨rfl, hb3⟩)
          go_ret
          exact ⟨by rw [N.out]; rfl, hfin.trans (hb3.mono hfin.size)⟩
        · have Y := yes hr
          rw [hr] at hcall
          clear yes no hr hT
          go_wp2_with (go_at_call 46; refine hcall.mono ?_; rintro e w3 ⟨rfl, hb3⟩)
          go_roundw
          case rel => exact ⟨i + 1, by omega, by go_num, Y, hb.trans (hb3.mono hb.size)⟩
          case measure => simp [intOf]; omega
      · have R : Hid (T = true) := Lib.hid (by rw [hT.out, List.all_eq_true.2 fun j hj => hh.out j (by have := List.mem_range.1 hj; omega)])
        clear hh hT ih hxs hB
        go_wp2_with fail
        go_ret
        exact ⟨by rw [R.out]; rfl, hfin⟩

theorem tright_any : ∀ (t : TT) (v : Array Value) (far : Int) (w : World), TVal w w.heap.size v t → 0 ≤ far → far ≤ 1000 →
    Calls Try.prog 46 #[.agg v, .int .i64 far] w fun e w' => e = .returned (.bool (trightV t far)) ∧ Below w.heap.size w w' := by
  intro t
  induction t with
  | bad => intro v far w h; cases h
  | mk k c ns m xs ih =>
    intro v far w h h0 h9
    cases h with
    | mk _ A _ ca B _ cb _ _ vs hk hc hm hns hB hxs =>
      have hcx : c ≤ 9223372036854775807 := by have := hc; unfold maxLen at this; omega
      have hmx : m ≤ 9223372036854775807 := by have := hm; unfold maxLen at this; omega
      unfold trightV
      by_cases h1 : 1 ≤ far
      · rw [decide_eq_true h1, Bool.true_and]
        by_cases k5 : k = 5
        · subst k5
          rw [if_pos (.inl rfl)]
          exact tright_5 h1 h9 hmx hB hxs fun i => ih i
        · by_cases k6 : k = 6
          · subst k6
            rw [if_pos (.inr rfl)]
            exact tright_6 h1 h9 hmx hcx hns hB hxs fun i => ih i
          · rw [if_neg (by omega)]
            unfold tplainB
            by_cases kr : 1 ≤ k ∧ k ≤ 7
            · rw [decide_eq_true kr.1, decide_eq_true kr.2, Bool.true_and, Bool.true_and]
              exact tright_plain h1 kr k5 k6
            · have e : (decide (1 ≤ k) && (decide (k ≤ 7) && (decide (m = 0) && decide (c = 0)))) = false := by
                by_cases a : 1 ≤ k
                · rw [decide_eq_false (show ¬ k ≤ 7 from fun h => kr ⟨a, h⟩), Bool.false_and, Bool.and_false]
                · rw [decide_eq_false a, Bool.false_and]
              rw [e]
              exact tright_out h1 kr
      · rw [decide_eq_false h1, Bool.false_and]
        exact tright_far h1
def tokV (t : TT) : Bool := decide (tcntV t 0 ≤ 200) && trightV t 12
theorem TypeRight_any {t : TT} {v : Array Value} {w : World} (hv : TVal w w.heap.size v t) : Calls Try.prog 15 #[.agg v] w fun e w' => e = .returned (.bool (tokV t)) ∧ Below w.heap.size w w' := by
  have hbW : Below w.heap.size w (w.alloc (.cells v 30)) := (Below.refl _ _).alloc (Nat.le_refl _) _
  have hvW := (hv.stay hbW).mono hbW.size
  have P := tparts_any hvW
  have R := fun w' (hb : Below (w.alloc (.cells v 30)).heap.size (w.alloc (.cells v 30)) w') => tright_any t v 12 w' ((hvW.stay hb).mono hb.size) (by omega) (by omega)
  obtain ⟨a0, a1, a2, rfl⟩ := hv.three
  have HK := box3_stays (w := w) (a0 := a0) (a1 := a1) (a2 := a2) (t := 30)
  have HR := Lib.hid R
  unfold tokV
  have h2 := tcntV_in t 0 (by omega) (by omega)
  generalize tcntV t 0 = p at *
  generalize trightV t 12 = r at *
  clear hv hvW R
  by_cases hp : p ≤ 200
  · go_enter Try.func15, Try.ntmps15
    go_wp2_with fail
    refine P.mono ?_
    rintro e w1 ⟨rfl, hb1⟩
    obtain ⟨c0, c1, c2⟩ := HK.out w1 hb1
    have hfin := hbW.trans (hb1.mono hbW.size)
    go_wp2_with (go_at_call 46; refine (HR.out w1 hb1).mono ?_; rintro e w2 ⟨rfl, hb2⟩)
    go_ret
    exact ⟨by rw [decide_eq_true hp, Bool.true_and]; rfl, hfin.trans (hb2.mono hfin.size)⟩
  · go_enter Try.func15, Try.ntmps15
    go_wp2_with fail
    refine P.mono ?_
    rintro e w1 ⟨rfl, hb1⟩
    have hfin := hbW.trans (hb1.mono hbW.size)
    go_wp2_with fail
    go_ret
    exact ⟨by simp only [decide_eq_false (show ¬ p ≤ 200 by omega), Bool.false_and]; rfl, hfin⟩
end Go.Proofs.Yteclpehbpicpaaa
namespace Go.Proofs.Yteclpehbpicpaaa
open Go.RowKit

/-- All parts of a type. -/
def ttot : TT → Nat
  | .bad => 0
  | .mk _ _ _ m xs => 1 + sumN (fun i => ttot (xs i)) m
theorem tcnt_tot {w : World} {lim : Nat} {v : Array Value} {t : TT} (h : TVal w lim v t) : ∀ n, 0 ≤ n → n < 500 → tcntV t n = min (n + ttot t) 500 := by
  induction h with
  | mk k A c ca B m cb ns xs vs hk hc hm hns hB hxs ih =>
    intro n h0 h5
    unfold tcntV ttot
    have hin := cntGo_in (fun i n => tcntV (xs i) n) (fun i n a b => tcntV_in (xs i) n a b) m 0 (n + 1) (by omega) (by omega)
    have key : ∀ r i q, i + r = m → 0 ≤ q → q ≤ 500 → cntGo (fun i n => tcntV (xs i) n) r i q = min (q + (sumN (fun i => ttot (xs i)) m - sumN (fun i => ttot (xs i)) i : Int)) 500 ∧ sumN (fun i => ttot (xs i)) i ≤ sumN (fun i => ttot (xs i)) m := by
      intro r
      induction r with
      | zero =>
        intro i q hi hq0 hq5
        obtain rfl : i = m := by omega
        unfold cntGo
        exact ⟨by omega, Nat.le_refl _⟩
      | succ r ihr =>
        intro i q hi hq0 hq5
        have hs : sumN (fun i => ttot (xs i)) (i + 1) = sumN (fun i => ttot (xs i)) i + ttot (xs i) := rfl
        unfold cntGo
        by_cases hq : q < 500
        · rw [if_pos hq]
          have e := ih i (by omega) q hq0 hq
          rw [e]
          have := ihr (i + 1) (min (q + ttot (xs i)) 500) (by omega) (by omega) (by omega)
          omega
        · rw [if_neg hq]
          have := (ihr (i + 1) q (by omega) hq0 hq5).2
          omega
    have e := (key m 0 (n + 1) (by omega) (by omega) (by omega)).1
    have hz : sumN (fun i => ttot (xs i)) 0 = 0 := rfl
    rw [e]
    omega
theorem TVal.four {w : World} {lim : Nat} {v : Array Value} {t : TT} (h : TVal w lim v t) : ∃ k A c ca B m cb, v = #[.int .i64 k, .slice A c ca, .slice B m cb] := by
  cases h; exact ⟨_, _, _, _, _, _, _, rfl⟩
theorem ttot_mk (k : Int) (c : Nat) (ns : Nat → ByteArray) (m : Nat) (xs : Nat → TT) : ((ttot (.mk k c ns m xs) : Nat) : Int) = 1 + (sumN (fun i => ttot (xs i)) m : Nat) := by
  rw [ttot]; simp
theorem titems_any {k : Int} {A : Option Addr} {c ca : Nat} {B : Option Addr} {m cb : Nat} (w : World) :
    Calls Try.prog 76 #[.agg (tfields k A c ca B m cb)] w fun e w' => e = .returned (.slice B m cb) ∧ Below w.heap.size w w' := by
  have hb : Below w.heap.size w (w.alloc (.cells (tfields k A c ca B m cb) 30)) := (Below.refl _ _).alloc (Nat.le_refl _) _
  unfold tfields at *
  go_enter Try.func76, Try.ntmps76
  go_wp2_with fail
  go_ret
  exact ⟨rfl, hb⟩
set_option maxHeartbeats 2000000 in
theorem tcap_any : ∀ (t : TT) (v : Array Value) (q : Int) (w : World), TVal w w.heap.size v t → 1 ≤ q → q ≤ 1000 →
    Calls Try.prog 105 #[.agg v, .func (.func 76) #[] #[], .int .i64 q] w fun e w' => e = .returned (.int .i64 (min (ttot t) q)) ∧ Below w.heap.size w w' := by
  intro t
  induction t with
  | bad => intro v q w hv; cases hv
  | mk k c ns m xs ih =>
    intro v q w hv h1 h9
    cases hv with
    | mk _ A _ ca B _ cb _ _ vs hk hc hm hns hB hxs =>
      have hmx : m ≤ 9223372036854775807 := by have := hm; unfold maxLen at this; omega
      have hbW : Below w.heap.size w (w.alloc (.cells (tfields k A c ca B m cb) 30)) := (Below.refl _ _).alloc (Nat.le_refl _) _
      have I := fun W => titems_any (k := k) (A := A) (c := c) (ca := ca) (B := B) (m := m) (cb := cb) W
      unfold tfields at *
      go_enter Try.func105, Try.ntmps105
      go_wp2_with (go_at_call 76; refine (I _).mono ?_; rintro e w1 ⟨rfl, hb1⟩)
      have hW1 : Below w.heap.size w w1 := hbW.trans (hb1.mono hbW.size)
      clear hbW hb1 I
      go_loopw [7, 14] (fun nv iv wr => ∃ (i : Nat) (p : Int), i ≤ m ∧ iv = .int .i64 i ∧ nv = .int .i64 p ∧ p = min (1 + sumN (fun i => ttot (xs i)) i : Int) q ∧ Below w1.heap.size w1 wr) (fun _ iv _ => m - (intOf iv).toNat)
      case atStart => exact ⟨0, 1, Nat.zero_le _, rfl, rfl, by unfold sumN; omega, Below.refl _ _⟩
      case round =>
        obtain ⟨i, p, hi, rfl, rfl, hp, hb⟩ := hrel
        have hfin : Below w.heap.size w wr := hW1.trans (hb.mono hW1.size)
        have hsum : sumN (fun i => ttot (xs i)) (i + 1) = sumN (fun i => ttot (xs i)) i + ttot (xs i) := rfl
        by_cases hlt : i < m
        · by_cases hq : p = q
          · have R : Hid ((min (ttot (.mk k c ns m xs)) q : Int) = p) := Lib.hid (by
              have := sumN_mono (fun i => ttot (xs i)) (show i ≤ m by omega)
              rw [ttot_mk]; omega)
            have tq : (p == q) = true := by simpa using hq
            obtain ⟨g, o, rfl, hg, hx⟩ := hB (by omega)
            have hsix := (hx i hlt).keep (w' := wr) fun o => hfin.cell (p := ⟨g, o, none⟩) hg
            obtain ⟨b0, b1, b2, b3, b4, b5, b6, hv0⟩ := (hxs i hlt).four
            rw [hv0] at hsix
            obtain ⟨e0, e1, e2⟩ := hsix.cells
            have HF := Lib.hid hfin
            clear hv0 hsix hx hB ih hxs hp hsum hns hb hfin hq
            go_wp2_with fail
            go_ret
            exact ⟨by rw [R.out]; rfl, HF.out.alloc HF.out.size _⟩
          · have tq : (p == q) = false := by simpa using hq
            have hpq : p = 1 + (sumN (fun i => ttot (xs i)) i : Nat) ∧ p < q := by omega
            have hN : Hid (p + min (ttot (xs i) : Int) (q - p) = min (1 + (sumN (fun i => ttot (xs i)) (i + 1) : Nat) : Int) q) := Lib.hid (by omega)
            have hlo : 0 ≤ p + min (ttot (xs i) : Int) (q - p) ∧ p + min (ttot (xs i) : Int) (q - p) ≤ 1000 := by omega
            obtain ⟨g, o, rfl, hg, hx⟩ := hB (by omega)
            have hsix := (hx i hlt).keep (w' := wr) fun o => hfin.cell (p := ⟨g, o, none⟩) hg
            have hvr := ((hxs i hlt).stay hfin).mono hfin.size
            have hcall := fun (V : World) (hV : Below wr.heap.size wr V) => ih i (vs i) (q - p) V ((hvr.stay hV).mono hV.size) (by omega) (by omega)
            obtain ⟨b0, b1, b2, b3, b4, b5, b6, hv0⟩ := (hxs i hlt).four
            rw [hv0] at hsix hcall
            obtain ⟨e0, e1, e2⟩ := hsix.cells
            have hbN : ∀ x, Below wr.heap.size wr (wr.alloc x) := fun x => (Below.refl _ _).alloc (Nat.le_refl _) x
            have hwq : 0 ≤ p ∧ p < q ∧ q ≤ 1000 := by omega
            have HF := Lib.hid hfin
            generalize (min (ttot (xs i) : Int) (q - p)) = z at *
            clear hv0 hsix hvr hx hB ih hxs hp hsum hns hfin hq hpq
            go_wp2_with (go_at_call 105; refine (hcall _ (hbN _)).mono ?_; rintro e w3 ⟨rfl, hb3⟩)
            go_roundw
            case rel => exact ⟨i + 1, p + z, by omega, by go_num, by go_num, hN.out, hb.trans (((hbN _).trans (hb3.mono (hbN _).size)).mono hb.size)⟩
            case measure => simp [intOf]; omega
        · have R : Hid ((min (ttot (.mk k c ns m xs)) q : Int) = p) := Lib.hid (by
            obtain rfl : i = m := by omega
            rw [ttot_mk]; omega)
          clear hB hxs ih hp hsum hns
          go_wp2_with fail
          go_ret
          exact ⟨by rw [R.out]; rfl, hfin⟩

/-- Is a type right, whatever its items are? -/
def taloneB (k : Int) (c : Nat) (ns : Nat → ByteArray) (m : Nat) : Bool :=
  if k = 1 ∨ k = 2 ∨ k = 3 ∨ k = 4 ∨ k = 7 then decide (c = 0) && decide (m = 0) else if k = 5 then decide (c = 0) && decide (m = 1) else if k = 6 then ((c : Int) == (m : Int)) && riseB c ns else false
theorem tright_mk (k : Int) (c : Nat) (ns : Nat → ByteArray) (m : Nat) (xs : Nat → TT) {far : Int} (h1 : 1 ≤ far) :
    trightV (.mk k c ns m xs) far = (taloneB k c ns m && (List.range m).all (fun i => trightV (xs i) (far - 1))) := by
  rw [trightV]
  rw [decide_eq_true h1, Bool.true_and]
  unfold taloneB theadB tplainB
  by_cases h5 : k = 5
  · subst h5
    simp only [true_or, if_true, show ¬ ((5 : Int) = 1 ∨ (5 : Int) = 2 ∨ (5 : Int) = 3 ∨ (5 : Int) = 4 ∨ (5 : Int) = 7) by omega, if_false]
    rw [Bool.and_comm (decide (c = 0))]
  by_cases h6 : k = 6
  · subst h6
    simp only [or_true, if_true, show ¬ ((6 : Int) = 1 ∨ (6 : Int) = 2 ∨ (6 : Int) = 3 ∨ (6 : Int) = 4 ∨ (6 : Int) = 7) by omega, show ¬ ((6 : Int) = 5) by omega, if_false]
    rw [Bool.and_comm (riseB c ns)]
  rw [if_neg (show ¬ (k = 5 ∨ k = 6) by omega)]
  by_cases hk : 1 ≤ k ∧ k ≤ 7
  · rw [if_pos (show k = 1 ∨ k = 2 ∨ k = 3 ∨ k = 4 ∨ k = 7 by omega), decide_eq_true hk.1, decide_eq_true hk.2]
    by_cases hm : m = 0
    · subst hm; simp
    · simp [hm]
  · rw [if_neg (show ¬ (k = 1 ∨ k = 2 ∨ k = 3 ∨ k = 4 ∨ k = 7) by omega), if_neg h5, if_neg h6]
    by_cases hk1 : 1 ≤ k
    · rw [decide_eq_false (show ¬ k ≤ 7 by omega)]; simp
    · rw [decide_eq_false hk1]; simp
set_option maxHeartbeats 2000000 in
theorem talone_f {k : Int} {A : Option Addr} {c ca : Nat} {B : Option Addr} {m cb : Nat} {ns : Nat → ByteArray} {w : World} (hns : Strs w w.heap.size A c ns) (hc : c ≤ 9223372036854775807) :
    Calls Try.prog 77 #[.agg (tfields k A c ca B m cb)] w fun e w' => e = .returned (.bool (taloneB k c ns m)) ∧ Below w.heap.size w w' := by
  have hbW : ∀ cs t, Below w.heap.size w (w.alloc (.cells cs t)) := fun cs t => (Below.refl _ _).alloc (Nat.le_refl _) _
  have hsW : ∀ cs t, w.heap.size ≤ (w.alloc (.cells cs t)).heap.size := fun cs t => (hbW cs t).size
  have plain : (k = 1 ∨ k = 2 ∨ k = 3 ∨ k = 4 ∨ k = 7) → Calls Try.prog 77 #[.agg (tfields k A c ca B m cb)] w fun e w' => e = .returned (.bool (decide (c = 0) && decide (m = 0))) ∧ Below w.heap.size w w' := by
    intro hk
    unfold tfields
    by_cases hc0 : c = 0
    · have tc : ((c : Int) == 0) = true := by simp; omega
      by_cases hm0 : m = 0
      · have tm : ((m : Int) == 0) = true := by simp; omega
        have R : Hid ((decide (c = 0) && decide (m = 0)) = true) := Lib.hid (by simp [hc0, hm0])
        clear hc0 hm0 hns
        rcases hk with rfl | rfl | rfl | rfl | rfl <;>
        · go_enter Try.func77, Try.ntmps77
          go_wp2_with fail
          go_ret
          exact ⟨by rw [R.out]; rfl, hbW _ _⟩
      · have tm : ((m : Int) == 0) = false := by simp; omega
        have R : Hid ((decide (c = 0) && decide (m = 0)) = false) := Lib.hid (by simp [hm0])
        clear hc0 hm0 hns
        rcases hk with rfl | rfl | rfl | rfl | rfl <;>
        · go_enter Try.func77, Try.ntmps77
          go_wp2_with fail
          go_ret
          exact ⟨by rw [R.out]; rfl, hbW _ _⟩
    · have tc : ((c : Int) == 0) = false := by simp; omega
      have R : Hid ((decide (c = 0) && decide (m = 0)) = false) := Lib.hid (by simp [hc0])
      clear hc0 hns
      rcases hk with rfl | rfl | rfl | rfl | rfl <;>
      · go_enter Try.func77, Try.ntmps77
        go_wp2_with fail
        go_ret
        exact ⟨by rw [R.out]; rfl, hbW _ _⟩
  unfold taloneB
  by_cases hk : k = 1 ∨ k = 2 ∨ k = 3 ∨ k = 4 ∨ k = 7
  · rw [if_pos hk]; exact plain hk
  · rw [if_neg hk]
    clear plain
    unfold tfields
    by_cases h5 : k = 5
    · rw [if_pos h5]
      subst h5
      by_cases hc0 : c = 0
      · have tc : ((c : Int) == 0) = true := by simp; omega
        by_cases hm0 : m = 1
        · have tm : ((m : Int) == 1) = true := by simp; omega
          have R : Hid ((decide (c = 0) && decide (m = 1)) = true) := Lib.hid (by simp [hc0, hm0])
          clear hc0 hm0 hns hk
          go_enter Try.func77, Try.ntmps77
          go_wp2_with fail
          go_ret
          exact ⟨by rw [R.out]; rfl, hbW _ _⟩
        · have tm : ((m : Int) == 1) = false := by simp; omega
          have R : Hid ((decide (c = 0) && decide (m = 1)) = false) := Lib.hid (by simp [hm0])
          clear hc0 hm0 hns hk
          go_enter Try.func77, Try.ntmps77
          go_wp2_with fail
          go_ret
          exact ⟨by rw [R.out]; rfl, hbW _ _⟩
      · have tc : ((c : Int) == 0) = false := by simp; omega
        have R : Hid ((decide (c = 0) && decide (m = 1)) = false) := Lib.hid (by simp [hc0])
        clear hc0 hns hk
        go_enter Try.func77, Try.ntmps77
        go_wp2_with fail
        go_ret
        exact ⟨by rw [R.out]; rfl, hbW _ _⟩
    · rw [if_neg h5]
      by_cases h6 : k = 6
      · rw [if_pos h6]
        have M := names_f (ca := ca) (n := (m : Int)) (strs_keep hns (hbW #[.int .i64 6, .slice A c ca, .slice B m cb] 30)) (hsW _ _) hc
        subst h6
        generalize (((c : Int) == (m : Int)) && riseB c ns) = r at *
        clear hk h5 hns
        go_enter Try.func77, Try.ntmps77
        go_wp2_with (go_at_call 102; refine M.mono ?_; rintro e w1 ⟨rfl, hb1⟩)
        go_ret
        exact ⟨rfl, (hbW _ _).trans (hb1.mono (hsW _ _))⟩
      · rw [if_neg h6]
        have k1 : (k == 1) = false := by simp; omega
        have k2 : (k == 2) = false := by simp; omega
        have k3 : (k == 3) = false := by simp; omega
        have k4 : (k == 4) = false := by simp; omega
        have k5 : (k == 5) = false := by simp; omega
        have k6 : (k == 6) = false := by simp; omega
        have k7 : (k == 7) = false := by simp; omega
        clear hk h5 h6 hns
        go_enter Try.func77, Try.ntmps77
        go_wp2_with fail
        go_ret
        exact ⟨rfl, hbW _ _⟩
end Go.Proofs.Yteclpehbpicpaaa

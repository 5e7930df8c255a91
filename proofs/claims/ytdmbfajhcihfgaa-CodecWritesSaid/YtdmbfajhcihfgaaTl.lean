/-
  Contracts of basculeref04's tright, of lists and of records, and TypeRight.
-/
import Derived.Test.YtdmbfajhcihfgaaTk
import Derived.Test.YtdmbfajhcihfgaaVk
namespace Go.Proofs.Ytdmbfajhcihfgaa
open Go.RowKit

set_option maxHeartbeats 2000000 in
set_option maxRecDepth 10000 in
theorem tright_5 {A : Option Addr} {c ca : Nat} {B : Option Addr} {m cb : Nat} {w : World} {far : Int} {ns : Nat → ByteArray} {vs : Nat → Array Value} {xs : Nat → TT} (h0 : 1 ≤ far) (h9 : far ≤ 1000) (hmx : m ≤ 9223372036854775807)
    (hB : 0 < m → ∃ g o, B = some ⟨g, o, none⟩ ∧ g < w.heap.size ∧ ∀ i, i < m → ThreeAt w g (o + i * 3) (vs i)) (hxs : ∀ i, i < m → TVal w w.heap.size (vs i) (xs i))
    (ih : ∀ (i : Nat) (v : Array Value) (far : Int) (w : World), TVal w w.heap.size v (xs i) → 0 ≤ far → far ≤ 1000 → Calls Try.prog 40 #[.agg v, .int .i64 far] w fun e w' => e = .returned (.bool (trightV (xs i) far)) ∧ Below w.heap.size w w') :
    Calls Try.prog 40 #[.agg (tfields 5 A c ca B m cb), .int .i64 far] w fun e w' => e = .returned (.bool (theadB 5 c ns m && (List.range m).all (fun i => trightV (xs i) (far - 1)))) ∧ Below w.heap.size w w' := by
  have hbW : Below w.heap.size w (w.alloc (.cells (tfields 5 A c ca B m cb) 30)) := (Below.refl _ _).alloc (Nat.le_refl _) _
  have hsz : (w.alloc (.cells (tfields 5 A c ca B m cb) 30)).heap.size = w.heap.size + 1 := by simp
  have HZ := Lib.hid hsz
  clear hsz
  unfold tfields at *
  have HK := box3_stays (w := w) (a0 := .int .i64 5) (a1 := .slice A c ca) (a2 := .slice B m cb) (t := 30)
  have HBW := Lib.hid hbW
  obtain ⟨T, hT0⟩ : ∃ T, T = (theadB 5 c ns m && (List.range m).all (fun i => trightV (xs i) (far - 1))) := ⟨_, rfl⟩
  rw [← hT0]
  by_cases hm : m = 1
  · by_cases hc : c = 0
    · have hT : Hid (T = (List.range m).all (fun i => trightV (xs i) (far - 1))) := Lib.hid (by rw [hT0]; unfold theadB; simp [hc, hm])
      have tm : ((m : Int) == 1) = true := by simp; omega
      have tm2 : ((m : Int) != 1) = false := by simp; omega
      have tc : ((c : Int) == 0) = true := by simp; omega
      have tc2 : ((c : Int) != 0) = false := by simp; omega
      clear hc hT0
      obtain ⟨w1, hw1⟩ : ∃ w1, w1 = w.alloc (.cells #[.int .i64 5, .slice A c ca, .slice B m cb] 30) := ⟨_, rfl⟩
      obtain ⟨q0, q1, q2⟩ := HK.out _ (Below.refl _ _)
      have hz1 : w1.heap.size = w.heap.size + 1 := by rw [hw1]; exact HZ.out
      rw [← hw1] at q0 q1 q2 hbW
      have HM := Lib.hid hm
      clear hm
      go_enter Try.func40, Try.ntmps40
      go_wp2_with fail
      rw [← hw1]
      have HW1 := Lib.hid hw1
      clear hw1
      have HW := Lib.hid (And.intro hbW (show w.heap.size < w1.heap.size by omega))
      have H2 := Lib.hid q2
      clear hz1 hbW q0 q1 q2 HK HBW HZ
      go_loopw [5] (fun iv wr => ∃ i : Nat, i ≤ m ∧ iv = .int .i64 i ∧ Hid (∀ j, j < i → trightV (xs j) (far - 1) = true) ∧ Below w1.heap.size w1 wr) (fun iv _ => m - (intOf iv).toNat)
      case atStart => exact ⟨0, Nat.zero_le _, rfl, Lib.hid fun j hj => absurd hj (by omega), Below.refl _ _⟩
      case round =>
        obtain ⟨i, hi, rfl, hh, hb⟩ := hrel
        have h2r : wr.cell? ⟨w.heap.size, 2, none⟩ = some (.slice B m cb) := (hb.cell (p := ⟨w.heap.size, 2, none⟩) HW.out.2).trans H2.out
        have hfin : Below w.heap.size w wr := HW.out.1.trans (hb.mono HW.out.1.size)
        by_cases hlt : i < m
        · obtain ⟨g, o, rfl, hg, hx⟩ := hB (by omega)
          have hvr := ((hxs i hlt).stay hfin).mono hfin.size
          have hcall := ih i (vs i) (far - 1) wr hvr (by omega) (by omega)
          have hthr := (hx i hlt).keep (w' := wr) fun o => hfin.cell (p := ⟨g, o, none⟩) hg
          obtain ⟨a0, a1, a2, hv0⟩ := (hxs i hlt).three
          rw [hv0] at hthr hcall
          obtain ⟨e0, e1, e2⟩ := hthr.cells
          have yes : trightV (xs i) (far - 1) = true → Hid (∀ j, j < i + 1 → trightV (xs j) (far - 1) = true) := fun hy => Lib.hid fun j hj => by
            by_cases e : j = i
            · subst e; exact hy
            · exact hh.out j (by omega)
          have no : trightV (xs i) (far - 1) = false → Hid (T = false) := fun hn => Lib.hid (by
            rw [hT.out, List.all_eq_false.2 ⟨i, List.mem_range.2 hlt, by rw [hn]; simp⟩])
          clear hv0 hthr hvr hx hB ih hxs hh
          cases hr : trightV (xs i) (far - 1)
          · have N := no hr
            rw [hr] at hcall
            clear yes no hr hT
            go_wp2_with (go_at_call 40; refine hcall.mono ?_; rintro e w3 ⟨rfl, hb3⟩)
            go_ret
            exact ⟨by rw [N.out]; rfl, hfin.trans (hb3.mono hfin.size)⟩
          · have Y := yes hr
            rw [hr] at hcall
            clear yes no hr hT
            go_wp2_with (go_at_call 40; refine hcall.mono ?_; rintro e w3 ⟨rfl, hb3⟩)
            go_roundw
            case rel => exact ⟨i + 1, by omega, by go_num, Y, hb.trans (hb3.mono hb.size)⟩
            case measure => simp [intOf]; omega
        · have R : Hid (T = true) := Lib.hid (by rw [hT.out, List.all_eq_true.2 fun j hj => hh.out j (by have := List.mem_range.1 hj; omega)])
          clear hh hT ih hxs hB
          go_wp2_with fail
          go_ret
          exact ⟨by rw [R.out]; rfl, hfin⟩
    · have R : Hid (T = false) := Lib.hid (by rw [hT0]; unfold theadB; simp [hc])
      have tm : ((m : Int) == 1) = true := by simp; omega
      have tm2 : ((m : Int) != 1) = false := by simp; omega
      have tc : ((c : Int) == 0) = false := by simp; omega
      have tc2 : ((c : Int) != 0) = true := by simp; omega
      clear hc hT0 ih hxs hB hm
      go_enter Try.func40, Try.ntmps40
      go_wp2_with fail
      go_ret
      exact ⟨by rw [R.out]; rfl, hbW⟩
  · have R : Hid (T = false) := Lib.hid (by rw [hT0]; unfold theadB; simp [hm])
    have tm : ((m : Int) == 1) = false := by simp; omega
    have tm2 : ((m : Int) != 1) = true := by simp; omega
    clear hT0 ih hxs hB hm
    go_enter Try.func40, Try.ntmps40
    go_wp2_with fail
    go_ret
    exact ⟨by rw [R.out]; rfl, hbW⟩
set_option maxHeartbeats 2000000 in
set_option maxRecDepth 10000 in
theorem tright_6 {A : Option Addr} {c ca : Nat} {B : Option Addr} {m cb : Nat} {w : World} {far : Int} {ns : Nat → ByteArray} {vs : Nat → Array Value} {xs : Nat → TT} (h0 : 1 ≤ far) (h9 : far ≤ 1000) (hmx : m ≤ 9223372036854775807) (hcx : c ≤ 9223372036854775807) (hns : Strs w w.heap.size A c ns)
    (hB : 0 < m → ∃ g o, B = some ⟨g, o, none⟩ ∧ g < w.heap.size ∧ ∀ i, i < m → ThreeAt w g (o + i * 3) (vs i)) (hxs : ∀ i, i < m → TVal w w.heap.size (vs i) (xs i))
    (ih : ∀ (i : Nat) (v : Array Value) (far : Int) (w : World), TVal w w.heap.size v (xs i) → 0 ≤ far → far ≤ 1000 → Calls Try.prog 40 #[.agg v, .int .i64 far] w fun e w' => e = .returned (.bool (trightV (xs i) far)) ∧ Below w.heap.size w w') :
    Calls Try.prog 40 #[.agg (tfields 6 A c ca B m cb), .int .i64 far] w fun e w' => e = .returned (.bool (theadB 6 c ns m && (List.range m).all (fun i => trightV (xs i) (far - 1)))) ∧ Below w.heap.size w w' := by
  have hbW : Below w.heap.size w (w.alloc (.cells (tfields 6 A c ca B m cb) 30)) := (Below.refl _ _).alloc (Nat.le_refl _) _
  have hsz : (w.alloc (.cells (tfields 6 A c ca B m cb) 30)).heap.size = w.heap.size + 1 := by simp
  have HZ := Lib.hid hsz
  clear hsz
  have Nm := fun (w' : World) (hb : Below w.heap.size w w') => names_any (n := (m : Int)) (ca := ca) (strs_keep hns hb) hb.size hcx
  clear hns
  unfold tfields at *
  have HK := box3_stays (w := w) (a0 := .int .i64 6) (a1 := .slice A c ca) (a2 := .slice B m cb) (t := 30)
  have HBW := Lib.hid hbW
  obtain ⟨T, hT0⟩ : ∃ T, T = (theadB 6 c ns m && (List.range m).all (fun i => trightV (xs i) (far - 1))) := ⟨_, rfl⟩
  rw [← hT0]
  cases hg : (riseB c ns && ((c : Int) == (m : Int)))
  · have R : Hid (T = false) := Lib.hid (by rw [hT0]; unfold theadB; simp only [hg]; simp)
    rw [hg] at Nm
    clear hg hT0 ih hxs hB
    go_enter Try.func40, Try.ntmps40
    go_wp2_with (go_at_call 71; refine (Nm _ HBW.out).mono ?_; rintro e w1 ⟨rfl, hb1⟩; obtain ⟨q0, q1, q2⟩ := HK.out w1 hb1)
    go_ret
    exact ⟨by rw [R.out]; rfl, hbW.trans (hb1.mono hbW.size)⟩
  · have hT : Hid (T = (List.range m).all (fun i => trightV (xs i) (far - 1))) := Lib.hid (by rw [hT0]; unfold theadB; simp only [hg]; simp)
    rw [hg] at Nm
    clear hg hT0
    go_enter Try.func40, Try.ntmps40
    go_wp2_with (go_at_call 71; refine (Nm _ HBW.out).mono ?_; rintro e w1 ⟨rfl, hb1⟩; obtain ⟨q0, q1, q2⟩ := HK.out w1 hb1)
    have HW := Lib.hid (And.intro (hbW.trans (hb1.mono hbW.size)) (show w.heap.size < w1.heap.size by have := hb1.size; have := HZ.out; omega))
    have H2 := Lib.hid q2
    clear hbW hb1 Nm q0 q1 q2 HK HBW HZ
    go_loopw [5] (fun iv wr => ∃ i : Nat, i ≤ m ∧ iv = .int .i64 i ∧ Hid (∀ j, j < i → trightV (xs j) (far - 1) = true) ∧ Below w1.heap.size w1 wr) (fun iv _ => m - (intOf iv).toNat)
    case atStart => exact ⟨0, Nat.zero_le _, rfl, Lib.hid fun j hj => absurd hj (by omega), Below.refl _ _⟩
    case round =>
      obtain ⟨i, hi, rfl, hh, hb⟩ := hrel
      have h2r : wr.cell? ⟨w.heap.size, 2, none⟩ = some (.slice B m cb) := (hb.cell (p := ⟨w.heap.size, 2, none⟩) HW.out.2).trans H2.out
      have hfin : Below w.heap.size w wr := HW.out.1.trans (hb.mono HW.out.1.size)
      by_cases hlt : i < m
      · obtain ⟨g, o, rfl, hg, hx⟩ := hB (by omega)
        have hvr := ((hxs i hlt).stay hfin).mono hfin.size
        have hcall := ih i (vs i) (far - 1) wr hvr (by omega) (by omega)
        have hthr := (hx i hlt).keep (w' := wr) fun o => hfin.cell (p := ⟨g, o, none⟩) hg
        obtain ⟨a0, a1, a2, hv0⟩ := (hxs i hlt).three
        rw [hv0] at hthr hcall
        obtain ⟨e0, e1, e2⟩ := hthr.cells
        have yes : trightV (xs i) (far - 1) = true → Hid (∀ j, j < i + 1 → trightV (xs j) (far - 1) = true) := fun hy => Lib.hid fun j hj => by
          by_cases e : j = i
          · subst e; exact hy
          · exact hh.out j (by omega)
        have no : trightV (xs i) (far - 1) = false → Hid (T = false) := fun hn => Lib.hid (by
          rw [hT.out, List.all_eq_false.2 ⟨i, List.mem_range.2 hlt, by rw [hn]; simp⟩])
        clear hv0 hthr hvr hx hB ih hxs hh
        cases hr : trightV (xs i) (far - 1)
        · have N := no hr
          rw [hr] at hcall
          clear yes no hr hT
          go_wp2_with (go_at_call 40; refine hcall.mono ?_; rintro e w3 ⟨rfl, hb3⟩)
          go_ret
          exact ⟨by rw [N.out]; rfl, hfin.trans (hb3.mono hfin.size)⟩
        · have Y := yes hr
          rw [hr] at hcall
          clear yes no hr hT
          go_wp2_with (go_at_call 40; refine hcall.mono ?_; rintro e w3 ⟨rfl, hb3⟩)
          go_roundw
          case rel => exact ⟨i + 1, by omega, by go_num, Y, hb.trans (hb3.mono hb.size)⟩
          case measure => simp [intOf]; omega
      · have R : Hid (T = true) := Lib.hid (by rw [hT.out, List.all_eq_true.2 fun j hj => hh.out j (by have := List.mem_range.1 hj; omega)])
        clear hh hT ih hxs hB
        go_wp2_with fail
        go_ret
        exact ⟨by rw [R.out]; rfl, hfin⟩

theorem tright_any : ∀ (t : TT) (v : Array Value) (far : Int) (w : World), TVal w w.heap.size v t → 0 ≤ far → far ≤ 1000 →
    Calls Try.prog 40 #[.agg v, .int .i64 far] w fun e w' => e = .returned (.bool (trightV t far)) ∧ Below w.heap.size w w' := by
  intro t
  induction t with
  | bad => intro v far w h; cases h
  | mk k c ns m xs ih =>
    intro v far w h h0 h9
    cases h with
    | mk _ A _ ca B _ cb _ _ vs hk hc hm hns hB hxs =>
      have hcx : c ≤ 9223372036854775807 := by have := hc; unfold maxLen at this; omega
      have hmx : m ≤ 9223372036854775807 := by have := hm; unfold maxLen at this; omega
      unfold trightV
      by_cases h1 : 1 ≤ far
      · rw [decide_eq_true h1, Bool.true_and]
        by_cases k5 : k = 5
        · subst k5
          rw [if_pos (.inl rfl)]
          exact tright_5 h1 h9 hmx hB hxs fun i => ih i
        · by_cases k6 : k = 6
          · subst k6
            rw [if_pos (.inr rfl)]
            exact tright_6 h1 h9 hmx hcx hns hB hxs fun i => ih i
          · rw [if_neg (by omega)]
            unfold tplainB
            by_cases kr : 1 ≤ k ∧ k ≤ 7
            · rw [decide_eq_true kr.1, decide_eq_true kr.2, Bool.true_and, Bool.true_and]
              exact tright_plain h1 kr k5 k6
            · have e : (decide (1 ≤ k) && (decide (k ≤ 7) && (decide (m = 0) && decide (c = 0)))) = false := by
                by_cases a : 1 ≤ k
                · rw [decide_eq_false (show ¬ k ≤ 7 from fun h => kr ⟨a, h⟩), Bool.false_and, Bool.and_false]
                · rw [decide_eq_false a, Bool.false_and]
              rw [e]
              exact tright_out h1 kr
      · rw [decide_eq_false h1, Bool.false_and]
        exact tright_far h1
def tokV (t : TT) : Bool := decide (tcntV t 0 ≤ 200) && trightV t 12
theorem TypeRight_any {t : TT} {v : Array Value} {w : World} (hv : TVal w w.heap.size v t) : Calls Try.prog 14 #[.agg v] w fun e w' => e = .returned (.bool (tokV t)) ∧ Below w.heap.size w w' := by
  have hbW : Below w.heap.size w (w.alloc (.cells v 30)) := (Below.refl _ _).alloc (Nat.le_refl _) _
  have hvW := (hv.stay hbW).mono hbW.size
  have P := tparts_any hvW
  have R := fun w' (hb : Below (w.alloc (.cells v 30)).heap.size (w.alloc (.cells v 30)) w') => tright_any t v 12 w' ((hvW.stay hb).mono hb.size) (by omega) (by omega)
  obtain ⟨a0, a1, a2, rfl⟩ := hv.three
  have HK := box3_stays (w := w) (a0 := a0) (a1 := a1) (a2 := a2) (t := 30)
  have HR := Lib.hid R
  unfold tokV
  have h2 := tcntV_in t 0 (by omega) (by omega)
  generalize tcntV t 0 = p at *
  generalize trightV t 12 = r at *
  clear hv hvW R
  by_cases hp : p ≤ 200
  · go_enter Try.func14, Try.ntmps14
    go_wp2_with fail
    refine P.mono ?_
    rintro e w1 ⟨rfl, hb1⟩
    obtain ⟨c0, c1, c2⟩ := HK.out w1 hb1
    have hfin := hbW.trans (hb1.mono hbW.size)
    go_wp2_with (go_at_call 40; refine (HR.out w1 hb1).mono ?_; rintro e w2 ⟨rfl, hb2⟩)
    go_ret
    exact ⟨by rw [decide_eq_true hp, Bool.true_and]; rfl, hfin.trans (hb2.mono hfin.size)⟩
  · go_enter Try.func14, Try.ntmps14
    go_wp2_with fail
    refine P.mono ?_
    rintro e w1 ⟨rfl, hb1⟩
    have hfin := hbW.trans (hb1.mono hbW.size)
    go_wp2_with fail
    go_ret
    exact ⟨by simp only [decide_eq_false (show ¬ p ≤ 200 by omega), Bool.false_and]; rfl, hfin⟩
end Go.Proofs.Ytdmbfajhcihfgaa

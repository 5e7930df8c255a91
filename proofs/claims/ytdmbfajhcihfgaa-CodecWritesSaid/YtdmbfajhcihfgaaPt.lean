/-
  Contracts of the program's countParts, isTypeRightAlone, isRightWithin, isRight, TypeRight, of types.
-/
import Derived.Test.YtdmbfajhcihfgaaPw
import Derived.Test.YtdmbfajhcihfgaaTl
namespace Go.Proofs.Ytdmbfajhcihfgaa
open Go.RowKit

/-- All parts of a type. -/
def ttot : TT → Nat
  | .bad => 0
  | .mk _ _ _ m xs => 1 + sumN (fun i => ttot (xs i)) m
theorem tcnt_tot {w : World} {lim : Nat} {v : Array Value} {t : TT} (h : TVal w lim v t) : ∀ n, 0 ≤ n → n < 500 → tcntV t n = min (n + ttot t) 500 := by
  induction h with
  | mk k A c ca B m cb ns xs vs hk hc hm hns hB hxs ih =>
    intro n h0 h5
    unfold tcntV ttot
    have hin := cntGo_in (fun i n => tcntV (xs i) n) (fun i n a b => tcntV_in (xs i) n a b) m 0 (n + 1) (by omega) (by omega)
    have key : ∀ r i q, i + r = m → 0 ≤ q → q ≤ 500 → cntGo (fun i n => tcntV (xs i) n) r i q = min (q + (sumN (fun i => ttot (xs i)) m - sumN (fun i => ttot (xs i)) i : Int)) 500 ∧ sumN (fun i => ttot (xs i)) i ≤ sumN (fun i => ttot (xs i)) m := by
      intro r
      induction r with
      | zero =>
        intro i q hi hq0 hq5
        obtain rfl : i = m := by omega
        unfold cntGo
        exact ⟨by omega, Nat.le_refl _⟩
      | succ r ihr =>
        intro i q hi hq0 hq5
        have hs : sumN (fun i => ttot (xs i)) (i + 1) = sumN (fun i => ttot (xs i)) i + ttot (xs i) := rfl
        unfold cntGo
        by_cases hq : q < 500
        · rw [if_pos hq]
          have e := ih i (by omega) q hq0 hq
          rw [e]
          have := ihr (i + 1) (min (q + ttot (xs i)) 500) (by omega) (by omega) (by omega)
          omega
        · rw [if_neg hq]
          have := (ihr (i + 1) q (by omega) hq0 hq5).2
          omega
    have e := (key m 0 (n + 1) (by omega) (by omega) (by omega)).1
    have hz : sumN (fun i => ttot (xs i)) 0 = 0 := rfl
    rw [e]
    omega
theorem TVal.four {w : World} {lim : Nat} {v : Array Value} {t : TT} (h : TVal w lim v t) : ∃ k A c ca B m cb, v = #[.int .i64 k, .slice A c ca, .slice B m cb] := by
  cases h; exact ⟨_, _, _, _, _, _, _, rfl⟩
theorem ttot_mk (k : Int) (c : Nat) (ns : Nat → ByteArray) (m : Nat) (xs : Nat → TT) : ((ttot (.mk k c ns m xs) : Nat) : Int) = 1 + (sumN (fun i => ttot (xs i)) m : Nat) := by
  rw [ttot]; simp
theorem titems_any {k : Int} {A : Option Addr} {c ca : Nat} {B : Option Addr} {m cb : Nat} (w : World) :
    Calls Try.prog 67 #[.agg (tfields k A c ca B m cb)] w fun e w' => e = .returned (.slice B m cb) ∧ Below w.heap.size w w' := by
  have hb : Below w.heap.size w (w.alloc (.cells (tfields k A c ca B m cb) 30)) := (Below.refl _ _).alloc (Nat.le_refl _) _
  unfold tfields at *
  go_enter Try.func67, Try.ntmps67
  go_wp2_with fail
  go_ret
  exact ⟨rfl, hb⟩
set_option maxHeartbeats 2000000 in
theorem tcap_any : ∀ (t : TT) (v : Array Value) (q : Int) (w : World), TVal w w.heap.size v t → 1 ≤ q → q ≤ 1000 →
    Calls Try.prog 96 #[.agg v, .func (.func 67) #[] #[], .int .i64 q] w fun e w' => e = .returned (.int .i64 (min (ttot t) q)) ∧ Below w.heap.size w w' := by
  intro t
  induction t with
  | bad => intro v q w hv; cases hv
  | mk k c ns m xs ih =>
    intro v q w hv h1 h9
    cases hv with
    | mk _ A _ ca B _ cb _ _ vs hk hc hm hns hB hxs =>
      have hmx : m ≤ 9223372036854775807 := by have := hm; unfold maxLen at this; omega
      have hbW : Below w.heap.size w (w.alloc (.cells (tfields k A c ca B m cb) 30)) := (Below.refl _ _).alloc (Nat.le_refl _) _
      have I := fun W => titems_any (k := k) (A := A) (c := c) (ca := ca) (B := B) (m := m) (cb := cb) W
      unfold tfields at *
      go_enter Try.func96, Try.ntmps96
      go_wp2_with (go_at_call 67; refine (I _).mono ?_; rintro e w1 ⟨rfl, hb1⟩)
      have hW1 : Below w.heap.size w w1 := hbW.trans (hb1.mono hbW.size)
      clear hbW hb1 I
      go_loopw [7, 14] (fun nv iv wr => ∃ (i : Nat) (p : Int), i ≤ m ∧ iv = .int .i64 i ∧ nv = .int .i64 p ∧ p = min (1 + sumN (fun i => ttot (xs i)) i : Int) q ∧ Below w1.heap.size w1 wr) (fun _ iv _ => m - (intOf iv).toNat)
      case atStart => exact ⟨0, 1, Nat.zero_le _, rfl, rfl, by unfold sumN; omega, Below.refl _ _⟩
      case round =>
        obtain ⟨i, p, hi, rfl, rfl, hp, hb⟩ := hrel
        have hfin : Below w.heap.size w wr := hW1.trans (hb.mono hW1.size)
        have hsum : sumN (fun i => ttot (xs i)) (i + 1) = sumN (fun i => ttot (xs i)) i + ttot (xs i) := rfl
        by_cases hlt : i < m
        · by_cases hq : p = q
          · have R : Hid ((min (ttot (.mk k c ns m xs)) q : Int) = p) := Lib.hid (by
              have := sumN_mono (fun i => ttot (xs i)) (show i ≤ m by omega)
              rw [ttot_mk]; omega)
            have tq : (p == q) = true := by simpa using hq
            obtain ⟨g, o, rfl, hg, hx⟩ := hB (by omega)
            have hsix := (hx i hlt).keep (w' := wr) fun o => hfin.cell (p := ⟨g, o, none⟩) hg
            obtain ⟨b0, b1, b2, b3, b4, b5, b6, hv0⟩ := (hxs i hlt).four
            rw [hv0] at hsix
            obtain ⟨e0, e1, e2⟩ := hsix.cells
            have HF := Lib.hid hfin
            clear hv0 hsix hx hB ih hxs hp hsum hns hb hfin hq
            go_wp2_with fail
            go_ret
            exact ⟨by rw [R.out]; rfl, HF.out.alloc HF.out.size _⟩
          · have tq : (p == q) = false := by simpa using hq
            have hpq : p = 1 + (sumN (fun i => ttot (xs i)) i : Nat) ∧ p < q := by omega
            have hN : Hid (p + min (ttot (xs i) : Int) (q - p) = min (1 + (sumN (fun i => ttot (xs i)) (i + 1) : Nat) : Int) q) := Lib.hid (by omega)
            have hlo : 0 ≤ p + min (ttot (xs i) : Int) (q - p) ∧ p + min (ttot (xs i) : Int) (q - p) ≤ 1000 := by omega
            obtain ⟨g, o, rfl, hg, hx⟩ := hB (by omega)
            have hsix := (hx i hlt).keep (w' := wr) fun o => hfin.cell (p := ⟨g, o, none⟩) hg
            have hvr := ((hxs i hlt).stay hfin).mono hfin.size
            have hcall := fun (V : World) (hV : Below wr.heap.size wr V) => ih i (vs i) (q - p) V ((hvr.stay hV).mono hV.size) (by omega) (by omega)
            obtain ⟨b0, b1, b2, b3, b4, b5, b6, hv0⟩ := (hxs i hlt).four
            rw [hv0] at hsix hcall
            obtain ⟨e0, e1, e2⟩ := hsix.cells
            have hbN : ∀ x, Below wr.heap.size wr (wr.alloc x) := fun x => (Below.refl _ _).alloc (Nat.le_refl _) x
            have hwq : 0 ≤ p ∧ p < q ∧ q ≤ 1000 := by omega
            have HF := Lib.hid hfin
            generalize (min (ttot (xs i) : Int) (q - p)) = z at *
            clear hv0 hsix hvr hx hB ih hxs hp hsum hns hfin hq hpq
            go_wp2_with (go_at_call 96; refine (hcall _ (hbN _)).mono ?_; rintro e w3 ⟨rfl, hb3⟩)
            go_roundw
            case rel => exact ⟨i + 1, p + z, by omega, by go_num, by go_num, hN.out, hb.trans (((hbN _).trans (hb3.mono (hbN _).size)).mono hb.size)⟩
            case measure => simp [intOf]; omega
        · have R : Hid ((min (ttot (.mk k c ns m xs)) q : Int) = p) := Lib.hid (by
            obtain rfl : i = m := by omega
            rw [ttot_mk]; omega)
          clear hB hxs ih hp hsum hns
          go_wp2_with fail
          go_ret
          exact ⟨by rw [R.out]; rfl, hfin⟩

/-- Is a type right, whatever its items are? -/
def taloneB (k : Int) (c : Nat) (ns : Nat → ByteArray) (m : Nat) : Bool :=
  if k = 1 ∨ k = 2 ∨ k = 3 ∨ k = 4 ∨ k = 7 then decide (c = 0) && decide (m = 0) else if k = 5 then decide (c = 0) && decide (m = 1) else if k = 6 then ((c : Int) == (m : Int)) && riseB c ns else false
theorem tright_mk (k : Int) (c : Nat) (ns : Nat → ByteArray) (m : Nat) (xs : Nat → TT) {far : Int} (h1 : 1 ≤ far) :
    trightV (.mk k c ns m xs) far = (taloneB k c ns m && (List.range m).all (fun i => trightV (xs i) (far - 1))) := by
  rw [trightV]
  rw [decide_eq_true h1, Bool.true_and]
  unfold taloneB theadB tplainB
  by_cases h5 : k = 5
  · subst h5
    simp only [true_or, if_true, show ¬ ((5 : Int) = 1 ∨ (5 : Int) = 2 ∨ (5 : Int) = 3 ∨ (5 : Int) = 4 ∨ (5 : Int) = 7) by omega, if_false]
    rw [Bool.and_comm (decide (c = 0))]
  by_cases h6 : k = 6
  · subst h6
    simp only [or_true, if_true, show ¬ ((6 : Int) = 1 ∨ (6 : Int) = 2 ∨ (6 : Int) = 3 ∨ (6 : Int) = 4 ∨ (6 : Int) = 7) by omega, show ¬ ((6 : Int) = 5) by omega, if_false]
    rw [Bool.and_comm (riseB c ns)]
  rw [if_neg (show ¬ (k = 5 ∨ k = 6) by omega)]
  by_cases hk : 1 ≤ k ∧ k ≤ 7
  · rw [if_pos (show k = 1 ∨ k = 2 ∨ k = 3 ∨ k = 4 ∨ k = 7 by omega), decide_eq_true hk.1, decide_eq_true hk.2]
    by_cases hm : m = 0
    · subst hm; simp
    · simp [hm]
  · rw [if_neg (show ¬ (k = 1 ∨ k = 2 ∨ k = 3 ∨ k = 4 ∨ k = 7) by omega), if_neg h5, if_neg h6]
    by_cases hk1 : 1 ≤ k
    · rw [decide_eq_false (show ¬ k ≤ 7 by omega)]; simp
    · rw [decide_eq_false hk1]; simp
set_option maxHeartbeats 2000000 in
theorem talone_f {k : Int} {A : Option Addr} {c ca : Nat} {B : Option Addr} {m cb : Nat} {ns : Nat → ByteArray} {w : World} (hns : Strs w w.heap.size A c ns) (hc : c ≤ 9223372036854775807) :
    Calls Try.prog 68 #[.agg (tfields k A c ca B m cb)] w fun e w' => e = .returned (.bool (taloneB k c ns m)) ∧ Below w.heap.size w w' := by
  have hbW : ∀ cs t, Below w.heap.size w (w.alloc (.cells cs t)) := fun cs t => (Below.refl _ _).alloc (Nat.le_refl _) _
  have hsW : ∀ cs t, w.heap.size ≤ (w.alloc (.cells cs t)).heap.size := fun cs t => (hbW cs t).size
  have plain : (k = 1 ∨ k = 2 ∨ k = 3 ∨ k = 4 ∨ k = 7) → Calls Try.prog 68 #[.agg (tfields k A c ca B m cb)] w fun e w' => e = .returned (.bool (decide (c = 0) && decide (m = 0))) ∧ Below w.heap.size w w' := by
    intro hk
    unfold tfields
    by_cases hc0 : c = 0
    · have tc : ((c : Int) == 0) = true := by simp; omega
      by_cases hm0 : m = 0
      · have tm : ((m : Int) == 0) = true := by simp; omega
        have R : Hid ((decide (c = 0) && decide (m = 0)) = true) := Lib.hid (by simp [hc0, hm0])
        clear hc0 hm0 hns
        rcases hk with rfl | rfl | rfl | rfl | rfl <;>
        · go_enter Try.func68, Try.ntmps68
          go_wp2_with fail
          go_ret
          exact ⟨by rw [R.out]; rfl, hbW _ _⟩
      · have tm : ((m : Int) == 0) = false := by simp; omega
        have R : Hid ((decide (c = 0) && decide (m = 0)) = false) := Lib.hid (by simp [hm0])
        clear hc0 hm0 hns
        rcases hk with rfl | rfl | rfl | rfl | rfl <;>
        · go_enter Try.func68, Try.ntmps68
          go_wp2_with fail
          go_ret
          exact ⟨by rw [R.out]; rfl, hbW _ _⟩
    · have tc : ((c : Int) == 0) = false := by simp; omega
      have R : Hid ((decide (c = 0) && decide (m = 0)) = false) := Lib.hid (by simp [hc0])
      clear hc0 hns
      rcases hk with rfl | rfl | rfl | rfl | rfl <;>
      · go_enter Try.func68, Try.ntmps68
        go_wp2_with fail
        go_ret
        exact ⟨by rw [R.out]; rfl, hbW _ _⟩
  unfold taloneB
  by_cases hk : k = 1 ∨ k = 2 ∨ k = 3 ∨ k = 4 ∨ k = 7
  · rw [if_pos hk]; exact plain hk
  · rw [if_neg hk]
    clear plain
    unfold tfields
    by_cases h5 : k = 5
    · rw [if_pos h5]
      subst h5
      by_cases hc0 : c = 0
      · have tc : ((c : Int) == 0) = true := by simp; omega
        by_cases hm0 : m = 1
        · have tm : ((m : Int) == 1) = true := by simp; omega
          have R : Hid ((decide (c = 0) && decide (m = 1)) = true) := Lib.hid (by simp [hc0, hm0])
          clear hc0 hm0 hns hk
          go_enter Try.func68, Try.ntmps68
          go_wp2_with fail
          go_ret
          exact ⟨by rw [R.out]; rfl, hbW _ _⟩
        · have tm : ((m : Int) == 1) = false := by simp; omega
          have R : Hid ((decide (c = 0) && decide (m = 1)) = false) := Lib.hid (by simp [hm0])
          clear hc0 hm0 hns hk
          go_enter Try.func68, Try.ntmps68
          go_wp2_with fail
          go_ret
          exact ⟨by rw [R.out]; rfl, hbW _ _⟩
      · have tc : ((c : Int) == 0) = false := by simp; omega
        have R : Hid ((decide (c = 0) && decide (m = 1)) = false) := Lib.hid (by simp [hc0])
        clear hc0 hns hk
        go_enter Try.func68, Try.ntmps68
        go_wp2_with fail
        go_ret
        exact ⟨by rw [R.out]; rfl, hbW _ _⟩
    · rw [if_neg h5]
      by_cases h6 : k = 6
      · rw [if_pos h6]
        have M := names_f (ca := ca) (n := (m : Int)) (strs_keep hns (hbW #[.int .i64 6, .slice A c ca, .slice B m cb] 30)) (hsW _ _) hc
        subst h6
        generalize (((c : Int) == (m : Int)) && riseB c ns) = r at *
        clear hk h5 hns
        go_enter Try.func68, Try.ntmps68
        go_wp2_with (go_at_call 93; refine M.mono ?_; rintro e w1 ⟨rfl, hb1⟩)
        go_ret
        exact ⟨rfl, (hbW _ _).trans (hb1.mono (hsW _ _))⟩
      · rw [if_neg h6]
        have k1 : (k == 1) = false := by simp; omega
        have k2 : (k == 2) = false := by simp; omega
        have k3 : (k == 3) = false := by simp; omega
        have k4 : (k == 4) = false := by simp; omega
        have k5 : (k == 5) = false := by simp; omega
        have k6 : (k == 6) = false := by simp; omega
        have k7 : (k == 7) = false := by simp; omega
        clear hk h5 h6 hns
        go_enter Try.func68, Try.ntmps68
        go_wp2_with fail
        go_ret
        exact ⟨rfl, hbW _ _⟩
end Go.Proofs.Ytdmbfajhcihfgaa

/-
  Values as they lie in memory: a tree, and what a world holds of it.
  Contracts of basculeref04's sign, text, rows.
  Contracts of basculeref04's Name, names.
  Contracts of basculeref05's Uint, Int, Str.
-/
import Derived.Test.YtekojglcbalhnaaGreatDoorRows
import Derived.WalkKit
import Derived.WalkLawsBesides
import Derived.Laws.Externs
import Derived.Lib.EndianBits
import Derived.Lib.Hide
import Derived.Outline
import Derived.Deep.QuietTactic
import Derived.BigQuiet
import Derived.ProofKit
import Derived.OpenShut
import Derived.Deep.Slices
import Derived.Lib.UnsafeStr
import Derived.OwnWalk
import Derived.Maps.AppendAt
import Derived.Laws.IdiomStrings
namespace Go.Proofs.YtekojglcbalhnaaGreatDoor
open Go.RowKit

/-- A value: its kind, its fields, and 'm' items ('bad' is none: what stands where nothing is). -/
inductive VT
  | bad
  | mk (k n : Int) (f : Nat) (s : ByteArray) (c : Nat) (ns : Nat → ByteArray) (m : Nat) (xs : Nat → VT)

/-- Strings lie at a slice's address. -/
def Strs (w : World) (lim : Nat) (A : Option Addr) (c : Nat) (ns : Nat → ByteArray) : Prop :=
  0 < c → ∃ g o, A = some ⟨g, o, none⟩ ∧ g < lim ∧ ∀ i, i < c → w.cell? ⟨g, o + i, none⟩ = some (.string (ns i)) ∧ (ns i).size ≤ maxLen
/-- A value's six fields. -/
def fields (k n : Int) (f : Nat) (s : ByteArray) (A : Option Addr) (c ca : Nat) (B : Option Addr) (m cb : Nat) : Array Value :=
  #[.int .i64 k, .int .i64 n, .float .f64 f, .string s, .slice A c ca, .slice B m cb]
/-- Six cells at a place. -/
def SixAt (w : World) (g o : Nat) (cs : Array Value) : Prop := ∀ j, j < 6 → w.cell? ⟨g, o + j, none⟩ = cs[j]?

/-- A value by value is this tree. -/
inductive Val (w : World) (lim : Nat) : Array Value → VT → Prop
  | mk (k n : Int) (f : Nat) (s : ByteArray) (A : Option Addr) (c ca : Nat) (B : Option Addr) (m cb : Nat) (ns : Nat → ByteArray) (xs : Nat → VT) (vs : Nat → Array Value)
      (hk : -9223372036854775808 ≤ k ∧ k ≤ 9223372036854775807) (hn : -9223372036854775808 ≤ n ∧ n ≤ 9223372036854775807) (hf : f < 18446744073709551616) (hs : s.size ≤ maxLen) (hc : c ≤ ca ∧ ca ≤ maxLen) (hm : m ≤ cb ∧ cb ≤ maxLen)
      (hns : Strs w lim A c ns)
      (hB : 0 < m → ∃ g o, B = some ⟨g, o, none⟩ ∧ g < lim ∧ ∀ i, i < m → SixAt w g (o + i * 6) (vs i))
      (hxs : ∀ i, i < m → Val w lim (vs i) (xs i)) :
      Val w lim (fields k n f s A c ca B m cb) (.mk k n f s c ns m xs)

theorem Val.keep {w w' : World} {lim : Nat} {v : Array Value} {t : VT} (h : Val w lim v t) (hw : ∀ g o, g < lim → w'.cell? ⟨g, o, none⟩ = w.cell? ⟨g, o, none⟩) : Val w' lim v t := by
  induction h with
  | mk k n f s A c ca B m cb ns xs vs hk hn hf hs hc hm hns hB hxs ih =>
    refine .mk k n f s A c ca B m cb ns xs vs hk hn hf hs hc hm (fun h0 => ?_) (fun h0 => ?_) (fun i hi => ih i hi)
    · obtain ⟨g, o, e, hg, hx⟩ := hns h0
      exact ⟨g, o, e, hg, fun i hi => ⟨(hw _ _ hg).trans (hx i hi).1, (hx i hi).2⟩⟩
    · obtain ⟨g, o, e, hg, hx⟩ := hB h0
      exact ⟨g, o, e, hg, fun i hi j hj => (hw _ _ hg).trans (hx i hi j hj)⟩
theorem Val.stay {w w' : World} {lim : Nat} {v : Array Value} {t : VT} (h : Val w lim v t) (hb : Below lim w w') : Val w' lim v t :=
  h.keep fun g o hg => hb.cell (p := ⟨g, o, none⟩) hg
theorem Val.mono {w : World} {lim lim' : Nat} {v : Array Value} {t : VT} (h : Val w lim v t) (hl : lim ≤ lim') : Val w lim' v t := by
  induction h with
  | mk k n f s A c ca B m cb ns xs vs hk hn hf hs hc hm hns hB hxs ih =>
    refine .mk k n f s A c ca B m cb ns xs vs hk hn hf hs hc hm (fun h0 => ?_) (fun h0 => ?_) (fun i hi => ih i hi)
    · obtain ⟨g, o, e, hg, hx⟩ := hns h0
      exact ⟨g, o, e, by omega, hx⟩
    · obtain ⟨g, o, e, hg, hx⟩ := hB h0
      exact ⟨g, o, e, by omega, hx⟩
theorem Val.six {w : World} {lim : Nat} {v : Array Value} {t : VT} (h : Val w lim v t) : ∃ a0 a1 a2 a3 a4 a5, v = #[a0, a1, a2, a3, a4, a5] := by
  cases h; exact ⟨_, _, _, _, _, _, rfl⟩
/-- The six cells of an item, one by one. -/
theorem SixAt.cells {w : World} {g o : Nat} {a0 a1 a2 a3 a4 a5 : Value} (h : SixAt w g o #[a0, a1, a2, a3, a4, a5]) :
    w.cell? ⟨g, o, none⟩ = some a0 ∧ w.cell? ⟨g, o + 1, none⟩ = some a1 ∧ w.cell? ⟨g, o + 2, none⟩ = some a2 ∧ w.cell? ⟨g, o + 3, none⟩ = some a3 ∧ w.cell? ⟨g, o + 4, none⟩ = some a4 ∧ w.cell? ⟨g, o + 5, none⟩ = some a5 :=
  ⟨h 0 (by omega), h 1 (by omega), h 2 (by omega), h 3 (by omega), h 4 (by omega), h 5 (by omega)⟩
theorem SixAt.keep {w w' : World} {g o : Nat} {v : Array Value} (h : SixAt w g o v) (hw : ∀ o, w'.cell? ⟨g, o, none⟩ = w.cell? ⟨g, o, none⟩) : SixAt w' g o v := fun j hj => (hw _).trans (h j hj)
theorem cells26 : Tryz.prog.cellsOf 28 = 6 := by kernel_rfl

/-! ### How many parts -/
def cntGo (g : Nat → Int → Int) : Nat → Nat → Int → Int
  | 0, _, n => n
  | r + 1, i, n => if n < 500 then cntGo g r (i + 1) (g i n) else n
theorem cntGo_in (g : Nat → Int → Int) (hg : ∀ i n, 0 ≤ n → n < 500 → 0 ≤ g i n ∧ g i n ≤ 500) : ∀ r i n, 0 ≤ n → n ≤ 500 → 0 ≤ cntGo g r i n ∧ cntGo g r i n ≤ 500 := by
  intro r
  induction r with
  | zero => intro i n h1 h2; exact ⟨h1, h2⟩
  | succ r ih =>
    intro i n h1 h2
    unfold cntGo
    split
    · have := hg i n h1 (by assumption)
      exact ih _ _ this.1 this.2
    · exact ⟨h1, h2⟩
def cntV : VT → Int → Int
  | .bad, _ => 0
  | .mk _ _ _ _ _ _ m xs, n => min (cntGo (fun i n => cntV (xs i) n) m 0 (n + 1)) 500

theorem cntV_in : ∀ (t : VT) (n : Int), 0 ≤ n → n < 500 → 0 ≤ cntV t n ∧ cntV t n ≤ 500 := by
  intro t
  induction t with
  | bad => intro n _ _; exact ⟨Int.le_refl _, by show (0 : Int) ≤ 500; omega⟩
  | mk k n0 f s c ns m xs ih =>
    intro n h0 h5
    have := cntGo_in (fun i n => cntV (xs i) n) (fun i n a b => ih i n a b) m 0 (n + 1) (by omega) (by omega)
    unfold cntV
    omega
set_option maxHeartbeats 1000000 in
theorem count_any : ∀ (t : VT) (v : Array Value) (n : Int) (w : World), Val w w.heap.size v t → 0 ≤ n → n < 500 →
    Calls Tryz.prog 68 #[.agg v, .int .i64 n] w fun e w' => e = .returned (.int .i64 (cntV t n)) ∧ Below w.heap.size w w' := by
  intro t
  induction t with
  | bad => intro v n w hv; cases hv
  | mk k n0 f s c ns m xs ih =>
    intro v n w hv h0 h5
    cases hv with
    | mk _ _ _ _ A _ ca B _ cb _ _ vs hk hn hf hs hc hm hns hB hxs =>
      have hmx : m ≤ 9223372036854775807 := by have := hm; unfold maxLen at this; omega
      unfold fields
      go_enter Tryz.func68, Tryz.ntmps68
      go_wp2_with fail
      obtain ⟨W1, hW1⟩ : ∃ W1, W1 = w.alloc (.cells #[.int .i64 k, .int .i64 n0, .float .f64 f, .string s, .slice A c ca, .slice B m cb] 28) := ⟨_, rfl⟩
      have hbW : Below w.heap.size w W1 := by rw [hW1]; exact (Below.refl _ _).alloc (Nat.le_refl _) _
      have hsz : W1.heap.size = w.heap.size + 1 := by rw [hW1]; simp
      have h5c : W1.cell? ⟨w.heap.size, 5, none⟩ = some (.slice B m cb) := by rw [hW1, World.cell?_alloc_new]; rfl
      rw [← hW1]
      have HW := Lib.hid (And.intro hW1 hsz)
      have H5 := Lib.hid h5c
      clear hW1 hsz h5c
      go_loopw [1, 5] (fun nv iv wr => ∃ (i : Nat) (q : Int), i ≤ m ∧ iv = .int .i64 i ∧ nv = .int .i64 q ∧ 0 ≤ q ∧ q ≤ 500 ∧ Hid (cntGo (fun i n => cntV (xs i) n) (m - i) i q = cntGo (fun i n => cntV (xs i) n) m 0 (n + 1)) ∧ Below W1.heap.size W1 wr) (fun _ iv _ => m - (intOf iv).toNat)
      case atStart => exact ⟨0, n + 1, Nat.zero_le _, rfl, rfl, by omega, by omega, Lib.hid rfl, Below.refl _ _⟩
      case round =>
        obtain ⟨i, q, hi, rfl, rfl, hq0, hq5, hh, hb⟩ := hrel
        have h5r : wr.cell? ⟨w.heap.size, 5, none⟩ = some (.slice B m cb) := (hb.cell (p := ⟨w.heap.size, 5, none⟩) (by have := HW.out.2; simp; omega)).trans H5.out
        by_cases hlt : i < m
        · by_cases hq : q < 500
          · obtain ⟨g, o, rfl, hg, hx⟩ := hB (by omega)
            have hsix := hx i hlt
            have hvi := hxs i hlt
            generalize vs i = vi at *
            have hsixr : SixAt wr g (o + i * 6) vi := hsix.keep fun o => (hb.cell (p := ⟨g, o, none⟩) (show g < W1.heap.size by have := HW.out.2; omega)).trans (hbW.cell (p := ⟨g, o, none⟩) hg)
            have hvr : Val wr wr.heap.size vi (xs i) := ((hvi.stay hbW).mono (by have := HW.out.2; omega)).stay hb |>.mono hb.size
            obtain ⟨a0, a1, a2, a3, a4, a5, rfl⟩ := hvi.six
            obtain ⟨c0, c1, c2, c3, c4, c5⟩ := hsixr.cells
            have hcall := ih i _ q wr hvr hq0 hq
            have HB := Lib.hid hB
            have hin := cntV_in (xs i) q hq0 hq
            have hh' : Hid (cntGo (fun i n => cntV (xs i) n) (m - (i + 1)) (i + 1) (cntV (xs i) q) = cntGo (fun i n => cntV (xs i) n) m 0 (n + 1)) := Lib.hid (by
              rw [← hh.out, show m - i = (m - (i + 1)) + 1 by omega]
              conv => rhs; unfold cntGo
              rw [if_pos hq])
            generalize cntV (xs i) q = z at *
            clear hB hx hsix hsixr hvi hvr ih hxs hns hh
            go_wp2_with (go_at_call 68; refine hcall.mono ?_; rintro e w' ⟨rfl, hb'⟩)
            go_roundw
            case rel => exact ⟨i + 1, z, by omega, by go_num, rfl, hin.1, hin.2, hh', hb.trans (hb'.mono hb.size)⟩
            case measure => simp [intOf]; omega
          · have R : Hid (cntV (.mk k n0 f s c ns m xs) n = q) := Lib.hid (by
              have e : cntGo (fun i n => cntV (xs i) n) m 0 (n + 1) = q := by
                rw [← hh.out, show m - i = (m - (i + 1)) + 1 by omega]
                unfold cntGo
                rw [if_neg hq]
              unfold cntV
              rw [e]; omega)
            have hfin : Below w.heap.size w wr := hbW.trans (hb.mono (by have := HW.out.2; omega))
            clear hh hns hB hxs ih
            go_wp2_with fail
            go_ret
            exact ⟨by rw [R.out]; rfl, hfin⟩
        · have R : Hid (cntV (.mk k n0 f s c ns m xs) n = q) := Lib.hid (by
            have e : cntGo (fun i n => cntV (xs i) n) m 0 (n + 1) = q := by
              rw [← hh.out, show m - i = 0 by omega]
              rfl
            unfold cntV
            rw [e]; omega)
          have hfin : Below w.heap.size w wr := hbW.trans (hb.mono (by have := HW.out.2; omega))
          clear hh hns hB hxs ih
          go_wp2_with fail
          go_ret
          exact ⟨by rw [R.out]; rfl, hfin⟩
end Go.Proofs.YtekojglcbalhnaaGreatDoor
namespace Go.Proofs.YtekojglcbalhnaaGreatDoor
open Go.RowKit

def signI (a b : Int) : Int := if a < b then -1 else if b < a then 1 else 0
theorem sign_any (a b : Int) (w : World) : Calls Tryz.prog 80 #[.int .i64 a, .int .i64 b] w fun e w' => e = .returned (.int .i64 (signI a b)) ∧ w = w' := by
  unfold signI
  go_enter Tryz.func80, Tryz.ntmps80
  go_wp2
  all_goals (go_ret; exact ⟨rfl, rfl⟩)
def lessS (a b : ByteArray) : Bool := Op.bytesLess a.toList b.toList
def textI (a b : ByteArray) : Int := if lessS a b = true then -1 else if (a.toList == b.toList) = true then 0 else 1
theorem text_any (a b : ByteArray) (w : World) : Calls Tryz.prog 82 #[.string a, .string b] w fun e w' => e = .returned (.int .i64 (textI a b)) ∧ w' = w := by
  cases h1 : Op.bytesLess a.toList b.toList
  · cases h2 : (a.toList == b.toList)
    · have R : Hid (textI a b = 1) := Lib.hid (by unfold textI lessS; rw [h1, h2]; rfl)
      go_enter Tryz.func82, Tryz.ntmps82
      go_wp2
      go_ret
      exact ⟨by rw [R.out]; rfl, rfl⟩
    · have R : Hid (textI a b = 0) := Lib.hid (by unfold textI lessS; rw [h1, h2]; rfl)
      go_enter Tryz.func82, Tryz.ntmps82
      go_wp2
      go_ret
      exact ⟨by rw [R.out]; rfl, rfl⟩
  · have R : Hid (textI a b = -1) := Lib.hid (by unfold textI lessS; rw [h1]; rfl)
    go_enter Tryz.func82, Tryz.ntmps82
    go_wp2
    go_ret
    exact ⟨by rw [R.out]; rfl, rfl⟩

/-- The first that differs tells, else 'z'. -/
def firstGo (g : Nat → Int) : Nat → Nat → Int → Int
  | 0, _, z => z
  | r + 1, i, z => if g i = 0 then firstGo g r (i + 1) z else g i
def rowI (c : Nat) (ns : Nat → ByteArray) (c' : Nat) (ns' : Nat → ByteArray) : Int := firstGo (fun i => textI (ns i) (ns' i)) (min c c') 0 (signI c c')

set_option maxHeartbeats 1000000 in
theorem rows_any {A A' : Option Addr} {c ca c' ca' : Nat} {ns ns' : Nat → ByteArray} {lim : Nat} {w : World} (h1 : Strs w lim A c ns) (h2 : Strs w lim A' c' ns') (hlim : lim ≤ w.heap.size) (hc : c ≤ 9223372036854775807) (hc' : c' ≤ 9223372036854775807) :
    Calls Tryz.prog 83 #[.slice A c ca, .slice A' c' ca'] w fun e w' => e = .returned (.int .i64 (rowI c ns c' ns')) ∧ Below w.heap.size w w' := by
  have S := sign_any (c : Int) (c' : Int)
  go_enter Tryz.func83, Tryz.ntmps83
  go_wp2_with fail
  go_loopw [5] (fun iv wr => ∃ i : Nat, i ≤ c ∧ i ≤ c' ∧ iv = .int .i64 i ∧ Hid (rowI c ns c' ns' = firstGo (fun i => textI (ns i) (ns' i)) (min c c' - i) i (signI c c')) ∧ Below w.heap.size w wr) (fun iv _ => c - (intOf iv).toNat)
  case atStart => exact ⟨0, Nat.zero_le _, Nat.zero_le _, rfl, Lib.hid rfl, Below.refl _ _⟩
  case round =>
    obtain ⟨i, hi, hi', rfl, hh, hb⟩ := hrel
    by_cases hlt : i < c
    · by_cases hlt' : i < c'
      · obtain ⟨g, o, rfl, hg, hx⟩ := h1 (by omega)
        obtain ⟨g', o', rfl, hg', hx'⟩ := h2 (by omega)
        have x1 : wr.cell? ⟨g, o + i, none⟩ = _ := (hb.cell (p := ⟨g, o + i, none⟩) (show g < _ by omega)).trans (hx i hlt).1
        have x2 : wr.cell? ⟨g', o' + i, none⟩ = _ := (hb.cell (p := ⟨g', o' + i, none⟩) (show g' < _ by omega)).trans (hx' i hlt').1
        have T := text_any (ns i) (ns' i)
        have hstep : Hid (rowI c ns c' ns' = if textI (ns i) (ns' i) = 0 then firstGo (fun i => textI (ns i) (ns' i)) (min c c' - (i + 1)) (i + 1) (signI c c') else textI (ns i) (ns' i)) := Lib.hid (by
          rw [hh.out, show min c c' - i = (min c c' - (i + 1)) + 1 by omega]
          rfl)
        generalize textI (ns i) (ns' i) = z at *
        clear h1 h2 hx hx' hh
        go_wp2_with fail
        go_quiet ((go_at_call 82; exact Calls.quiet_of_same (T _)))
        by_cases hz : z = 0
        · have R := Lib.hid (hstep.out.trans (if_pos hz))
          clear hstep
          subst hz
          go_wp2_with fail
          go_roundw
          case rel => exact ⟨i + 1, by omega, by omega, by go_num, R, below_drewN hb _⟩
          case measure => simp [intOf]; omega
        · have R := Lib.hid (hstep.out.trans (if_neg hz))
          have hz' : (z != 0) = true := by simpa using hz
          clear hstep hz
          go_wp2_with fail
          go_ret
          exact ⟨by rw [R.out]; rfl, below_drewN hb _⟩
      · have R : Hid (rowI c ns c' ns' = signI c c') := Lib.hid (by rw [hh.out, show min c c' - i = 0 by omega]; rfl)
        clear h1 h2 hh
        go_wp2_with (go_at_call 80; refine (S _).mono ?_; rintro e w' ⟨rfl, rfl⟩)
        go_ret
        exact ⟨by rw [R.out]; rfl, hb⟩
    · have R : Hid (rowI c ns c' ns' = signI c c') := Lib.hid (by rw [hh.out, show min c c' - i = 0 by omega]; rfl)
      clear h1 h2 hh
      go_wp2_with (go_at_call 80; refine (S _).mono ?_; rintro e w' ⟨rfl, rfl⟩)
      go_ret
      exact ⟨by rw [R.out]; rfl, hb⟩
end Go.Proofs.YtekojglcbalhnaaGreatDoor
namespace Go.Proofs.YtekojglcbalhnaaGreatDoor
open Go.RowKit

def letterB (c : UInt8) : Bool := decide (97 ≤ c.toNat) && decide (c.toNat ≤ 122)
def digitB (c : UInt8) : Bool := decide (48 ≤ c.toNat) && decide (c.toNat ≤ 57)
/-- May this byte stand at this place of a name? -/
def atB (i : Nat) (c : UInt8) : Bool := letterB c || (decide (0 < i) && (digitB c || decide (c.toNat = 95)))
def nameB (s : ByteArray) : Bool := decide (1 ≤ s.size) && decide (s.size ≤ 30) && (List.range s.size).all fun j => atB j (s.data.toList.getD j 0)
theorem nameB_no {s : ByteArray} {k : Nat} (hk : k < s.size) (h : atB k s[k] = false) : nameB s = false := by
  unfold nameB
  have : (List.range s.size).all (fun j => atB j (s.data.toList.getD j 0)) = false := by
    rw [List.all_eq_false]
    refine ⟨k, List.mem_range.2 hk, ?_⟩
    have e : s.data.toList.getD k 0 = s[k] := by
      rw [List.getD_eq_getElem?_getD, List.getElem?_eq_getElem (by simpa using hk)]; rfl
    rw [e, h]; simp
  rw [this, Bool.and_false]
theorem nameB_yes {s : ByteArray} (h1 : 1 ≤ s.size) (h2 : s.size ≤ 30) (h : ∀ j (h : j < s.size), atB j s[j] = true) : nameB s = true := by
  unfold nameB
  rw [decide_eq_true h1, decide_eq_true h2]
  simp only [Bool.true_and, List.all_eq_true]
  intro j hj
  have hj' := List.mem_range.1 hj
  have e : s.data.toList.getD j 0 = s[j] := by
    rw [List.getD_eq_getElem?_getD, List.getElem?_eq_getElem (by simpa using hj')]; rfl
  rw [e]; exact h j hj'

set_option maxHeartbeats 1000000 in
theorem name_any {s : ByteArray} (hs : s.size ≤ 9223372036854775807) (w : World) : Calls Tryz.prog 132 #[.string s] w fun e w' => e = .returned (.bool (nameB s)) ∧ w' = w := by
  by_cases h1 : s.size < 1
  · have R : Hid (nameB s = false) := Lib.hid (by unfold nameB; rw [decide_eq_false (by omega)]; rfl)
    go_enter Tryz.func132, Tryz.ntmps132
    go_wp2
    go_ret
    exact ⟨by rw [R.out]; rfl, rfl⟩
  · by_cases h2 : 30 < s.size
    · have R : Hid (nameB s = false) := Lib.hid (by unfold nameB; rw [decide_eq_false (show ¬ s.size ≤ 30 by omega)]; simp)
      go_enter Tryz.func132, Tryz.ntmps132
      go_wp2
      go_ret
      exact ⟨by rw [R.out]; rfl, rfl⟩
    · go_enter Tryz.func132, Tryz.ntmps132
      go_wp2
      go_loop [3] (fun iv => ∃ k : Nat, k ≤ s.size ∧ iv = .int .i64 k ∧ Hid (∀ j (_ : j < k) (h : j < s.size), atB j s[j] = true)) (fun iv => s.size - (intOf iv).toNat)
      case atStart => exact ⟨0, Nat.zero_le _, rfl, Lib.hid fun j hj _ => absurd hj (by omega)⟩
      case round =>
        obtain ⟨k, hk, rfl, hh⟩ := hrel
        by_cases hlt : k < s.size
        · obtain ⟨c, hc⟩ : ∃ c, s[k] = c := ⟨_, rfl⟩
          have yes : atB k c = true → Hid (∀ j (_ : j < k + 1) (h : j < s.size), atB j s[j] = true) := fun hy => Lib.hid fun j hj h => by
            by_cases e : j = k
            · subst e; rw [hc]; exact hy
            · exact hh.out j (by omega) h
          have no : atB k c = false → Hid (nameB s = false) := fun hn => Lib.hid (nameB_no hlt (by rw [hc]; exact hn))
          clear hh
          by_cases l1 : 97 ≤ c.toNat
          · by_cases l2 : c.toNat ≤ 122
            · have Y := yes (by unfold atB letterB; rw [decide_eq_true l1, decide_eq_true l2]; rfl)
              have t1 : decide ((97 : Int) ≤ (c.toNat : Int)) = true := by simp; omega
              have t2 : decide ((c.toNat : Int) ≤ 122) = true := by simp; omega
              clear yes no
              go_wp2
              go_round
              case rel => exact ⟨k + 1, by omega, by go_num, Y⟩
              case measure => simp [intOf]; omega
            · have N := no (by unfold atB letterB digitB; rw [decide_eq_false l2, decide_eq_false (show ¬ c.toNat ≤ 57 by omega), decide_eq_false (show ¬ c.toNat = 95 by omega)]; simp)
              have n1 : ((c.toNat : Int) != 95) = true := by simp; omega
              have t1 : decide ((97 : Int) ≤ (c.toNat : Int)) = true := by simp; omega
              have t2 : decide ((c.toNat : Int) ≤ 122) = false := by simp; omega
              have t3 : decide ((48 : Int) ≤ (c.toNat : Int)) = true := by simp; omega
              have t4 : decide ((c.toNat : Int) ≤ 57) = false := by simp; omega
              clear yes no
              by_cases k0 : k = 0
              · subst k0
                go_wp2
                go_ret
                exact ⟨by rw [N.out]; rfl, rfl⟩
              · have k1 : ((k : Int) == 0) = false := by simp; omega
                go_wp2
                go_ret
                exact ⟨by rw [N.out]; rfl, rfl⟩
          · by_cases k0 : k = 0
            · have N := no (by unfold atB letterB; rw [decide_eq_false l1, k0]; rfl)
              subst k0
              have t1 : decide ((97 : Int) ≤ (c.toNat : Int)) = false := by simp; omega
              clear yes no
              go_wp2
              go_ret
              exact ⟨by rw [N.out]; rfl, rfl⟩
            · have k1 : ((k : Int) == 0) = false := by simp; omega
              by_cases d1 : 48 ≤ c.toNat
              · by_cases d2 : c.toNat ≤ 57
                · have Y := yes (by unfold atB digitB; rw [decide_eq_true d1, decide_eq_true d2, decide_eq_true (show 0 < k by omega)]; simp)
                  have t1 : decide ((97 : Int) ≤ (c.toNat : Int)) = false := by simp; omega
                  have t3 : decide ((48 : Int) ≤ (c.toNat : Int)) = true := by simp; omega
                  have t4 : decide ((c.toNat : Int) ≤ 57) = true := by simp; omega
                  clear yes no
                  go_wp2
                  go_round
                  case rel => exact ⟨k + 1, by omega, by go_num, Y⟩
                  case measure => simp [intOf]; omega
                · by_cases u : c.toNat = 95
                  · have Y := yes (by unfold atB; rw [decide_eq_true u, decide_eq_true (show 0 < k by omega)]; simp)
                    have n1 : ((c.toNat : Int) != 95) = false := by simp; omega
                    have hu := Lib.hid u
                    have t1 : decide ((97 : Int) ≤ (c.toNat : Int)) = false := by simp; omega
                    have t3 : decide ((48 : Int) ≤ (c.toNat : Int)) = true := by simp; omega
                    have t4 : decide ((c.toNat : Int) ≤ 57) = false := by simp; omega
                    clear yes no u
                    go_wp2
                    go_round
                    case rel => exact ⟨k + 1, by omega, by go_num, Y⟩
                    case measure => simp [intOf]; omega
                  · have N := no (by unfold atB letterB digitB; rw [decide_eq_false l1, decide_eq_false d2, decide_eq_false u]; simp)
                    have n1 : ((c.toNat : Int) != 95) = true := by simp; omega
                    have t1 : decide ((97 : Int) ≤ (c.toNat : Int)) = false := by simp; omega
                    have t3 : decide ((48 : Int) ≤ (c.toNat : Int)) = true := by simp; omega
                    have t4 : decide ((c.toNat : Int) ≤ 57) = false := by simp; omega
                    clear yes no u
                    go_wp2
                    go_ret
                    exact ⟨by rw [N.out]; rfl, rfl⟩
              · have N := no (by unfold atB letterB digitB; rw [decide_eq_false l1, decide_eq_false d1, decide_eq_false (show ¬ c.toNat = 95 by omega)]; simp)
                have n1 : ((c.toNat : Int) != 95) = true := by simp; omega
                have t1 : decide ((97 : Int) ≤ (c.toNat : Int)) = false := by simp; omega
                have t3 : decide ((48 : Int) ≤ (c.toNat : Int)) = false := by simp; omega
                clear yes no
                go_wp2
                go_ret
                exact ⟨by rw [N.out]; rfl, rfl⟩
        · have R : Hid (nameB s = true) := Lib.hid (nameB_yes (by omega) (by omega) fun j h => hh.out j (by omega) h)
          clear hh
          go_wp2
          go_ret
          exact ⟨by rw [R.out]; rfl, rfl⟩

/-! ### Rising names -/
def riseAt (ns : Nat → ByteArray) (i : Nat) : Bool := nameB (ns i) && (decide (i = 0) || lessS (ns (i - 1)) (ns i))
def riseB (c : Nat) (ns : Nat → ByteArray) : Bool := (List.range c).all (riseAt ns)
theorem riseB_no {c : Nat} {ns : Nat → ByteArray} {i : Nat} (hi : i < c) (h : riseAt ns i = false) : riseB c ns = false := by
  unfold riseB
  rw [List.all_eq_false]
  exact ⟨i, List.mem_range.2 hi, by rw [h]; simp⟩
theorem riseB_yes {c : Nat} {ns : Nat → ByteArray} (h : ∀ i, i < c → riseAt ns i = true) : riseB c ns = true := by
  unfold riseB
  rw [List.all_eq_true]
  exact fun i hi => h i (List.mem_range.1 hi)

set_option maxHeartbeats 1000000 in
theorem names_any {A : Option Addr} {c ca : Nat} {ns : Nat → ByteArray} {lim : Nat} {w : World} {n : Int} (h1 : Strs w lim A c ns) (hlim : lim ≤ w.heap.size) (hc : c ≤ 9223372036854775807) :
    Calls Tryz.prog 136 #[.slice A c ca, .int .i64 n] w fun e w' => e = .returned (.bool (riseB c ns && ((c : Int) == n))) ∧ Below w.heap.size w w' := by
  go_enter Tryz.func136, Tryz.ntmps136
  go_wp2_with fail
  go_loopw [5] (fun iv wr => ∃ i : Nat, i ≤ c ∧ iv = .int .i64 i ∧ Hid (∀ j, j < i → riseAt ns j = true) ∧ Below w.heap.size w wr) (fun iv _ => c - (intOf iv).toNat)
  case atStart => exact ⟨0, Nat.zero_le _, rfl, Lib.hid fun j hj => absurd hj (by omega), Below.refl _ _⟩
  case round =>
    obtain ⟨i, hi, rfl, hh, hb⟩ := hrel
    by_cases hlt : i < c
    · obtain ⟨g, o, rfl, hg, hx⟩ := h1 (by omega)
      have x1 : wr.cell? ⟨g, o + i, none⟩ = _ := (hb.cell (p := ⟨g, o + i, none⟩) (show g < _ by omega)).trans (hx i hlt).1
      have T := name_any (s := ns i) (by have := (hx i hlt).2; unfold maxLen at this; exact this)
      have yes : riseAt ns i = true → Hid (∀ j, j < i + 1 → riseAt ns j = true) := fun hy => Lib.hid fun j hj => by
        by_cases e : j = i
        · subst e; exact hy
        · exact hh.out j (by omega)
      have no : riseAt ns i = false → Hid (riseB c ns = false) := fun hn => Lib.hid (riseB_no hlt hn)
      clear hh
      cases hn : nameB (ns i)
      · have N := no (by unfold riseAt; rw [hn]; rfl)
        rw [hn] at T
        clear yes no hx h1 hn
        go_wp2_with fail
        go_quiet ((go_at_call 132; exact Calls.quiet_of_same (T _)))
        go_wp2_with fail
        go_ret
        exact ⟨by rw [N.out]; rfl, below_drewN hb _⟩
      · rw [hn] at T
        by_cases k0 : i = 0
        · have Y := yes (by unfold riseAt; rw [hn, decide_eq_true k0]; rfl)
          subst k0
          have x1z : wr.cell? ⟨g, o, none⟩ = some (.string (ns 0)) := x1
          clear yes no hx h1 hn x1
          go_wp2_with fail
          go_quiet ((go_at_call 132; exact Calls.quiet_of_same (T _)))
          go_wp2_with fail
          go_roundw
          case rel => exact ⟨0 + 1, by omega, by go_num, Y, below_drewN hb _⟩
          case measure => simp [intOf]; omega
        · obtain ⟨p, rfl⟩ : ∃ p, i = p + 1 := ⟨i - 1, by omega⟩
          have x0 : wr.cell? ⟨g, o + p, none⟩ = _ := (hb.cell (p := ⟨g, o + p, none⟩) (show g < _ by omega)).trans (hx p (by omega)).1
          cases hless : Op.bytesLess (ns p).toList (ns (p + 1)).toList
          · have N := no (by unfold riseAt lessS; rw [show p + 1 - 1 = p by omega, hless, decide_eq_false (by omega)]; simp)
            clear yes no hx h1 hn
            go_wp2_with fail
            go_quiet ((go_at_call 132; exact Calls.quiet_of_same (T _)))
            go_wp2_with fail
            go_ret
            exact ⟨by rw [N.out]; rfl, below_drewN hb _⟩
          · have Y := yes (by unfold riseAt lessS; rw [hn, show p + 1 - 1 = p by omega, hless]; simp)
            clear yes no hx h1 hn
            go_wp2_with fail
            go_quiet ((go_at_call 132; exact Calls.quiet_of_same (T _)))
            go_wp2_with fail
            go_roundw
            case rel => exact ⟨p + 1 + 1, by omega, by go_num, Y, below_drewN hb _⟩
            case measure => simp [intOf]; omega
    · have R : Hid (riseB c ns = true) := Lib.hid (riseB_yes fun i h => hh.out i (by omega))
      clear hh h1
      go_wp2_with fail
      go_ret
      exact ⟨by rw [R.out]; rfl, hb⟩
end Go.Proofs.YtekojglcbalhnaaGreatDoor
namespace Go.Proofs.YtekojglcbalhnaaGreatDoor
open Go.RowKit

def strL (l : List UInt8) : ByteArray := ⟨l.toArray⟩
theorem strL_append (a b : List UInt8) : strL a ++ strL b = strL (a ++ b) := by
  apply ByteArray.ext; unfold strL; simp
/-- The groups of seven bits, the lowest first. -/
def uintL (n : Nat) : List UInt8 := if n < 128 then [UInt8.ofNat n] else UInt8.ofNat (n % 128 + 128) :: uintL (n / 128)
termination_by n
decreasing_by omega
theorem uintL_last {n : Nat} (h : n < 128) : uintL n = [UInt8.ofNat n] := by rw [uintL, if_pos h]
theorem uintL_more {n : Nat} (h : ¬ n < 128) : uintL n = UInt8.ofNat (n % 128 + 128) :: uintL (n / 128) := by rw [uintL, if_neg h]
theorem uintL_len : ∀ (k n : Nat), n < 128 ^ k → 1 ≤ k → (uintL n).length ≤ k := by
  intro k
  induction k with
  | zero => intro n _ h; omega
  | succ k ih =>
    intro n hn _
    by_cases hz : n < 128
    · rw [uintL_last hz]; simp
    · rw [uintL_more hz]
      have h10 : n / 128 < 128 ^ k := by rw [Nat.pow_succ] at hn; omega
      have hk : 1 ≤ k := by
        rcases Nat.eq_zero_or_pos k with rfl | h
        · simp at h10; omega
        · exact h
      have := ih _ h10 hk
      simp; omega
theorem uintL_len10 {n : Nat} (h : n < 18446744073709551616) : (uintL n).length ≤ 10 := uintL_len 10 n (by omega) (by omega)
theorem uintL_pos (n : Nat) : 1 ≤ (uintL n).length := by
  rw [uintL]; split <;> simp
theorem info5 : (Tryz.prog.info? 5).map (fun i => (i.zero, i.size, i.bytes)) = some (some (.int .u8 0), 1, 1) := by kernel_rfl
theorem owns_one (w : World) (x : Value) : (w.alloc (.cells #[x] 5)).ownsRow w.heap.size 5 1 (.slice (some ⟨w.heap.size, 0, none⟩) 1 1) 1 [x] :=
  ⟨rfl, .inr ⟨w.heap.size, 1, #[x], rfl, Nat.le_refl _, by first | exact Array.getElem?_push_size | (simp; rfl) | (unfold World.alloc; exact Array.getElem?_push_size), Nat.le_refl _, by unfold maxLen; omega, rfl, rfl⟩⟩
theorem owns_slice {w : World} {B : Nat} {v : Value} {n : Nat} {xs : List Value} (h : w.ownsRow B 5 1 v n xs) (hn : 0 < n) : ∃ g cap, v = .slice (some ⟨g, 0, none⟩) n cap := by
  rcases h.2 with ⟨_, h⟩ | ⟨g, cap, _, h, _⟩
  · omega
  · exact ⟨g, cap, h⟩
set_option maxRecDepth 20000 in
set_option maxHeartbeats 2000000 in
theorem Uint_any {n : Nat} (hn : n < 18446744073709551616) (w : World) : Calls Tryz.prog 39 #[.int .u64 n] w fun e w' => e = .returned (.string (strL (uintL n))) ∧ Below w.heap.size w w' := by
  obtain ⟨i0, hi, hz0, hz1, hz2⟩ := info_parts info5
  have hn' := Lib.hid hn
  have hO : (w.alloc (.cells #[] 5)).ownsRow w.heap.size 5 1 (.slice (some ⟨w.heap.size, 0, none⟩) 0 0) 0 [] := World.ownsRow_lit w #[] 0 (Nat.le_refl _) (by unfold maxLen; omega) rfl
  have HO := Lib.hid hO
  have HB := Lib.hid (show Below w.heap.size w (w.alloc (.cells #[] 5)) from (Below.refl _ _).alloc (Nat.le_refl _) _)
  clear hn hO
  go_enter Tryz.func39, Tryz.ntmps39
  go_wp2_with fail
  go_loopw [0, 3] (fun nv v wr => ∃ (m g cap : Nat) (L : List UInt8), m ≤ n ∧ nv = .int .u64 m ∧ v = .slice (some ⟨g, 0, none⟩) L.length cap ∧ Hid (L ++ uintL m = uintL n) ∧ wr.ownsRow w.heap.size 5 1 (.slice (some ⟨g, 0, none⟩) L.length cap) L.length (Lib.byteCells L) ∧ Below w.heap.size w wr) (fun nv _ _ => (intOf nv).toNat)
  case atStart => exact ⟨n, w.heap.size, 0, [], Nat.le_refl _, rfl, rfl, Lib.hid (by simp), HO.out, HB.out⟩
  case round =>
    obtain ⟨m, g, cap, L, hm, rfl, rfl, hL, hown, hb⟩ := hrel
    have hsz := hb.size
    have hlen : L.length + 1 ≤ 10 := by
      have h1 := uintL_len10 hn'.out
      rw [← hL.out, List.length_append] at h1
      have := uintL_pos m
      omega
    have hmb : m < 18446744073709551616 := by have := hn'.out; omega
    by_cases h128 : m < 128
    · have hF : Hid (L ++ [UInt8.ofNat m] = uintL n) := Lib.hid (by rw [← hL.out, uintL_last h128])
      clear hL
      have hcell : Hid (([.int .u8 (m : Int)] : List Value) = Lib.byteCells [UInt8.ofNat m]) := Lib.hid (by
        simp [Lib.byteCells]; omega)
      have t1 : decide ((128 : Int) ≤ (m : Int)) = false := by simp; omega
      have HM := Lib.hid hmb
      clear hmb
      go_wp2_with (first | (at_builtin; refine wpList_append_own _ rfl (.tmp 16) (.tmp 19) 103 rfl w.heap.size 5 i0 (.int .u8 0) 1 1 Tryz.underlying103 hi hz0 hz1 hz2 rfl (by decide) _ _ _ rfl (hown.alloc _) ⟨wr.heap.size, 0, none⟩ 1 1 [.int .u8 (m : Int)] rfl rfl (cell_one_new _ _ _) (fun x hx => by simp at hx; subst hx; rfl) (by unfold maxLen; omega) (by omega) (by simp; omega) ?_; intro v' w3 hown' hgrow3 hnil3; refine Hid.out ?_))
      refine Lib.hid ?_
      obtain ⟨g3, cap3, rfl⟩ := owns_slice hown' (by omega)
      have hb3 : Below w.heap.size w w3 := (hb.alloc hsz _).grown hgrow3 (by simp; omega) (fun q hq => (hown.lt q hq).1)
      obtain ⟨M, hM⟩ : ∃ M, M = L ++ [UInt8.ofNat m] := ⟨_, rfl⟩
      have hMl : L.length + 1 = M.length := by rw [hM]; simp
      have hown3 : w3.ownsRow w.heap.size 5 1 (.slice (some ⟨g3, 0, none⟩) (L.length + 1) cap3) M.length (Lib.byteCells M) := by
        rw [hcell.out, ← Lib.byteCells_append, ← hM, hMl] at hown'
        rw [hMl]; exact hown'
      have hcv := run_convert_bytes_back (P := Tryz.prog) w3 103 9 5 ⟨g3, 0, none⟩ cap3 M Tryz.underlying103 Tryz.underlying5 Tryz.underlying9 (fun j hj => hown3.cells (g := g3) rfl j _ (by simp [Lib.byteCells, hj]))
      rw [← hM] at hF
      rw [← hMl] at hcv
      have HB3 := Lib.hid hb3
      clear hown' hgrow3 hnil3 hown hb hown3 hb3 hM hMl
      go_wp2_with fail
      go_ret
      exact ⟨by rw [← hF.out]; rfl, HB3.out⟩
    · have hN : Hid ((L ++ [UInt8.ofNat (m % 128 + 128)]) ++ uintL (m / 128) = uintL n) := Lib.hid (by rw [← hL.out, uintL_more h128]; simp)
      have hcell : Hid (([.int .u8 ((m : Int) % 128 + 128)] : List Value) = Lib.byteCells [UInt8.ofNat (m % 128 + 128)]) := Lib.hid (by
        simp [Lib.byteCells]; omega)
      clear hL
      have D : IntKind.u64.wrap ((m : Int) / 128) = ((m / 128 : Nat) : Int) := by rw [IntKind.wrap_u64]; omega
      have HM := Lib.hid hmb
      clear hmb
      have t1 : decide ((128 : Int) ≤ (m : Int)) = true := by simp; omega
      clear h128
      go_wp2_with (first | (at_builtin; refine wpList_append_own _ rfl (.tmp 7) (.tmp 12) 103 rfl w.heap.size 5 i0 (.int .u8 0) 1 1 Tryz.underlying103 hi hz0 hz1 hz2 rfl (by decide) _ _ _ rfl (hown.alloc _) ⟨wr.heap.size, 0, none⟩ 1 1 [.int .u8 ((m : Int) % 128 + 128)] rfl rfl (cell_one_new _ _ _) (fun x hx => by simp at hx; subst hx; rfl) (by unfold maxLen; omega) (by omega) (by simp; omega) ?_; intro v' w3 hown' hgrow3 hnil3; refine Hid.out ?_))
      refine Lib.hid ?_
      obtain ⟨g3, cap3, rfl⟩ := owns_slice hown' (by omega)
      have hb3 : Below w.heap.size w w3 := (hb.alloc hsz _).grown hgrow3 (by simp; omega) (fun q hq => (hown.lt q hq).1)
      have hown3 : w3.ownsRow w.heap.size 5 1 (.slice (some ⟨g3, 0, none⟩) (L ++ [UInt8.ofNat (m % 128 + 128)]).length cap3) (L ++ [UInt8.ofNat (m % 128 + 128)]).length (Lib.byteCells (L ++ [UInt8.ofNat (m % 128 + 128)])) := by
        rw [hcell.out, ← Lib.byteCells_append] at hown'
        simpa using hown'
      have HO3 := Lib.hid hown3
      have HB3 := Lib.hid hb3
      have hlt : Hid (m / 128 ≤ n ∧ m / 128 < m) := Lib.hid ⟨by omega, by have := t1; simp at this; omega⟩
      clear hown' hgrow3 hnil3 hown hb hown3 hb3
      go_wp2_with fail
      go_roundw
      case rel => exact ⟨m / 128, g3, cap3, _, hlt.out.1, rfl, by simp, hN, HO3.out, HB3.out⟩
      case measure => have := hlt.out.2; simp [intOf]; omega
/-- A number with a sign, as one without. -/
def zig (n : Int) : Nat := if n < 0 then ((-1 - n) * 2 + 1).toNat else (n * 2).toNat
theorem zig_lt {n : Int} (h : -9223372036854775808 ≤ n ∧ n ≤ 9223372036854775807) : zig n < 18446744073709551616 := by unfold zig; split <;> omega
set_option maxRecDepth 20000 in
theorem Int_any {n : Int} (h : -9223372036854775808 ≤ n ∧ n ≤ 9223372036854775807) (w : World) : Calls Tryz.prog 108 #[.int .i64 n] w fun e w' => e = .returned (.string (strL (uintL (zig n)))) ∧ Below w.heap.size w w' := by
  have U := Uint_any (zig_lt h)
  by_cases h0 : n < 0
  · have hz : ((zig n : Nat) : Int) = (-1 - n) * 2 + 1 := by unfold zig; rw [if_pos h0]; omega
    have HI := Lib.hid hz
    rw [hz] at U
    generalize zig n = z at *
    have E0 : IntKind.i64.wrap (-1 - n) = -1 - n := by rw [IntKind.wrap_i64]; omega
    have E1 : IntKind.u64.wrap (-1 - n) = -1 - n := by rw [IntKind.wrap_u64]; omega
    have E2 : IntKind.u64.wrap ((-1 - n) * 2) = (-1 - n) * 2 := by rw [IntKind.wrap_u64]; omega
    have E3 : IntKind.u64.wrap ((-1 - n) * 2 + 1) = (-1 - n) * 2 + 1 := by rw [IntKind.wrap_u64]; omega
    clear h hz
    go_enter Tryz.func108, Tryz.ntmps108
    go_wp2_with (go_at_call 39; refine (U _).mono ?_; rintro e w1 ⟨rfl, hb1⟩)
    go_ret
    exact ⟨rfl, hb1⟩
  · have hz : ((zig n : Nat) : Int) = n * 2 := by unfold zig; rw [if_neg h0]; omega
    have HI := Lib.hid hz
    rw [hz] at U
    generalize zig n = z at *
    have E1 : IntKind.u64.wrap n = n := by rw [IntKind.wrap_u64]; omega
    have E2 : IntKind.u64.wrap (n * 2) = n * 2 := by rw [IntKind.wrap_u64]; omega
    clear h hz
    go_enter Tryz.func108, Tryz.ntmps108
    go_wp2_with (go_at_call 39; refine (U _).mono ?_; rintro e w1 ⟨rfl, hb1⟩)
    go_ret
    exact ⟨rfl, hb1⟩
/-- A string's bytes. -/
def strB (t : ByteArray) : ByteArray := strL (uintL t.size) ++ t
theorem Str_any {t : ByteArray} (h : t.size ≤ 1000000000) (w : World) : Calls Tryz.prog 110 #[.string t] w fun e w' => e = .returned (.string (strB t)) ∧ Below w.heap.size w w' := by
  have U := Uint_any (n := t.size) (by omega)
  have hl := uintL_len10 (n := t.size) (by omega)
  have hz : ¬ 9223372036854775807 < (strL (uintL t.size)).size + t.size := by
    have : (strL (uintL t.size)).size = (uintL t.size).length := rfl
    omega
  unfold strB
  generalize strL (uintL t.size) = x at *
  clear hl
  go_enter Tryz.func110, Tryz.ntmps110
  go_wp2_with (go_at_call 39; refine (U _).mono ?_; rintro e w1 ⟨rfl, hb1⟩)
  go_ret
  exact ⟨rfl, hb1⟩
end Go.Proofs.YtekojglcbalhnaaGreatDoor

/-
  Values as they lie in memory: a tree, and what a world holds of it.
  Contracts of basculeref04's Depth, Parts, Small.
-/
import Derived.Test.YtmbjmibjobpdgaaRows
import Derived.WalkKit
import Derived.WalkLawsBesides
import Derived.Laws.Externs
import Derived.Lib.EndianBits
import Derived.Lib.Hide
import Derived.Outline
import Derived.Deep.QuietTactic
import Derived.BigQuiet
import Derived.ProofKit
import Derived.OpenShut
import Derived.Deep.Slices
namespace Go.Proofs.Ytmbjmibjobpdgaa
open Go.RowKit

/-- A value: its kind, its fields, and 'm' items ('bad' is none: what stands where nothing is). -/
inductive VT
  | bad
  | mk (k n : Int) (f : Nat) (s : ByteArray) (c : Nat) (ns : Nat → ByteArray) (m : Nat) (xs : Nat → VT)

/-- Strings lie at a slice's address. -/
def Strs (w : World) (lim : Nat) (A : Option Addr) (c : Nat) (ns : Nat → ByteArray) : Prop :=
  0 < c → ∃ g o, A = some ⟨g, o, none⟩ ∧ g < lim ∧ ∀ i, i < c → w.cell? ⟨g, o + i, none⟩ = some (.string (ns i)) ∧ (ns i).size ≤ maxLen
/-- A value's six fields. -/
def fields (k n : Int) (f : Nat) (s : ByteArray) (A : Option Addr) (c ca : Nat) (B : Option Addr) (m cb : Nat) : Array Value :=
  #[.int .i64 k, .int .i64 n, .float .f64 f, .string s, .slice A c ca, .slice B m cb]
/-- Six cells at a place. -/
def SixAt (w : World) (g o : Nat) (cs : Array Value) : Prop := ∀ j, j < 6 → w.cell? ⟨g, o + j, none⟩ = cs[j]?

/-- A value by value is this tree. -/
inductive Val (w : World) (lim : Nat) : Array Value → VT → Prop
  | mk (k n : Int) (f : Nat) (s : ByteArray) (A : Option Addr) (c ca : Nat) (B : Option Addr) (m cb : Nat) (ns : Nat → ByteArray) (xs : Nat → VT) (vs : Nat → Array Value)
      (hk : -9223372036854775808 ≤ k ∧ k ≤ 9223372036854775807) (hn : -9223372036854775808 ≤ n ∧ n ≤ 9223372036854775807) (hf : f < 18446744073709551616) (hs : s.size ≤ maxLen) (hc : c ≤ ca ∧ ca ≤ maxLen) (hm : m ≤ cb ∧ cb ≤ maxLen)
      (hns : Strs w lim A c ns)
      (hB : 0 < m → ∃ g o, B = some ⟨g, o, none⟩ ∧ g < lim ∧ ∀ i, i < m → SixAt w g (o + i * 6) (vs i))
      (hxs : ∀ i, i < m → Val w lim (vs i) (xs i)) :
      Val w lim (fields k n f s A c ca B m cb) (.mk k n f s c ns m xs)

theorem Val.keep {w w' : World} {lim : Nat} {v : Array Value} {t : VT} (h : Val w lim v t) (hw : ∀ g o, g < lim → w'.cell? ⟨g, o, none⟩ = w.cell? ⟨g, o, none⟩) : Val w' lim v t := by
  induction h with
  | mk k n f s A c ca B m cb ns xs vs hk hn hf hs hc hm hns hB hxs ih =>
    refine .mk k n f s A c ca B m cb ns xs vs hk hn hf hs hc hm (fun h0 => ?_) (fun h0 => ?_) (fun i hi => ih i hi)
    · obtain ⟨g, o, e, hg, hx⟩ := hns h0
      exact ⟨g, o, e, hg, fun i hi => ⟨(hw _ _ hg).trans (hx i hi).1, (hx i hi).2⟩⟩
    · obtain ⟨g, o, e, hg, hx⟩ := hB h0
      exact ⟨g, o, e, hg, fun i hi j hj => (hw _ _ hg).trans (hx i hi j hj)⟩
theorem Val.stay {w w' : World} {lim : Nat} {v : Array Value} {t : VT} (h : Val w lim v t) (hb : Below lim w w') : Val w' lim v t :=
  h.keep fun g o hg => hb.cell (p := ⟨g, o, none⟩) hg
theorem Val.mono {w : World} {lim lim' : Nat} {v : Array Value} {t : VT} (h : Val w lim v t) (hl : lim ≤ lim') : Val w lim' v t := by
  induction h with
  | mk k n f s A c ca B m cb ns xs vs hk hn hf hs hc hm hns hB hxs ih =>
    refine .mk k n f s A c ca B m cb ns xs vs hk hn hf hs hc hm (fun h0 => ?_) (fun h0 => ?_) (fun i hi => ih i hi)
    · obtain ⟨g, o, e, hg, hx⟩ := hns h0
      exact ⟨g, o, e, by omega, hx⟩
    · obtain ⟨g, o, e, hg, hx⟩ := hB h0
      exact ⟨g, o, e, by omega, hx⟩
theorem Val.six {w : World} {lim : Nat} {v : Array Value} {t : VT} (h : Val w lim v t) : ∃ a0 a1 a2 a3 a4 a5, v = #[a0, a1, a2, a3, a4, a5] := by
  cases h; exact ⟨_, _, _, _, _, _, rfl⟩
/-- The six cells of an item, one by one. -/
theorem SixAt.cells {w : World} {g o : Nat} {a0 a1 a2 a3 a4 a5 : Value} (h : SixAt w g o #[a0, a1, a2, a3, a4, a5]) :
    w.cell? ⟨g, o, none⟩ = some a0 ∧ w.cell? ⟨g, o + 1, none⟩ = some a1 ∧ w.cell? ⟨g, o + 2, none⟩ = some a2 ∧ w.cell? ⟨g, o + 3, none⟩ = some a3 ∧ w.cell? ⟨g, o + 4, none⟩ = some a4 ∧ w.cell? ⟨g, o + 5, none⟩ = some a5 :=
  ⟨h 0 (by omega), h 1 (by omega), h 2 (by omega), h 3 (by omega), h 4 (by omega), h 5 (by omega)⟩
theorem SixAt.keep {w w' : World} {g o : Nat} {v : Array Value} (h : SixAt w g o v) (hw : ∀ o, w'.cell? ⟨g, o, none⟩ = w.cell? ⟨g, o, none⟩) : SixAt w' g o v := fun j hj => (hw _).trans (h j hj)
theorem cells26 : Try.prog.cellsOf 54 = 6 := by kernel_rfl

/-! ### How many parts -/
def cntGo (g : Nat → Int → Int) : Nat → Nat → Int → Int
  | 0, _, n => n
  | r + 1, i, n => if n < 500 then cntGo g r (i + 1) (g i n) else n
theorem cntGo_in (g : Nat → Int → Int) (hg : ∀ i n, 0 ≤ n → n < 500 → 0 ≤ g i n ∧ g i n ≤ 500) : ∀ r i n, 0 ≤ n → n ≤ 500 → 0 ≤ cntGo g r i n ∧ cntGo g r i n ≤ 500 := by
  intro r
  induction r with
  | zero => intro i n h1 h2; exact ⟨h1, h2⟩
  | succ r ih =>
    intro i n h1 h2
    unfold cntGo
    split
    · have := hg i n h1 (by assumption)
      exact ih _ _ this.1 this.2
    · exact ⟨h1, h2⟩
def cntV : VT → Int → Int
  | .bad, _ => 0
  | .mk _ _ _ _ _ _ m xs, n => min (cntGo (fun i n => cntV (xs i) n) m 0 (n + 1)) 500

theorem cntV_in : ∀ (t : VT) (n : Int), 0 ≤ n → n < 500 → 0 ≤ cntV t n ∧ cntV t n ≤ 500 := by
  intro t
  induction t with
  | bad => intro n _ _; exact ⟨Int.le_refl _, by show (0 : Int) ≤ 500; omega⟩
  | mk k n0 f s c ns m xs ih =>
    intro n h0 h5
    have := cntGo_in (fun i n => cntV (xs i) n) (fun i n a b => ih i n a b) m 0 (n + 1) (by omega) (by omega)
    unfold cntV
    omega
set_option maxHeartbeats 1000000 in
theorem count_any : ∀ (t : VT) (v : Array Value) (n : Int) (w : World), Val w w.heap.size v t → 0 ≤ n → n < 500 →
    Calls Try.prog 77 #[.agg v, .int .i64 n] w fun e w' => e = .returned (.int .i64 (cntV t n)) ∧ Below w.heap.size w w' := by
  intro t
  induction t with
  | bad => intro v n w hv; cases hv
  | mk k n0 f s c ns m xs ih =>
    intro v n w hv h0 h5
    cases hv with
    | mk _ _ _ _ A _ ca B _ cb _ _ vs hk hn hf hs hc hm hns hB hxs =>
      have hmx : m ≤ 9223372036854775807 := by have := hm; unfold maxLen at this; omega
      unfold fields
      go_enter Try.func77, Try.ntmps77
      go_wp2_with fail
      obtain ⟨W1, hW1⟩ : ∃ W1, W1 = w.alloc (.cells #[.int .i64 k, .int .i64 n0, .float .f64 f, .string s, .slice A c ca, .slice B m cb] 54) := ⟨_, rfl⟩
      have hbW : Below w.heap.size w W1 := by rw [hW1]; exact (Below.refl _ _).alloc (Nat.le_refl _) _
      have hsz : W1.heap.size = w.heap.size + 1 := by rw [hW1]; simp
      have h5c : W1.cell? ⟨w.heap.size, 5, none⟩ = some (.slice B m cb) := by rw [hW1, World.cell?_alloc_new]; rfl
      rw [← hW1]
      have HW := Lib.hid (And.intro hW1 hsz)
      have H5 := Lib.hid h5c
      clear hW1 hsz h5c
      go_loopw [1, 5] (fun nv iv wr => ∃ (i : Nat) (q : Int), i ≤ m ∧ iv = .int .i64 i ∧ nv = .int .i64 q ∧ 0 ≤ q ∧ q ≤ 500 ∧ Hid (cntGo (fun i n => cntV (xs i) n) (m - i) i q = cntGo (fun i n => cntV (xs i) n) m 0 (n + 1)) ∧ Below W1.heap.size W1 wr) (fun _ iv _ => m - (intOf iv).toNat)
      case atStart => exact ⟨0, n + 1, Nat.zero_le _, rfl, rfl, by omega, by omega, Lib.hid rfl, Below.refl _ _⟩
      case round =>
        obtain ⟨i, q, hi, rfl, rfl, hq0, hq5, hh, hb⟩ := hrel
        have h5r : wr.cell? ⟨w.heap.size, 5, none⟩ = some (.slice B m cb) := (hb.cell (p := ⟨w.heap.size, 5, none⟩) (by have := HW.out.2; simp; omega)).trans H5.out
        by_cases hlt : i < m
        · by_cases hq : q < 500
          · obtain ⟨g, o, rfl, hg, hx⟩ := hB (by omega)
            have hsix := hx i hlt
            have hvi := hxs i hlt
            generalize vs i = vi at *
            have hsixr : SixAt wr g (o + i * 6) vi := hsix.keep fun o => (hb.cell (p := ⟨g, o, none⟩) (show g < W1.heap.size by have := HW.out.2; omega)).trans (hbW.cell (p := ⟨g, o, none⟩) hg)
            have hvr : Val wr wr.heap.size vi (xs i) := ((hvi.stay hbW).mono (by have := HW.out.2; omega)).stay hb |>.mono hb.size
            obtain ⟨a0, a1, a2, a3, a4, a5, rfl⟩ := hvi.six
            obtain ⟨c0, c1, c2, c3, c4, c5⟩ := hsixr.cells
            have hcall := ih i _ q wr hvr hq0 hq
            have HB := Lib.hid hB
            have hin := cntV_in (xs i) q hq0 hq
            have hh' : Hid (cntGo (fun i n => cntV (xs i) n) (m - (i + 1)) (i + 1) (cntV (xs i) q) = cntGo (fun i n => cntV (xs i) n) m 0 (n + 1)) := Lib.hid (by
              rw [← hh.out, show m - i = (m - (i + 1)) + 1 by omega]
              conv => rhs; unfold cntGo
              rw [if_pos hq])
            generalize cntV (xs i) q = z at *
            clear hB hx hsix hsixr hvi hvr ih hxs hns hh
            go_wp2_with (go_at_call 77; refine hcall.mono ?_; rintro e w' ⟨rfl, hb'⟩)
            go_roundw
            case rel => exact ⟨i + 1, z, by omega, by go_num, rfl, hin.1, hin.2, hh', hb.trans (hb'.mono hb.size)⟩
            case measure => simp [intOf]; omega
          · have R : Hid (cntV (.mk k n0 f s c ns m xs) n = q) := Lib.hid (by
              have e : cntGo (fun i n => cntV (xs i) n) m 0 (n + 1) = q := by
                rw [← hh.out, show m - i = (m - (i + 1)) + 1 by omega]
                unfold cntGo
                rw [if_neg hq]
              unfold cntV
              rw [e]; omega)
            have hfin : Below w.heap.size w wr := hbW.trans (hb.mono (by have := HW.out.2; omega))
            clear hh hns hB hxs ih
            go_wp2_with fail
            go_ret
            exact ⟨by rw [R.out]; rfl, hfin⟩
        · have R : Hid (cntV (.mk k n0 f s c ns m xs) n = q) := Lib.hid (by
            have e : cntGo (fun i n => cntV (xs i) n) m 0 (n + 1) = q := by
              rw [← hh.out, show m - i = 0 by omega]
              rfl
            unfold cntV
            rw [e]; omega)
          have hfin : Below w.heap.size w wr := hbW.trans (hb.mono (by have := HW.out.2; omega))
          clear hh hns hB hxs ih
          go_wp2_with fail
          go_ret
          exact ⟨by rw [R.out]; rfl, hfin⟩
end Go.Proofs.Ytmbjmibjobpdgaa
namespace Go.Proofs.Ytmbjmibjobpdgaa
open Go.RowKit

def maxGo (g : Nat → Int) : Nat → Nat → Int → Int
  | 0, _, n => n
  | r + 1, i, n => maxGo g r (i + 1) (max n (g i))
theorem maxGo_in (g : Nat → Int) {b : Int} (hg : ∀ i, 1 ≤ g i ∧ g i ≤ b) : ∀ r i n, 0 ≤ n → n ≤ b → 0 ≤ maxGo g r i n ∧ maxGo g r i n ≤ b := by
  intro r
  induction r with
  | zero => intro i n h1 h2; exact ⟨h1, h2⟩
  | succ r ih =>
    intro i n h1 h2
    unfold maxGo
    have := hg i
    exact ih _ _ (by omega) (by omega)
def depV : VT → Int → Int
  | .bad, _ => 1
  | .mk _ _ _ _ _ _ m xs, far => (if 0 < far then maxGo (fun i => depV (xs i) (far - 1)) m 0 0 else 0) + 1
theorem depV_in : ∀ (t : VT) (far : Int), 1 ≤ depV t far ∧ depV t far ≤ max far 0 + 1 := by
  intro t
  induction t with
  | bad => intro far; unfold depV; omega
  | mk k n f s c ns m xs ih =>
    intro far
    unfold depV
    by_cases h : 0 < far
    · rw [if_pos h]
      have := maxGo_in (fun i => depV (xs i) (far - 1)) (b := far) (fun i => by have := ih i (far - 1); omega) m 0 0 (by omega) (by omega)
      omega
    · rw [if_neg h]; omega

set_option maxHeartbeats 1000000 in
theorem depth_any : ∀ (t : VT) (v : Array Value) (far : Int) (w : World), Val w w.heap.size v t → 0 ≤ far → far ≤ 1000 →
    Calls Try.prog 55 #[.agg v, .int .i64 far] w fun e w' => e = .returned (.int .i64 (depV t far)) ∧ Below w.heap.size w w' := by
  intro t
  induction t with
  | bad => intro v far w hv; cases hv
  | mk k n0 f s c ns m xs ih =>
    intro v far w hv h0 h5
    cases hv with
    | mk _ _ _ _ A _ ca B _ cb _ _ vs hk hn hf hs hc hm hns hB hxs =>
      have hmx : m ≤ 9223372036854775807 := by have := hm; unfold maxLen at this; omega
      have hall := depV_in (.mk k n0 f s c ns m xs) far
      have hitem := fun i => depV_in (xs i) (far - 1)
      unfold fields
      go_enter Try.func55, Try.ntmps55
      go_wp2_with fail
      obtain ⟨W1, hW1⟩ : ∃ W1, W1 = w.alloc (.cells #[.int .i64 k, .int .i64 n0, .float .f64 f, .string s, .slice A c ca, .slice B m cb] 54) := ⟨_, rfl⟩
      have hbW : Below w.heap.size w W1 := by rw [hW1]; exact (Below.refl _ _).alloc (Nat.le_refl _) _
      have hsz : W1.heap.size = w.heap.size + 1 := by rw [hW1]; simp
      have h5c : W1.cell? ⟨w.heap.size, 5, none⟩ = some (.slice B m cb) := by rw [hW1, World.cell?_alloc_new]; rfl
      rw [← hW1]
      have HW := Lib.hid (And.intro hW1 hsz)
      have H5 := Lib.hid h5c
      have HI := Lib.hid hitem
      have HA := Lib.hid hall
      clear hW1 hsz h5c hitem hall
      go_loopw [5, 6] (fun nv iv wr => ∃ (i : Nat) (q : Int), i ≤ m ∧ iv = .int .i64 i ∧ nv = .int .i64 q ∧ 0 ≤ q ∧ q ≤ 1000 ∧ Hid (depV (.mk k n0 f s c ns m xs) far = (if 0 < far then maxGo (fun i => depV (xs i) (far - 1)) (m - i) i q else q) + 1) ∧ Below W1.heap.size W1 wr) (fun _ iv _ => m - (intOf iv).toNat)
      case atStart => exact ⟨0, 0, Nat.zero_le _, rfl, rfl, by omega, by omega, Lib.hid rfl, Below.refl _ _⟩
      case round =>
        obtain ⟨i, q, hi, rfl, rfl, hq0, hq5, hh, hb⟩ := hrel
        have h5r : wr.cell? ⟨w.heap.size, 5, none⟩ = some (.slice B m cb) := (hb.cell (p := ⟨w.heap.size, 5, none⟩) (by have := HW.out.2; simp; omega)).trans H5.out
        by_cases hlt : i < m
        · by_cases hq : 0 < far
          · obtain ⟨g, o, rfl, hg, hx⟩ := hB (by omega)
            have hsix := hx i hlt
            have hvi := hxs i hlt
            generalize vs i = vi at *
            have hsixr : SixAt wr g (o + i * 6) vi := hsix.keep fun o => (hb.cell (p := ⟨g, o, none⟩) (show g < W1.heap.size by have := HW.out.2; omega)).trans (hbW.cell (p := ⟨g, o, none⟩) hg)
            have hvr : Val wr wr.heap.size vi (xs i) := ((hvi.stay hbW).mono (by have := HW.out.2; omega)).stay hb |>.mono hb.size
            obtain ⟨a0, a1, a2, a3, a4, a5, rfl⟩ := hvi.six
            obtain ⟨c0, c1, c2, c3, c4, c5⟩ := hsixr.cells
            have hcall := ih i _ (far - 1) wr hvr (by omega) (by omega)
            have hin := HI.out i
            have hh' : Hid (depV (.mk k n0 f s c ns m xs) far = (if 0 < far then maxGo (fun i => depV (xs i) (far - 1)) (m - (i + 1)) (i + 1) (max q (depV (xs i) (far - 1))) else max q (depV (xs i) (far - 1))) + 1) := Lib.hid (by
              rw [hh.out, if_pos hq, if_pos hq, show m - i = (m - (i + 1)) + 1 by omega]
              rfl)
            generalize depV (xs i) (far - 1) = z at *
            have hz : z ≤ 1000 := by omega
            clear hB hx hsix hsixr hvi hvr ih hxs hns hh
            go_wp2_with (go_at_call 55; refine hcall.mono ?_; rintro e w' ⟨rfl, hb'⟩)
            go_roundw
            case rel => exact ⟨i + 1, max q z, by omega, by go_num, by rw [show max q z = if q < z then z else q by split <;> omega], by omega, by omega, hh', hb.trans (hb'.mono hb.size)⟩
            case measure => simp [intOf]; omega
          · have R : Hid (depV (.mk k n0 f s c ns m xs) far = q + 1) := Lib.hid (by rw [hh.out, if_neg hq])
            have hfin : Below w.heap.size w wr := hbW.trans (hb.mono (by have := HW.out.2; omega))
            clear hh hns hB hxs ih
            go_wp2_with fail
            go_ret
            exact ⟨by rw [R.out]; rfl, hfin⟩
        · have R : Hid (depV (.mk k n0 f s c ns m xs) far = q + 1) := Lib.hid (by
            rw [hh.out, show m - i = 0 by omega]
            split <;> rfl)
          have hfin : Below w.heap.size w wr := hbW.trans (hb.mono (by have := HW.out.2; omega))
          clear hh hns hB hxs ih
          go_wp2_with fail
          go_ret
          exact ⟨by rw [R.out]; rfl, hfin⟩

/-- A value boxed anew is loaded as it was. -/
theorem vparts_any {t : VT} {v : Array Value} {w : World} (hv : Val w w.heap.size v t) : Calls Try.prog 56 #[.agg v] w fun e w' => e = .returned (.int .i64 (cntV t 0)) ∧ Below w.heap.size w w' := by
  have hbW : Below w.heap.size w (w.alloc (.cells v 54)) := (Below.refl _ _).alloc (Nat.le_refl _) _
  have C := count_any t v 0 (w.alloc (.cells v 54)) ((hv.stay hbW).mono hbW.size) (by omega) (by omega)
  obtain ⟨a0, a1, a2, a3, a4, a5, rfl⟩ := hv.six
  clear hv
  go_enter Try.func56, Try.ntmps56
  go_wp2_with (go_at_call 77; refine C.mono ?_; rintro e w' ⟨rfl, hb'⟩)
  go_ret
  exact ⟨rfl, hbW.trans (hb'.mono hbW.size)⟩
def smallV (t : VT) : Bool := decide (depV t 40 ≤ 30) && decide (cntV t 0 < 500)
theorem small_any {t : VT} {v : Array Value} {w : World} (hv : Val w w.heap.size v t) : Calls Try.prog 26 #[.agg v] w fun e w' => e = .returned (.bool (smallV t)) ∧ Below w.heap.size w w' := by
  have hbW : Below w.heap.size w (w.alloc (.cells v 54)) := (Below.refl _ _).alloc (Nat.le_refl _) _
  have hvW := (hv.stay hbW).mono hbW.size
  have D := depth_any t v 40 (w.alloc (.cells v 54)) hvW (by omega) (by omega)
  have P := fun w' (hb : Below (w.alloc (.cells v 54)).heap.size (w.alloc (.cells v 54)) w') => vparts_any ((hvW.stay hb).mono hb.size)
  have K := fun w' (hb : Below (w.alloc (.cells v 54)).heap.size (w.alloc (.cells v 54)) w') o => hb.cell (p := ⟨w.heap.size, o, none⟩) (by simp)
  obtain ⟨a0, a1, a2, a3, a4, a5, rfl⟩ := hv.six
  unfold smallV
  have h1 := depV_in t 40
  have h2 := cntV_in t 0 (by omega) (by omega)
  generalize depV t 40 = d at *
  generalize cntV t 0 = p at *
  clear hv hvW
  have hK : ∀ w', Below (w.alloc (.cells #[a0, a1, a2, a3, a4, a5] 54)).heap.size (w.alloc (.cells #[a0, a1, a2, a3, a4, a5] 54)) w' → w'.cell? ⟨w.heap.size, 0, none⟩ = some a0 ∧ w'.cell? ⟨w.heap.size, 1, none⟩ = some a1 ∧ w'.cell? ⟨w.heap.size, 2, none⟩ = some a2 ∧ w'.cell? ⟨w.heap.size, 3, none⟩ = some a3 ∧ w'.cell? ⟨w.heap.size, 4, none⟩ = some a4 ∧ w'.cell? ⟨w.heap.size, 5, none⟩ = some a5 := fun w' hb => by
    refine ⟨?_, ?_, ?_, ?_, ?_, ?_⟩ <;> (rw [K w' hb, World.cell?_alloc_new]; rfl)
  clear K
  have HK := Lib.hid hK
  have HP := Lib.hid P
  clear hK P
  go_enter Try.func26, Try.ntmps26
  go_wp2_with fail
  refine D.mono ?_
  rintro e w1 ⟨rfl, hb1⟩
  obtain ⟨c0, c1, c2, c3, c4, c5⟩ := HK.out w1 hb1
  have hfin := hbW.trans (hb1.mono hbW.size)
  go_wp2_with (go_at_call 56; refine (HP.out w1 hb1).mono ?_; rintro e w2 ⟨rfl, hb2⟩)
  · go_ret
    exact ⟨by simp [*], hfin.trans (hb2.mono hfin.size)⟩
  · go_ret
    exact ⟨by simp; omega, hfin⟩
end Go.Proofs.Ytmbjmibjobpdgaa

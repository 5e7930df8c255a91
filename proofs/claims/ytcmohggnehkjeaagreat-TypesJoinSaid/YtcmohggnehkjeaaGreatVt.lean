/-
  Values as they lie in memory: a tree, and what a world holds of it.
-/
import Derived.Test.YtcmohggnehkjeaaGreatRows
import Derived.WalkKit
import Derived.WalkLawsBesides
import Derived.Laws.Externs
import Derived.Lib.EndianBits
import Derived.Lib.Hide
import Derived.Outline
import Derived.Deep.QuietTactic
import Derived.BigQuiet
import Derived.ProofKit
import Derived.OpenShut
import Derived.Deep.Slices
namespace Go.Proofs.YtcmohggnehkjeaaGreat
open Go.RowKit

/-- A value: its kind, its fields, and 'm' items ('bad' is none: what stands where nothing is). -/
inductive VT
  | bad
  | mk (k n : Int) (f : Nat) (s : ByteArray) (c : Nat) (ns : Nat → ByteArray) (m : Nat) (xs : Nat → VT)

/-- Strings lie at a slice's address. -/
def Strs (w : World) (lim : Nat) (A : Option Addr) (c : Nat) (ns : Nat → ByteArray) : Prop :=
  0 < c → ∃ g o, A = some ⟨g, o, none⟩ ∧ g < lim ∧ ∀ i, i < c → w.cell? ⟨g, o + i, none⟩ = some (.string (ns i)) ∧ (ns i).size ≤ maxLen
/-- A value's six fields. -/
def fields (k n : Int) (f : Nat) (s : ByteArray) (A : Option Addr) (c ca : Nat) (B : Option Addr) (m cb : Nat) : Array Value :=
  #[.int .i64 k, .int .i64 n, .float .f64 f, .string s, .slice A c ca, .slice B m cb]
/-- Six cells at a place. -/
def SixAt (w : World) (g o : Nat) (cs : Array Value) : Prop := ∀ j, j < 6 → w.cell? ⟨g, o + j, none⟩ = cs[j]?

/-- A value by value is this tree. -/
inductive Val (w : World) (lim : Nat) : Array Value → VT → Prop
  | mk (k n : Int) (f : Nat) (s : ByteArray) (A : Option Addr) (c ca : Nat) (B : Option Addr) (m cb : Nat) (ns : Nat → ByteArray) (xs : Nat → VT) (vs : Nat → Array Value)
      (hk : -9223372036854775808 ≤ k ∧ k ≤ 9223372036854775807) (hn : -9223372036854775808 ≤ n ∧ n ≤ 9223372036854775807) (hf : f < 18446744073709551616) (hs : s.size ≤ maxLen) (hc : c ≤ ca ∧ ca ≤ maxLen) (hm : m ≤ cb ∧ cb ≤ maxLen)
      (hns : Strs w lim A c ns)
      (hB : 0 < m → ∃ g o, B = some ⟨g, o, none⟩ ∧ g < lim ∧ ∀ i, i < m → SixAt w g (o + i * 6) (vs i))
      (hxs : ∀ i, i < m → Val w lim (vs i) (xs i)) :
      Val w lim (fields k n f s A c ca B m cb) (.mk k n f s c ns m xs)

theorem Val.keep {w w' : World} {lim : Nat} {v : Array Value} {t : VT} (h : Val w lim v t) (hw : ∀ g o, g < lim → w'.cell? ⟨g, o, none⟩ = w.cell? ⟨g, o, none⟩) : Val w' lim v t := by
  induction h with
  | mk k n f s A c ca B m cb ns xs vs hk hn hf hs hc hm hns hB hxs ih =>
    refine .mk k n f s A c ca B m cb ns xs vs hk hn hf hs hc hm (fun h0 => ?_) (fun h0 => ?_) (fun i hi => ih i hi)
    · obtain ⟨g, o, e, hg, hx⟩ := hns h0
      exact ⟨g, o, e, hg, fun i hi => ⟨(hw _ _ hg).trans (hx i hi).1, (hx i hi).2⟩⟩
    · obtain ⟨g, o, e, hg, hx⟩ := hB h0
      exact ⟨g, o, e, hg, fun i hi j hj => (hw _ _ hg).trans (hx i hi j hj)⟩
theorem Val.stay {w w' : World} {lim : Nat} {v : Array Value} {t : VT} (h : Val w lim v t) (hb : Below lim w w') : Val w' lim v t :=
  h.keep fun g o hg => hb.cell (p := ⟨g, o, none⟩) hg
theorem Val.mono {w : World} {lim lim' : Nat} {v : Array Value} {t : VT} (h : Val w lim v t) (hl : lim ≤ lim') : Val w lim' v t := by
  induction h with
  | mk k n f s A c ca B m cb ns xs vs hk hn hf hs hc hm hns hB hxs ih =>
    refine .mk k n f s A c ca B m cb ns xs vs hk hn hf hs hc hm (fun h0 => ?_) (fun h0 => ?_) (fun i hi => ih i hi)
    · obtain ⟨g, o, e, hg, hx⟩ := hns h0
      exact ⟨g, o, e, by omega, hx⟩
    · obtain ⟨g, o, e, hg, hx⟩ := hB h0
      exact ⟨g, o, e, by omega, hx⟩
theorem Val.six {w : World} {lim : Nat} {v : Array Value} {t : VT} (h : Val w lim v t) : ∃ a0 a1 a2 a3 a4 a5, v = #[a0, a1, a2, a3, a4, a5] := by
  cases h; exact ⟨_, _, _, _, _, _, rfl⟩
/-- The six cells of an item, one by one. -/
theorem SixAt.cells {w : World} {g o : Nat} {a0 a1 a2 a3 a4 a5 : Value} (h : SixAt w g o #[a0, a1, a2, a3, a4, a5]) :
    w.cell? ⟨g, o, none⟩ = some a0 ∧ w.cell? ⟨g, o + 1, none⟩ = some a1 ∧ w.cell? ⟨g, o + 2, none⟩ = some a2 ∧ w.cell? ⟨g, o + 3, none⟩ = some a3 ∧ w.cell? ⟨g, o + 4, none⟩ = some a4 ∧ w.cell? ⟨g, o + 5, none⟩ = some a5 :=
  ⟨h 0 (by omega), h 1 (by omega), h 2 (by omega), h 3 (by omega), h 4 (by omega), h 5 (by omega)⟩
theorem SixAt.keep {w w' : World} {g o : Nat} {v : Array Value} (h : SixAt w g o v) (hw : ∀ o, w'.cell? ⟨g, o, none⟩ = w.cell? ⟨g, o, none⟩) : SixAt w' g o v := fun j hj => (hw _).trans (h j hj)
theorem cells26 : Tryz.prog.cellsOf 38 = 6 := by kernel_rfl

/-! ### How many parts -/
def cntGo (g : Nat → Int → Int) : Nat → Nat → Int → Int
  | 0, _, n => n
  | r + 1, i, n => if n < 500 then cntGo g r (i + 1) (g i n) else n
theorem cntGo_in (g : Nat → Int → Int) (hg : ∀ i n, 0 ≤ n → n < 500 → 0 ≤ g i n ∧ g i n ≤ 500) : ∀ r i n, 0 ≤ n → n ≤ 500 → 0 ≤ cntGo g r i n ∧ cntGo g r i n ≤ 500 := by
  intro r
  induction r with
  | zero => intro i n h1 h2; exact ⟨h1, h2⟩
  | succ r ih =>
    intro i n h1 h2
    unfold cntGo
    split
    · have := hg i n h1 (by assumption)
      exact ih _ _ this.1 this.2
    · exact ⟨h1, h2⟩
def cntV : VT → Int → Int
  | .bad, _ => 0
  | .mk _ _ _ _ _ _ m xs, n => min (cntGo (fun i n => cntV (xs i) n) m 0 (n + 1)) 500

theorem cntV_in : ∀ (t : VT) (n : Int), 0 ≤ n → n < 500 → 0 ≤ cntV t n ∧ cntV t n ≤ 500 := by
  intro t
  induction t with
  | bad => intro n _ _; exact ⟨Int.le_refl _, by show (0 : Int) ≤ 500; omega⟩
  | mk k n0 f s c ns m xs ih =>
    intro n h0 h5
    have := cntGo_in (fun i n => cntV (xs i) n) (fun i n a b => ih i n a b) m 0 (n + 1) (by omega) (by omega)
    unfold cntV
    omega
set_option maxHeartbeats 1000000 in
theorem count_any : ∀ (t : VT) (v : Array Value) (n : Int) (w : World), Val w w.heap.size v t → 0 ≤ n → n < 500 →
    Calls Tryz.prog 74 #[.agg v, .int .i64 n] w fun e w' => e = .returned (.int .i64 (cntV t n)) ∧ Below w.heap.size w w' := by
  intro t
  induction t with
  | bad => intro v n w hv; cases hv
  | mk k n0 f s c ns m xs ih =>
    intro v n w hv h0 h5
    cases hv with
    | mk _ _ _ _ A _ ca B _ cb _ _ vs hk hn hf hs hc hm hns hB hxs =>
      have hmx : m ≤ 9223372036854775807 := by have := hm; unfold maxLen at this; omega
      unfold fields
      go_enter Tryz.func74, Tryz.ntmps74
      go_wp2_with fail
      obtain ⟨W1, hW1⟩ : ∃ W1, W1 = w.alloc (.cells #[.int .i64 k, .int .i64 n0, .float .f64 f, .string s, .slice A c ca, .slice B m cb] 38) := ⟨_, rfl⟩
      have hbW : Below w.heap.size w W1 := by rw [hW1]; exact (Below.refl _ _).alloc (Nat.le_refl _) _
      have hsz : W1.heap.size = w.heap.size + 1 := by rw [hW1]; simp
      have h5c : W1.cell? ⟨w.heap.size, 5, none⟩ = some (.slice B m cb) := by rw [hW1, World.cell?_alloc_new]; rfl
      rw [← hW1]
      have HW := Lib.hid (And.intro hW1 hsz)
      have H5 := Lib.hid h5c
      clear hW1 hsz h5c
      go_loopw [1, 5] (fun nv iv wr => ∃ (i : Nat) (q : Int), i ≤ m ∧ iv = .int .i64 i ∧ nv = .int .i64 q ∧ 0 ≤ q ∧ q ≤ 500 ∧ Hid (cntGo (fun i n => cntV (xs i) n) (m - i) i q = cntGo (fun i n => cntV (xs i) n) m 0 (n + 1)) ∧ Below W1.heap.size W1 wr) (fun _ iv _ => m - (intOf iv).toNat)
      case atStart => exact ⟨0, n + 1, Nat.zero_le _, rfl, rfl, by omega, by omega, Lib.hid rfl, Below.refl _ _⟩
      case round =>
        obtain ⟨i, q, hi, rfl, rfl, hq0, hq5, hh, hb⟩ := hrel
        have h5r : wr.cell? ⟨w.heap.size, 5, none⟩ = some (.slice B m cb) := (hb.cell (p := ⟨w.heap.size, 5, none⟩) (by have := HW.out.2; simp; omega)).trans H5.out
        by_cases hlt : i < m
        · by_cases hq : q < 500
          · obtain ⟨g, o, rfl, hg, hx⟩ := hB (by omega)
            have hsix := hx i hlt
            have hvi := hxs i hlt
            generalize vs i = vi at *
            have hsixr : SixAt wr g (o + i * 6) vi := hsix.keep fun o => (hb.cell (p := ⟨g, o, none⟩) (show g < W1.heap.size by have := HW.out.2; omega)).trans (hbW.cell (p := ⟨g, o, none⟩) hg)
            have hvr : Val wr wr.heap.size vi (xs i) := ((hvi.stay hbW).mono (by have := HW.out.2; omega)).stay hb |>.mono hb.size
            obtain ⟨a0, a1, a2, a3, a4, a5, rfl⟩ := hvi.six
            obtain ⟨c0, c1, c2, c3, c4, c5⟩ := hsixr.cells
            have hcall := ih i _ q wr hvr hq0 hq
            have HB := Lib.hid hB
            have hin := cntV_in (xs i) q hq0 hq
            have hh' : Hid (cntGo (fun i n => cntV (xs i) n) (m - (i + 1)) (i + 1) (cntV (xs i) q) = cntGo (fun i n => cntV (xs i) n) m 0 (n + 1)) := Lib.hid (by
              rw [← hh.out, show m - i = (m - (i + 1)) + 1 by omega]
              conv => rhs; unfold cntGo
              rw [if_pos hq])
            generalize cntV (xs i) q = z at *
            clear hB hx hsix hsixr hvi hvr ih hxs hns hh
            go_wp2_with (go_at_call 74; refine hcall.mono ?_; rintro e w' ⟨rfl, hb'⟩)
            go_roundw
            case rel => exact ⟨i + 1, z, by omega, by go_num, rfl, hin.1, hin.2, hh', hb.trans (hb'.mono hb.size)⟩
            case measure => simp [intOf]; omega
          · have R : Hid (cntV (.mk k n0 f s c ns m xs) n = q) := Lib.hid (by
              have e : cntGo (fun i n => cntV (xs i) n) m 0 (n + 1) = q := by
                rw [← hh.out, show m - i = (m - (i + 1)) + 1 by omega]
                unfold cntGo
                rw [if_neg hq]
              unfold cntV
              rw [e]; omega)
            have hfin : Below w.heap.size w wr := hbW.trans (hb.mono (by have := HW.out.2; omega))
            clear hh hns hB hxs ih
            go_wp2_with fail
            go_ret
            exact ⟨by rw [R.out]; rfl, hfin⟩
        · have R : Hid (cntV (.mk k n0 f s c ns m xs) n = q) := Lib.hid (by
            have e : cntGo (fun i n => cntV (xs i) n) m 0 (n + 1) = q := by
              rw [← hh.out, show m - i = 0 by omega]
              rfl
            unfold cntV
            rw [e]; omega)
          have hfin : Below w.heap.size w wr := hbW.trans (hb.mono (by have := HW.out.2; omega))
          clear hh hns hB hxs ih
          go_wp2_with fail
          go_ret
          exact ⟨by rw [R.out]; rfl, hfin⟩
end Go.Proofs.YtcmohggnehkjeaaGreat

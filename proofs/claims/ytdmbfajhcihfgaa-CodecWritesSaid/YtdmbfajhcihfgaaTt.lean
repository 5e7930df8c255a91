/-
  Types as they lie in memory: a tree, and what a world holds of it.
-/
import Derived.Test.YtdmbfajhcihfgaaVc
namespace Go.Proofs.Ytdmbfajhcihfgaa
open Go.RowKit

/-- A type: its kind, its names, and 'm' items. -/
inductive TT
  | bad
  | mk (k : Int) (c : Nat) (ns : Nat → ByteArray) (m : Nat) (xs : Nat → TT)
def tfields (k : Int) (A : Option Addr) (c ca : Nat) (B : Option Addr) (m cb : Nat) : Array Value := #[.int .i64 k, .slice A c ca, .slice B m cb]
def ThreeAt (w : World) (g o : Nat) (cs : Array Value) : Prop := ∀ j, j < 3 → w.cell? ⟨g, o + j, none⟩ = cs[j]?
/-- A type by value is this tree. -/
inductive TVal (w : World) (lim : Nat) : Array Value → TT → Prop
  | mk (k : Int) (A : Option Addr) (c ca : Nat) (B : Option Addr) (m cb : Nat) (ns : Nat → ByteArray) (xs : Nat → TT) (vs : Nat → Array Value)
      (hk : -9223372036854775808 ≤ k ∧ k ≤ 9223372036854775807) (hc : c ≤ ca ∧ ca ≤ maxLen) (hm : m ≤ cb ∧ cb ≤ maxLen)
      (hns : Strs w lim A c ns)
      (hB : 0 < m → ∃ g o, B = some ⟨g, o, none⟩ ∧ g < lim ∧ ∀ i, i < m → ThreeAt w g (o + i * 3) (vs i))
      (hxs : ∀ i, i < m → TVal w lim (vs i) (xs i)) :
      TVal w lim (tfields k A c ca B m cb) (.mk k c ns m xs)

theorem TVal.keep {w w' : World} {lim : Nat} {v : Array Value} {t : TT} (h : TVal w lim v t) (hw : ∀ g o, g < lim → w'.cell? ⟨g, o, none⟩ = w.cell? ⟨g, o, none⟩) : TVal w' lim v t := by
  induction h with
  | mk k A c ca B m cb ns xs vs hk hc hm hns hB hxs ih =>
    refine .mk k A c ca B m cb ns xs vs hk hc hm (fun h0 => ?_) (fun h0 => ?_) (fun i hi => ih i hi)
    · obtain ⟨g, o, e, hg, hx⟩ := hns h0
      exact ⟨g, o, e, hg, fun i hi => ⟨(hw _ _ hg).trans (hx i hi).1, (hx i hi).2⟩⟩
    · obtain ⟨g, o, e, hg, hx⟩ := hB h0
      exact ⟨g, o, e, hg, fun i hi j hj => (hw _ _ hg).trans (hx i hi j hj)⟩
theorem TVal.stay {w w' : World} {lim : Nat} {v : Array Value} {t : TT} (h : TVal w lim v t) (hb : Below lim w w') : TVal w' lim v t :=
  h.keep fun g o hg => hb.cell (p := ⟨g, o, none⟩) hg
theorem TVal.mono {w : World} {lim lim' : Nat} {v : Array Value} {t : TT} (h : TVal w lim v t) (hl : lim ≤ lim') : TVal w lim' v t := by
  induction h with
  | mk k A c ca B m cb ns xs vs hk hc hm hns hB hxs ih =>
    refine .mk k A c ca B m cb ns xs vs hk hc hm (fun h0 => ?_) (fun h0 => ?_) (fun i hi => ih i hi)
    · obtain ⟨g, o, e, hg, hx⟩ := hns h0
      exact ⟨g, o, e, by omega, hx⟩
    · obtain ⟨g, o, e, hg, hx⟩ := hB h0
      exact ⟨g, o, e, by omega, hx⟩
theorem TVal.three {w : World} {lim : Nat} {v : Array Value} {t : TT} (h : TVal w lim v t) : ∃ a0 a1 a2, v = #[a0, a1, a2] := by
  cases h; exact ⟨_, _, _, rfl⟩
theorem ThreeAt.cells {w : World} {g o : Nat} {a0 a1 a2 : Value} (h : ThreeAt w g o #[a0, a1, a2]) :
    w.cell? ⟨g, o, none⟩ = some a0 ∧ w.cell? ⟨g, o + 1, none⟩ = some a1 ∧ w.cell? ⟨g, o + 2, none⟩ = some a2 := ⟨h 0 (by omega), h 1 (by omega), h 2 (by omega)⟩
theorem ThreeAt.keep {w w' : World} {g o : Nat} {v : Array Value} (h : ThreeAt w g o v) (hw : ∀ o, w'.cell? ⟨g, o, none⟩ = w.cell? ⟨g, o, none⟩) : ThreeAt w' g o v := fun j hj => (hw _).trans (h j hj)
theorem cells39 : Try.prog.cellsOf 30 = 3 := by kernel_rfl

def tcntV : TT → Int → Int
  | .bad, _ => 0
  | .mk _ _ _ m xs, n => min (cntGo (fun i n => tcntV (xs i) n) m 0 (n + 1)) 500

theorem tcntV_in : ∀ (t : TT) (n : Int), 0 ≤ n → n < 500 → 0 ≤ tcntV t n ∧ tcntV t n ≤ 500 := by
  intro t
  induction t with
  | bad => intro n _ _; exact ⟨Int.le_refl _, by show (0 : Int) ≤ 500; omega⟩
  | mk k c ns m xs ih =>
    intro n h0 h5
    have := cntGo_in (fun i n => tcntV (xs i) n) (fun i n a b => ih i n a b) m 0 (n + 1) (by omega) (by omega)
    unfold tcntV
    omega
set_option maxHeartbeats 1000000 in
theorem tcount_any : ∀ (t : TT) (v : Array Value) (n : Int) (w : World), TVal w w.heap.size v t → 0 ≤ n → n < 500 →
    Calls Try.prog 59 #[.agg v, .int .i64 n] w fun e w' => e = .returned (.int .i64 (tcntV t n)) ∧ Below w.heap.size w w' := by
  intro t
  induction t with
  | bad => intro v n w hv; cases hv
  | mk k c ns m xs ih =>
    intro v n w hv h0 h5
    cases hv with
    | mk _ A _ ca B _ cb _ _ vs hk hc hm hns hB hxs =>
      have hmx : m ≤ 9223372036854775807 := by have := hm; unfold maxLen at this; omega
      unfold tfields
      go_enter Try.func59, Try.ntmps59
      go_wp2_with fail
      obtain ⟨W1, hW1⟩ : ∃ W1, W1 = w.alloc (.cells #[.int .i64 k, .slice A c ca, .slice B m cb] 30) := ⟨_, rfl⟩
      have hbW : Below w.heap.size w W1 := by rw [hW1]; exact (Below.refl _ _).alloc (Nat.le_refl _) _
      have hsz : W1.heap.size = w.heap.size + 1 := by rw [hW1]; simp
      have h2c : W1.cell? ⟨w.heap.size, 2, none⟩ = some (.slice B m cb) := by rw [hW1, World.cell?_alloc_new]; rfl
      rw [← hW1]
      have HW := Lib.hid (And.intro hW1 hsz)
      have H2 := Lib.hid h2c
      clear hW1 hsz h2c
      go_loopw [1, 5] (fun nv iv wr => ∃ (i : Nat) (q : Int), i ≤ m ∧ iv = .int .i64 i ∧ nv = .int .i64 q ∧ 0 ≤ q ∧ q ≤ 500 ∧ Hid (cntGo (fun i n => tcntV (xs i) n) (m - i) i q = cntGo (fun i n => tcntV (xs i) n) m 0 (n + 1)) ∧ Below W1.heap.size W1 wr) (fun _ iv _ => m - (intOf iv).toNat)
      case atStart => exact ⟨0, n + 1, Nat.zero_le _, rfl, rfl, by omega, by omega, Lib.hid rfl, Below.refl _ _⟩
      case round =>
        obtain ⟨i, q, hi, rfl, rfl, hq0, hq5, hh, hb⟩ := hrel
        have h2r : wr.cell? ⟨w.heap.size, 2, none⟩ = some (.slice B m cb) := (hb.cell (p := ⟨w.heap.size, 2, none⟩) (by have := HW.out.2; simp; omega)).trans H2.out
        by_cases hlt : i < m
        · by_cases hq : q < 500
          · obtain ⟨g, o, rfl, hg, hx⟩ := hB (by omega)
            have hthr := hx i hlt
            have hvi := hxs i hlt
            generalize vs i = vi at *
            have hthrr : ThreeAt wr g (o + i * 3) vi := hthr.keep fun o => (hb.cell (p := ⟨g, o, none⟩) (show g < W1.heap.size by have := HW.out.2; omega)).trans (hbW.cell (p := ⟨g, o, none⟩) hg)
            have hvr : TVal wr wr.heap.size vi (xs i) := ((hvi.stay hbW).mono (by have := HW.out.2; omega)).stay hb |>.mono hb.size
            obtain ⟨a0, a1, a2, rfl⟩ := hvi.three
            obtain ⟨c0, c1, c2⟩ := hthrr.cells
            have hcall := ih i _ q wr hvr hq0 hq
            have HB := Lib.hid hB
            have hin := tcntV_in (xs i) q hq0 hq
            have hh' : Hid (cntGo (fun i n => tcntV (xs i) n) (m - (i + 1)) (i + 1) (tcntV (xs i) q) = cntGo (fun i n => tcntV (xs i) n) m 0 (n + 1)) := Lib.hid (by
              rw [← hh.out, show m - i = (m - (i + 1)) + 1 by omega]
              conv => rhs; unfold cntGo
              rw [if_pos hq])
            generalize tcntV (xs i) q = z at *
            clear hB hx hthr hthrr hvi hvr ih hxs hns hh
            go_wp2_with (go_at_call 59; refine hcall.mono ?_; rintro e w' ⟨rfl, hb'⟩)
            go_roundw
            case rel => exact ⟨i + 1, z, by omega, by go_num, rfl, hin.1, hin.2, hh', hb.trans (hb'.mono hb.size)⟩
            case measure => simp [intOf]; omega
          · have R : Hid (tcntV (.mk k c ns m xs) n = q) := Lib.hid (by
              have e : cntGo (fun i n => tcntV (xs i) n) m 0 (n + 1) = q := by
                rw [← hh.out, show m - i = (m - (i + 1)) + 1 by omega]
                unfold cntGo
                rw [if_neg hq]
              unfold tcntV
              rw [e]; omega)
            have hfin : Below w.heap.size w wr := hbW.trans (hb.mono (by have := HW.out.2; omega))
            clear hh hns hB hxs ih
            go_wp2_with fail
            go_ret
            exact ⟨by rw [R.out]; rfl, hfin⟩
        · have R : Hid (tcntV (.mk k c ns m xs) n = q) := Lib.hid (by
            have e : cntGo (fun i n => tcntV (xs i) n) m 0 (n + 1) = q := by
              rw [← hh.out, show m - i = 0 by omega]
              rfl
            unfold tcntV
            rw [e]; omega)
          have hfin : Below w.heap.size w wr := hbW.trans (hb.mono (by have := HW.out.2; omega))
          clear hh hns hB hxs ih
          go_wp2_with fail
          go_ret
          exact ⟨by rw [R.out]; rfl, hfin⟩
end Go.Proofs.Ytdmbfajhcihfgaa

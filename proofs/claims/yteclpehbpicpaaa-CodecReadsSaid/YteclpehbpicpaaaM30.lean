/-
  Contract of the program's ReadValue.
  Types as they lie in memory: a tree, and what a world holds of it.
  Contracts of basculeref04's TDepth, TParts, TSmall.
  Contracts of basculeref04's tright, TypeRight.
-/
import Derived.Test.YteclpehbpicpaaaM29
import Derived.Test.YteclpehbpicpaaaM04
import Derived.Test.YteclpehbpicpaaaM01
namespace Go.Proofs.Yteclpehbpicpaaa
open Go.RowKit

/-- What ReadValue reads. -/
def rdV (s : ByteArray) (a : Int) : Except Nat (VT × List UInt8) := if a < 0 ∨ (s.size : Int) < a then .error 3 else rrV (left s a.toNat)
theorem Below.six {B : Nat} {a w : World} (h : Below B a w) {R : Nat} (hR : B ≤ R) (v0 v1 v2 v3 v4 v5 : Value) :
    Below B a ((((((w.setCell ⟨R, 0, none⟩ v0).setCell ⟨R, 1, none⟩ v1).setCell ⟨R, 2, none⟩ v2).setCell ⟨R, 3, none⟩ v3).setCell ⟨R, 4, none⟩ v4).setCell ⟨R, 5, none⟩ v5) :=
  (((((h.setCell hR v0).setCell hR v1).setCell hR v2).setCell hR v3).setCell hR v4).setCell hR v5
theorem ReadValue_err {s : ByteArray} {a : Int} {c : Nat} {w : World} (hr : rdV s a = .error c) (hs : s.size ≤ 1000000000) :
    Calls Try.prog 31 #[.string s, .int .i64 a] w fun e w' => e = .returned (.tuple #[.agg zero6, .int .i64 0, .int .i64 c]) ∧ Below w.heap.size w w' := by
  have F : ∀ w, Calls Try.prog 60 #[.string s, .int .i64 a, .func (.func 61) #[] #[]] w fun e w' => e = .returned (.tuple #[.agg zero6, .int .i64 0, .int .i64 c]) ∧ Below w.heap.size w w' := fun w => by
    unfold rdV at hr
    by_cases h : a < 0 ∨ (s.size : Int) < a
    · rw [if_pos h] at hr
      cases hr
      exact readV_range h
    · rw [if_neg h] at hr
      have := readV_err (w := w) hr (by omega) hs
      have e : ((a.toNat : Nat) : Int) = a := by omega
      rw [e] at this
      exact this
  unfold zero6 at *
  have SF := float_store
  have hW : Below w.heap.size w (w.alloc (.cells #[.int .i64 0, .int .i64 0, .float .f64 0, .string ⟨#[]⟩, .slice none 0 0, .slice none 0 0] 27)) := (Below.refl _ _).alloc (Nat.le_refl _) _
  have hB := Bx.new w #[.int .i64 0, .int .i64 0, .float .f64 0, .string ⟨#[]⟩, .slice none 0 0, .slice none 0 0]
  have HW := Lib.hid hW
  have HB := Lib.hid hB
  clear hr hW hB
  go_enter Try.func31, Try.ntmps31
  go_wp2_with (go_at_call 60; refine (F _).mono ?_; rintro e w1 ⟨rfl, hb1⟩; have hb2 := HW.out.trans (Below.mono hb1 (by simp)); have hx1 := HB.out.below hb1 (by simp); obtain ⟨x0, x1, x2, x3, x4, x5, xf, xl⟩ := hx1.cells; have HX1 := Lib.hid hx1; clear hx1)
  obtain ⟨y0, y1, y2, y3, y4, y5, yf, yl⟩ := (HX1.out.six (.int .i64 0) (.int .i64 0) (.float .f64 0) (.string ⟨#[]⟩) (.slice none 0 0) (.slice none 0 0)).cells
  have hfin := Below.six hb2 (Nat.le_refl _) (.int .i64 0) (.int .i64 0) (.float .f64 0) (.string ⟨#[]⟩) (.slice none 0 0) (.slice none 0 0)
  refine bodyPost_ret (v := .tuple #[.agg #[.int .i64 0, .int .i64 0, .float .f64 0, .string ⟨#[]⟩, .slice none 0 0, .slice none 0 0], .int .i64 0, .int .i64 c]) ?_ rfl ⟨rfl, hfin⟩
  simp [results, Try.results31, go_sem, asAddr, y0, y1, y2, y3, y4, y5]
theorem ReadValue_ok {s : ByteArray} {a : Int} {t : VT} {l : List UInt8} {w : World} (hr : rdV s a = .ok (t, l)) (hs : s.size ≤ 1000000000) :
    Calls Try.prog 31 #[.string s, .int .i64 a] w fun e w' => (∃ v, e = .returned (.tuple #[.agg v, .int .i64 ((s.size - l.length : Nat) : Int), .int .i64 0]) ∧ VOwn w' (fun b => w.heap.size ≤ b) v t) ∧ Below w.heap.size w w' := by
  have F : ∀ w, Calls Try.prog 60 #[.string s, .int .i64 a, .func (.func 61) #[] #[]] w fun e w' => ∃ (b0 b1 : Int) (b2 : Nat) (b3 : ByteArray) (b4 : Option Addr) (b5 b6 : Nat) (b7 : Option Addr) (b8 b9 : Nat), e = .returned (.tuple #[.agg #[.int .i64 b0, .int .i64 b1, .float .f64 b2, .string b3, .slice b4 b5 b6, .slice b7 b8 b9], .int .i64 ((s.size - l.length : Nat) : Int), .int .i64 0]) ∧ VOwn w' (fun b => w.heap.size ≤ b) #[.int .i64 b0, .int .i64 b1, .float .f64 b2, .string b3, .slice b4 b5 b6, .slice b7 b8 b9] t ∧ Below w.heap.size w w' := fun w => by
    unfold rdV at hr
    by_cases h : a < 0 ∨ (s.size : Int) < a
    · rw [if_pos h] at hr
      cases hr
    · rw [if_neg h] at hr
      have := readV_ok (w := w) hr (by omega) hs
      have e : ((a.toNat : Nat) : Int) = a := by omega
      rw [e] at this
      refine this.mono fun x w' hx => ?_
      obtain ⟨⟨v, rfl, hv⟩, hb⟩ := hx
      obtain ⟨b0, b1, b2, b3, b4, b5, b6, b7, b8, b9, rfl⟩ := hv.val.eight
      exact ⟨_, _, _, _, _, _, _, _, _, _, rfl, hv, hb⟩
  have SF := float_store
  have hW : Below w.heap.size w (w.alloc (.cells #[.int .i64 0, .int .i64 0, .float .f64 0, .string ⟨#[]⟩, .slice none 0 0, .slice none 0 0] 27)) := (Below.refl _ _).alloc (Nat.le_refl _) _
  have hB := Bx.new w #[.int .i64 0, .int .i64 0, .float .f64 0, .string ⟨#[]⟩, .slice none 0 0, .slice none 0 0]
  have HW := Lib.hid hW
  have HB := Lib.hid hB
  generalize s.size - l.length = nx at *
  clear hr hW hB
  go_enter Try.func31, Try.ntmps31
  go_wp2_with (go_at_call 60; refine (F _).mono ?_; rintro e w1 ⟨b0, b1, b2, b3, b4, b5, b6, b7, b8, b9, rfl, hv1, hb1⟩; have hb2 := HW.out.trans (Below.mono hb1 (by simp)); have hx1 := HB.out.below hb1 (by simp); obtain ⟨x0, x1, x2, x3, x4, x5, xf, xl⟩ := hx1.cells; have HX1 := Lib.hid hx1; have HV1 := Lib.hid hv1; clear hx1 hv1)
  obtain ⟨y0, y1, y2, y3, y4, y5, yf, yl⟩ := (HX1.out.six (.int .i64 b0) (.int .i64 b1) (.float .f64 b2) (.string b3) (.slice b4 b5 b6) (.slice b7 b8 b9)).cells
  have hfin := Below.six hb2 (Nat.le_refl _) (.int .i64 b0) (.int .i64 b1) (.float .f64 b2) (.string b3) (.slice b4 b5 b6) (.slice b7 b8 b9)
  refine bodyPost_ret (v := .tuple #[.agg #[.int .i64 b0, .int .i64 b1, .float .f64 b2, .string b3, .slice b4 b5 b6, .slice b7 b8 b9], .int .i64 nx, .int .i64 0]) ?_ rfl ⟨⟨_, rfl, ?_⟩, hfin⟩
  · simp [results, Try.results31, go_sem, asAddr, y0, y1, y2, y3, y4, y5]
  · have hv := HV1.out
    have hz : w.heap.size < (w.alloc (.cells #[.int .i64 0, .int .i64 0, .float .f64 0, .string ⟨#[]⟩, .slice none 0 0, .slice none 0 0] 27)).heap.size := by simp
    generalize (w.alloc (.cells #[.int .i64 0, .int .i64 0, .float .f64 0, .string ⟨#[]⟩, .slice none 0 0, .slice none 0 0] 27)).heap.size = B1 at hv hz
    exact (hv.six (by omega) _ _ _ _ _ _).imp fun b hb _ => by omega
end Go.Proofs.Yteclpehbpicpaaa
namespace Go.Proofs.Yteclpehbpicpaaa
open Go.RowKit

/-- A type: its kind, its names, and 'm' items. -/
inductive TT
  | bad
  | mk (k : Int) (c : Nat) (ns : Nat → ByteArray) (m : Nat) (xs : Nat → TT)
def tfields (k : Int) (A : Option Addr) (c ca : Nat) (B : Option Addr) (m cb : Nat) : Array Value := #[.int .i64 k, .slice A c ca, .slice B m cb]
def ThreeAt (w : World) (g o : Nat) (cs : Array Value) : Prop := ∀ j, j < 3 → w.cell? ⟨g, o + j, none⟩ = cs[j]?
/-- A type by value is this tree. -/
inductive TVal (w : World) (lim : Nat) : Array Value → TT → Prop
  | mk (k : Int) (A : Option Addr) (c ca : Nat) (B : Option Addr) (m cb : Nat) (ns : Nat → ByteArray) (xs : Nat → TT) (vs : Nat → Array Value)
      (hk : -9223372036854775808 ≤ k ∧ k ≤ 9223372036854775807) (hc : c ≤ ca ∧ ca ≤ maxLen) (hm : m ≤ cb ∧ cb ≤ maxLen)
      (hns : Strs w lim A c ns)
      (hB : 0 < m → ∃ g o, B = some ⟨g, o, none⟩ ∧ g < lim ∧ ∀ i, i < m → ThreeAt w g (o + i * 3) (vs i))
      (hxs : ∀ i, i < m → TVal w lim (vs i) (xs i)) :
      TVal w lim (tfields k A c ca B m cb) (.mk k c ns m xs)

theorem TVal.keep {w w' : World} {lim : Nat} {v : Array Value} {t : TT} (h : TVal w lim v t) (hw : ∀ g o, g < lim → w'.cell? ⟨g, o, none⟩ = w.cell? ⟨g, o, none⟩) : TVal w' lim v t := by
  induction h with
  | mk k A c ca B m cb ns xs vs hk hc hm hns hB hxs ih =>
    refine .mk k A c ca B m cb ns xs vs hk hc hm (fun h0 => ?_) (fun h0 => ?_) (fun i hi => ih i hi)
    · obtain ⟨g, o, e, hg, hx⟩ := hns h0
      exact ⟨g, o, e, hg, fun i hi => ⟨(hw _ _ hg).trans (hx i hi).1, (hx i hi).2⟩⟩
    · obtain ⟨g, o, e, hg, hx⟩ := hB h0
      exact ⟨g, o, e, hg, fun i hi j hj => (hw _ _ hg).trans (hx i hi j hj)⟩
theorem TVal.stay {w w' : World} {lim : Nat} {v : Array Value} {t : TT} (h : TVal w lim v t) (hb : Below lim w w') : TVal w' lim v t :=
  h.keep fun g o hg => hb.cell (p := ⟨g, o, none⟩) hg
theorem TVal.mono {w : World} {lim lim' : Nat} {v : Array Value} {t : TT} (h : TVal w lim v t) (hl : lim ≤ lim') : TVal w lim' v t := by
  induction h with
  | mk k A c ca B m cb ns xs vs hk hc hm hns hB hxs ih =>
    refine .mk k A c ca B m cb ns xs vs hk hc hm (fun h0 => ?_) (fun h0 => ?_) (fun i hi => ih i hi)
    · obtain ⟨g, o, e, hg, hx⟩ := hns h0
      exact ⟨g, o, e, by omega, hx⟩
    · obtain ⟨g, o, e, hg, hx⟩ := hB h0
      exact ⟨g, o, e, by omega, hx⟩
theorem TVal.three {w : World} {lim : Nat} {v : Array Value} {t : TT} (h : TVal w lim v t) : ∃ a0 a1 a2, v = #[a0, a1, a2] := by
  cases h; exact ⟨_, _, _, rfl⟩
theorem ThreeAt.cells {w : World} {g o : Nat} {a0 a1 a2 : Value} (h : ThreeAt w g o #[a0, a1, a2]) :
    w.cell? ⟨g, o, none⟩ = some a0 ∧ w.cell? ⟨g, o + 1, none⟩ = some a1 ∧ w.cell? ⟨g, o + 2, none⟩ = some a2 := ⟨h 0 (by omega), h 1 (by omega), h 2 (by omega)⟩
theorem ThreeAt.keep {w w' : World} {g o : Nat} {v : Array Value} (h : ThreeAt w g o v) (hw : ∀ o, w'.cell? ⟨g, o, none⟩ = w.cell? ⟨g, o, none⟩) : ThreeAt w' g o v := fun j hj => (hw _).trans (h j hj)
theorem cells39 : Try.prog.cellsOf 30 = 3 := by kernel_rfl

def tcntV : TT → Int → Int
  | .bad, _ => 0
  | .mk _ _ _ m xs, n => min (cntGo (fun i n => tcntV (xs i) n) m 0 (n + 1)) 500

theorem tcntV_in : ∀ (t : TT) (n : Int), 0 ≤ n → n < 500 → 0 ≤ tcntV t n ∧ tcntV t n ≤ 500 := by
  intro t
  induction t with
  | bad => intro n _ _; exact ⟨Int.le_refl _, by show (0 : Int) ≤ 500; omega⟩
  | mk k c ns m xs ih =>
    intro n h0 h5
    have := cntGo_in (fun i n => tcntV (xs i) n) (fun i n a b => ih i n a b) m 0 (n + 1) (by omega) (by omega)
    unfold tcntV
    omega
set_option maxHeartbeats 1000000 in
theorem tcount_any : ∀ (t : TT) (v : Array Value) (n : Int) (w : World), TVal w w.heap.size v t → 0 ≤ n → n < 500 →
    Calls Try.prog 68 #[.agg v, .int .i64 n] w fun e w' => e = .returned (.int .i64 (tcntV t n)) ∧ Below w.heap.size w w' := by
  intro t
  induction t with
  | bad => intro v n w hv; cases hv
  | mk k c ns m xs ih =>
    intro v n w hv h0 h5
    cases hv with
    | mk _ A _ ca B _ cb _ _ vs hk hc hm hns hB hxs =>
      have hmx : m ≤ 9223372036854775807 := by have := hm; unfold maxLen at this; omega
      unfold tfields
      go_enter Try.func68, Try.ntmps68
      go_wp2_with fail
      obtain ⟨W1, hW1⟩ : ∃ W1, W1 = w.alloc (.cells #[.int .i64 k, .slice A c ca, .slice B m cb] 30) := ⟨_, rfl⟩
      have hbW : Below w.heap.size w W1 := by rw [hW1]; exact (Below.refl _ _).alloc (Nat.le_refl _) _
      have hsz : W1.heap.size = w.heap.size + 1 := by rw [hW1]; simp
      have h2c : W1.cell? ⟨w.heap.size, 2, none⟩ = some (.slice B m cb) := by rw [hW1, World.cell?_alloc_new]; rfl
      rw [← hW1]
      have HW := Lib.hid (And.intro hW1 hsz)
      have H2 := Lib.hid h2c
      clear hW1 hsz h2c
      go_loopw [1, 5] (fun nv iv wr => ∃ (i : Nat) (q : Int), i ≤ m ∧ iv = .int .i64 i ∧ nv = .int .i64 q ∧ 0 ≤ q ∧ q ≤ 500 ∧ Hid (cntGo (fun i n => tcntV (xs i) n) (m - i) i q = cntGo (fun i n => tcntV (xs i) n) m 0 (n + 1)) ∧ Below W1.heap.size W1 wr) (fun _ iv _ => m - (intOf iv).toNat)
      case atStart => exact ⟨0, n + 1, Nat.zero_le _, rfl, rfl, by omega, by omega, Lib.hid rfl, Below.refl _ _⟩
      case round =>
        obtain ⟨i, q, hi, rfl, rfl, hq0, hq5, hh, hb⟩ := hrel
        have h2r : wr.cell? ⟨w.heap.size, 2, none⟩ = some (.slice B m cb) := (hb.cell (p := ⟨w.heap.size, 2, none⟩) (by have := HW.out.2; simp; omega)).trans H2.out
        by_cases hlt : i < m
        · by_cases hq : q < 500
          · obtain ⟨g, o, rfl, hg, hx⟩ := hB (by omega)
            have hthr := hx i hlt
            have hvi := hxs i hlt
            generalize vs i = vi at *
            have hthrr : ThreeAt wr g (o + i * 3) vi := hthr.keep fun o => (hb.cell (p := ⟨g, o, none⟩) (show g < W1.heap.size by have := HW.out.2; omega)).trans (hbW.cell (p := ⟨g, o, none⟩) hg)
            have hvr : TVal wr wr.heap.size vi (xs i) := ((hvi.stay hbW).mono (by have := HW.out.2; omega)).stay hb |>.mono hb.size
            obtain ⟨a0, a1, a2, rfl⟩ := hvi.three
            obtain ⟨c0, c1, c2⟩ := hthrr.cells
            have hcall := ih i _ q wr hvr hq0 hq
            have HB := Lib.hid hB
            have hin := tcntV_in (xs i) q hq0 hq
            have hh' : Hid (cntGo (fun i n => tcntV (xs i) n) (m - (i + 1)) (i + 1) (tcntV (xs i) q) = cntGo (fun i n => tcntV (xs i) n) m 0 (n + 1)) := Lib.hid (by
              rw [← hh.out, show m - i = (m - (i + 1)) + 1 by omega]
              conv => rhs; unfold cntGo
              rw [if_pos hq])
            generalize tcntV (xs i) q = z at *
            clear hB hx hthr hthrr hvi hvr ih hxs hns hh
            go_wp2_with (go_at_call 68; refine hcall.mono ?_; rintro e w' ⟨rfl, hb'⟩)
            go_roundw
            case rel => exact ⟨i + 1, z, by omega, by go_num, rfl, hin.1, hin.2, hh', hb.trans (hb'.mono hb.size)⟩
            case measure => simp [intOf]; omega
          · have R : Hid (tcntV (.mk k c ns m xs) n = q) := Lib.hid (by
              have e : cntGo (fun i n => tcntV (xs i) n) m 0 (n + 1) = q := by
                rw [← hh.out, show m - i = (m - (i + 1)) + 1 by omega]
                unfold cntGo
                rw [if_neg hq]
              unfold tcntV
              rw [e]; omega)
            have hfin : Below w.heap.size w wr := hbW.trans (hb.mono (by have := HW.out.2; omega))
            clear hh hns hB hxs ih
            go_wp2_with fail
            go_ret
            exact ⟨by rw [R.out]; rfl, hfin⟩
        · have R : Hid (tcntV (.mk k c ns m xs) n = q) := Lib.hid (by
            have e : cntGo (fun i n => tcntV (xs i) n) m 0 (n + 1) = q := by
              rw [← hh.out, show m - i = 0 by omega]
              rfl
            unfold tcntV
            rw [e]; omega)
          have hfin : Below w.heap.size w wr := hbW.trans (hb.mono (by have := HW.out.2; omega))
          clear hh hns hB hxs ih
          go_wp2_with fail
          go_ret
          exact ⟨by rw [R.out]; rfl, hfin⟩
end Go.Proofs.Yteclpehbpicpaaa
namespace Go.Proofs.Yteclpehbpicpaaa
open Go.RowKit

def tdepV : TT → Int → Int
  | .bad, _ => 1
  | .mk _ _ _ m xs, far => (if 0 < far then maxGo (fun i => tdepV (xs i) (far - 1)) m 0 0 else 0) + 1
theorem tdepV_in : ∀ (t : TT) (far : Int), 1 ≤ tdepV t far ∧ tdepV t far ≤ max far 0 + 1 := by
  intro t
  induction t with
  | bad => intro far; unfold tdepV; omega
  | mk k c ns m xs ih =>
    intro far
    unfold tdepV
    by_cases h : 0 < far
    · rw [if_pos h]
      have := maxGo_in (fun i => tdepV (xs i) (far - 1)) (b := far) (fun i => by have := ih i (far - 1); omega) m 0 0 (by omega) (by omega)
      omega
    · rw [if_neg h]; omega

set_option maxHeartbeats 1000000 in
theorem tdepth_any : ∀ (t : TT) (v : Array Value) (far : Int) (w : World), TVal w w.heap.size v t → 0 ≤ far → far ≤ 1000 →
    Calls Try.prog 39 #[.agg v, .int .i64 far] w fun e w' => e = .returned (.int .i64 (tdepV t far)) ∧ Below w.heap.size w w' := by
  intro t
  induction t with
  | bad => intro v far w hv; cases hv
  | mk k c ns m xs ih =>
    intro v far w hv h0 h5
    cases hv with
    | mk _ A _ ca B _ cb _ _ vs hk hc hm hns hB hxs =>
      have hmx : m ≤ 9223372036854775807 := by have := hm; unfold maxLen at this; omega
      have hall := tdepV_in (.mk k c ns m xs) far
      have hitem := fun i => tdepV_in (xs i) (far - 1)
      unfold tfields
      go_enter Try.func39, Try.ntmps39
      go_wp2_with fail
      obtain ⟨W1, hW1⟩ : ∃ W1, W1 = w.alloc (.cells #[.int .i64 k, .slice A c ca, .slice B m cb] 30) := ⟨_, rfl⟩
      have hbW : Below w.heap.size w W1 := by rw [hW1]; exact (Below.refl _ _).alloc (Nat.le_refl _) _
      have hsz : W1.heap.size = w.heap.size + 1 := by rw [hW1]; simp
      have h2c : W1.cell? ⟨w.heap.size, 2, none⟩ = some (.slice B m cb) := by rw [hW1, World.cell?_alloc_new]; rfl
      rw [← hW1]
      have HW := Lib.hid (And.intro hW1 hsz)
      have H2 := Lib.hid h2c
      have HI := Lib.hid hitem
      have HA := Lib.hid hall
      clear hW1 hsz h2c hitem hall
      go_loopw [5, 6] (fun nv iv wr => ∃ (i : Nat) (q : Int), i ≤ m ∧ iv = .int .i64 i ∧ nv = .int .i64 q ∧ 0 ≤ q ∧ q ≤ 1000 ∧ Hid (tdepV (.mk k c ns m xs) far = (if 0 < far then maxGo (fun i => tdepV (xs i) (far - 1)) (m - i) i q else q) + 1) ∧ Below W1.heap.size W1 wr) (fun _ iv _ => m - (intOf iv).toNat)
      case atStart => exact ⟨0, 0, Nat.zero_le _, rfl, rfl, by omega, by omega, Lib.hid rfl, Below.refl _ _⟩
      case round =>
        obtain ⟨i, q, hi, rfl, rfl, hq0, hq5, hh, hb⟩ := hrel
        have h2r : wr.cell? ⟨w.heap.size, 2, none⟩ = some (.slice B m cb) := (hb.cell (p := ⟨w.heap.size, 2, none⟩) (by have := HW.out.2; simp; omega)).trans H2.out
        by_cases hlt : i < m
        · by_cases hq : 0 < far
          · obtain ⟨g, o, rfl, hg, hx⟩ := hB (by omega)
            have hthr := hx i hlt
            have hvi := hxs i hlt
            generalize vs i = vi at *
            have hthrr : ThreeAt wr g (o + i * 3) vi := hthr.keep fun o => (hb.cell (p := ⟨g, o, none⟩) (show g < W1.heap.size by have := HW.out.2; omega)).trans (hbW.cell (p := ⟨g, o, none⟩) hg)
            have hvr : TVal wr wr.heap.size vi (xs i) := ((hvi.stay hbW).mono (by have := HW.out.2; omega)).stay hb |>.mono hb.size
            obtain ⟨a0, a1, a2, rfl⟩ := hvi.three
            obtain ⟨c0, c1, c2⟩ := hthrr.cells
            have hcall := ih i _ (far - 1) wr hvr (by omega) (by omega)
            have hin := HI.out i
            have hh' : Hid (tdepV (.mk k c ns m xs) far = (if 0 < far then maxGo (fun i => tdepV (xs i) (far - 1)) (m - (i + 1)) (i + 1) (max q (tdepV (xs i) (far - 1))) else max q (tdepV (xs i) (far - 1))) + 1) := Lib.hid (by
              rw [hh.out, if_pos hq, if_pos hq, show m - i = (m - (i + 1)) + 1 by omega]
              rfl)
            generalize tdepV (xs i) (far - 1) = z at *
            have hz : z ≤ 1000 := by omega
            clear hB hx hthr hthrr hvi hvr ih hxs hns hh
            go_wp2_with (go_at_call 39; refine hcall.mono ?_; rintro e w' ⟨rfl, hb'⟩)
            go_roundw
            case rel => exact ⟨i + 1, max q z, by omega, by go_num, by rw [show max q z = if q < z then z else q by split <;> omega], by omega, by omega, hh', hb.trans (hb'.mono hb.size)⟩
            case measure => simp [intOf]; omega
          · have R : Hid (tdepV (.mk k c ns m xs) far = q + 1) := Lib.hid (by rw [hh.out, if_neg hq])
            have hfin : Below w.heap.size w wr := hbW.trans (hb.mono (by have := HW.out.2; omega))
            clear hh hns hB hxs ih
            go_wp2_with fail
            go_ret
            exact ⟨by rw [R.out]; rfl, hfin⟩
        · have R : Hid (tdepV (.mk k c ns m xs) far = q + 1) := Lib.hid (by
            rw [hh.out, show m - i = 0 by omega]
            split <;> rfl)
          have hfin : Below w.heap.size w wr := hbW.trans (hb.mono (by have := HW.out.2; omega))
          clear hh hns hB hxs ih
          go_wp2_with fail
          go_ret
          exact ⟨by rw [R.out]; rfl, hfin⟩

/-- A value boxed anew is loaded as it was. -/
theorem tparts_any {t : TT} {v : Array Value} {w : World} (hv : TVal w w.heap.size v t) : Calls Try.prog 40 #[.agg v] w fun e w' => e = .returned (.int .i64 (tcntV t 0)) ∧ Below w.heap.size w w' := by
  have hbW : Below w.heap.size w (w.alloc (.cells v 30)) := (Below.refl _ _).alloc (Nat.le_refl _) _
  have C := tcount_any t v 0 (w.alloc (.cells v 30)) ((hv.stay hbW).mono hbW.size) (by omega) (by omega)
  obtain ⟨a0, a1, a2, rfl⟩ := hv.three
  clear hv
  go_enter Try.func40, Try.ntmps40
  go_wp2_with (go_at_call 68; refine C.mono ?_; rintro e w' ⟨rfl, hb'⟩)
  go_ret
  exact ⟨rfl, hbW.trans (hb'.mono hbW.size)⟩
def tsmallV (t : TT) : Bool := decide (tdepV t 40 ≤ 30) && decide (tcntV t 0 < 500)
theorem tsmall_any {t : TT} {v : Array Value} {w : World} (hv : TVal w w.heap.size v t) : Calls Try.prog 11 #[.agg v] w fun e w' => e = .returned (.bool (tsmallV t)) ∧ Below w.heap.size w w' := by
  have hbW : Below w.heap.size w (w.alloc (.cells v 30)) := (Below.refl _ _).alloc (Nat.le_refl _) _
  have hvW := (hv.stay hbW).mono hbW.size
  have D := tdepth_any t v 40 (w.alloc (.cells v 30)) hvW (by omega) (by omega)
  have P := fun w' (hb : Below (w.alloc (.cells v 30)).heap.size (w.alloc (.cells v 30)) w') => tparts_any ((hvW.stay hb).mono hb.size)
  have K := fun w' (hb : Below (w.alloc (.cells v 30)).heap.size (w.alloc (.cells v 30)) w') o => hb.cell (p := ⟨w.heap.size, o, none⟩) (by simp)
  obtain ⟨a0, a1, a2, rfl⟩ := hv.three
  unfold tsmallV
  have h1 := tdepV_in t 40
  have h2 := tcntV_in t 0 (by omega) (by omega)
  generalize tdepV t 40 = d at *
  generalize tcntV t 0 = p at *
  clear hv hvW
  have hK : ∀ w', Below (w.alloc (.cells #[a0, a1, a2] 30)).heap.size (w.alloc (.cells #[a0, a1, a2] 30)) w' → w'.cell? ⟨w.heap.size, 0, none⟩ = some a0 ∧ w'.cell? ⟨w.heap.size, 1, none⟩ = some a1 ∧ w'.cell? ⟨w.heap.size, 2, none⟩ = some a2 := fun w' hb => by
    refine ⟨?_, ?_, ?_⟩ <;> (rw [K w' hb, World.cell?_alloc_new]; rfl)
  clear K
  have HK := Lib.hid hK
  have HP := Lib.hid P
  clear hK P
  go_enter Try.func11, Try.ntmps11
  go_wp2_with fail
  refine D.mono ?_
  rintro e w1 ⟨rfl, hb1⟩
  obtain ⟨c0, c1, c2⟩ := HK.out w1 hb1
  have hfin := hbW.trans (hb1.mono hbW.size)
  go_wp2_with (go_at_call 40; refine (HP.out w1 hb1).mono ?_; rintro e w2 ⟨rfl, hb2⟩)
  · go_ret
    exact ⟨by simp [*], hfin.trans (hb2.mono hfin.size)⟩
  · go_ret
    exact ⟨by simp; omega, hfin⟩
end Go.Proofs.Yteclpehbpicpaaa
namespace Go.Proofs.Yteclpehbpicpaaa
open Go.RowKit

/-- The three cells of a box stay. -/
theorem box3_stays {w : World} {a0 a1 a2 : Value} {t : TypeId} : Hid (∀ w', Below (w.alloc (.cells #[a0, a1, a2] t)).heap.size (w.alloc (.cells #[a0, a1, a2] t)) w' →
    w'.cell? ⟨w.heap.size, 0, none⟩ = some a0 ∧ w'.cell? ⟨w.heap.size, 1, none⟩ = some a1 ∧ w'.cell? ⟨w.heap.size, 2, none⟩ = some a2) := Lib.hid fun w' hb => by
  have K := fun o => hb.cell (p := ⟨w.heap.size, o, none⟩) (by simp)
  refine ⟨?_, ?_, ?_⟩ <;> (rw [K, World.cell?_alloc_new]; rfl)

def theadB (k : Int) (c : Nat) (ns : Nat → ByteArray) (m : Nat) : Bool :=
  if k = 5 then decide (m = 1) && decide (c = 0) else riseB c ns && ((c : Int) == (m : Int))
def tplainB (k : Int) (c m : Nat) : Bool := decide (1 ≤ k) && (decide (k ≤ 7) && (decide (m = 0) && decide (c = 0)))
def trightV : TT → Int → Bool
  | .bad, _ => false
  | .mk k c ns m xs, far => decide (1 ≤ far) && (if k = 5 ∨ k = 6 then theadB k c ns m && (List.range m).all (fun i => trightV (xs i) (far - 1)) else tplainB k c m)

theorem tright_far {k : Int} {A : Option Addr} {c ca : Nat} {B : Option Addr} {m cb : Nat} {w : World} {far : Int} (h0 : ¬ 1 ≤ far) :
    Calls Try.prog 46 #[.agg (tfields k A c ca B m cb), .int .i64 far] w fun e w' => e = .returned (.bool false) ∧ Below w.heap.size w w' := by
  have hbW : ∀ o, Below w.heap.size w (w.alloc o) := fun o => (Below.refl _ _).alloc (Nat.le_refl _) _
  unfold tfields at *
  go_enter Try.func46, Try.ntmps46
  go_wp2
  all_goals (go_ret; exact ⟨rfl, hbW _⟩)
theorem tright_out {k : Int} {A : Option Addr} {c ca : Nat} {B : Option Addr} {m cb : Nat} {w : World} {far : Int} (h0 : 1 ≤ far) (hk : ¬ (1 ≤ k ∧ k ≤ 7)) :
    Calls Try.prog 46 #[.agg (tfields k A c ca B m cb), .int .i64 far] w fun e w' => e = .returned (.bool false) ∧ Below w.heap.size w w' := by
  have hbW : ∀ o, Below w.heap.size w (w.alloc o) := fun o => (Below.refl _ _).alloc (Nat.le_refl _) _
  unfold tfields at *
  by_cases h1 : 1 ≤ k
  · have h7 : ¬ k ≤ 7 := fun h => hk ⟨h1, h⟩
    clear hk
    go_enter Try.func46, Try.ntmps46
    go_wp2
    all_goals (go_ret; exact ⟨rfl, hbW _⟩)
  · clear hk
    go_enter Try.func46, Try.ntmps46
    go_wp2
    all_goals (go_ret; exact ⟨rfl, hbW _⟩)
set_option maxHeartbeats 1000000 in
theorem tright_plain {k : Int} {A : Option Addr} {c ca : Nat} {B : Option Addr} {m cb : Nat} {w : World} {far : Int} (h0 : 1 ≤ far) (hk : 1 ≤ k ∧ k ≤ 7) (h5 : k ≠ 5) (h6 : k ≠ 6) :
    Calls Try.prog 46 #[.agg (tfields k A c ca B m cb), .int .i64 far] w fun e w' => e = .returned (.bool (decide (m = 0) && decide (c = 0))) ∧ Below w.heap.size w w' := by
  have hbW : ∀ o, Below w.heap.size w (w.alloc o) := fun o => (Below.refl _ _).alloc (Nat.le_refl _) _
  have t5 : (k == 5) = false := by simpa using h5
  have t6 : (k == 6) = false := by simpa using h6
  unfold tfields at *
  by_cases hm : m = 0
  · by_cases hc : c = 0
    · have R : Hid ((decide (m = 0) && decide (c = 0)) = true) := Lib.hid (by simp [hm, hc])
      have tm : ((m : Int) == 0) = true := by simp; omega
      have tc : ((c : Int) == 0) = true := by simp; omega
      clear hm hc h5 h6
      go_enter Try.func46, Try.ntmps46
      go_wp2
      all_goals (go_ret; exact ⟨by rw [R.out]; rfl, hbW _⟩)
    · have R : Hid ((decide (m = 0) && decide (c = 0)) = false) := Lib.hid (by simp [hc])
      have tm : ((m : Int) == 0) = true := by simp; omega
      have tc : ((c : Int) == 0) = false := by simp; omega
      clear hm hc h5 h6
      go_enter Try.func46, Try.ntmps46
      go_wp2
      all_goals (go_ret; exact ⟨by rw [R.out]; rfl, hbW _⟩)
  · have R : Hid ((decide (m = 0) && decide (c = 0)) = false) := Lib.hid (by simp [hm])
    have tm : ((m : Int) == 0) = false := by simp; omega
    clear hm h5 h6
    go_enter Try.func46, Try.ntmps46
    go_wp2
    all_goals (go_ret; exact ⟨by rw [R.out]; rfl, hbW _⟩)
end Go.Proofs.Yteclpehbpicpaaa

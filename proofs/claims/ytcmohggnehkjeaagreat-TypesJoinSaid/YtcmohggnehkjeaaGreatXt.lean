/-
  Expressions as they lie in memory: a tree, and what a world holds of it; how many parts.
-/
import Derived.Test.YtcmohggnehkjeaaGreatVc
namespace Go.Proofs.YtcmohggnehkjeaaGreat
open Go.RowKit

/-- An expression: its kind, its name, its constant, its names, and 'm' Kids. -/
inductive ET
  | bad
  | mk (k : Int) (s : ByteArray) (v : VT) (c : Nat) (ns : Nat → ByteArray) (m : Nat) (xs : Nat → ET)
def efields (k : Int) (s : ByteArray) (a0 a1 a2 a3 a4 a5 : Value) (A : Option Addr) (c ca : Nat) (B : Option Addr) (m cb : Nat) : Array Value := #[.int .i64 k, .string s, a0, a1, a2, a3, a4, a5, .slice A c ca, .slice B m cb]
def TenAt (w : World) (g o : Nat) (cs : Array Value) : Prop := ∀ j, j < 10 → w.cell? ⟨g, o + j, none⟩ = cs[j]?
/-- An expression by value is this tree. -/
inductive EVal (w : World) (lim : Nat) : Array Value → ET → Prop
  | mk (k : Int) (s : ByteArray) (a0 a1 a2 a3 a4 a5 : Value) (v : VT) (A : Option Addr) (c ca : Nat) (B : Option Addr) (m cb : Nat) (ns : Nat → ByteArray) (xs : Nat → ET) (vs : Nat → Array Value)
      (hk : -9223372036854775808 ≤ k ∧ k ≤ 9223372036854775807) (hs : s.size ≤ maxLen) (hv : Val w lim #[a0, a1, a2, a3, a4, a5] v) (hc : c ≤ ca ∧ ca ≤ maxLen) (hm : m ≤ cb ∧ cb ≤ maxLen)
      (hns : Strs w lim A c ns)
      (hB : 0 < m → ∃ g o, B = some ⟨g, o, none⟩ ∧ g < lim ∧ ∀ i, i < m → TenAt w g (o + i * 10) (vs i))
      (hxs : ∀ i, i < m → EVal w lim (vs i) (xs i)) :
      EVal w lim (efields k s a0 a1 a2 a3 a4 a5 A c ca B m cb) (.mk k s v c ns m xs)

theorem EVal.keep {w w' : World} {lim : Nat} {v : Array Value} {t : ET} (h : EVal w lim v t) (hw : ∀ g o, g < lim → w'.cell? ⟨g, o, none⟩ = w.cell? ⟨g, o, none⟩) : EVal w' lim v t := by
  induction h with
  | mk k s a0 a1 a2 a3 a4 a5 v A c ca B m cb ns xs vs hk hs hv hc hm hns hB hxs ih =>
    refine .mk k s a0 a1 a2 a3 a4 a5 v A c ca B m cb ns xs vs hk hs (hv.keep hw) hc hm (fun h0 => ?_) (fun h0 => ?_) (fun i hi => ih i hi)
    · obtain ⟨g, o, e, hg, hx⟩ := hns h0
      exact ⟨g, o, e, hg, fun i hi => ⟨(hw _ _ hg).trans (hx i hi).1, (hx i hi).2⟩⟩
    · obtain ⟨g, o, e, hg, hx⟩ := hB h0
      exact ⟨g, o, e, hg, fun i hi j hj => (hw _ _ hg).trans (hx i hi j hj)⟩
theorem EVal.stay {w w' : World} {lim : Nat} {v : Array Value} {t : ET} (h : EVal w lim v t) (hb : Below lim w w') : EVal w' lim v t :=
  h.keep fun g o hg => hb.cell (p := ⟨g, o, none⟩) hg
theorem EVal.mono {w : World} {lim lim' : Nat} {v : Array Value} {t : ET} (h : EVal w lim v t) (hl : lim ≤ lim') : EVal w lim' v t := by
  induction h with
  | mk k s a0 a1 a2 a3 a4 a5 v A c ca B m cb ns xs vs hk hs hv hc hm hns hB hxs ih =>
    refine .mk k s a0 a1 a2 a3 a4 a5 v A c ca B m cb ns xs vs hk hs (hv.mono hl) hc hm (fun h0 => ?_) (fun h0 => ?_) (fun i hi => ih i hi)
    · obtain ⟨g, o, e, hg, hx⟩ := hns h0
      exact ⟨g, o, e, by omega, hx⟩
    · obtain ⟨g, o, e, hg, hx⟩ := hB h0
      exact ⟨g, o, e, by omega, hx⟩
theorem EVal.ten {w : World} {lim : Nat} {v : Array Value} {t : ET} (h : EVal w lim v t) : ∃ b0 b1 b2 b3 b4 b5 b6 b7 b8 b9, v = #[b0, b1, b2, b3, b4, b5, b6, b7, b8, b9] := by
  cases h; exact ⟨_, _, _, _, _, _, _, _, _, _, rfl⟩
theorem TenAt.cells {w : World} {g o : Nat} {b0 b1 b2 b3 b4 b5 b6 b7 b8 b9 : Value} (h : TenAt w g o #[b0, b1, b2, b3, b4, b5, b6, b7, b8, b9]) :
    w.cell? ⟨g, o, none⟩ = some b0 ∧ w.cell? ⟨g, o + 1, none⟩ = some b1 ∧ w.cell? ⟨g, o + 2, none⟩ = some b2 ∧ w.cell? ⟨g, o + 3, none⟩ = some b3 ∧ w.cell? ⟨g, o + 4, none⟩ = some b4 ∧ w.cell? ⟨g, o + 5, none⟩ = some b5 ∧ w.cell? ⟨g, o + 6, none⟩ = some b6 ∧ w.cell? ⟨g, o + 7, none⟩ = some b7 ∧ w.cell? ⟨g, o + 8, none⟩ = some b8 ∧ w.cell? ⟨g, o + 9, none⟩ = some b9 :=
  ⟨h 0 (by omega), h 1 (by omega), h 2 (by omega), h 3 (by omega), h 4 (by omega), h 5 (by omega), h 6 (by omega), h 7 (by omega), h 8 (by omega), h 9 (by omega)⟩
theorem TenAt.keep {w w' : World} {g o : Nat} {v : Array Value} (h : TenAt w g o v) (hw : ∀ o, w'.cell? ⟨g, o, none⟩ = w.cell? ⟨g, o, none⟩) : TenAt w' g o v := fun j hj => (hw _).trans (h j hj)
theorem cells_e : Tryz.prog.cellsOf 44 = 10 := by kernel_rfl

def ecntV : ET → Int → Int
  | .bad, _ => 0
  | .mk _ _ _ _ _ m xs, n => min (cntGo (fun i n => ecntV (xs i) n) m 0 (n + 1)) 500
theorem ecntV_in : ∀ (t : ET) (n : Int), 0 ≤ n → n < 500 → 0 ≤ ecntV t n ∧ ecntV t n ≤ 500 := by
  intro t
  induction t with
  | bad => intro n _ _; exact ⟨Int.le_refl _, by show (0 : Int) ≤ 500; omega⟩
  | mk k s v c ns m xs ih =>
    intro n h0 h5
    have := cntGo_in (fun i n => ecntV (xs i) n) (fun i n a b => ih i n a b) m 0 (n + 1) (by omega) (by omega)
    unfold ecntV
    omega
set_option maxRecDepth 20000 in
set_option maxHeartbeats 1000000 in
theorem ecount_any : ∀ (t : ET) (v : Array Value) (n : Int) (w : World), EVal w w.heap.size v t → 0 ≤ n → n < 500 →
    Calls Tryz.prog 77 #[.agg v, .int .i64 n] w fun e w' => e = .returned (.int .i64 (ecntV t n)) ∧ Below w.heap.size w w' := by
  intro t
  induction t with
  | bad => intro v n w hv; cases hv
  | mk k s v0 c ns m xs ih =>
    intro v n w hv h0 h5
    cases hv with
    | mk _ _ a0 a1 a2 a3 a4 a5 _ A _ ca B _ cb _ _ vs hk hs hv hc hm hns hB hxs =>
      have hmx : m ≤ 9223372036854775807 := by have := hm; unfold maxLen at this; omega
      unfold efields
      clear hv
      go_enter Tryz.func77, Tryz.ntmps77
      go_wp2_with fail
      obtain ⟨W1, hW1⟩ : ∃ W1, W1 = w.alloc (.cells #[.int .i64 k, .string s, a0, a1, a2, a3, a4, a5, .slice A c ca, .slice B m cb] 44) := ⟨_, rfl⟩
      have hbW : Below w.heap.size w W1 := by rw [hW1]; exact (Below.refl _ _).alloc (Nat.le_refl _) _
      have hsz : W1.heap.size = w.heap.size + 1 := by rw [hW1]; simp
      have h9c : W1.cell? ⟨w.heap.size, 9, none⟩ = some (.slice B m cb) := by rw [hW1, World.cell?_alloc_new]; rfl
      rw [← hW1]
      have HW := Lib.hid (And.intro hW1 hsz)
      have H9 := Lib.hid h9c
      clear hW1 hsz h9c
      go_loopw [1, 5] (fun nv iv wr => ∃ (i : Nat) (q : Int), i ≤ m ∧ iv = .int .i64 i ∧ nv = .int .i64 q ∧ 0 ≤ q ∧ q ≤ 500 ∧ Hid (cntGo (fun i n => ecntV (xs i) n) (m - i) i q = cntGo (fun i n => ecntV (xs i) n) m 0 (n + 1)) ∧ Below W1.heap.size W1 wr) (fun _ iv _ => m - (intOf iv).toNat)
      case atStart => exact ⟨0, n + 1, Nat.zero_le _, rfl, rfl, by omega, by omega, Lib.hid rfl, Below.refl _ _⟩
      case round =>
        obtain ⟨i, q, hi, rfl, rfl, hq0, hq5, hh, hb⟩ := hrel
        have h9r : wr.cell? ⟨w.heap.size, 9, none⟩ = some (.slice B m cb) := (hb.cell (p := ⟨w.heap.size, 9, none⟩) (by have := HW.out.2; simp; omega)).trans H9.out
        by_cases hlt : i < m
        · by_cases hq : q < 500
          · obtain ⟨g, o, rfl, hg, hx⟩ := hB (by omega)
            have hten := hx i hlt
            have hvi := hxs i hlt
            generalize vs i = vi at *
            have htenr : TenAt wr g (o + i * 10) vi := hten.keep fun o => (hb.cell (p := ⟨g, o, none⟩) (show g < W1.heap.size by have := HW.out.2; omega)).trans (hbW.cell (p := ⟨g, o, none⟩) hg)
            have hvr : EVal wr wr.heap.size vi (xs i) := ((hvi.stay hbW).mono (by have := HW.out.2; omega)).stay hb |>.mono hb.size
            obtain ⟨b0, b1, b2, b3, b4, b5, b6, b7, b8, b9, rfl⟩ := hvi.ten
            obtain ⟨c0, c1, c2, c3, c4, c5, c6, c7, c8, c9⟩ := htenr.cells
            have hcall := ih i _ q wr hvr hq0 hq
            have HB := Lib.hid hB
            have hin := ecntV_in (xs i) q hq0 hq
            have hh' : Hid (cntGo (fun i n => ecntV (xs i) n) (m - (i + 1)) (i + 1) (ecntV (xs i) q) = cntGo (fun i n => ecntV (xs i) n) m 0 (n + 1)) := Lib.hid (by
              rw [← hh.out, show m - i = (m - (i + 1)) + 1 by omega]
              conv => rhs; unfold cntGo
              rw [if_pos hq])
            generalize ecntV (xs i) q = z at *
            clear hB hx hten htenr hvi hvr ih hxs hns hh
            go_wp2_with (go_at_call 77; refine hcall.mono ?_; rintro e w' ⟨rfl, hb'⟩)
            go_roundw
            case rel => exact ⟨i + 1, z, by omega, by go_num, rfl, hin.1, hin.2, hh', hb.trans (hb'.mono hb.size)⟩
            case measure => simp [intOf]; omega
          · have R : Hid (ecntV (.mk k s v0 c ns m xs) n = q) := Lib.hid (by
              have e : cntGo (fun i n => ecntV (xs i) n) m 0 (n + 1) = q := by
                rw [← hh.out, show m - i = (m - (i + 1)) + 1 by omega]
                unfold cntGo
                rw [if_neg hq]
              unfold ecntV
              rw [e]; omega)
            have hfin : Below w.heap.size w wr := hbW.trans (hb.mono (by have := HW.out.2; omega))
            clear hh hns hB hxs ih
            go_wp2_with fail
            go_ret
            exact ⟨by rw [R.out]; rfl, hfin⟩
        · have R : Hid (ecntV (.mk k s v0 c ns m xs) n = q) := Lib.hid (by
            have e : cntGo (fun i n => ecntV (xs i) n) m 0 (n + 1) = q := by
              rw [← hh.out, show m - i = 0 by omega]
              rfl
            unfold ecntV
            rw [e]; omega)
          have hfin : Below w.heap.size w wr := hbW.trans (hb.mono (by have := HW.out.2; omega))
          clear hh hns hB hxs ih
          go_wp2_with fail
          go_ret
          exact ⟨by rw [R.out]; rfl, hfin⟩
end Go.Proofs.YtcmohggnehkjeaaGreat

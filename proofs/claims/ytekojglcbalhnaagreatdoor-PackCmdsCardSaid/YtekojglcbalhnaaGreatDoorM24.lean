/-
  Expressions as they lie in memory: a tree, and what a world holds of it; how many parts.
  Contracts of basculeref08's Depth, Parts, Small.
  Contract of basculeref03.parts.
  Contract of basculeref03.Digits.
  Contract of basculeref03.Text.
-/
import Derived.Test.YtekojglcbalhnaaGreatDoorM02
import Derived.Test.YtekojglcbalhnaaGreatDoorM04
import Derived.Deep.Cut
import Derived.Deep.CutRange
import Derived.Laws.IdiomStrings
namespace Go.Proofs.YtekojglcbalhnaaGreatDoor
open Go.RowKit

/-- An expression: its kind, its name, its constant, its names, and 'm' Kids. -/
inductive ET
  | bad
  | mk (k : Int) (s : ByteArray) (v : VT) (c : Nat) (ns : Nat → ByteArray) (m : Nat) (xs : Nat → ET)
def efields (k : Int) (s : ByteArray) (a0 a1 a2 a3 a4 a5 : Value) (A : Option Addr) (c ca : Nat) (B : Option Addr) (m cb : Nat) : Array Value := #[.int .i64 k, .string s, a0, a1, a2, a3, a4, a5, .slice A c ca, .slice B m cb]
def TenAt (w : World) (g o : Nat) (cs : Array Value) : Prop := ∀ j, j < 10 → w.cell? ⟨g, o + j, none⟩ = cs[j]?
/-- An expression by value is this tree. -/
inductive EVal (w : World) (lim : Nat) : Array Value → ET → Prop
  | mk (k : Int) (s : ByteArray) (a0 a1 a2 a3 a4 a5 : Value) (v : VT) (A : Option Addr) (c ca : Nat) (B : Option Addr) (m cb : Nat) (ns : Nat → ByteArray) (xs : Nat → ET) (vs : Nat → Array Value)
      (hk : -9223372036854775808 ≤ k ∧ k ≤ 9223372036854775807) (hs : s.size ≤ maxLen) (hv : Val w lim #[a0, a1, a2, a3, a4, a5] v) (hc : c ≤ ca ∧ ca ≤ maxLen) (hm : m ≤ cb ∧ cb ≤ maxLen)
      (hns : Strs w lim A c ns)
      (hB : 0 < m → ∃ g o, B = some ⟨g, o, none⟩ ∧ g < lim ∧ ∀ i, i < m → TenAt w g (o + i * 10) (vs i))
      (hxs : ∀ i, i < m → EVal w lim (vs i) (xs i)) :
      EVal w lim (efields k s a0 a1 a2 a3 a4 a5 A c ca B m cb) (.mk k s v c ns m xs)

theorem EVal.keep {w w' : World} {lim : Nat} {v : Array Value} {t : ET} (h : EVal w lim v t) (hw : ∀ g o, g < lim → w'.cell? ⟨g, o, none⟩ = w.cell? ⟨g, o, none⟩) : EVal w' lim v t := by
  induction h with
  | mk k s a0 a1 a2 a3 a4 a5 v A c ca B m cb ns xs vs hk hs hv hc hm hns hB hxs ih =>
    refine .mk k s a0 a1 a2 a3 a4 a5 v A c ca B m cb ns xs vs hk hs (hv.keep hw) hc hm (fun h0 => ?_) (fun h0 => ?_) (fun i hi => ih i hi)
    · obtain ⟨g, o, e, hg, hx⟩ := hns h0
      exact ⟨g, o, e, hg, fun i hi => ⟨(hw _ _ hg).trans (hx i hi).1, (hx i hi).2⟩⟩
    · obtain ⟨g, o, e, hg, hx⟩ := hB h0
      exact ⟨g, o, e, hg, fun i hi j hj => (hw _ _ hg).trans (hx i hi j hj)⟩
theorem EVal.stay {w w' : World} {lim : Nat} {v : Array Value} {t : ET} (h : EVal w lim v t) (hb : Below lim w w') : EVal w' lim v t :=
  h.keep fun g o hg => hb.cell (p := ⟨g, o, none⟩) hg
theorem EVal.mono {w : World} {lim lim' : Nat} {v : Array Value} {t : ET} (h : EVal w lim v t) (hl : lim ≤ lim') : EVal w lim' v t := by
  induction h with
  | mk k s a0 a1 a2 a3 a4 a5 v A c ca B m cb ns xs vs hk hs hv hc hm hns hB hxs ih =>
    refine .mk k s a0 a1 a2 a3 a4 a5 v A c ca B m cb ns xs vs hk hs (hv.mono hl) hc hm (fun h0 => ?_) (fun h0 => ?_) (fun i hi => ih i hi)
    · obtain ⟨g, o, e, hg, hx⟩ := hns h0
      exact ⟨g, o, e, by omega, hx⟩
    · obtain ⟨g, o, e, hg, hx⟩ := hB h0
      exact ⟨g, o, e, by omega, hx⟩
theorem EVal.ten {w : World} {lim : Nat} {v : Array Value} {t : ET} (h : EVal w lim v t) : ∃ b0 b1 b2 b3 b4 b5 b6 b7 b8 b9, v = #[b0, b1, b2, b3, b4, b5, b6, b7, b8, b9] := by
  cases h; exact ⟨_, _, _, _, _, _, _, _, _, _, rfl⟩
theorem TenAt.cells {w : World} {g o : Nat} {b0 b1 b2 b3 b4 b5 b6 b7 b8 b9 : Value} (h : TenAt w g o #[b0, b1, b2, b3, b4, b5, b6, b7, b8, b9]) :
    w.cell? ⟨g, o, none⟩ = some b0 ∧ w.cell? ⟨g, o + 1, none⟩ = some b1 ∧ w.cell? ⟨g, o + 2, none⟩ = some b2 ∧ w.cell? ⟨g, o + 3, none⟩ = some b3 ∧ w.cell? ⟨g, o + 4, none⟩ = some b4 ∧ w.cell? ⟨g, o + 5, none⟩ = some b5 ∧ w.cell? ⟨g, o + 6, none⟩ = some b6 ∧ w.cell? ⟨g, o + 7, none⟩ = some b7 ∧ w.cell? ⟨g, o + 8, none⟩ = some b8 ∧ w.cell? ⟨g, o + 9, none⟩ = some b9 :=
  ⟨h 0 (by omega), h 1 (by omega), h 2 (by omega), h 3 (by omega), h 4 (by omega), h 5 (by omega), h 6 (by omega), h 7 (by omega), h 8 (by omega), h 9 (by omega)⟩
theorem TenAt.keep {w w' : World} {g o : Nat} {v : Array Value} (h : TenAt w g o v) (hw : ∀ o, w'.cell? ⟨g, o, none⟩ = w.cell? ⟨g, o, none⟩) : TenAt w' g o v := fun j hj => (hw _).trans (h j hj)
theorem cells_e : Tryz.prog.cellsOf 97 = 10 := by kernel_rfl

def ecntV : ET → Int → Int
  | .bad, _ => 0
  | .mk _ _ _ _ _ m xs, n => min (cntGo (fun i n => ecntV (xs i) n) m 0 (n + 1)) 500
theorem ecntV_in : ∀ (t : ET) (n : Int), 0 ≤ n → n < 500 → 0 ≤ ecntV t n ∧ ecntV t n ≤ 500 := by
  intro t
  induction t with
  | bad => intro n _ _; exact ⟨Int.le_refl _, by show (0 : Int) ≤ 500; omega⟩
  | mk k s v c ns m xs ih =>
    intro n h0 h5
    have := cntGo_in (fun i n => ecntV (xs i) n) (fun i n a b => ih i n a b) m 0 (n + 1) (by omega) (by omega)
    unfold ecntV
    omega
set_option maxRecDepth 20000 in
set_option maxHeartbeats 1000000 in
theorem ecount_any : ∀ (t : ET) (v : Array Value) (n : Int) (w : World), EVal w w.heap.size v t → 0 ≤ n → n < 500 →
    Calls Tryz.prog 128 #[.agg v, .int .i64 n] w fun e w' => e = .returned (.int .i64 (ecntV t n)) ∧ Below w.heap.size w w' := by
  intro t
  induction t with
  | bad => intro v n w hv; cases hv
  | mk k s v0 c ns m xs ih =>
    intro v n w hv h0 h5
    cases hv with
    | mk _ _ a0 a1 a2 a3 a4 a5 _ A _ ca B _ cb _ _ vs hk hs hv hc hm hns hB hxs =>
      have hmx : m ≤ 9223372036854775807 := by have := hm; unfold maxLen at this; omega
      unfold efields
      clear hv
      go_enter Tryz.func128, Tryz.ntmps128
      go_wp2_with fail
      obtain ⟨W1, hW1⟩ : ∃ W1, W1 = w.alloc (.cells #[.int .i64 k, .string s, a0, a1, a2, a3, a4, a5, .slice A c ca, .slice B m cb] 97) := ⟨_, rfl⟩
      have hbW : Below w.heap.size w W1 := by rw [hW1]; exact (Below.refl _ _).alloc (Nat.le_refl _) _
      have hsz : W1.heap.size = w.heap.size + 1 := by rw [hW1]; simp
      have h9c : W1.cell? ⟨w.heap.size, 9, none⟩ = some (.slice B m cb) := by rw [hW1, World.cell?_alloc_new]; rfl
      rw [← hW1]
      have HW := Lib.hid (And.intro hW1 hsz)
      have H9 := Lib.hid h9c
      clear hW1 hsz h9c
      go_loopw [1, 5] (fun nv iv wr => ∃ (i : Nat) (q : Int), i ≤ m ∧ iv = .int .i64 i ∧ nv = .int .i64 q ∧ 0 ≤ q ∧ q ≤ 500 ∧ Hid (cntGo (fun i n => ecntV (xs i) n) (m - i) i q = cntGo (fun i n => ecntV (xs i) n) m 0 (n + 1)) ∧ Below W1.heap.size W1 wr) (fun _ iv _ => m - (intOf iv).toNat)
      case atStart => exact ⟨0, n + 1, Nat.zero_le _, rfl, rfl, by omega, by omega, Lib.hid rfl, Below.refl _ _⟩
      case round =>
        obtain ⟨i, q, hi, rfl, rfl, hq0, hq5, hh, hb⟩ := hrel
        have h9r : wr.cell? ⟨w.heap.size, 9, none⟩ = some (.slice B m cb) := (hb.cell (p := ⟨w.heap.size, 9, none⟩) (by have := HW.out.2; simp; omega)).trans H9.out
        by_cases hlt : i < m
        · by_cases hq : q < 500
          · obtain ⟨g, o, rfl, hg, hx⟩ := hB (by omega)
            have hten := hx i hlt
            have hvi := hxs i hlt
            generalize vs i = vi at *
            have htenr : TenAt wr g (o + i * 10) vi := hten.keep fun o => (hb.cell (p := ⟨g, o, none⟩) (show g < W1.heap.size by have := HW.out.2; omega)).trans (hbW.cell (p := ⟨g, o, none⟩) hg)
            have hvr : EVal wr wr.heap.size vi (xs i) := ((hvi.stay hbW).mono (by have := HW.out.2; omega)).stay hb |>.mono hb.size
            obtain ⟨b0, b1, b2, b3, b4, b5, b6, b7, b8, b9, rfl⟩ := hvi.ten
            obtain ⟨c0, c1, c2, c3, c4, c5, c6, c7, c8, c9⟩ := htenr.cells
            have hcall := ih i _ q wr hvr hq0 hq
            have HB := Lib.hid hB
            have hin := ecntV_in (xs i) q hq0 hq
            have hh' : Hid (cntGo (fun i n => ecntV (xs i) n) (m - (i + 1)) (i + 1) (ecntV (xs i) q) = cntGo (fun i n => ecntV (xs i) n) m 0 (n + 1)) := Lib.hid (by
              rw [← hh.out, show m - i = (m - (i + 1)) + 1 by omega]
              conv => rhs; unfold cntGo
              rw [if_pos hq])
            generalize ecntV (xs i) q = z at *
            clear hB hx hten htenr hvi hvr ih hxs hns hh
            go_wp2_with (go_at_call 128; refine hcall.mono ?_; rintro e w' ⟨rfl, hb'⟩)
            go_roundw
            case rel => exact ⟨i + 1, z, by omega, by go_num, rfl, hin.1, hin.2, hh', hb.trans (hb'.mono hb.size)⟩
            case measure => simp [intOf]; omega
          · have R : Hid (ecntV (.mk k s v0 c ns m xs) n = q) := Lib.hid (by
              have e : cntGo (fun i n => ecntV (xs i) n) m 0 (n + 1) = q := by
                rw [← hh.out, show m - i = (m - (i + 1)) + 1 by omega]
                unfold cntGo
                rw [if_neg hq]
              unfold ecntV
              rw [e]; omega)
            have hfin : Below w.heap.size w wr := hbW.trans (hb.mono (by have := HW.out.2; omega))
            clear hh hns hB hxs ih
            go_wp2_with fail
            go_ret
            exact ⟨by rw [R.out]; rfl, hfin⟩
        · have R : Hid (ecntV (.mk k s v0 c ns m xs) n = q) := Lib.hid (by
            have e : cntGo (fun i n => ecntV (xs i) n) m 0 (n + 1) = q := by
              rw [← hh.out, show m - i = 0 by omega]
              rfl
            unfold ecntV
            rw [e]; omega)
          have hfin : Below w.heap.size w wr := hbW.trans (hb.mono (by have := HW.out.2; omega))
          clear hh hns hB hxs ih
          go_wp2_with fail
          go_ret
          exact ⟨by rw [R.out]; rfl, hfin⟩
end Go.Proofs.YtekojglcbalhnaaGreatDoor
namespace Go.Proofs.YtekojglcbalhnaaGreatDoor
open Go.RowKit

def edepV : ET → Int → Int
  | .bad, _ => 1
  | .mk _ _ _ _ _ m xs, far => (if 0 < far then maxGo (fun i => edepV (xs i) (far - 1)) m 0 0 else 0) + 1
theorem edepV_in : ∀ (t : ET) (far : Int), 1 ≤ edepV t far ∧ edepV t far ≤ max far 0 + 1 := by
  intro t
  induction t with
  | bad => intro far; unfold edepV; omega
  | mk k s v c ns m xs ih =>
    intro far
    unfold edepV
    by_cases h : 0 < far
    · rw [if_pos h]
      have := maxGo_in (fun i => edepV (xs i) (far - 1)) (b := far) (fun i => by have := ih i (far - 1); omega) m 0 0 (by omega) (by omega)
      omega
    · rw [if_neg h]; omega
set_option maxRecDepth 20000 in
theorem eparts_any {t : ET} {v : Array Value} {w : World} (hv : EVal w w.heap.size v t) : Calls Tryz.prog 105 #[.agg v] w fun e w' => e = .returned (.int .i64 (ecntV t 0)) ∧ Below w.heap.size w w' := by
  have hbW : Below w.heap.size w (w.alloc (.cells v 97)) := (Below.refl _ _).alloc (Nat.le_refl _) _
  have C := ecount_any t v 0 (w.alloc (.cells v 97)) ((hv.stay hbW).mono hbW.size) (by omega) (by omega)
  obtain ⟨b0, b1, b2, b3, b4, b5, b6, b7, b8, b9, rfl⟩ := hv.ten
  clear hv
  go_enter Tryz.func105, Tryz.ntmps105
  go_wp2_with (go_at_call 128; refine C.mono ?_; rintro e w' ⟨rfl, hb'⟩)
  go_ret
  exact ⟨rfl, hbW.trans (hb'.mono hbW.size)⟩
end Go.Proofs.YtekojglcbalhnaaGreatDoor
namespace Go.Proofs.YtekojglcbalhnaaGreatDoor
open Go.RowKit

def twos (m : Nat) : Nat := if 0 < m ∧ m % 2 = 0 then twos (m / 2) + 1 else 0
termination_by m
decreasing_by omega
def oddOf (m : Nat) : Nat := if 0 < m ∧ m % 2 = 0 then oddOf (m / 2) else m
termination_by m
decreasing_by omega
theorem twos_even {m : Nat} (h : 0 < m) (h2 : m % 2 = 0) : twos m = twos (m / 2) + 1 := by rw [twos, if_pos ⟨h, h2⟩]
theorem twos_odd {m : Nat} (h2 : m % 2 ≠ 0) : twos m = 0 := by rw [twos, if_neg (fun h => h2 h.2)]
theorem oddOf_even {m : Nat} (h : 0 < m) (h2 : m % 2 = 0) : oddOf m = oddOf (m / 2) := by rw [oddOf, if_pos ⟨h, h2⟩]
theorem oddOf_odd {m : Nat} (h2 : m % 2 ≠ 0) : oddOf m = m := by rw [oddOf, if_neg (fun h => h2 h.2)]

def mantW (b : Nat) : Nat := if rung b < 4503599627370496 then rung b else 4503599627370496 + rung b % 4503599627370496
def placeW (b : Nat) : Int := if rung b < 4503599627370496 then -1074 else (rung b / 4503599627370496 : Nat) - 1075

theorem mant0 (b : Nat) : IntKind.u64.wrap ((b : Int) * 4096) / 4096 = ((b % 4503599627370496 : Nat) : Int) := by rw [IntKind.wrap_u64]; omega
theorem place0 (b : Nat) : wrap64 (wrap64 (IntKind.u64.wrap ((b : Int) * 2) / 9007199254740992) - 1075) = ((rung b / 4503599627370496 : Nat) : Int) - 1075 := by
  rw [IntKind.wrap_u64]; unfold wrap64 rung; omega
theorem mant_sub {b : Nat} (h : rung b / 4503599627370496 = 0) : mantW b = b % 4503599627370496 := by unfold mantW rung at *; rw [if_pos (by omega)]; omega
theorem mant_norm {b : Nat} (h : rung b / 4503599627370496 ≠ 0) : mantW b = b % 4503599627370496 + 4503599627370496 := by unfold mantW rung at *; rw [if_neg (by omega)]; omega
theorem place_sub {b : Nat} (h : rung b / 4503599627370496 = 0) : placeW b = -1074 := by unfold placeW; rw [if_pos (by omega)]
theorem place_norm {b : Nat} (h : rung b / 4503599627370496 ≠ 0) : placeW b = (rung b / 4503599627370496 : Nat) - 1075 := by unfold placeW; rw [if_neg (by omega)]
theorem place_in (b : Nat) : -1074 ≤ placeW b ∧ placeW b ≤ 972 := by
  unfold placeW
  split
  · omega
  · unfold rung at *; omega
theorem mant_lt (b : Nat) : mantW b < 9007199254740992 := by unfold mantW; split <;> omega

def partsV (b : Nat) : Value := if mantW b = 0 then .tuple #[.int .u64 0, .int .i64 0] else .tuple #[.int .u64 (oddOf (mantW b) : Nat), .int .i64 (placeW b + twos (mantW b))]

theorem parts_any {b : Nat} (w : World) : Calls Tryz.prog 191 #[.float .f64 b] w fun e w' => e = .returned (partsV b) ∧ w = w' := by
  have H := bits_run
  have F : Hid ((rung b / 4503599627370496 = 0 → mantW b = b % 4503599627370496 ∧ placeW b = -1074) ∧ (rung b / 4503599627370496 ≠ 0 → mantW b = b % 4503599627370496 + 4503599627370496 ∧ placeW b = (rung b / 4503599627370496 : Nat) - 1075)) := Lib.hid ⟨fun h => ⟨mant_sub h, place_sub h⟩, fun h => ⟨mant_norm h, place_norm h⟩⟩
  have hM := Lib.hid (mant_lt b)
  have hE := Lib.hid (place_in b)
  unfold partsV
  generalize mantW b = M at *
  generalize placeW b = E at *
  go_enter Tryz.func191, Tryz.ntmps191
  go_upto_region 4 with (fail)
  rw [mant0, place0]
  by_cases h : rung b / 4503599627370496 = 0
  · have e := Lib.hid (F.out.1 h)
    rw [h]
    clear h F
    generalize b % 4503599627370496 = m at *
    go_upto_region 7 with (fail)
    rw [← e.out.1, ← e.out.2]
    clear e
    by_cases hz : M = 0
    · subst hz
      go_wp2
      go_ret2
      exact ⟨rfl, rfl⟩
    · have T2 : ((M : Int) == 0) = false := by simp; omega
      go_wp2
      go_loop [5, 6] (fun mv ev => ∃ m k : Nat, 0 < m ∧ m + k ≤ M ∧ mv = .int .u64 m ∧ ev = .int .i64 (E + k) ∧ Hid (oddOf m = oddOf M ∧ twos m + k = twos M)) (fun mv _ => (intOf mv).toNat)
      case atStart => exact ⟨M, 0, by omega, by omega, rfl, by simp, Lib.hid ⟨rfl, rfl⟩⟩
      case round =>
        obtain ⟨m, k, hm, hmk, rfl, rfl, ho⟩ := hrel
        by_cases h2 : m % 2 = 0
        · have T3 : ((m : Int) % 2 == 0) = true := by simp; omega
          have D : IntKind.u64.wrap ((m : Int) / 2) = ((m / 2 : Nat) : Int) := by
            have := hM.out
            rw [IntKind.wrap_u64]; omega
          have A : wrap64 (E + k + 1) = E + ((k + 1 : Nat) : Int) := by have := hM.out; have := hE.out; unfold wrap64; omega
          have h3 : 0 < m / 2 := by omega
          have h4 : m / 2 + (k + 1) ≤ M := by omega
          have ho' : Hid (oddOf (m / 2) = oddOf M ∧ twos (m / 2) + (k + 1) = twos M) := Lib.hid ⟨by rw [← oddOf_even hm h2]; exact ho.out.1, by have := ho.out.2; rw [twos_even hm h2] at this; omega⟩
          have h5 : m / 2 < m := by omega
          have h6 := Lib.hid (And.intro h3 (And.intro h4 h5))
          clear ho hmk h2 h3 h4 h5
          go_wp2
          go_round
          case rel => exact ⟨m / 2, k + 1, h6.out.1, h6.out.2.1, by go_num, by go_num, ho'⟩
          case measure => have := h6.out.2.2; simp [intOf]; omega
        · have T3 : ((m : Int) % 2 == 0) = false := by simp; omega
          have ho' : Hid (oddOf M = m ∧ twos M = k) := Lib.hid ⟨by rw [← ho.out.1, oddOf_odd h2], by rw [← ho.out.2, twos_odd h2]; omega⟩
          clear ho h2
          go_wp2
          go_ret2
          exact ⟨by rw [ho'.out.1, ho'.out.2]; rfl, rfl⟩
  · have e := Lib.hid (F.out.2 h)
    have T : (((rung b / 4503599627370496 : Nat) : Int) - 1075 == -1075) = false := by simp; omega
    have S : IntKind.u64.wrap (((b % 4503599627370496 : Nat) : Int) + 4503599627370496) = ((b % 4503599627370496 + 4503599627370496 : Nat) : Int) := by rw [IntKind.wrap_u64]; omega
    clear h F
    generalize b % 4503599627370496 + 4503599627370496 = n at *
    generalize b % 4503599627370496 = m at *
    generalize rung b / 4503599627370496 = x at *
    go_upto_region 7 with (fail)
    rw [← e.out.1, ← e.out.2]
    clear e
    by_cases hz : M = 0
    · subst hz
      go_wp2
      go_ret2
      exact ⟨rfl, rfl⟩
    · have T2 : ((M : Int) == 0) = false := by simp; omega
      go_wp2
      go_loop [5, 6] (fun mv ev => ∃ m k : Nat, 0 < m ∧ m + k ≤ M ∧ mv = .int .u64 m ∧ ev = .int .i64 (E + k) ∧ Hid (oddOf m = oddOf M ∧ twos m + k = twos M)) (fun mv _ => (intOf mv).toNat)
      case atStart => exact ⟨M, 0, by omega, by omega, rfl, by simp, Lib.hid ⟨rfl, rfl⟩⟩
      case round =>
        obtain ⟨m, k, hm, hmk, rfl, rfl, ho⟩ := hrel
        by_cases h2 : m % 2 = 0
        · have T3 : ((m : Int) % 2 == 0) = true := by simp; omega
          have D : IntKind.u64.wrap ((m : Int) / 2) = ((m / 2 : Nat) : Int) := by
            have := hM.out
            rw [IntKind.wrap_u64]; omega
          have A : wrap64 (E + k + 1) = E + ((k + 1 : Nat) : Int) := by have := hM.out; have := hE.out; unfold wrap64; omega
          have h3 : 0 < m / 2 := by omega
          have h4 : m / 2 + (k + 1) ≤ M := by omega
          have ho' : Hid (oddOf (m / 2) = oddOf M ∧ twos (m / 2) + (k + 1) = twos M) := Lib.hid ⟨by rw [← oddOf_even hm h2]; exact ho.out.1, by have := ho.out.2; rw [twos_even hm h2] at this; omega⟩
          have h5 : m / 2 < m := by omega
          have h6 := Lib.hid (And.intro h3 (And.intro h4 h5))
          clear ho hmk h2 h3 h4 h5
          go_wp2
          go_round
          case rel => exact ⟨m / 2, k + 1, h6.out.1, h6.out.2.1, by go_num, by go_num, ho'⟩
          case measure => have := h6.out.2.2; simp [intOf]; omega
        · have T3 : ((m : Int) % 2 == 0) = false := by simp; omega
          have ho' : Hid (oddOf M = m ∧ twos M = k) := Lib.hid ⟨by rw [← ho.out.1, oddOf_odd h2], by rw [← ho.out.2, twos_odd h2]; omega⟩
          clear ho h2
          go_wp2
          go_ret2
          exact ⟨by rw [ho'.out.1, ho'.out.2]; rfl, rfl⟩
end Go.Proofs.YtekojglcbalhnaaGreatDoor
namespace Go.Proofs.YtekojglcbalhnaaGreatDoor
open Go.RowKit

/-- The last digit. -/
def dc (n : Nat) : UInt8 := UInt8.ofNat (48 + n % 10)
def digL (n : Nat) : List UInt8 := if n < 10 then [dc n] else digL (n / 10) ++ [dc n]
termination_by n
decreasing_by omega
theorem digL_last {n : Nat} (h : n / 10 = 0) : digL n = [dc n] := by rw [digL, if_pos (by omega)]
theorem digL_more {n : Nat} (h : n / 10 ≠ 0) : digL n = digL (n / 10) ++ [dc n] := by rw [digL, if_neg (by omega)]
def fstrL (l : List UInt8) : ByteArray := ⟨l.toArray⟩
theorem fstrL_append (a b : List UInt8) : fstrL a ++ fstrL b = fstrL (a ++ b) := by
  apply ByteArray.ext; unfold fstrL; simp

theorem digL_pos (n : Nat) : 1 ≤ (digL n).length := by
  rw [digL]; split <;> simp
theorem digL_len : ∀ (k n : Nat), n < 10 ^ k → 1 ≤ k → (digL n).length ≤ k := by
  intro k
  induction k with
  | zero => intro n _ h; omega
  | succ k ih =>
    intro n hn _
    by_cases hz : n / 10 = 0
    · rw [digL_last hz]; simp
    · rw [digL_more hz]
      have h10 : n / 10 < 10 ^ k := by rw [Nat.pow_succ] at hn; omega
      have hk : 1 ≤ k := by
        rcases Nat.eq_zero_or_pos k with rfl | h
        · simp at h10; omega
        · exact h
      have := ih _ h10 hk
      simp; omega
theorem digL_len20 {n : Nat} (h : n < 18446744073709551616) : (digL n).length ≤ 20 := digL_len 20 n (by omega) (by omega)

theorem one_byte (w : World) (m : Nat) : (convert 103 9 (.slice (some ⟨w.heap.size, 0, none⟩) 1 1)).run Tryz.prog (w.alloc (.cells #[.int .u8 (48 + (m : Int) % 10)] 5)) = .ok (.string (fstrL [dc m])) (w.alloc (.cells #[.int .u8 (48 + (m : Int) % 10)] 5)) := by
  have h := run_convert_bytes_back (P := Tryz.prog) (w.alloc (.cells #[.int .u8 (48 + (m : Int) % 10)] 5)) 103 9 5 ⟨w.heap.size, 0, none⟩ 1 [dc m] Tryz.underlying103 Tryz.underlying5 Tryz.underlying9
  refine h ?_
  intro j hj
  have hj0 : j = 0 := by simpa using hj
  subst hj0
  have e : (⟨w.heap.size, 0, none⟩ : Addr).add (0 : Nat) = ⟨w.heap.size, 0, none⟩ := rfl
  have c := World.cell?_alloc_mark w #[.int .u8 (48 + (m : Int) % 10)] 5 (0, 0) 0
  rw [e, c]
  unfold dc
  simp
  omega

set_option maxRecDepth 20000 in
theorem Digits_any {n : Nat} (hn : n < 18446744073709551616) (w : World) : Calls Tryz.prog 192 #[.int .u64 n] w fun e w' => e = .returned (.string (fstrL (digL n))) ∧ Below w.heap.size w w' := by
  have hn' := Lib.hid hn
  clear hn
  go_enter Tryz.func192, Tryz.ntmps192
  go_wp2
  go_loopw [0, 3] (fun nv sv wr => ∃ (m : Nat) (l : List UInt8), m ≤ n ∧ nv = .int .u64 m ∧ sv = .string (fstrL l) ∧ Hid (digL m ++ l = digL n) ∧ Below w.heap.size w wr) (fun nv _ _ => (intOf nv).toNat)
  case atStart => exact ⟨n, [], Nat.le_refl _, rfl, rfl, Lib.hid (by simp), Below.refl _ _⟩
  case round =>
    obtain ⟨m, l, hm, rfl, rfl, hl, hb⟩ := hrel
    have hc := one_byte wr m
    have hb' : Below w.heap.size w (wr.alloc (.cells #[.int .u8 (48 + (m : Int) % 10)] 5)) := hb.alloc (by have := hb.size; omega) _
    have hs := fstrL_append [dc m] l
    have hz0 : ¬ 9223372036854775807 < (fstrL [dc m]).size + (fstrL l).size := by
      have h1 := digL_len20 hn'.out
      have h2 : (fstrL [dc m]).size = 1 := rfl
      have h3 : (fstrL l).size = l.length := rfl
      have h4 : (digL m ++ l).length ≤ 20 := by rw [hl.out]; exact h1
      simp at h4
      omega
    have D : IntKind.u64.wrap ((m : Int) / 10) = ((m / 10 : Nat) : Int) := by
      have := hn'.out
      rw [IntKind.wrap_u64]; omega
    have hm' := Lib.hid hm
    clear hm
    by_cases hz : m / 10 = 0
    · have hl' : Hid (digL n = dc m :: l) := Lib.hid (by rw [← hl.out, digL_last hz]; rfl)
      have T : (((m / 10 : Nat) : Int) == 0) = true := by simp; omega
      clear hl hz
      go_wp2
      go_ret
      exact ⟨by rw [hl'.out]; rfl, hb'⟩
    · have hl' : Hid (digL (m / 10) ++ (dc m :: l) = digL n) := Lib.hid (by rw [← hl.out, digL_more hz]; simp)
      have T : (((m / 10 : Nat) : Int) == 0) = false := by simp; omega
      have h7 : Hid (m / 10 ≤ n ∧ m / 10 < m) := Lib.hid ⟨by have := hm'.out; omega, by omega⟩
      clear hl hz
      go_wp2
      go_roundw
      case rel => exact ⟨m / 10, _, h7.out.1, rfl, rfl, hl', hb'⟩
      case measure => have := h7.out.2; simp [intOf]; omega
end Go.Proofs.YtekojglcbalhnaaGreatDoor
namespace Go.Proofs.YtekojglcbalhnaaGreatDoor
open Go.RowKit

def oddW (b : Nat) : Nat := if mantW b = 0 then 0 else oddOf (mantW b)
def expW (b : Nat) : Int := if mantW b = 0 then 0 else placeW b + twos (mantW b)
theorem partsV_eq (b : Nat) : partsV b = .tuple #[.int .u64 (oddW b : Nat), .int .i64 (expW b)] := by
  unfold partsV oddW expW; split <;> rfl
theorem oddOf_le : ∀ m, oddOf m ≤ m := by
  intro m
  induction m using Nat.strongRecOn with
  | ind m ih =>
    rw [oddOf]
    split
    · have := ih (m / 2) (by omega); omega
    · omega
theorem twos_le : ∀ m, twos m ≤ m := by
  intro m
  induction m using Nat.strongRecOn with
  | ind m ih =>
    rw [twos]
    split
    · have := ih (m / 2) (by omega); omega
    · omega
theorem oddW_lt (b : Nat) : oddW b < 9007199254740992 := by
  unfold oddW
  have := mant_lt b
  have := oddOf_le (mantW b)
  split <;> omega
theorem expW_in (b : Nat) : -1074 ≤ expW b ∧ expW b < 9007199254742000 := by
  unfold expW
  have := mant_lt b
  have := place_in b
  have := twos_le (mantW b)
  split <;> omega

def signS (b : Nat) : ByteArray := if sgn b = true then ⟨#[45]⟩ else ⟨#[]⟩
def expS (e : Int) : ByteArray := if e < 0 then ⟨#[45]⟩ ++ fstrL (digL (-e).toNat) else fstrL (digL e.toNat)
def textB (b : Nat) : ByteArray := if nanB b = true then ⟨#[110, 97, 110]⟩ else if rung b = 9218868437227405312 then signS b ++ ⟨#[105, 110, 102]⟩ else signS b ++ fstrL (digL (oddW b)) ++ ⟨#[112]⟩ ++ expS (expW b)

theorem signS_size (b : Nat) : (signS b).size ≤ 1 := by unfold signS; split <;> decide
theorem digits_size {n : Nat} (h : n < 18446744073709551616) : (fstrL (digL n)).size ≤ 20 := digL_len20 h

theorem Text_nan {b : Nat} (hb : okW b) (h : nanB b = true) (w : World) : Calls Tryz.prog 163 #[.float .f64 b] w fun e w' => e = .returned (.string ⟨#[110, 97, 110]⟩) ∧ w = w' := by
  have M := @minus_any b hb
  have N := NaN_any b
  rw [h] at N
  clear hb h
  go_enter Tryz.func163, Tryz.ntmps163
  go_wp2_with (first | (go_at_call 137; refine (N _).mono ?_; rintro e w' ⟨rfl, rfl⟩) | (go_at_call 190; refine (M _).mono ?_; rintro e w' ⟨rfl, rfl⟩))
  all_goals (go_ret; exact ⟨rfl, rfl⟩)

theorem Text_inf {b : Nat} {s : ByteArray} {ms : Bool} (N : ∀ w, Calls Tryz.prog 137 #[.float .f64 b] w fun e w' => e = .returned (.bool false) ∧ w = w') (M : ∀ w, Calls Tryz.prog 190 #[.float .f64 b] w fun e w' => e = .returned (.bool ms) ∧ w = w') (hs : s = if ms then ⟨#[45]⟩ else ⟨#[]⟩)
    (I : (IntKind.u64.wrap ((b : Int) * 2) == (18437736874454810624 : Int)) = true) (w : World) : Calls Tryz.prog 163 #[.float .f64 b] w fun e w' => e = .returned (.string (s ++ ⟨#[105, 110, 102]⟩)) ∧ w = w' := by
  have H := bits_run
  have zs : s.size ≤ 1 := by rw [hs]; cases ms <;> decide
  have F1 : ¬ 9223372036854775807 < s.size + ByteArray.size ⟨#[105, 110, 102]⟩ := by
    have : ByteArray.size ⟨#[105, 110, 102]⟩ = 3 := rfl
    omega
  clear zs
  go_enter Tryz.func163, Tryz.ntmps163
  cases ms
  · have hs' : s = ⟨#[]⟩ := hs
    have hh := Lib.hid hs'
    clear hs hs'
    go_upto_region 4 with (first | (go_at_call 137; refine (N _).mono ?_; rintro e w' ⟨rfl, rfl⟩) | (go_at_call 190; refine (M _).mono ?_; rintro e w' ⟨rfl, rfl⟩))
    rw [← hh.out]
    clear hh
    go_wp2_with (go_at_call 137; refine (N _).mono ?_; rintro e w' ⟨rfl, rfl⟩)
    go_ret
    exact ⟨rfl, rfl⟩
  · have hs' : s = ⟨#[45]⟩ := hs
    have hh := Lib.hid hs'
    clear hs hs'
    go_upto_region 4 with (first | (go_at_call 137; refine (N _).mono ?_; rintro e w' ⟨rfl, rfl⟩) | (go_at_call 190; refine (M _).mono ?_; rintro e w' ⟨rfl, rfl⟩))
    rw [← hh.out]
    clear hh
    go_wp2_with (go_at_call 137; refine (N _).mono ?_; rintro e w' ⟨rfl, rfl⟩)
    go_ret
    exact ⟨rfl, rfl⟩

theorem Text_low {b n k : Nat} {s DS KS : ByteArray} {ms : Bool} (N : ∀ w, Calls Tryz.prog 137 #[.float .f64 b] w fun e w' => e = .returned (.bool false) ∧ w = w') (M : ∀ w, Calls Tryz.prog 190 #[.float .f64 b] w fun e w' => e = .returned (.bool ms) ∧ w = w') (hs : s = if ms then ⟨#[45]⟩ else ⟨#[]⟩)
    (I : (IntKind.u64.wrap ((b : Int) * 2) == (18437736874454810624 : Int)) = false) (Q : ∀ w, Calls Tryz.prog 191 #[.float .f64 b] w fun e w' => e = .returned (.tuple #[.int .u64 (n : Nat), .int .i64 (-(k : Int))]) ∧ w = w')
    (D : ∀ w, Calls Tryz.prog 192 #[.int .u64 n] w fun e w' => e = .returned (.string DS) ∧ Below w.heap.size w w') (K : ∀ w, Calls Tryz.prog 192 #[.int .u64 k] w fun e w' => e = .returned (.string KS) ∧ Below w.heap.size w w') (zD : DS.size ≤ 20) (zK : KS.size ≤ 20) (hk : 1 ≤ k ∧ k < 9223372036854775808) (w : World) :
    Calls Tryz.prog 163 #[.float .f64 b] w fun e w' => e = .returned (.string (s ++ DS ++ ⟨#[112]⟩ ++ ⟨#[45]⟩ ++ KS)) ∧ Below w.heap.size w w' := by
  have H := bits_run
  have zs : s.size ≤ 1 := by rw [hs]; cases ms <;> decide
  have F2 : ¬ 9223372036854775807 < s.size + DS.size := by omega
  have F3 : ¬ 9223372036854775807 < (s ++ DS).size + ByteArray.size ⟨#[112]⟩ := by
    have : ByteArray.size ⟨#[112]⟩ = 1 := rfl
    rw [ByteArray.size_append]; omega
  have F4 : ¬ 9223372036854775807 < (s ++ DS ++ ⟨#[112]⟩).size + ByteArray.size ⟨#[45]⟩ := by
    have : ByteArray.size ⟨#[112]⟩ = 1 := rfl
    have : ByteArray.size ⟨#[45]⟩ = 1 := rfl
    simp only [ByteArray.size_append]; omega
  have F5 : ¬ 9223372036854775807 < (s ++ DS ++ ⟨#[112]⟩ ++ ⟨#[45]⟩).size + KS.size := by
    have : ByteArray.size ⟨#[112]⟩ = 1 := rfl
    have : ByteArray.size ⟨#[45]⟩ = 1 := rfl
    simp only [ByteArray.size_append]; omega
  clear zs zD zK
  go_enter Tryz.func163, Tryz.ntmps163
  cases ms
  · have hs' : s = ⟨#[]⟩ := hs
    have hh := Lib.hid hs'
    clear hs hs'
    go_upto_region 4 with (first | (go_at_call 137; refine (N _).mono ?_; rintro e w' ⟨rfl, rfl⟩) | (go_at_call 190; refine (M _).mono ?_; rintro e w' ⟨rfl, rfl⟩))
    rw [← hh.out]
    clear hh
    go_wp2_with (first | (go_at_call 137; refine (N _).mono ?_; rintro e w' ⟨rfl, rfl⟩) | (go_at_call 191; refine (Q _).mono ?_; rintro e w' ⟨rfl, rfl⟩) | (go_at_call 192; first | ((with_reducible refine (D _).mono ?_); rintro e w1 ⟨rfl, hb1⟩) | ((with_reducible refine (K _).mono ?_); rintro e w2 ⟨rfl, hb2⟩)))
    go_ret
    exact ⟨rfl, hb1.trans (hb2.mono hb1.size)⟩
  · have hs' : s = ⟨#[45]⟩ := hs
    have hh := Lib.hid hs'
    clear hs hs'
    go_upto_region 4 with (first | (go_at_call 137; refine (N _).mono ?_; rintro e w' ⟨rfl, rfl⟩) | (go_at_call 190; refine (M _).mono ?_; rintro e w' ⟨rfl, rfl⟩))
    rw [← hh.out]
    clear hh
    go_wp2_with (first | (go_at_call 137; refine (N _).mono ?_; rintro e w' ⟨rfl, rfl⟩) | (go_at_call 191; refine (Q _).mono ?_; rintro e w' ⟨rfl, rfl⟩) | (go_at_call 192; first | ((with_reducible refine (D _).mono ?_); rintro e w1 ⟨rfl, hb1⟩) | ((with_reducible refine (K _).mono ?_); rintro e w2 ⟨rfl, hb2⟩)))
    go_ret
    exact ⟨rfl, hb1.trans (hb2.mono hb1.size)⟩

theorem Text_high {b n k : Nat} {s DS KS : ByteArray} {ms : Bool} (N : ∀ w, Calls Tryz.prog 137 #[.float .f64 b] w fun e w' => e = .returned (.bool false) ∧ w = w') (M : ∀ w, Calls Tryz.prog 190 #[.float .f64 b] w fun e w' => e = .returned (.bool ms) ∧ w = w') (hs : s = if ms then ⟨#[45]⟩ else ⟨#[]⟩)
    (I : (IntKind.u64.wrap ((b : Int) * 2) == (18437736874454810624 : Int)) = false) (Q : ∀ w, Calls Tryz.prog 191 #[.float .f64 b] w fun e w' => e = .returned (.tuple #[.int .u64 (n : Nat), .int .i64 ((k : Int))]) ∧ w = w')
    (D : ∀ w, Calls Tryz.prog 192 #[.int .u64 n] w fun e w' => e = .returned (.string DS) ∧ Below w.heap.size w w') (K : ∀ w, Calls Tryz.prog 192 #[.int .u64 k] w fun e w' => e = .returned (.string KS) ∧ Below w.heap.size w w') (zD : DS.size ≤ 20) (zK : KS.size ≤ 20) (hk : k < 9223372036854775808) (w : World) :
    Calls Tryz.prog 163 #[.float .f64 b] w fun e w' => e = .returned (.string (s ++ DS ++ ⟨#[112]⟩ ++ KS)) ∧ Below w.heap.size w w' := by
  have H := bits_run
  have zs : s.size ≤ 1 := by rw [hs]; cases ms <;> decide
  have F2 : ¬ 9223372036854775807 < s.size + DS.size := by omega
  have F3 : ¬ 9223372036854775807 < (s ++ DS).size + ByteArray.size ⟨#[112]⟩ := by
    have : ByteArray.size ⟨#[112]⟩ = 1 := rfl
    rw [ByteArray.size_append]; omega
  have F6 : ¬ 9223372036854775807 < (s ++ DS ++ ⟨#[112]⟩).size + KS.size := by
    have : ByteArray.size ⟨#[112]⟩ = 1 := rfl
    simp only [ByteArray.size_append]; omega
  clear zs zD zK
  go_enter Tryz.func163, Tryz.ntmps163
  cases ms
  · have hs' : s = ⟨#[]⟩ := hs
    have hh := Lib.hid hs'
    clear hs hs'
    go_upto_region 4 with (first | (go_at_call 137; refine (N _).mono ?_; rintro e w' ⟨rfl, rfl⟩) | (go_at_call 190; refine (M _).mono ?_; rintro e w' ⟨rfl, rfl⟩))
    rw [← hh.out]
    clear hh
    go_wp2_with (first | (go_at_call 137; refine (N _).mono ?_; rintro e w' ⟨rfl, rfl⟩) | (go_at_call 191; refine (Q _).mono ?_; rintro e w' ⟨rfl, rfl⟩) | (go_at_call 192; first | ((with_reducible refine (D _).mono ?_); rintro e w1 ⟨rfl, hb1⟩) | ((with_reducible refine (K _).mono ?_); rintro e w2 ⟨rfl, hb2⟩)))
    go_ret
    exact ⟨rfl, hb1.trans (hb2.mono hb1.size)⟩
  · have hs' : s = ⟨#[45]⟩ := hs
    have hh := Lib.hid hs'
    clear hs hs'
    go_upto_region 4 with (first | (go_at_call 137; refine (N _).mono ?_; rintro e w' ⟨rfl, rfl⟩) | (go_at_call 190; refine (M _).mono ?_; rintro e w' ⟨rfl, rfl⟩))
    rw [← hh.out]
    clear hh
    go_wp2_with (first | (go_at_call 137; refine (N _).mono ?_; rintro e w' ⟨rfl, rfl⟩) | (go_at_call 191; refine (Q _).mono ?_; rintro e w' ⟨rfl, rfl⟩) | (go_at_call 192; first | ((with_reducible refine (D _).mono ?_); rintro e w1 ⟨rfl, hb1⟩) | ((with_reducible refine (K _).mono ?_); rintro e w2 ⟨rfl, hb2⟩)))
    go_ret
    exact ⟨rfl, hb1.trans (hb2.mono hb1.size)⟩
theorem Text_any {b : Nat} (hb : okW b) (w : World) : Calls Tryz.prog 163 #[.float .f64 b] w fun e w' => e = .returned (.string (textB b)) ∧ Below w.heap.size w w' := by
  unfold textB
  by_cases hn : nanB b = true
  · rw [if_pos hn]
    exact (Text_nan hb hn w).mono fun e w' h => ⟨h.1, h.2 ▸ Below.refl _ _⟩
  · rw [if_neg hn]
    have N := NaN_any b
    rw [show nanB b = false by simpa using hn] at N
    have I := infB_shl b
    by_cases hi : rung b = 9218868437227405312
    · rw [if_pos hi]
      rw [decide_eq_true hi] at I
      exact (Text_inf (s := signS b) (ms := sgn b) N (minus_any hb) rfl I w).mono fun e w' h => ⟨h.1, h.2 ▸ Below.refl _ _⟩
    · rw [if_neg hi]
      rw [decide_eq_false hi] at I
      have Q := @parts_any b
      rw [partsV_eq] at Q
      have ho := oddW_lt b
      have he := expW_in b
      generalize oddW b = n at *
      generalize expW b = E at *
      by_cases hneg : E < 0
      · obtain ⟨k, rfl, hk⟩ : ∃ k : Nat, E = -(k : Int) ∧ 1 ≤ k ∧ k < 9223372036854775808 := ⟨(-E).toNat, by omega, by omega, by omega⟩
        have e2 : expS (-(k : Int)) = ⟨#[45]⟩ ++ fstrL (digL k) := by unfold expS; rw [if_pos hneg]; simp
        rw [e2, ← ByteArray.append_assoc]
        exact Text_low (s := signS b) (ms := sgn b) N (minus_any hb) rfl I Q (Digits_any (by omega)) (Digits_any (by omega)) (digits_size (by omega)) (digits_size (by omega)) hk w
      · obtain ⟨k, rfl⟩ : ∃ k : Nat, E = (k : Int) := ⟨E.toNat, by omega⟩
        have e2 : expS (k : Int) = fstrL (digL k) := by unfold expS; rw [if_neg hneg]; simp
        rw [e2]
        exact Text_high (s := signS b) (ms := sgn b) N (minus_any hb) rfl I Q (Digits_any (by omega)) (Digits_any (by omega)) (digits_size (by omega)) (digits_size (by omega)) (by omega) w
end Go.Proofs.YtekojglcbalhnaaGreatDoor

/-
  Expressions as they lie in memory: a tree, and what a world holds of it; how many parts.
  Contracts of basculeref08's Depth, Parts, Small.
  basculeref08.Small over trees of expressions.
-/
import Derived.Test.YtmbjmibjobpdgaaM01
namespace Go.Proofs.Ytmbjmibjobpdgaa
open Go.RowKit

/-- An expression: its kind, its name, its constant, its names, and 'm' Kids. -/
inductive ET
  | bad
  | mk (k : Int) (s : ByteArray) (v : VT) (c : Nat) (ns : Nat → ByteArray) (m : Nat) (xs : Nat → ET)
def efields (k : Int) (s : ByteArray) (a0 a1 a2 a3 a4 a5 : Value) (A : Option Addr) (c ca : Nat) (B : Option Addr) (m cb : Nat) : Array Value := #[.int .i64 k, .string s, a0, a1, a2, a3, a4, a5, .slice A c ca, .slice B m cb]
def TenAt (w : World) (g o : Nat) (cs : Array Value) : Prop := ∀ j, j < 10 → w.cell? ⟨g, o + j, none⟩ = cs[j]?
/-- An expression by value is this tree. -/
inductive EVal (w : World) (lim : Nat) : Array Value → ET → Prop
  | mk (k : Int) (s : ByteArray) (a0 a1 a2 a3 a4 a5 : Value) (v : VT) (A : Option Addr) (c ca : Nat) (B : Option Addr) (m cb : Nat) (ns : Nat → ByteArray) (xs : Nat → ET) (vs : Nat → Array Value)
      (hk : -9223372036854775808 ≤ k ∧ k ≤ 9223372036854775807) (hs : s.size ≤ maxLen) (hv : Val w lim #[a0, a1, a2, a3, a4, a5] v) (hc : c ≤ ca ∧ ca ≤ maxLen) (hm : m ≤ cb ∧ cb ≤ maxLen)
      (hns : Strs w lim A c ns)
      (hB : 0 < m → ∃ g o, B = some ⟨g, o, none⟩ ∧ g < lim ∧ ∀ i, i < m → TenAt w g (o + i * 10) (vs i))
      (hxs : ∀ i, i < m → EVal w lim (vs i) (xs i)) :
      EVal w lim (efields k s a0 a1 a2 a3 a4 a5 A c ca B m cb) (.mk k s v c ns m xs)

theorem EVal.keep {w w' : World} {lim : Nat} {v : Array Value} {t : ET} (h : EVal w lim v t) (hw : ∀ g o, g < lim → w'.cell? ⟨g, o, none⟩ = w.cell? ⟨g, o, none⟩) : EVal w' lim v t := by
  induction h with
  | mk k s a0 a1 a2 a3 a4 a5 v A c ca B m cb ns xs vs hk hs hv hc hm hns hB hxs ih =>
    refine .mk k s a0 a1 a2 a3 a4 a5 v A c ca B m cb ns xs vs hk hs (hv.keep hw) hc hm (fun h0 => ?_) (fun h0 => ?_) (fun i hi => ih i hi)
    · obtain ⟨g, o, e, hg, hx⟩ := hns h0
      exact ⟨g, o, e, hg, fun i hi => ⟨(hw _ _ hg).trans (hx i hi).1, (hx i hi).2⟩⟩
    · obtain ⟨g, o, e, hg, hx⟩ := hB h0
      exact ⟨g, o, e, hg, fun i hi j hj => (hw _ _ hg).trans (hx i hi j hj)⟩
theorem EVal.stay {w w' : World} {lim : Nat} {v : Array Value} {t : ET} (h : EVal w lim v t) (hb : Below lim w w') : EVal w' lim v t :=
  h.keep fun g o hg => hb.cell (p := ⟨g, o, none⟩) hg
theorem EVal.mono {w : World} {lim lim' : Nat} {v : Array Value} {t : ET} (h : EVal w lim v t) (hl : lim ≤ lim') : EVal w lim' v t := by
  induction h with
  | mk k s a0 a1 a2 a3 a4 a5 v A c ca B m cb ns xs vs hk hs hv hc hm hns hB hxs ih =>
    refine .mk k s a0 a1 a2 a3 a4 a5 v A c ca B m cb ns xs vs hk hs (hv.mono hl) hc hm (fun h0 => ?_) (fun h0 => ?_) (fun i hi => ih i hi)
    · obtain ⟨g, o, e, hg, hx⟩ := hns h0
      exact ⟨g, o, e, by omega, hx⟩
    · obtain ⟨g, o, e, hg, hx⟩ := hB h0
      exact ⟨g, o, e, by omega, hx⟩
theorem EVal.ten {w : World} {lim : Nat} {v : Array Value} {t : ET} (h : EVal w lim v t) : ∃ b0 b1 b2 b3 b4 b5 b6 b7 b8 b9, v = #[b0, b1, b2, b3, b4, b5, b6, b7, b8, b9] := by
  cases h; exact ⟨_, _, _, _, _, _, _, _, _, _, rfl⟩
theorem TenAt.cells {w : World} {g o : Nat} {b0 b1 b2 b3 b4 b5 b6 b7 b8 b9 : Value} (h : TenAt w g o #[b0, b1, b2, b3, b4, b5, b6, b7, b8, b9]) :
    w.cell? ⟨g, o, none⟩ = some b0 ∧ w.cell? ⟨g, o + 1, none⟩ = some b1 ∧ w.cell? ⟨g, o + 2, none⟩ = some b2 ∧ w.cell? ⟨g, o + 3, none⟩ = some b3 ∧ w.cell? ⟨g, o + 4, none⟩ = some b4 ∧ w.cell? ⟨g, o + 5, none⟩ = some b5 ∧ w.cell? ⟨g, o + 6, none⟩ = some b6 ∧ w.cell? ⟨g, o + 7, none⟩ = some b7 ∧ w.cell? ⟨g, o + 8, none⟩ = some b8 ∧ w.cell? ⟨g, o + 9, none⟩ = some b9 :=
  ⟨h 0 (by omega), h 1 (by omega), h 2 (by omega), h 3 (by omega), h 4 (by omega), h 5 (by omega), h 6 (by omega), h 7 (by omega), h 8 (by omega), h 9 (by omega)⟩
theorem TenAt.keep {w w' : World} {g o : Nat} {v : Array Value} (h : TenAt w g o v) (hw : ∀ o, w'.cell? ⟨g, o, none⟩ = w.cell? ⟨g, o, none⟩) : TenAt w' g o v := fun j hj => (hw _).trans (h j hj)
theorem cells_e : Try.prog.cellsOf 56 = 10 := by kernel_rfl

def ecntV : ET → Int → Int
  | .bad, _ => 0
  | .mk _ _ _ _ _ m xs, n => min (cntGo (fun i n => ecntV (xs i) n) m 0 (n + 1)) 500
theorem ecntV_in : ∀ (t : ET) (n : Int), 0 ≤ n → n < 500 → 0 ≤ ecntV t n ∧ ecntV t n ≤ 500 := by
  intro t
  induction t with
  | bad => intro n _ _; exact ⟨Int.le_refl _, by show (0 : Int) ≤ 500; omega⟩
  | mk k s v c ns m xs ih =>
    intro n h0 h5
    have := cntGo_in (fun i n => ecntV (xs i) n) (fun i n a b => ih i n a b) m 0 (n + 1) (by omega) (by omega)
    unfold ecntV
    omega
set_option maxRecDepth 20000 in
set_option maxHeartbeats 1000000 in
theorem ecount_any : ∀ (t : ET) (v : Array Value) (n : Int) (w : World), EVal w w.heap.size v t → 0 ≤ n → n < 500 →
    Calls Try.prog 78 #[.agg v, .int .i64 n] w fun e w' => e = .returned (.int .i64 (ecntV t n)) ∧ Below w.heap.size w w' := by
  intro t
  induction t with
  | bad => intro v n w hv; cases hv
  | mk k s v0 c ns m xs ih =>
    intro v n w hv h0 h5
    cases hv with
    | mk _ _ a0 a1 a2 a3 a4 a5 _ A _ ca B _ cb _ _ vs hk hs hv hc hm hns hB hxs =>
      have hmx : m ≤ 9223372036854775807 := by have := hm; unfold maxLen at this; omega
      unfold efields
      clear hv
      go_enter Try.func78, Try.ntmps78
      go_wp2_with fail
      obtain ⟨W1, hW1⟩ : ∃ W1, W1 = w.alloc (.cells #[.int .i64 k, .string s, a0, a1, a2, a3, a4, a5, .slice A c ca, .slice B m cb] 56) := ⟨_, rfl⟩
      have hbW : Below w.heap.size w W1 := by rw [hW1]; exact (Below.refl _ _).alloc (Nat.le_refl _) _
      have hsz : W1.heap.size = w.heap.size + 1 := by rw [hW1]; simp
      have h9c : W1.cell? ⟨w.heap.size, 9, none⟩ = some (.slice B m cb) := by rw [hW1, World.cell?_alloc_new]; rfl
      rw [← hW1]
      have HW := Lib.hid (And.intro hW1 hsz)
      have H9 := Lib.hid h9c
      clear hW1 hsz h9c
      go_loopw [1, 5] (fun nv iv wr => ∃ (i : Nat) (q : Int), i ≤ m ∧ iv = .int .i64 i ∧ nv = .int .i64 q ∧ 0 ≤ q ∧ q ≤ 500 ∧ Hid (cntGo (fun i n => ecntV (xs i) n) (m - i) i q = cntGo (fun i n => ecntV (xs i) n) m 0 (n + 1)) ∧ Below W1.heap.size W1 wr) (fun _ iv _ => m - (intOf iv).toNat)
      case atStart => exact ⟨0, n + 1, Nat.zero_le _, rfl, rfl, by omega, by omega, Lib.hid rfl, Below.refl _ _⟩
      case round =>
        obtain ⟨i, q, hi, rfl, rfl, hq0, hq5, hh, hb⟩ := hrel
        have h9r : wr.cell? ⟨w.heap.size, 9, none⟩ = some (.slice B m cb) := (hb.cell (p := ⟨w.heap.size, 9, none⟩) (by have := HW.out.2; simp; omega)).trans H9.out
        by_cases hlt : i < m
        · by_cases hq : q < 500
          · obtain ⟨g, o, rfl, hg, hx⟩ := hB (by omega)
            have hten := hx i hlt
            have hvi := hxs i hlt
            generalize vs i = vi at *
            have htenr : TenAt wr g (o + i * 10) vi := hten.keep fun o => (hb.cell (p := ⟨g, o, none⟩) (show g < W1.heap.size by have := HW.out.2; omega)).trans (hbW.cell (p := ⟨g, o, none⟩) hg)
            have hvr : EVal wr wr.heap.size vi (xs i) := ((hvi.stay hbW).mono (by have := HW.out.2; omega)).stay hb |>.mono hb.size
            obtain ⟨b0, b1, b2, b3, b4, b5, b6, b7, b8, b9, rfl⟩ := hvi.ten
            obtain ⟨c0, c1, c2, c3, c4, c5, c6, c7, c8, c9⟩ := htenr.cells
            have hcall := ih i _ q wr hvr hq0 hq
            have HB := Lib.hid hB
            have hin := ecntV_in (xs i) q hq0 hq
            have hh' : Hid (cntGo (fun i n => ecntV (xs i) n) (m - (i + 1)) (i + 1) (ecntV (xs i) q) = cntGo (fun i n => ecntV (xs i) n) m 0 (n + 1)) := Lib.hid (by
              rw [← hh.out, show m - i = (m - (i + 1)) + 1 by omega]
              conv => rhs; unfold cntGo
              rw [if_pos hq])
            generalize ecntV (xs i) q = z at *
            clear hB hx hten htenr hvi hvr ih hxs hns hh
            go_wp2_with (go_at_call 78; refine hcall.mono ?_; rintro e w' ⟨rfl, hb'⟩)
            go_roundw
            case rel => exact ⟨i + 1, z, by omega, by go_num, rfl, hin.1, hin.2, hh', hb.trans (hb'.mono hb.size)⟩
            case measure => simp [intOf]; omega
          · have R : Hid (ecntV (.mk k s v0 c ns m xs) n = q) := Lib.hid (by
              have e : cntGo (fun i n => ecntV (xs i) n) m 0 (n + 1) = q := by
                rw [← hh.out, show m - i = (m - (i + 1)) + 1 by omega]
                unfold cntGo
                rw [if_neg hq]
              unfold ecntV
              rw [e]; omega)
            have hfin : Below w.heap.size w wr := hbW.trans (hb.mono (by have := HW.out.2; omega))
            clear hh hns hB hxs ih
            go_wp2_with fail
            go_ret
            exact ⟨by rw [R.out]; rfl, hfin⟩
        · have R : Hid (ecntV (.mk k s v0 c ns m xs) n = q) := Lib.hid (by
            have e : cntGo (fun i n => ecntV (xs i) n) m 0 (n + 1) = q := by
              rw [← hh.out, show m - i = 0 by omega]
              rfl
            unfold ecntV
            rw [e]; omega)
          have hfin : Below w.heap.size w wr := hbW.trans (hb.mono (by have := HW.out.2; omega))
          clear hh hns hB hxs ih
          go_wp2_with fail
          go_ret
          exact ⟨by rw [R.out]; rfl, hfin⟩
end Go.Proofs.Ytmbjmibjobpdgaa
namespace Go.Proofs.Ytmbjmibjobpdgaa
open Go.RowKit

def edepV : ET → Int → Int
  | .bad, _ => 1
  | .mk _ _ _ _ _ m xs, far => (if 0 < far then maxGo (fun i => edepV (xs i) (far - 1)) m 0 0 else 0) + 1
theorem edepV_in : ∀ (t : ET) (far : Int), 1 ≤ edepV t far ∧ edepV t far ≤ max far 0 + 1 := by
  intro t
  induction t with
  | bad => intro far; unfold edepV; omega
  | mk k s v c ns m xs ih =>
    intro far
    unfold edepV
    by_cases h : 0 < far
    · rw [if_pos h]
      have := maxGo_in (fun i => edepV (xs i) (far - 1)) (b := far) (fun i => by have := ih i (far - 1); omega) m 0 0 (by omega) (by omega)
      omega
    · rw [if_neg h]; omega
set_option maxRecDepth 20000 in
set_option maxHeartbeats 1000000 in
theorem edepth_any : ∀ (t : ET) (v : Array Value) (far : Int) (w : World), EVal w w.heap.size v t → 0 ≤ far → far ≤ 1000 →
    Calls Try.prog 57 #[.agg v, .int .i64 far] w fun e w' => e = .returned (.int .i64 (edepV t far)) ∧ Below w.heap.size w w' := by
  intro t
  induction t with
  | bad => intro v far w hv; cases hv
  | mk k s v0 c ns m xs ih =>
    intro v far w hv h0 h5
    cases hv with
    | mk _ _ a0 a1 a2 a3 a4 a5 _ A _ ca B _ cb _ _ vs hk hs hv hc hm hns hB hxs =>
      have hmx : m ≤ 9223372036854775807 := by have := hm; unfold maxLen at this; omega
      have hall := edepV_in (.mk k s v0 c ns m xs) far
      have hitem := fun i => edepV_in (xs i) (far - 1)
      unfold efields
      clear hv
      go_enter Try.func57, Try.ntmps57
      go_wp2_with fail
      obtain ⟨W1, hW1⟩ : ∃ W1, W1 = w.alloc (.cells #[.int .i64 k, .string s, a0, a1, a2, a3, a4, a5, .slice A c ca, .slice B m cb] 56) := ⟨_, rfl⟩
      have hbW : Below w.heap.size w W1 := by rw [hW1]; exact (Below.refl _ _).alloc (Nat.le_refl _) _
      have hsz : W1.heap.size = w.heap.size + 1 := by rw [hW1]; simp
      have h9c : W1.cell? ⟨w.heap.size, 9, none⟩ = some (.slice B m cb) := by rw [hW1, World.cell?_alloc_new]; rfl
      rw [← hW1]
      have HW := Lib.hid (And.intro hW1 hsz)
      have H9 := Lib.hid h9c
      have HI := Lib.hid hitem
      have HA := Lib.hid hall
      clear hW1 hsz h9c hitem hall
      go_loopw [5, 6] (fun nv iv wr => ∃ (i : Nat) (q : Int), i ≤ m ∧ iv = .int .i64 i ∧ nv = .int .i64 q ∧ 0 ≤ q ∧ q ≤ 1000 ∧ Hid (edepV (.mk k s v0 c ns m xs) far = (if 0 < far then maxGo (fun i => edepV (xs i) (far - 1)) (m - i) i q else q) + 1) ∧ Below W1.heap.size W1 wr) (fun _ iv _ => m - (intOf iv).toNat)
      case atStart => exact ⟨0, 0, Nat.zero_le _, rfl, rfl, by omega, by omega, Lib.hid rfl, Below.refl _ _⟩
      case round =>
        obtain ⟨i, q, hi, rfl, rfl, hq0, hq5, hh, hb⟩ := hrel
        have h9r : wr.cell? ⟨w.heap.size, 9, none⟩ = some (.slice B m cb) := (hb.cell (p := ⟨w.heap.size, 9, none⟩) (by have := HW.out.2; simp; omega)).trans H9.out
        by_cases hlt : i < m
        · by_cases hq : 0 < far
          · obtain ⟨g, o, rfl, hg, hx⟩ := hB (by omega)
            have hten := hx i hlt
            have hvi := hxs i hlt
            generalize vs i = vi at *
            have htenr : TenAt wr g (o + i * 10) vi := hten.keep fun o => (hb.cell (p := ⟨g, o, none⟩) (show g < W1.heap.size by have := HW.out.2; omega)).trans (hbW.cell (p := ⟨g, o, none⟩) hg)
            have hvr : EVal wr wr.heap.size vi (xs i) := ((hvi.stay hbW).mono (by have := HW.out.2; omega)).stay hb |>.mono hb.size
            obtain ⟨b0, b1, b2, b3, b4, b5, b6, b7, b8, b9, rfl⟩ := hvi.ten
            obtain ⟨c0, c1, c2, c3, c4, c5, c6, c7, c8, c9⟩ := htenr.cells
            have hcall := ih i _ (far - 1) wr hvr (by omega) (by omega)
            have hin := HI.out i
            have hh' : Hid (edepV (.mk k s v0 c ns m xs) far = (if 0 < far then maxGo (fun i => edepV (xs i) (far - 1)) (m - (i + 1)) (i + 1) (max q (edepV (xs i) (far - 1))) else max q (edepV (xs i) (far - 1))) + 1) := Lib.hid (by
              rw [hh.out, if_pos hq, if_pos hq, show m - i = (m - (i + 1)) + 1 by omega]
              rfl)
            generalize edepV (xs i) (far - 1) = z at *
            have hz : z ≤ 1000 := by omega
            clear hB hx hten htenr hvi hvr ih hxs hns hh
            go_wp2_with (go_at_call 57; refine hcall.mono ?_; rintro e w' ⟨rfl, hb'⟩)
            go_roundw
            case rel => exact ⟨i + 1, max q z, by omega, by go_num, by rw [show max q z = if q < z then z else q by split <;> omega], by omega, by omega, hh', hb.trans (hb'.mono hb.size)⟩
            case measure => simp [intOf]; omega
          · have R : Hid (edepV (.mk k s v0 c ns m xs) far = q + 1) := Lib.hid (by rw [hh.out, if_neg hq])
            have hfin : Below w.heap.size w wr := hbW.trans (hb.mono (by have := HW.out.2; omega))
            clear hh hns hB hxs ih
            go_wp2_with fail
            go_ret
            exact ⟨by rw [R.out]; rfl, hfin⟩
        · have R : Hid (edepV (.mk k s v0 c ns m xs) far = q + 1) := Lib.hid (by
            rw [hh.out, show m - i = 0 by omega]
            split <;> rfl)
          have hfin : Below w.heap.size w wr := hbW.trans (hb.mono (by have := HW.out.2; omega))
          clear hh hns hB hxs ih
          go_wp2_with fail
          go_ret
          exact ⟨by rw [R.out]; rfl, hfin⟩
set_option maxRecDepth 20000 in
theorem eparts_any {t : ET} {v : Array Value} {w : World} (hv : EVal w w.heap.size v t) : Calls Try.prog 58 #[.agg v] w fun e w' => e = .returned (.int .i64 (ecntV t 0)) ∧ Below w.heap.size w w' := by
  have hbW : Below w.heap.size w (w.alloc (.cells v 56)) := (Below.refl _ _).alloc (Nat.le_refl _) _
  have C := ecount_any t v 0 (w.alloc (.cells v 56)) ((hv.stay hbW).mono hbW.size) (by omega) (by omega)
  obtain ⟨b0, b1, b2, b3, b4, b5, b6, b7, b8, b9, rfl⟩ := hv.ten
  clear hv
  go_enter Try.func58, Try.ntmps58
  go_wp2_with (go_at_call 78; refine C.mono ?_; rintro e w' ⟨rfl, hb'⟩)
  go_ret
  exact ⟨rfl, hbW.trans (hb'.mono hbW.size)⟩
end Go.Proofs.Ytmbjmibjobpdgaa
namespace Go.Proofs.Ytmbjmibjobpdgaa
open Go.RowKit

theorem ten_stays {w : World} {b0 b1 b2 b3 b4 b5 b6 b7 b8 b9 : Value} {t : TypeId} : Hid (∀ w', Below (w.alloc (.cells #[b0, b1, b2, b3, b4, b5, b6, b7, b8, b9] t)).heap.size (w.alloc (.cells #[b0, b1, b2, b3, b4, b5, b6, b7, b8, b9] t)) w' →
    w'.cell? ⟨w.heap.size, 0, none⟩ = some b0 ∧ w'.cell? ⟨w.heap.size, 1, none⟩ = some b1 ∧ w'.cell? ⟨w.heap.size, 2, none⟩ = some b2 ∧ w'.cell? ⟨w.heap.size, 3, none⟩ = some b3 ∧ w'.cell? ⟨w.heap.size, 4, none⟩ = some b4 ∧ w'.cell? ⟨w.heap.size, 5, none⟩ = some b5 ∧ w'.cell? ⟨w.heap.size, 6, none⟩ = some b6 ∧ w'.cell? ⟨w.heap.size, 7, none⟩ = some b7 ∧ w'.cell? ⟨w.heap.size, 8, none⟩ = some b8 ∧ w'.cell? ⟨w.heap.size, 9, none⟩ = some b9) := Lib.hid fun w' hb => by
  have K := fun o => hb.cell (p := ⟨w.heap.size, o, none⟩) (by simp)
  refine ⟨?_, ?_, ?_, ?_, ?_, ?_, ?_, ?_, ?_, ?_⟩ <;> (rw [K, World.cell?_alloc_new]; rfl)
/-- Small enough to be gone over. -/
def smallE : ET → Bool
  | .bad => false
  | .mk k s v c ns m xs => decide (edepV (.mk k s v c ns m xs) 40 ≤ 30) && (decide (ecntV (.mk k s v c ns m xs) 0 < 500) && (smallV v && (List.range m).all fun i => smallE (xs i)))
set_option maxRecDepth 20000 in
set_option maxHeartbeats 2000000 in
theorem Small_e : ∀ (t : ET) (v : Array Value) (w : World), EVal w w.heap.size v t →
    Calls Try.prog 27 #[.agg v] w fun e w' => e = .returned (.bool (smallE t)) ∧ Below w.heap.size w w' := by
  intro t
  induction t with
  | bad => intro v w h; cases h
  | mk k s v0 c ns m xs ih =>
    intro v w h
    have hall := h
    cases h with
    | mk _ _ a0 a1 a2 a3 a4 a5 _ A _ ca B _ cb _ _ vs hk hs hv hc hm hns hB hxs =>
      have hmx : m ≤ 9223372036854775807 := by have := hm; unfold maxLen at this; omega
      unfold efields at *
      obtain ⟨W1, hW1⟩ : ∃ W1, W1 = w.alloc (.cells #[.int .i64 k, .string s, a0, a1, a2, a3, a4, a5, .slice A c ca, .slice B m cb] 56) := ⟨_, rfl⟩
      have hbW : Below w.heap.size w (w.alloc (.cells #[.int .i64 k, .string s, a0, a1, a2, a3, a4, a5, .slice A c ca, .slice B m cb] 56)) := (Below.refl _ _).alloc (Nat.le_refl _) _
      have hvW := (hall.stay hbW).mono hbW.size
      have D := edepth_any _ _ 40 _ hvW (by omega) (by omega)
      have P := fun w' (hb : Below _ _ w') => eparts_any ((hvW.stay hb).mono hb.size)
      have S := fun w' (hb : Below _ _ w') => small_any ((((hv.stay hbW).mono hbW.size).stay hb).mono hb.size)
      have HK := ten_stays (w := w) (b0 := .int .i64 k) (b1 := .string s) (b2 := a0) (b3 := a1) (b4 := a2) (b5 := a3) (b6 := a4) (b7 := a5) (b8 := .slice A c ca) (b9 := .slice B m cb) (t := 56)
      have HP := Lib.hid P
      have HS := Lib.hid S
      have HW1 := Lib.hid hW1
      have HFIN : Hid (∀ w', Below W1.heap.size W1 w' → Below w.heap.size w w') := Lib.hid fun w' h => by rw [hW1] at h; exact hbW.trans (h.mono hbW.size)
      have HCEL : Hid (∀ w', Below W1.heap.size W1 w' → w'.cell? ⟨w.heap.size, 9, none⟩ = some (.slice B m cb)) := Lib.hid fun w' h => by
        rw [hW1] at h
        obtain ⟨_, _, _, _, _, _, _, _, _, q9⟩ := HK.out w' h
        exact q9
      obtain ⟨T, hT0⟩ : ∃ T, T = smallE (.mk k s v0 c ns m xs) := ⟨_, rfl⟩
      rw [← hT0]
      unfold smallE at hT0
      have d1 := edepV_in (.mk k s v0 c ns m xs) 40
      have p1 := ecntV_in (.mk k s v0 c ns m xs) 0 (by omega) (by omega)
      generalize edepV (.mk k s v0 c ns m xs) 40 = d at *
      generalize ecntV (.mk k s v0 c ns m xs) 0 = p at *
      clear hall hvW P S hW1 hv hns
      by_cases hd : d ≤ 30
      · have td : decide (30 < d) = false := by simp; omega
        rw [decide_eq_true hd, Bool.true_and] at hT0
        by_cases hp : p < 500
        · have tp : decide (500 ≤ p) = false := by simp; omega
          rw [decide_eq_true hp, Bool.true_and] at hT0
          cases hsv : smallV v0 with
          | false =>
            have R : Hid (T = false) := Lib.hid (by rw [hT0, hsv]; rfl)
            rw [hsv] at HS
            clear hT0 hsv ih hxs hB hbW
            go_enter Try.func27, Try.ntmps27
            go_wp2_with (first
              | (go_at_call 57; refine D.mono ?_; rintro e w1 ⟨rfl, hb1⟩; obtain ⟨c0, c1, c2, c3, c4, c5, c6, c7, c8, c9⟩ := HK.out w1 hb1)
              | (go_at_call 58; refine (HP.out w1 hb1).mono ?_; rintro e w2 ⟨rfl, hb2⟩; have hb3 := hb1.trans (hb2.mono hb1.size); obtain ⟨e0, e1, e2, e3, e4, e5, e6, e7, e8, e9⟩ := HK.out w2 hb3)
              | (go_at_call 26; refine (HS.out w2 hb3).mono ?_; rintro e w3 ⟨rfl, hb4⟩))
            go_ret
            exact ⟨by rw [R.out]; rfl, HFIN.out _ (by rw [HW1.out]; exact hb3.trans (hb4.mono hb3.size))⟩
          | true =>
            have HT : Hid (T = (List.range m).all fun i => smallE (xs i)) := Lib.hid (by rw [hT0, hsv, Bool.true_and])
            rw [hsv] at HS
            clear hT0 hsv hbW
            go_enter Try.func27, Try.ntmps27
            go_wp2_with (first
              | (go_at_call 57; refine D.mono ?_; rintro e w1 ⟨rfl, hb1⟩; obtain ⟨c0, c1, c2, c3, c4, c5, c6, c7, c8, c9⟩ := HK.out w1 hb1)
              | (go_at_call 58; refine (HP.out w1 hb1).mono ?_; rintro e w2 ⟨rfl, hb2⟩; have hb3 := hb1.trans (hb2.mono hb1.size); obtain ⟨e0, e1, e2, e3, e4, e5, e6, e7, e8, e9⟩ := HK.out w2 hb3)
              | (go_at_call 26; refine (HS.out w2 hb3).mono ?_; rintro e w3 ⟨rfl, hb4⟩))
            have hb5 := hb3.trans (hb4.mono hb3.size)
            rw [← HW1.out] at hb5
            clear hb1 hb2 hb3 hb4 c0 c1 c2 c3 c4 c5 c6 c7 c8 c9 e0 e1 e2 e3 e4 e5 e6 e7 e8 e9 D HP HS
            go_loopw [3] (fun iv wr => ∃ i : Nat, i ≤ m ∧ iv = .int .i64 i ∧ Hid (∀ j, j < i → smallE (xs j) = true) ∧ Below W1.heap.size W1 wr) (fun iv _ => m - (intOf iv).toNat)
            case atStart => exact ⟨0, Nat.zero_le _, by go_num, Lib.hid fun j hj => absurd hj (by omega), hb5⟩
            case round =>
              obtain ⟨i, hi, rfl, hh, hbS⟩ := hrel
              have n9 := HCEL.out _ hbS
              have hfin := HFIN.out _ hbS
              by_cases hlt : i < m
              · obtain ⟨g, o, rfl, hg, hx⟩ := hB (by omega)
                have hvr := ((hxs i hlt).stay hfin).mono hfin.size
                have hcall := ih i (vs i) _ hvr
                have hten := (hx i hlt).keep fun o => hfin.cell (p := ⟨g, o, none⟩) hg
                obtain ⟨e0, e1, e2, e3, e4, e5, e6, e7, e8, e9, hv0⟩ := (hxs i hlt).ten
                rw [hv0] at hten hcall
                obtain ⟨x0, x1, x2, x3, x4, x5, x6, x7, x8, x9⟩ := hten.cells
                have yes : smallE (xs i) = true → Hid (∀ j, j < i + 1 → smallE (xs j) = true) := fun hy => Lib.hid fun j hj => by
                  by_cases e : j = i
                  · subst e; exact hy
                  · exact hh.out j (by omega)
                have no : smallE (xs i) = false → Hid (T = false) := fun hn => Lib.hid (by
                  rw [HT.out, List.all_eq_false.2 ⟨i, List.mem_range.2 hlt, by rw [hn]; simp⟩])
                clear hv0 hten hvr hx hB ih hxs hh
                cases hr : smallE (xs i)
                · have N := no hr
                  rw [hr] at hcall
                  clear yes no hr HT
                  go_wp2_with (go_at_call 27; refine hcall.mono ?_; rintro e w5 ⟨rfl, hb5⟩)
                  go_ret
                  exact ⟨by rw [N.out]; rfl, hfin.trans (hb5.mono hfin.size)⟩
                · have Y := yes hr
                  rw [hr] at hcall
                  clear yes no hr HT
                  go_wp2_with (go_at_call 27; refine hcall.mono ?_; rintro e w5 ⟨rfl, hb5⟩)
                  go_roundw
                  case rel => exact ⟨i + 1, by omega, by go_num, Y, hbS.trans (hb5.mono hbS.size)⟩
                  case measure => simp [intOf]; omega
              · have R : Hid (T = true) := Lib.hid (by rw [HT.out, List.all_eq_true.2 fun j hj => hh.out j (by have := List.mem_range.1 hj; omega)])
                clear hh HT ih hxs hB
                go_wp2_with fail
                go_ret
                exact ⟨by rw [R.out]; rfl, hfin⟩
        · have tp : decide (500 ≤ p) = true := by simp; omega
          have R : Hid (T = false) := Lib.hid (by rw [hT0, decide_eq_false hp]; rfl)
          clear hT0 ih hxs hB hbW hp
          go_enter Try.func27, Try.ntmps27
          go_wp2_with (first
            | (go_at_call 57; refine D.mono ?_; rintro e w1 ⟨rfl, hb1⟩; obtain ⟨c0, c1, c2, c3, c4, c5, c6, c7, c8, c9⟩ := HK.out w1 hb1)
            | (go_at_call 58; refine (HP.out w1 hb1).mono ?_; rintro e w2 ⟨rfl, hb2⟩; have hb3 := hb1.trans (hb2.mono hb1.size)))
          go_ret
          exact ⟨by rw [R.out]; rfl, HFIN.out _ (by rw [HW1.out]; exact hb3)⟩
      · have td : decide (30 < d) = true := by simp; omega
        have R : Hid (T = false) := Lib.hid (by rw [hT0, decide_eq_false hd]; rfl)
        clear hT0 ih hxs hB hbW hd
        go_enter Try.func27, Try.ntmps27
        go_wp2_with (go_at_call 57; refine D.mono ?_; rintro e w1 ⟨rfl, hb1⟩)
        go_ret
        exact ⟨by rw [R.out]; rfl, HFIN.out _ (by rw [HW1.out]; exact hb1)⟩
end Go.Proofs.Ytmbjmibjobpdgaa

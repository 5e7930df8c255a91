/-
  Contracts of basculeref04's Depth, Parts, Small.
-/
import Derived.Test.YtcmohggnehkjeaaGreatVt
namespace Go.Proofs.YtcmohggnehkjeaaGreat
open Go.RowKit

def maxGo (g : Nat → Int) : Nat → Nat → Int → Int
  | 0, _, n => n
  | r + 1, i, n => maxGo g r (i + 1) (max n (g i))
theorem maxGo_in (g : Nat → Int) {b : Int} (hg : ∀ i, 1 ≤ g i ∧ g i ≤ b) : ∀ r i n, 0 ≤ n → n ≤ b → 0 ≤ maxGo g r i n ∧ maxGo g r i n ≤ b := by
  intro r
  induction r with
  | zero => intro i n h1 h2; exact ⟨h1, h2⟩
  | succ r ih =>
    intro i n h1 h2
    unfold maxGo
    have := hg i
    exact ih _ _ (by omega) (by omega)
def depV : VT → Int → Int
  | .bad, _ => 1
  | .mk _ _ _ _ _ _ m xs, far => (if 0 < far then maxGo (fun i => depV (xs i) (far - 1)) m 0 0 else 0) + 1
theorem depV_in : ∀ (t : VT) (far : Int), 1 ≤ depV t far ∧ depV t far ≤ max far 0 + 1 := by
  intro t
  induction t with
  | bad => intro far; unfold depV; omega
  | mk k n f s c ns m xs ih =>
    intro far
    unfold depV
    by_cases h : 0 < far
    · rw [if_pos h]
      have := maxGo_in (fun i => depV (xs i) (far - 1)) (b := far) (fun i => by have := ih i (far - 1); omega) m 0 0 (by omega) (by omega)
      omega
    · rw [if_neg h]; omega

set_option maxHeartbeats 1000000 in
theorem depth_any : ∀ (t : VT) (v : Array Value) (far : Int) (w : World), Val w w.heap.size v t → 0 ≤ far → far ≤ 1000 →
    Calls Tryz.prog 39 #[.agg v, .int .i64 far] w fun e w' => e = .returned (.int .i64 (depV t far)) ∧ Below w.heap.size w w' := by
  intro t
  induction t with
  | bad => intro v far w hv; cases hv
  | mk k n0 f s c ns m xs ih =>
    intro v far w hv h0 h5
    cases hv with
    | mk _ _ _ _ A _ ca B _ cb _ _ vs hk hn hf hs hc hm hns hB hxs =>
      have hmx : m ≤ 9223372036854775807 := by have := hm; unfold maxLen at this; omega
      have hall := depV_in (.mk k n0 f s c ns m xs) far
      have hitem := fun i => depV_in (xs i) (far - 1)
      unfold fields
      go_enter Tryz.func39, Tryz.ntmps39
      go_wp2_with fail
      obtain ⟨W1, hW1⟩ : ∃ W1, W1 = w.alloc (.cells #[.int .i64 k, .int .i64 n0, .float .f64 f, .string s, .slice A c ca, .slice B m cb] 38) := ⟨_, rfl⟩
      have hbW : Below w.heap.size w W1 := by rw [hW1]; exact (Below.refl _ _).alloc (Nat.le_refl _) _
      have hsz : W1.heap.size = w.heap.size + 1 := by rw [hW1]; simp
      have h5c : W1.cell? ⟨w.heap.size, 5, none⟩ = some (.slice B m cb) := by rw [hW1, World.cell?_alloc_new]; rfl
      rw [← hW1]
      have HW := Lib.hid (And.intro hW1 hsz)
      have H5 := Lib.hid h5c
      have HI := Lib.hid hitem
      have HA := Lib.hid hall
      clear hW1 hsz h5c hitem hall
      go_loopw [5, 6] (fun nv iv wr => ∃ (i : Nat) (q : Int), i ≤ m ∧ iv = .int .i64 i ∧ nv = .int .i64 q ∧ 0 ≤ q ∧ q ≤ 1000 ∧ Hid (depV (.mk k n0 f s c ns m xs) far = (if 0 < far then maxGo (fun i => depV (xs i) (far - 1)) (m - i) i q else q) + 1) ∧ Below W1.heap.size W1 wr) (fun _ iv _ => m - (intOf iv).toNat)
      case atStart => exact ⟨0, 0, Nat.zero_le _, rfl, rfl, by omega, by omega, Lib.hid rfl, Below.refl _ _⟩
      case round =>
        obtain ⟨i, q, hi, rfl, rfl, hq0, hq5, hh, hb⟩ := hrel
        have h5r : wr.cell? ⟨w.heap.size, 5, none⟩ = some (.slice B m cb) := (hb.cell (p := ⟨w.heap.size, 5, none⟩) (by have := HW.out.2; simp; omega)).trans H5.out
        by_cases hlt : i < m
        · by_cases hq : 0 < far
          · obtain ⟨g, o, rfl, hg, hx⟩ := hB (by omega)
            have hsix := hx i hlt
            have hvi := hxs i hlt
            generalize vs i = vi at *
            have hsixr : SixAt wr g (o + i * 6) vi := hsix.keep fun o => (hb.cell (p := ⟨g, o, none⟩) (show g < W1.heap.size by have := HW.out.2; omega)).trans (hbW.cell (p := ⟨g, o, none⟩) hg)
            have hvr : Val wr wr.heap.size vi (xs i) := ((hvi.stay hbW).mono (by have := HW.out.2; omega)).stay hb |>.mono hb.size
            obtain ⟨a0, a1, a2, a3, a4, a5, rfl⟩ := hvi.six
            obtain ⟨c0, c1, c2, c3, c4, c5⟩ := hsixr.cells
            have hcall := ih i _ (far - 1) wr hvr (by omega) (by omega)
            have hin := HI.out i
            have hh' : Hid (depV (.mk k n0 f s c ns m xs) far = (if 0 < far then maxGo (fun i => depV (xs i) (far - 1)) (m - (i + 1)) (i + 1) (max q (depV (xs i) (far - 1))) else max q (depV (xs i) (far - 1))) + 1) := Lib.hid (by
              rw [hh.out, if_pos hq, if_pos hq, show m - i = (m - (i + 1)) + 1 by omega]
              rfl)
            generalize depV (xs i) (far - 1) = z at *
            have hz : z ≤ 1000 := by omega
            clear hB hx hsix hsixr hvi hvr ih hxs hns hh
            go_wp2_with (go_at_call 39; refine hcall.mono ?_; rintro e w' ⟨rfl, hb'⟩)
            go_roundw
            case rel => exact ⟨i + 1, max q z, by omega, by go_num, by rw [show max q z = if q < z then z else q by split <;> omega], by omega, by omega, hh', hb.trans (hb'.mono hb.size)⟩
            case measure => simp [intOf]; omega
          · have R : Hid (depV (.mk k n0 f s c ns m xs) far = q + 1) := Lib.hid (by rw [hh.out, if_neg hq])
            have hfin : Below w.heap.size w wr := hbW.trans (hb.mono (by have := HW.out.2; omega))
            clear hh hns hB hxs ih
            go_wp2_with fail
            go_ret
            exact ⟨by rw [R.out]; rfl, hfin⟩
        · have R : Hid (depV (.mk k n0 f s c ns m xs) far = q + 1) := Lib.hid (by
            rw [hh.out, show m - i = 0 by omega]
            split <;> rfl)
          have hfin : Below w.heap.size w wr := hbW.trans (hb.mono (by have := HW.out.2; omega))
          clear hh hns hB hxs ih
          go_wp2_with fail
          go_ret
          exact ⟨by rw [R.out]; rfl, hfin⟩

/-- A value boxed anew is loaded as it was. -/
theorem vparts_any {t : VT} {v : Array Value} {w : World} (hv : Val w w.heap.size v t) : Calls Tryz.prog 40 #[.agg v] w fun e w' => e = .returned (.int .i64 (cntV t 0)) ∧ Below w.heap.size w w' := by
  have hbW : Below w.heap.size w (w.alloc (.cells v 38)) := (Below.refl _ _).alloc (Nat.le_refl _) _
  have C := count_any t v 0 (w.alloc (.cells v 38)) ((hv.stay hbW).mono hbW.size) (by omega) (by omega)
  obtain ⟨a0, a1, a2, a3, a4, a5, rfl⟩ := hv.six
  clear hv
  go_enter Tryz.func40, Tryz.ntmps40
  go_wp2_with (go_at_call 74; refine C.mono ?_; rintro e w' ⟨rfl, hb'⟩)
  go_ret
  exact ⟨rfl, hbW.trans (hb'.mono hbW.size)⟩
def smallV (t : VT) : Bool := decide (depV t 40 ≤ 30) && decide (cntV t 0 < 500)
theorem small_any {t : VT} {v : Array Value} {w : World} (hv : Val w w.heap.size v t) : Calls Tryz.prog 18 #[.agg v] w fun e w' => e = .returned (.bool (smallV t)) ∧ Below w.heap.size w w' := by
  have hbW : Below w.heap.size w (w.alloc (.cells v 38)) := (Below.refl _ _).alloc (Nat.le_refl _) _
  have hvW := (hv.stay hbW).mono hbW.size
  have D := depth_any t v 40 (w.alloc (.cells v 38)) hvW (by omega) (by omega)
  have P := fun w' (hb : Below (w.alloc (.cells v 38)).heap.size (w.alloc (.cells v 38)) w') => vparts_any ((hvW.stay hb).mono hb.size)
  have K := fun w' (hb : Below (w.alloc (.cells v 38)).heap.size (w.alloc (.cells v 38)) w') o => hb.cell (p := ⟨w.heap.size, o, none⟩) (by simp)
  obtain ⟨a0, a1, a2, a3, a4, a5, rfl⟩ := hv.six
  unfold smallV
  have h1 := depV_in t 40
  have h2 := cntV_in t 0 (by omega) (by omega)
  generalize depV t 40 = d at *
  generalize cntV t 0 = p at *
  clear hv hvW
  have hK : ∀ w', Below (w.alloc (.cells #[a0, a1, a2, a3, a4, a5] 38)).heap.size (w.alloc (.cells #[a0, a1, a2, a3, a4, a5] 38)) w' → w'.cell? ⟨w.heap.size, 0, none⟩ = some a0 ∧ w'.cell? ⟨w.heap.size, 1, none⟩ = some a1 ∧ w'.cell? ⟨w.heap.size, 2, none⟩ = some a2 ∧ w'.cell? ⟨w.heap.size, 3, none⟩ = some a3 ∧ w'.cell? ⟨w.heap.size, 4, none⟩ = some a4 ∧ w'.cell? ⟨w.heap.size, 5, none⟩ = some a5 := fun w' hb => by
    refine ⟨?_, ?_, ?_, ?_, ?_, ?_⟩ <;> (rw [K w' hb, World.cell?_alloc_new]; rfl)
  clear K
  have HK := Lib.hid hK
  have HP := Lib.hid P
  clear hK P
  go_enter Tryz.func18, Tryz.ntmps18
  go_wp2_with fail
  refine D.mono ?_
  rintro e w1 ⟨rfl, hb1⟩
  obtain ⟨c0, c1, c2, c3, c4, c5⟩ := HK.out w1 hb1
  have hfin := hbW.trans (hb1.mono hbW.size)
  go_wp2_with (go_at_call 40; refine (HP.out w1 hb1).mono ?_; rintro e w2 ⟨rfl, hb2⟩)
  · go_ret
    exact ⟨by simp [*], hfin.trans (hb2.mono hfin.size)⟩
  · go_ret
    exact ⟨by simp; omega, hfin⟩
end Go.Proofs.YtcmohggnehkjeaaGreat

/-
  Contracts of basculeref04's TDepth, TParts, TSmall.
-/
import Derived.Test.YtmbjmibjobpdgaaM03
namespace Go.Proofs.Ytmbjmibjobpdgaa
open Go.RowKit

def tdepV : TT → Int → Int
  | .bad, _ => 1
  | .mk _ _ _ m xs, far => (if 0 < far then maxGo (fun i => tdepV (xs i) (far - 1)) m 0 0 else 0) + 1
theorem tdepV_in : ∀ (t : TT) (far : Int), 1 ≤ tdepV t far ∧ tdepV t far ≤ max far 0 + 1 := by
  intro t
  induction t with
  | bad => intro far; unfold tdepV; omega
  | mk k c ns m xs ih =>
    intro far
    unfold tdepV
    by_cases h : 0 < far
    · rw [if_pos h]
      have := maxGo_in (fun i => tdepV (xs i) (far - 1)) (b := far) (fun i => by have := ih i (far - 1); omega) m 0 0 (by omega) (by omega)
      omega
    · rw [if_neg h]; omega

set_option maxHeartbeats 1000000 in
theorem tdepth_any : ∀ (t : TT) (v : Array Value) (far : Int) (w : World), TVal w w.heap.size v t → 0 ≤ far → far ≤ 1000 →
    Calls Try.prog 53 #[.agg v, .int .i64 far] w fun e w' => e = .returned (.int .i64 (tdepV t far)) ∧ Below w.heap.size w w' := by
  intro t
  induction t with
  | bad => intro v far w hv; cases hv
  | mk k c ns m xs ih =>
    intro v far w hv h0 h5
    cases hv with
    | mk _ A _ ca B _ cb _ _ vs hk hc hm hns hB hxs =>
      have hmx : m ≤ 9223372036854775807 := by have := hm; unfold maxLen at this; omega
      have hall := tdepV_in (.mk k c ns m xs) far
      have hitem := fun i => tdepV_in (xs i) (far - 1)
      unfold tfields
      go_enter Try.func53, Try.ntmps53
      go_wp2_with fail
      obtain ⟨W1, hW1⟩ : ∃ W1, W1 = w.alloc (.cells #[.int .i64 k, .slice A c ca, .slice B m cb] 62) := ⟨_, rfl⟩
      have hbW : Below w.heap.size w W1 := by rw [hW1]; exact (Below.refl _ _).alloc (Nat.le_refl _) _
      have hsz : W1.heap.size = w.heap.size + 1 := by rw [hW1]; simp
      have h2c : W1.cell? ⟨w.heap.size, 2, none⟩ = some (.slice B m cb) := by rw [hW1, World.cell?_alloc_new]; rfl
      rw [← hW1]
      have HW := Lib.hid (And.intro hW1 hsz)
      have H2 := Lib.hid h2c
      have HI := Lib.hid hitem
      have HA := Lib.hid hall
      clear hW1 hsz h2c hitem hall
      go_loopw [5, 6] (fun nv iv wr => ∃ (i : Nat) (q : Int), i ≤ m ∧ iv = .int .i64 i ∧ nv = .int .i64 q ∧ 0 ≤ q ∧ q ≤ 1000 ∧ Hid (tdepV (.mk k c ns m xs) far = (if 0 < far then maxGo (fun i => tdepV (xs i) (far - 1)) (m - i) i q else q) + 1) ∧ Below W1.heap.size W1 wr) (fun _ iv _ => m - (intOf iv).toNat)
      case atStart => exact ⟨0, 0, Nat.zero_le _, rfl, rfl, by omega, by omega, Lib.hid rfl, Below.refl _ _⟩
      case round =>
        obtain ⟨i, q, hi, rfl, rfl, hq0, hq5, hh, hb⟩ := hrel
        have h2r : wr.cell? ⟨w.heap.size, 2, none⟩ = some (.slice B m cb) := (hb.cell (p := ⟨w.heap.size, 2, none⟩) (by have := HW.out.2; simp; omega)).trans H2.out
        by_cases hlt : i < m
        · by_cases hq : 0 < far
          · obtain ⟨g, o, rfl, hg, hx⟩ := hB (by omega)
            have hthr := hx i hlt
            have hvi := hxs i hlt
            generalize vs i = vi at *
            have hthrr : ThreeAt wr g (o + i * 3) vi := hthr.keep fun o => (hb.cell (p := ⟨g, o, none⟩) (show g < W1.heap.size by have := HW.out.2; omega)).trans (hbW.cell (p := ⟨g, o, none⟩) hg)
            have hvr : TVal wr wr.heap.size vi (xs i) := ((hvi.stay hbW).mono (by have := HW.out.2; omega)).stay hb |>.mono hb.size
            obtain ⟨a0, a1, a2, rfl⟩ := hvi.three
            obtain ⟨c0, c1, c2⟩ := hthrr.cells
            have hcall := ih i _ (far - 1) wr hvr (by omega) (by omega)
            have hin := HI.out i
            have hh' : Hid (tdepV (.mk k c ns m xs) far = (if 0 < far then maxGo (fun i => tdepV (xs i) (far - 1)) (m - (i + 1)) (i + 1) (max q (tdepV (xs i) (far - 1))) else max q (tdepV (xs i) (far - 1))) + 1) := Lib.hid (by
              rw [hh.out, if_pos hq, if_pos hq, show m - i = (m - (i + 1)) + 1 by omega]
              rfl)
            generalize tdepV (xs i) (far - 1) = z at *
            have hz : z ≤ 1000 := by omega
            clear hB hx hthr hthrr hvi hvr ih hxs hns hh
            go_wp2_with (go_at_call 53; refine hcall.mono ?_; rintro e w' ⟨rfl, hb'⟩)
            go_roundw
            case rel => exact ⟨i + 1, max q z, by omega, by go_num, by rw [show max q z = if q < z then z else q by split <;> omega], by omega, by omega, hh', hb.trans (hb'.mono hb.size)⟩
            case measure => simp [intOf]; omega
          · have R : Hid (tdepV (.mk k c ns m xs) far = q + 1) := Lib.hid (by rw [hh.out, if_neg hq])
            have hfin : Below w.heap.size w wr := hbW.trans (hb.mono (by have := HW.out.2; omega))
            clear hh hns hB hxs ih
            go_wp2_with fail
            go_ret
            exact ⟨by rw [R.out]; rfl, hfin⟩
        · have R : Hid (tdepV (.mk k c ns m xs) far = q + 1) := Lib.hid (by
            rw [hh.out, show m - i = 0 by omega]
            split <;> rfl)
          have hfin : Below w.heap.size w wr := hbW.trans (hb.mono (by have := HW.out.2; omega))
          clear hh hns hB hxs ih
          go_wp2_with fail
          go_ret
          exact ⟨by rw [R.out]; rfl, hfin⟩

/-- A value boxed anew is loaded as it was. -/
theorem tparts_any {t : TT} {v : Array Value} {w : World} (hv : TVal w w.heap.size v t) : Calls Try.prog 54 #[.agg v] w fun e w' => e = .returned (.int .i64 (tcntV t 0)) ∧ Below w.heap.size w w' := by
  have hbW : Below w.heap.size w (w.alloc (.cells v 62)) := (Below.refl _ _).alloc (Nat.le_refl _) _
  have C := tcount_any t v 0 (w.alloc (.cells v 62)) ((hv.stay hbW).mono hbW.size) (by omega) (by omega)
  obtain ⟨a0, a1, a2, rfl⟩ := hv.three
  clear hv
  go_enter Try.func54, Try.ntmps54
  go_wp2_with (go_at_call 76; refine C.mono ?_; rintro e w' ⟨rfl, hb'⟩)
  go_ret
  exact ⟨rfl, hbW.trans (hb'.mono hbW.size)⟩
def tsmallV (t : TT) : Bool := decide (tdepV t 40 ≤ 30) && decide (tcntV t 0 < 500)
theorem tsmall_any {t : TT} {v : Array Value} {w : World} (hv : TVal w w.heap.size v t) : Calls Try.prog 25 #[.agg v] w fun e w' => e = .returned (.bool (tsmallV t)) ∧ Below w.heap.size w w' := by
  have hbW : Below w.heap.size w (w.alloc (.cells v 62)) := (Below.refl _ _).alloc (Nat.le_refl _) _
  have hvW := (hv.stay hbW).mono hbW.size
  have D := tdepth_any t v 40 (w.alloc (.cells v 62)) hvW (by omega) (by omega)
  have P := fun w' (hb : Below (w.alloc (.cells v 62)).heap.size (w.alloc (.cells v 62)) w') => tparts_any ((hvW.stay hb).mono hb.size)
  have K := fun w' (hb : Below (w.alloc (.cells v 62)).heap.size (w.alloc (.cells v 62)) w') o => hb.cell (p := ⟨w.heap.size, o, none⟩) (by simp)
  obtain ⟨a0, a1, a2, rfl⟩ := hv.three
  unfold tsmallV
  have h1 := tdepV_in t 40
  have h2 := tcntV_in t 0 (by omega) (by omega)
  generalize tdepV t 40 = d at *
  generalize tcntV t 0 = p at *
  clear hv hvW
  have hK : ∀ w', Below (w.alloc (.cells #[a0, a1, a2] 62)).heap.size (w.alloc (.cells #[a0, a1, a2] 62)) w' → w'.cell? ⟨w.heap.size, 0, none⟩ = some a0 ∧ w'.cell? ⟨w.heap.size, 1, none⟩ = some a1 ∧ w'.cell? ⟨w.heap.size, 2, none⟩ = some a2 := fun w' hb => by
    refine ⟨?_, ?_, ?_⟩ <;> (rw [K w' hb, World.cell?_alloc_new]; rfl)
  clear K
  have HK := Lib.hid hK
  have HP := Lib.hid P
  clear hK P
  go_enter Try.func25, Try.ntmps25
  go_wp2_with fail
  refine D.mono ?_
  rintro e w1 ⟨rfl, hb1⟩
  obtain ⟨c0, c1, c2⟩ := HK.out w1 hb1
  have hfin := hbW.trans (hb1.mono hbW.size)
  go_wp2_with (go_at_call 54; refine (HP.out w1 hb1).mono ?_; rintro e w2 ⟨rfl, hb2⟩)
  · go_ret
    exact ⟨by simp [*], hfin.trans (hb2.mono hfin.size)⟩
  · go_ret
    exact ⟨by simp; omega, hfin⟩
end Go.Proofs.Ytmbjmibjobpdgaa

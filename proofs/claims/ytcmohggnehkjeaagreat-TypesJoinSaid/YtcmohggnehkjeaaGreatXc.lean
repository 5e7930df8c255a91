/-
  Contracts of basculeref08's Depth, Parts, Small.
-/
import Derived.Test.YtcmohggnehkjeaaGreatXt
namespace Go.Proofs.YtcmohggnehkjeaaGreat
open Go.RowKit

def edepV : ET → Int → Int
  | .bad, _ => 1
  | .mk _ _ _ _ _ m xs, far => (if 0 < far then maxGo (fun i => edepV (xs i) (far - 1)) m 0 0 else 0) + 1
theorem edepV_in : ∀ (t : ET) (far : Int), 1 ≤ edepV t far ∧ edepV t far ≤ max far 0 + 1 := by
  intro t
  induction t with
  | bad => intro far; unfold edepV; omega
  | mk k s v c ns m xs ih =>
    intro far
    unfold edepV
    by_cases h : 0 < far
    · rw [if_pos h]
      have := maxGo_in (fun i => edepV (xs i) (far - 1)) (b := far) (fun i => by have := ih i (far - 1); omega) m 0 0 (by omega) (by omega)
      omega
    · rw [if_neg h]; omega
set_option maxRecDepth 20000 in
set_option maxHeartbeats 1000000 in
theorem edepth_any : ∀ (t : ET) (v : Array Value) (far : Int) (w : World), EVal w w.heap.size v t → 0 ≤ far → far ≤ 1000 →
    Calls Tryz.prog 43 #[.agg v, .int .i64 far] w fun e w' => e = .returned (.int .i64 (edepV t far)) ∧ Below w.heap.size w w' := by
  intro t
  induction t with
  | bad => intro v far w hv; cases hv
  | mk k s v0 c ns m xs ih =>
    intro v far w hv h0 h5
    cases hv with
    | mk _ _ a0 a1 a2 a3 a4 a5 _ A _ ca B _ cb _ _ vs hk hs hv hc hm hns hB hxs =>
      have hmx : m ≤ 9223372036854775807 := by have := hm; unfold maxLen at this; omega
      have hall := edepV_in (.mk k s v0 c ns m xs) far
      have hitem := fun i => edepV_in (xs i) (far - 1)
      unfold efields
      clear hv
      go_enter Tryz.func43, Tryz.ntmps43
      go_wp2_with fail
      obtain ⟨W1, hW1⟩ : ∃ W1, W1 = w.alloc (.cells #[.int .i64 k, .string s, a0, a1, a2, a3, a4, a5, .slice A c ca, .slice B m cb] 44) := ⟨_, rfl⟩
      have hbW : Below w.heap.size w W1 := by rw [hW1]; exact (Below.refl _ _).alloc (Nat.le_refl _) _
      have hsz : W1.heap.size = w.heap.size + 1 := by rw [hW1]; simp
      have h9c : W1.cell? ⟨w.heap.size, 9, none⟩ = some (.slice B m cb) := by rw [hW1, World.cell?_alloc_new]; rfl
      rw [← hW1]
      have HW := Lib.hid (And.intro hW1 hsz)
      have H9 := Lib.hid h9c
      have HI := Lib.hid hitem
      have HA := Lib.hid hall
      clear hW1 hsz h9c hitem hall
      go_loopw [5, 6] (fun nv iv wr => ∃ (i : Nat) (q : Int), i ≤ m ∧ iv = .int .i64 i ∧ nv = .int .i64 q ∧ 0 ≤ q ∧ q ≤ 1000 ∧ Hid (edepV (.mk k s v0 c ns m xs) far = (if 0 < far then maxGo (fun i => edepV (xs i) (far - 1)) (m - i) i q else q) + 1) ∧ Below W1.heap.size W1 wr) (fun _ iv _ => m - (intOf iv).toNat)
      case atStart => exact ⟨0, 0, Nat.zero_le _, rfl, rfl, by omega, by omega, Lib.hid rfl, Below.refl _ _⟩
      case round =>
        obtain ⟨i, q, hi, rfl, rfl, hq0, hq5, hh, hb⟩ := hrel
        have h9r : wr.cell? ⟨w.heap.size, 9, none⟩ = some (.slice B m cb) := (hb.cell (p := ⟨w.heap.size, 9, none⟩) (by have := HW.out.2; simp; omega)).trans H9.out
        by_cases hlt : i < m
        · by_cases hq : 0 < far
          · obtain ⟨g, o, rfl, hg, hx⟩ := hB (by omega)
            have hten := hx i hlt
            have hvi := hxs i hlt
            generalize vs i = vi at *
            have htenr : TenAt wr g (o + i * 10) vi := hten.keep fun o => (hb.cell (p := ⟨g, o, none⟩) (show g < W1.heap.size by have := HW.out.2; omega)).trans (hbW.cell (p := ⟨g, o, none⟩) hg)
            have hvr : EVal wr wr.heap.size vi (xs i) := ((hvi.stay hbW).mono (by have := HW.out.2; omega)).stay hb |>.mono hb.size
            obtain ⟨b0, b1, b2, b3, b4, b5, b6, b7, b8, b9, rfl⟩ := hvi.ten
            obtain ⟨c0, c1, c2, c3, c4, c5, c6, c7, c8, c9⟩ := htenr.cells
            have hcall := ih i _ (far - 1) wr hvr (by omega) (by omega)
            have hin := HI.out i
            have hh' : Hid (edepV (.mk k s v0 c ns m xs) far = (if 0 < far then maxGo (fun i => edepV (xs i) (far - 1)) (m - (i + 1)) (i + 1) (max q (edepV (xs i) (far - 1))) else max q (edepV (xs i) (far - 1))) + 1) := Lib.hid (by
              rw [hh.out, if_pos hq, if_pos hq, show m - i = (m - (i + 1)) + 1 by omega]
              rfl)
            generalize edepV (xs i) (far - 1) = z at *
            have hz : z ≤ 1000 := by omega
            clear hB hx hten htenr hvi hvr ih hxs hns hh
            go_wp2_with (go_at_call 43; refine hcall.mono ?_; rintro e w' ⟨rfl, hb'⟩)
            go_roundw
            case rel => exact ⟨i + 1, max q z, by omega, by go_num, by rw [show max q z = if q < z then z else q by split <;> omega], by omega, by omega, hh', hb.trans (hb'.mono hb.size)⟩
            case measure => simp [intOf]; omega
          · have R : Hid (edepV (.mk k s v0 c ns m xs) far = q + 1) := Lib.hid (by rw [hh.out, if_neg hq])
            have hfin : Below w.heap.size w wr := hbW.trans (hb.mono (by have := HW.out.2; omega))
            clear hh hns hB hxs ih
            go_wp2_with fail
            go_ret
            exact ⟨by rw [R.out]; rfl, hfin⟩
        · have R : Hid (edepV (.mk k s v0 c ns m xs) far = q + 1) := Lib.hid (by
            rw [hh.out, show m - i = 0 by omega]
            split <;> rfl)
          have hfin : Below w.heap.size w wr := hbW.trans (hb.mono (by have := HW.out.2; omega))
          clear hh hns hB hxs ih
          go_wp2_with fail
          go_ret
          exact ⟨by rw [R.out]; rfl, hfin⟩
set_option maxRecDepth 20000 in
theorem eparts_any {t : ET} {v : Array Value} {w : World} (hv : EVal w w.heap.size v t) : Calls Tryz.prog 44 #[.agg v] w fun e w' => e = .returned (.int .i64 (ecntV t 0)) ∧ Below w.heap.size w w' := by
  have hbW : Below w.heap.size w (w.alloc (.cells v 44)) := (Below.refl _ _).alloc (Nat.le_refl _) _
  have C := ecount_any t v 0 (w.alloc (.cells v 44)) ((hv.stay hbW).mono hbW.size) (by omega) (by omega)
  obtain ⟨b0, b1, b2, b3, b4, b5, b6, b7, b8, b9, rfl⟩ := hv.ten
  clear hv
  go_enter Tryz.func44, Tryz.ntmps44
  go_wp2_with (go_at_call 77; refine C.mono ?_; rintro e w' ⟨rfl, hb'⟩)
  go_ret
  exact ⟨rfl, hbW.trans (hb'.mono hbW.size)⟩
end Go.Proofs.YtcmohggnehkjeaaGreat

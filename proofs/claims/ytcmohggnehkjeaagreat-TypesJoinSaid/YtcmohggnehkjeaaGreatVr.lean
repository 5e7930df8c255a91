/-
  Contracts of basculeref04's sign, text, rows.
-/
import Derived.Test.YtcmohggnehkjeaaGreatVt
namespace Go.Proofs.YtcmohggnehkjeaaGreat
open Go.RowKit

def signI (a b : Int) : Int := if a < b then -1 else if b < a then 1 else 0
theorem sign_any (a b : Int) (w : World) : Calls Tryz.prog 115 #[.int .i64 a, .int .i64 b] w fun e w' => e = .returned (.int .i64 (signI a b)) ∧ w = w' := by
  unfold signI
  go_enter Tryz.func115, Tryz.ntmps115
  go_wp2
  all_goals (go_ret; exact ⟨rfl, rfl⟩)
def lessS (a b : ByteArray) : Bool := Op.bytesLess a.toList b.toList
def textI (a b : ByteArray) : Int := if lessS a b = true then -1 else if (a.toList == b.toList) = true then 0 else 1
theorem text_any (a b : ByteArray) (w : World) : Calls Tryz.prog 114 #[.string a, .string b] w fun e w' => e = .returned (.int .i64 (textI a b)) ∧ w' = w := by
  cases h1 : Op.bytesLess a.toList b.toList
  · cases h2 : (a.toList == b.toList)
    · have R : Hid (textI a b = 1) := Lib.hid (by unfold textI lessS; rw [h1, h2]; rfl)
      go_enter Tryz.func114, Tryz.ntmps114
      go_wp2
      go_ret
      exact ⟨by rw [R.out]; rfl, rfl⟩
    · have R : Hid (textI a b = 0) := Lib.hid (by unfold textI lessS; rw [h1, h2]; rfl)
      go_enter Tryz.func114, Tryz.ntmps114
      go_wp2
      go_ret
      exact ⟨by rw [R.out]; rfl, rfl⟩
  · have R : Hid (textI a b = -1) := Lib.hid (by unfold textI lessS; rw [h1]; rfl)
    go_enter Tryz.func114, Tryz.ntmps114
    go_wp2
    go_ret
    exact ⟨by rw [R.out]; rfl, rfl⟩

/-- The first that differs tells, else 'z'. -/
def firstGo (g : Nat → Int) : Nat → Nat → Int → Int
  | 0, _, z => z
  | r + 1, i, z => if g i = 0 then firstGo g r (i + 1) z else g i
def rowI (c : Nat) (ns : Nat → ByteArray) (c' : Nat) (ns' : Nat → ByteArray) : Int := firstGo (fun i => textI (ns i) (ns' i)) (min c c') 0 (signI c c')

set_option maxHeartbeats 1000000 in
theorem rows_any {A A' : Option Addr} {c ca c' ca' : Nat} {ns ns' : Nat → ByteArray} {lim : Nat} {w : World} (h1 : Strs w lim A c ns) (h2 : Strs w lim A' c' ns') (hlim : lim ≤ w.heap.size) (hc : c ≤ 9223372036854775807) (hc' : c' ≤ 9223372036854775807) :
    Calls Tryz.prog 76 #[.slice A c ca, .slice A' c' ca'] w fun e w' => e = .returned (.int .i64 (rowI c ns c' ns')) ∧ Below w.heap.size w w' := by
  have S := sign_any (c : Int) (c' : Int)
  go_enter Tryz.func76, Tryz.ntmps76
  go_wp2_with fail
  go_loopw [5] (fun iv wr => ∃ i : Nat, i ≤ c ∧ i ≤ c' ∧ iv = .int .i64 i ∧ Hid (rowI c ns c' ns' = firstGo (fun i => textI (ns i) (ns' i)) (min c c' - i) i (signI c c')) ∧ Below w.heap.size w wr) (fun iv _ => c - (intOf iv).toNat)
  case atStart => exact ⟨0, Nat.zero_le _, Nat.zero_le _, rfl, Lib.hid rfl, Below.refl _ _⟩
  case round =>
    obtain ⟨i, hi, hi', rfl, hh, hb⟩ := hrel
    by_cases hlt : i < c
    · by_cases hlt' : i < c'
      · obtain ⟨g, o, rfl, hg, hx⟩ := h1 (by omega)
        obtain ⟨g', o', rfl, hg', hx'⟩ := h2 (by omega)
        have x1 : wr.cell? ⟨g, o + i, none⟩ = _ := (hb.cell (p := ⟨g, o + i, none⟩) (show g < _ by omega)).trans (hx i hlt).1
        have x2 : wr.cell? ⟨g', o' + i, none⟩ = _ := (hb.cell (p := ⟨g', o' + i, none⟩) (show g' < _ by omega)).trans (hx' i hlt').1
        have T := text_any (ns i) (ns' i)
        have hstep : Hid (rowI c ns c' ns' = if textI (ns i) (ns' i) = 0 then firstGo (fun i => textI (ns i) (ns' i)) (min c c' - (i + 1)) (i + 1) (signI c c') else textI (ns i) (ns' i)) := Lib.hid (by
          rw [hh.out, show min c c' - i = (min c c' - (i + 1)) + 1 by omega]
          rfl)
        generalize textI (ns i) (ns' i) = z at *
        clear h1 h2 hx hx' hh
        go_wp2_with fail
        go_quiet ((go_at_call 114; exact Calls.quiet_of_same (T _)))
        by_cases hz : z = 0
        · have R := Lib.hid (hstep.out.trans (if_pos hz))
          clear hstep
          subst hz
          go_wp2_with fail
          go_roundw
          case rel => exact ⟨i + 1, by omega, by omega, by go_num, R, below_drewN hb _⟩
          case measure => simp [intOf]; omega
        · have R := Lib.hid (hstep.out.trans (if_neg hz))
          have hz' : (z != 0) = true := by simpa using hz
          clear hstep hz
          go_wp2_with fail
          go_ret
          exact ⟨by rw [R.out]; rfl, below_drewN hb _⟩
      · have R : Hid (rowI c ns c' ns' = signI c c') := Lib.hid (by rw [hh.out, show min c c' - i = 0 by omega]; rfl)
        clear h1 h2 hh
        go_wp2_with (go_at_call 115; refine (S _).mono ?_; rintro e w' ⟨rfl, rfl⟩)
        go_ret
        exact ⟨by rw [R.out]; rfl, hb⟩
    · have R : Hid (rowI c ns c' ns' = signI c c') := Lib.hid (by rw [hh.out, show min c c' - i = 0 by omega]; rfl)
      clear h1 h2 hh
      go_wp2_with (go_at_call 115; refine (S _).mono ?_; rintro e w' ⟨rfl, rfl⟩)
      go_ret
      exact ⟨by rw [R.out]; rfl, hb⟩
end Go.Proofs.YtcmohggnehkjeaaGreat

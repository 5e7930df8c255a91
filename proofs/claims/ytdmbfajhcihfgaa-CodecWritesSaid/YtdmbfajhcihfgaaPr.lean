/-
  Contracts of the program's hasNoFields, isRightAlone.
-/
import Derived.Test.YtdmbfajhcihfgaaPc
import Derived.Test.YtdmbfajhcihfgaaPn
import Derived.Test.YtdmbfajhcihfgaaFk
namespace Go.Proofs.Ytdmbfajhcihfgaa
open Go.RowKit

theorem zero_key {f : Nat} (hf : okW f) : (ordI (keyI f) (keyI 0) == 0) = zeroB f := by
  unfold zeroB
  have h0 : okW 0 := by unfold okW; decide
  have h := same_key hf h0
  have hz := ord_zero (keyI f) (keyI 0)
  by_cases e : canonW f = canonW 0
  · rw [decide_eq_true e]; simp [hz.2 (h.2 e)]
  · rw [decide_eq_false e]
    have : ¬ ordI (keyI f) (keyI 0) = 0 := fun hh => e (h.1 (hz.1 hh))
    simp [this]
/-- No field is set but the kind. -/
def nofB (n : Int) (f : Nat) (s : ByteArray) (c m : Nat) : Bool := decide (n = 0) && (zeroB f && (emptyB s && (decide (c = 0) && decide (m = 0))))
set_option maxHeartbeats 1000000 in
theorem nof_f {k n : Int} {f : Nat} {s : ByteArray} {A : Option Addr} {c ca : Nat} {B : Option Addr} {m cb : Nat} (hf : okW f) (w : World) :
    Calls Try.prog 94 #[.agg (fields k n f s A c ca B m cb)] w fun e w' => e = .returned (.bool (nofB n f s c m)) ∧ Below w.heap.size w w' := by
  have hb : Below w.heap.size w (w.alloc (.cells (fields k n f s A c ca B m cb) 27)) := (Below.refl _ _).alloc (Nat.le_refl _) _
  have O := Order_f hf (show okW 0 by unfold okW; decide)
  have hz := zero_key hf
  unfold fields at *
  generalize ordI (keyI f) (keyI 0) = q at *
  by_cases hn : n = 0
  · have tn : (n == 0) = true := by simpa using hn
    cases hzf : zeroB f with
    | true =>
      rw [hzf] at hz
      cases hs : emptyB s with
      | true =>
        have ts : s.toList.isEmpty = true := hs
        by_cases hc : c = 0
        · have tc : ((c : Int) == 0) = true := by simp; omega
          by_cases hm : m = 0
          · have tm : ((m : Int) == 0) = true := by simp; omega
            have R : Hid (nofB n f s c m = true) := Lib.hid (by unfold nofB; simp [hn, hzf, hs, hc, hm])
            clear hn hzf hs hc hm hf
            go_enter Try.func94, Try.ntmps94
            go_wp2_with (go_at_call 111; (with_reducible refine Says.go O ?_); rintro e w' ⟨rfl, rfl⟩)
            go_ret
            exact ⟨by rw [R.out]; rfl, hb⟩
          · have tm : ((m : Int) == 0) = false := by simp; omega
            have R : Hid (nofB n f s c m = false) := Lib.hid (by unfold nofB; simp [hm])
            clear hn hzf hs hc hm hf
            go_enter Try.func94, Try.ntmps94
            go_wp2_with (go_at_call 111; (with_reducible refine Says.go O ?_); rintro e w' ⟨rfl, rfl⟩)
            go_ret
            exact ⟨by rw [R.out]; rfl, hb⟩
        · have tc : ((c : Int) == 0) = false := by simp; omega
          have R : Hid (nofB n f s c m = false) := Lib.hid (by unfold nofB; simp [hc])
          clear hn hzf hs hc hf
          go_enter Try.func94, Try.ntmps94
          go_wp2_with (go_at_call 111; (with_reducible refine Says.go O ?_); rintro e w' ⟨rfl, rfl⟩)
          go_ret
          exact ⟨by rw [R.out]; rfl, hb⟩
      | false =>
        have ts : s.toList.isEmpty = false := hs
        have R : Hid (nofB n f s c m = false) := Lib.hid (by unfold nofB; simp [hs])
        clear hn hzf hs hf
        go_enter Try.func94, Try.ntmps94
        go_wp2_with (go_at_call 111; (with_reducible refine Says.go O ?_); rintro e w' ⟨rfl, rfl⟩)
        go_ret
        exact ⟨by rw [R.out]; rfl, hb⟩
    | false =>
      rw [hzf] at hz
      have R : Hid (nofB n f s c m = false) := Lib.hid (by unfold nofB; simp [hzf])
      clear hn hzf hf
      go_enter Try.func94, Try.ntmps94
      go_wp2_with (go_at_call 111; (with_reducible refine Says.go O ?_); rintro e w' ⟨rfl, rfl⟩)
      go_ret
      exact ⟨by rw [R.out]; rfl, hb⟩
  · have tn : (n == 0) = false := by simpa using hn
    have R : Hid (nofB n f s c m = false) := Lib.hid (by unfold nofB; simp [hn])
    clear hn hf
    go_enter Try.func94, Try.ntmps94
    go_wp2_with fail
    go_ret
    exact ⟨by rw [R.out]; rfl, hb⟩
end Go.Proofs.Ytdmbfajhcihfgaa

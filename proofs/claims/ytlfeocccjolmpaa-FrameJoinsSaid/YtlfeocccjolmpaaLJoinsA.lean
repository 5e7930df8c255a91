/-
  The walk of FrameJoins.
-/
import Derived.Test.YtlfeocccjolmpaaGg
namespace Go.Proofs.Ytlfeocccjolmpaa.frameJoins
open Go.RowKit

def Yes (w : World) (e : Ending) (w' : World) : Prop := e = .returned (.bool true) ∧ Below w.heap.size w w'
set_option maxRecDepth 20000 in
set_option maxHeartbeats 1000000 in
theorem walk_big {s t : ByteArray} (h : 3000 < s.size ∨ (s.size ≤ 3000 ∧ 3000 < t.size)) (w : World) : Calls Try.prog 7 #[.string s, .string t] w (Yes w) := by
  have HAW := Lib.hid awake_any
  rcases h with h1 | ⟨h1, h2⟩
  · have t0 : decide ((3000 : Int) < (s.size : Int)) = true := decide_eq_true (by omega)
    clear h1
    go_enter Try.func7, Try.ntmps7
    go_wp2_with (first | (go_at_call 8; refine (HAW.out w).mono ?_; rintro e w1 ⟨rfl, hb⟩; have HC := Lib.hid hb; clear hb) | (go_at_call 8; refine (HAW.out _).mono ?_; rintro e w9 ⟨rfl, hb⟩; replace HC := Lib.hid (HC.out.trans (hb.mono HC.out.size)); clear hb))
    go_ret
    exact ⟨rfl, HC.out⟩
  · have t0 : decide ((3000 : Int) < (s.size : Int)) = false := decide_eq_false (by omega)
    have t1 : decide ((3000 : Int) < (t.size : Int)) = true := decide_eq_true (by omega)
    clear h1 h2
    go_enter Try.func7, Try.ntmps7
    go_wp2_with (first | (go_at_call 8; refine (HAW.out w).mono ?_; rintro e w1 ⟨rfl, hb⟩; have HC := Lib.hid hb; clear hb) | (go_at_call 8; refine (HAW.out _).mono ?_; rintro e w9 ⟨rfl, hb⟩; replace HC := Lib.hid (HC.out.trans (hb.mono HC.out.size)); clear hb))
    go_ret
    exact ⟨rfl, HC.out⟩
set_option maxRecDepth 20000 in
set_option maxHeartbeats 1000000 in
theorem walk_all {s t : ByteArray} (h1 : s.size ≤ 3000) (h2 : t.size ≤ 3000) (w : World) : Calls Try.prog 7 #[.string s, .string t] w (Yes w) := by
  have HAW := Lib.hid awake_any
  have t0 : decide ((3000 : Int) < (s.size : Int)) = false := decide_eq_false (by omega)
  have t1 : decide ((3000 : Int) < (t.size : Int)) = false := decide_eq_false (by omega)
  have A := Lib.hid (LAll_any (s := s) (by omega))
  have B := Lib.hid (LAll_any (s := t) (by omega))
  obtain ⟨i9, hi9, hy0, hy1, hy2⟩ := info_parts info9z
  go_enter Try.func7, Try.ntmps7
  go_wp2_with (first
    | (go_at_call 8; refine (HAW.out w).mono ?_; rintro e w1 ⟨rfl, hb⟩; have HC := Lib.hid hb; clear hb)
    | (go_at_call 16; refine (A.out _).mono ?_; clear A; rintro e w2 ⟨N, g, v, hF, rfl, hO, hb⟩; replace HC := Lib.hid (HC.out.trans (hb.mono HC.out.size)); clear hb; have HA := Lib.hid hO; have HF := Lib.hid hF; have hg := hF.le; have hgl := hF.len; rw [lst_len] at hg; clear hO hF)
    | (go_at_call 16; refine (B.out _).mono ?_; clear B; rintro e w3 ⟨M, f, v', hF, rfl, hO, hb⟩; replace HA := Lib.hid (owns_below HA.out hb); have HB := Lib.hid hO; replace HC := Lib.hid (HC.out.trans (hb.mono HC.out.size)); clear hb; have HG := Lib.hid hF; have hf := hF.le; have hfl := hF.len; rw [lst_len] at hf; clear hO hF; refine Hid.out ?_))
  refine Lib.hid ?_
  obtain ⟨s1, hs1⟩ : ∃ s1, s.extract 0 g = s1 := ⟨_, rfl⟩
  have hsz : s1.size ≤ 3000 := by rw [← hs1, ByteArray.size_extract]; omega
  have z1 : ¬ 9223372036854775807 < s1.size + t.size := by omega
  have J : Fr (s1 ++ t).data.toList (N ++ M) (g + f) := by
    have e : (s1 ++ t).data.toList = s.data.toList.take g ++ t.data.toList := by rw [ByteArray.data_append, Array.toList_append, ← hs1, ext_take]
    rw [e]
    exact HF.out.join HG.out
  have C := Lib.hid (LAll_any (s := s1 ++ t) (by rw [ByteArray.size_append]; omega))
  have HJ := Lib.hid J
  have i1 : (g : Int) ≤ (s.size : Int) := by omega
  have i2 : ((g : Int)).toNat = g := by omega
  clear J
  go_wp2_with (first
    | (go_at_call 16; refine (C.out _).mono ?_; clear C; rintro e w4 ⟨P, k, v2, hF, rfl, hO, hb⟩; replace HA := Lib.hid ((owns_below HA.out hb)); replace HB := Lib.hid ((owns_below HB.out hb)); have HU := Lib.hid (SAt.of_own hO); obtain ⟨rfl, rfl⟩ := hF.unique HJ.out; replace HC := Lib.hid (HC.out.trans (hb.mono HC.out.size)); have hE := owns_empty w4; have hA4 := owns_below HA.out ((Below.refl _ _).alloc (Nat.le_refl _) (.cells #[] 9)); clear hb hO hF)
    | (at_builtin; refine app_list rfl _ _ rfl rfl hE rfl hA4 (by simp; omega) (by simp) ?_; clear hE hA4; intro v5 w5 hO5 hb5; have hB5 := owns_low (owns_below HB.out ((Below.refl _ _).alloc (Nat.le_refl _) (.cells #[] 9))) (fun k e => (HB.out.lt k e).2) hb5; have hl5 := hb5.size)
    | (at_builtin; refine app_list rfl _ _ rfl rfl hO5 rfl hB5 (by simp; omega) (by simp at hl5; omega) ?_; intro v6 w6 hO6 hb6; have hz := (((Below.refl w4.heap.size w4).alloc (Nat.le_refl _) (.cells #[] 9)).trans hb5).trans hb6; have HZ := Lib.hid hz; have HU6 := Lib.hid (HU.out.stay hz); have HV6 := Lib.hid (SAt.of_own hO6); clear hO5 hB5 hO6 hb6 hb5 hz)
    | (go_at_call 18; refine (Same_any HU6.out (by exact HV6.out)).mono ?_; rintro e w7 ⟨rfl, hb⟩))
  go_ret
  exact ⟨rfl, (HC.out.trans (HZ.out.mono HC.out.size)).trans (hb.mono (HC.out.trans (HZ.out.mono HC.out.size)).size)⟩
end Go.Proofs.Ytlfeocccjolmpaa.frameJoins

/-
  The walk of FrameTurns.
-/
import Derived.Test.YtlfeocccjolmpaaGg
import Derived.ArgAppend
namespace Go.Proofs.Ytlfeocccjolmpaa.frameTurns
open Go.RowKit

def Yes (w : World) (e : Ending) (w' : World) : Prop := e = .returned (.bool true) ∧ Below w.heap.size w w'
/-- Bytes of a string, in a block of their own that may be written. -/
theorem conv_bytes (s : ByteArray) (w : World) : ∃ g cap w', (convert 9 42 (.string s)).run Try.prog w = .ok (.slice (some ⟨g, 0, none⟩) s.size cap) w' ∧ s.size ≤ cap ∧ w.heap.size ≤ g ∧ g < w'.heap.size ∧ Below w.heap.size w w' ∧
    ∀ j (h : j < s.size), w'.cell? ⟨g, j, none⟩ = some (.int .u8 (s[j].toNat : Int)) ∧ w'.frozen? ⟨g, j, none⟩ = false := by
  have h := run_bytes_of_string (P := Try.prog) w 9 42 5 s Try.underlying9 Try.underlying42 Try.underlying5
  have hb : Below w.heap.size w (w.drew.alloc (.cells (bytesRow s (grownCap w s.size 0 5)) 5 ((bytesRow s (grownCap w s.size 0 5)).size, (bytesRow s (grownCap w s.size 0 5)).size + 1))) := (Below.refl _ _).drew.alloc (Nat.le_refl _) _
  have hge := grownCap_ge w s.size 0 5
  have hsz : (bytesRow s (grownCap w s.size 0 5)).size = grownCap w s.size 0 5 := by
    unfold bytesRow; simp; omega
  refine ⟨w.heap.size, grownCap w s.size 0 5, _, h, hge, Nat.le_refl _, by simp, hb, fun j hj => ⟨?_, ?_⟩⟩
  · have := World.cell?_alloc_mark w.drew (bytesRow s (grownCap w s.size 0 5)) 5 ((bytesRow s (grownCap w s.size 0 5)).size, (bytesRow s (grownCap w s.size 0 5)).size + 1) j
    refine this.trans ?_
    unfold bytesRow
    rw [Array.getElem?_append_left (by simpa using hj), Array.getElem?_map, Array.getElem?_eq_getElem (show j < s.data.size from hj)]
    rfl
  · have f := World.frozen?_alloc_mark w.drew (bytesRow s (grownCap w s.size 0 5)) 5 (bytesRow s (grownCap w s.size 0 5)).size ((bytesRow s (grownCap w s.size 0 5)).size + 1) j
    refine f.trans ?_
    simp
    omega
/-- Which bit is turned. -/
theorem turn_place {b : Int} {n : Nat} (h1 : 7 ≤ n) (h2 : n ≤ 2006) : ∃ k : Nat, 16 ≤ k ∧ k < 8 * n ∧ wrap64 (16 + wrap64 ((IntKind.u64.wrap b).tmod (8 * (n : Int) - 16))) = (k : Int) := by
  have hw : 0 ≤ IntKind.u64.wrap b := by rw [IntKind.wrap_u64]; omega
  generalize IntKind.u64.wrap b = z at *
  rw [Int.tmod_eq_emod_of_nonneg hw]
  have h3 := Int.emod_lt_of_pos z (show (0 : Int) < 8 * (n : Int) - 16 by omega)
  have h0 := Int.emod_nonneg z (show (8 * (n : Int) - 16) ≠ 0 by omega)
  generalize z % (8 * (n : Int) - 16) = y at *
  exact ⟨(16 + y).toNat, by omega, by omega, by unfold wrap64; omega⟩
set_option maxRecDepth 20000 in
set_option maxHeartbeats 1000000 in
theorem walk_not {p : ByteArray} {b : Int} (hm : mayB p = false) (w : World) : Calls Try.prog 6 #[.string p, .int .i64 b] w (Yes w) := by
  have HAW := Lib.hid awake_any
  have K := Lib.hid (LMake_any (p := p))
  unfold makeV at K
  rw [hm, if_neg Bool.false_ne_true] at K
  clear hm
  go_enter Try.func6, Try.ntmps6
  go_wp2_with (first
    | (go_at_call 9; refine (K.out w).mono ?_; rintro e w1 ⟨rfl, hb⟩; have HC := Lib.hid hb; clear hb)
    | (go_at_call 8; refine (HAW.out _).mono ?_; rintro e w2 ⟨rfl, hb⟩; replace HC := Lib.hid (HC.out.trans (hb.mono HC.out.size)); clear hb))
  go_ret
  exact ⟨rfl, HC.out⟩
set_option maxRecDepth 20000 in
set_option maxHeartbeats 1000000 in
theorem walk_may {p : ByteArray} {b : Int} (hm : mayB p = true) (w : World) : Calls Try.prog 6 #[.string p, .int .i64 b] w (Yes w) := by
  have HAW := Lib.hid awake_any
  have K := Lib.hid (LMake_any (p := p))
  unfold makeV at K
  rw [hm, if_pos rfl] at K
  have hp : 1 ≤ p.size ∧ p.size ≤ 2000 := by unfold mayB at hm; simpa using hm
  obtain ⟨f, hf⟩ : ∃ f, f = strL (frL p.data.toList) := ⟨_, rfl⟩
  rw [← hf] at K
  have hfs : f.size = p.size + 6 := by rw [hf, strL_size, frL_len, lst_len]
  have HF := Lib.hid hf
  have HPL := Lib.hid hp.2
  have m1 : 7 ≤ f.size := by omega
  have m2 : f.size ≤ 2006 := by omega
  clear hm hf hfs hp
  go_enter Try.func6, Try.ntmps6
  go_wp2_with (first
    | (go_at_call 9; refine (K.out w).mono ?_; rintro e w1 ⟨rfl, hb⟩; have HC := Lib.hid hb; clear hb)
    | (go_at_call 8; refine (HAW.out _).mono ?_; rintro e w2 ⟨rfl, hb⟩; replace HC := Lib.hid (HC.out.trans (hb.mono HC.out.size)); clear hb; refine Hid.out ?_))
  refine Lib.hid ?_
  obtain ⟨g, cap, w3, hrun, hcap, hg, hlt, hb3, hcell⟩ := conv_bytes f w2
  have HCELL := Lib.hid hcell
  have HB3 := Lib.hid hb3
  clear hcell hb3
  obtain ⟨k, hk1, hk2, ek⟩ := turn_place (b := b) m1 m2
  obtain ⟨i, hi⟩ : ∃ i, i = k / 8 := ⟨_, rfl⟩
  obtain ⟨r, hr⟩ : ∃ r, r = k % 8 := ⟨_, rfl⟩
  have E1 : (k : Int) / 8 = (i : Int) := by omega
  have E2 : (k : Int) % 8 = (r : Int) := by omega
  have hr8 : r < 8 := by omega
  have hi2 : 2 ≤ i := by omega
  have hil : i < f.size := by omega
  obtain ⟨c0, z0⟩ := HCELL.out i hil
  obtain ⟨o, ho⟩ : ∃ o, f[i] = o := ⟨_, rfl⟩
  rw [ho] at c0
  have HO := Lib.hid ho
  clear ho hi hr
  go_wp2_with fail
  go_region
  have h256 := u8_lt o
  have hpow : 2 ^ r < 256 := Nat.lt_of_le_of_lt (Nat.pow_le_pow_right (by decide) (show r ≤ 7 by omega)) (by decide)
  have hx : bits .xor .u8 (o.toNat : Int) ((2 : Int) ^ r % 256) = ((o.toNat ^^^ 2 ^ r : Nat) : Int) := by
    have e : (2 : Int) ^ r % 256 = ((2 ^ r : Nat) : Int) := by
      have e1 : ((2 ^ r : Nat) : Int) = (2 : Int) ^ r := by simp
      rw [← e1]
      generalize 2 ^ r = n at hpow ⊢
      omega
    rw [e]
    exact u8_xor_nat _ _ h256 hpow
  rw [hx]
  have hx256 : o.toNat ^^^ 2 ^ r < 256 := Nat.xor_lt_two_pow (n := 8) h256 hpow
  obtain ⟨x, hxe⟩ : ∃ x : UInt8, x = UInt8.ofNat (o.toNat ^^^ 2 ^ r) := ⟨_, rfl⟩
  have hxn : x.toNat = o.toNat ^^^ 2 ^ r := by
    rw [hxe]
    generalize o.toNat ^^^ 2 ^ r = n at hx256 ⊢
    simp
    omega
  rw [← hxn]
  have hne : o ≠ x := fun e => by
    have h1 := congrArg UInt8.toNat e
    rw [hxn] at h1
    have h2 := congrArg (fun z => o.toNat ^^^ z) h1
    simp only [← Nat.xor_assoc, Nat.xor_self, Nat.zero_xor] at h2
    have := Nat.two_pow_pos r
    omega
  obtain ⟨w4, hw4⟩ : ∃ w4, w4 = (w3.setCell ⟨g, i, none⟩ (.int .u8 (x.toNat : Int))).drew := ⟨_, rfl⟩
  rw [← hw4]
  obtain ⟨L, hL⟩ : ∃ L, L = f.data.toList.set i x := ⟨_, rfl⟩
  have hLl : L.length = f.size := by rw [hL, List.length_set]; rfl
  have hb4 : Below w2.heap.size w2 w4 := by rw [hw4]; exact (HB3.out.setCell hg _).drew
  have hconv := run_convert_bytes_back (P := Try.prog) w4 42 9 5 ⟨g, 0, none⟩ cap L Try.underlying42 Try.underlying5 Try.underlying9 (fun j hj => by
    rw [Addr.add_lit, Nat.zero_add, hw4, World.cell?_drew]
    by_cases e : j = i
    · subst e
      rw [World.cell?_setCell_same _ _ _ c0]
      simp [hL]
    · rw [World.cell?_setCell_other _ _ _ _ (by intro h; injection h; omega), (HCELL.out j (by omega)).1]
      simp [hL, Ne.symm e]
      rfl)
  rw [hLl] at hconv
  have hcv : (convert 42 9 (.slice (some ⟨g, 0, none⟩) f.size cap)).run Try.prog w4 = .ok (.string (strL L)) w4 := hconv
  have e14 : nextV (strL L) 0 = .tuple #[.string ⟨#[]⟩, .int .i64 0, .int .i64 14] := by
    unfold nextV
    rw [if_neg (by omega)]
    have e0 : left (strL L) (0 : Int).toNat = L := left_0 _
    have hF : f.data.toList = frL p.data.toList := by rw [HF.out]; rfl
    have hn : nextL L = none := by
      rw [hL, hF]
      refine nextL_turn (by rw [lst_len]; exact HPL.out) hi2 (by rw [← hF]; exact hil) ?_
      rw [← hF, List.getElem?_eq_getElem (show i < f.data.toList.length from hil)]
      intro e
      injection e with e
      exact hne (HO.out.symm.trans e)
    rw [e0, hn]
  have NX := Lib.hid (LNext_any (s := strL L) (a := 0) (by rw [strL_size]; omega))
  rw [e14] at NX
  clear hconv
  generalize strL L = q at *
  have HB4 := Lib.hid hb4
  clear hw4 hx hxe hxn hne hL hLl hb4 e14 c0 z0 HCELL HO hx256 h256 hpow hrun
  go_wp2_with (go_at_call 14; refine (NX.out _).mono ?_; rintro e w5 ⟨rfl, hb⟩)
  go_ret
  exact ⟨rfl, (HC.out.trans (HB4.out.mono HC.out.size)).trans (hb.mono (HC.out.trans (HB4.out.mono HC.out.size)).size)⟩
end Go.Proofs.Ytlfeocccjolmpaa.frameTurns

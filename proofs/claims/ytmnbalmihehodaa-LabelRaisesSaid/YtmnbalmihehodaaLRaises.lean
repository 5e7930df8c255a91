/-
  For every n, all lists of pairs and every list of ints the law LabelRaises answers true and leaves its input as it was. No condition.
-/
import Derived.Test.YtmnbalmihehodaaLAll
import Derived.Test.YtmnbalmihehodaaRefR
namespace Go.Proofs.Ytmnbalmihehodaa
open Go.ChangeShapes Go.WideShapes Go.ChangeAt Go.RowKit

namespace lawRaises

set_option maxRecDepth 100000 in
set_option maxHeartbeats 1000000 in
theorem walk_none (n : Int) (A : Option Addr) (len cap : Nat) (p q : Nat → Int) (v v1 : Value) (w : World) (hp : Prs w w.heap.size A len p q) (hA : A = none → cap = 0) (h : 200 < len ∨ (len ≤ 200 ∧ (mbo n len p q && mkL n len p q) = false)) :
    Calls Try.prog 5 #[.int .i64 n, .slice A len cap, v, v1] w fun e w' => e = .returned (.bool true) ∧ Below w.heap.size w w' := by
  have hzero := zero31
  have H := Lib.hid h
  clear h
  go_enter Try.func5, Try.ntmps5
  go_wp2_with fail
  refine (both_no n A len cap p q w hp hA H.out).mono ?_
  rintro e w1 ⟨cs, rfl, hcs, hone, hb1⟩
  have hsz := Lib.hid hcs
  have hl1 := heap_alloc_new w1 (.cells z31 28)
  have hb2 := below_setRow (hb1.alloc hb1.size (.cells z31 28)) hb1.size cs
  clear hcs hb1 hp hA H
  go_wp2_with (first | (refine st31 rfl _ _ rfl _ _ rfl rfl _ hl1 hsz.out z31_size hone ?_) | fail)
  clear hl1 hzero hone
  generalize (w1.alloc (.cells z31 28)).setRow w1.heap.size cs = w2 at *
  generalize w1.heap.size = s1 at *
  refine (awake_any _).mono ?_
  rintro e w3 ⟨rfl, hb3⟩
  have hb4 := after hb2 hb3
  go_wp2_with fail
  refine (awake_any _).mono ?_
  rintro e w5 ⟨rfl, hb5⟩
  have hb6 := after hb4 hb5
  go_wp2_with fail
  go_ret
  exact ⟨rfl, hb6⟩

set_option maxRecDepth 100000 in
set_option maxHeartbeats 2000000 in
theorem walk_ok (n : Int) (A : Option Addr) (len cap : Nat) (p q : Nat → Int) (D : Option Addr) (elen ecap : Nat) (ep eq : Nat → Int) (C : Option Addr) (m capl : Nat) (f : Nat → Int) (w : World) (hp : Prs w w.heap.size A len p q) (hA : A = none → cap = 0) (hD : Prs w w.heap.size D elen ep eq) (hDn : D = none → ecap = 0) (hC : C = none → capl = 0) (hR : Rd w w.heap.size C m f)
    (hlen : len ≤ 200) (hm : mbo n len p q = true) (hl : mkL n len p q = true) :
    Calls Try.prog 5 #[.int .i64 n, .slice A len cap, .slice D elen ecap, .slice C m capl] w fun e w' => e = .returned (.bool true) ∧ Below w.heap.size w w' := by
  have hzero := zero31
  have hG := mk_good hm hl
  have HM := Lib.hid hm
  have HL := Lib.hid hl
  clear hm hl
  go_enter Try.func5, Try.ntmps5
  go_wp2_with fail
  refine (both_ok n A len cap p q w hp hA hlen HM.out HL.out).mono ?_
  rintro e w1 ⟨g, cs, rfl, hRL, hb1, hL1⟩
  have hsz := Lib.hid hRL.sz
  have hone := hRL.one
  have hl1 := heap_alloc_new w1 (.cells z31 28)
  have hw2 := below_setRow (hb1.alloc hb1.size (.cells z31 28)) hb1.size cs
  have hl2 := setRow_heap _ _ _ cs 28 (0, 0) hl1
  have hL2 : Lat ((w1.alloc (.cells z31 28)).setRow w1.heap.size cs) g _ _ _ := ⟨(heap_setRow_far _ _ _ cs (Nat.ne_of_lt hL1.lt)).trans (hL1.alloc (.cells z31 28)).blk, hL1.n8, hL1.a8, hL1.b8⟩
  clear hb1 hp hA HM HL hL1
  go_wp2_with (first | (refine st31 rfl _ _ rfl _ _ rfl rfl _ hl1 hsz.out z31_size hone ?_) | fail)
  clear hl1 hzero hone
  generalize (w1.alloc (.cells z31 28)).setRow w1.heap.size cs = w2 at *
  generalize w1.heap.size = s1 at *
  have HR := Lib.hid hRL
  clear hRL
  generalize mkA n len p q = As at *
  generalize mkB n len p q = Bs at *
  refine (awake_any _).mono ?_
  rintro e w3 ⟨rfl, hb3⟩
  have hw3 := after hw2 hb3
  have hL3 := hL2.keep hb3
  have hs3 := (hb3.block _ (Array.getElem?_eq_some_iff.1 hl2).1).trans hl2
  have hD3 := (hD.keep hw3).mono hw3.size
  have hR3 := (hR.keep hw3).mono hw3.size
  clear hw2 hL2 hb3 hR hD hl2
  by_cases h1 : 100 < elen
  · have h1' : (100 : Int) < elen := by omega
    go_wp2_with fail
    refine (awake_any _).mono ?_
    rintro e w5 ⟨rfl, hb5⟩
    have hb6 := after hw3 hb5
    go_wp2_with fail
    go_ret
    exact ⟨rfl, hb6⟩
  have h1' : (elen : Int) ≤ 100 := by omega
  by_cases h2 : 40 < m
  · have h2' : (40 : Int) < m := by omega
    go_wp2_with fail
    refine (awake_any _).mono ?_
    rintro e w5 ⟨rfl, hb5⟩
    have hb6 := after hw3 hb5
    go_wp2_with fail
    go_ret
    exact ⟨rfl, hb6⟩
  have h2' : (m : Int) ≤ 40 := by omega
  have hz4 := heap_alloc_new w3 (.cells #[] 51)
  have hbz4 := (Below.refl w3.heap.size w3).alloc (Nat.le_refl _) (.cells #[] 51)
  have hD3z := hD3.keep hbz4
  go_wp2_with (first | (at_builtin; refine wp_app rfl (.tmp 42) (.tmp 43) rfl _ rfl hz4 _ _ _ _ _ _ rfl hD3z hDn (by omega) ?_; intro D4 ecap4 w4 hP4 hb4; have hb34 := hbz4.trans hb4; have hz5 := heap_alloc_new w4 (.cells #[] 3); have hbz5 := hb34.trans (((Below.refl w4.heap.size w4).alloc (Nat.le_refl _) (.cells #[] 3)).mono hb34.size); have hR5z := hR3.keep hbz5) | (at_builtin; refine wp_appI rfl (.tmp 45) (.tmp 46) rfl _ rfl hz5 _ _ _ _ _ rfl hR5z hC (by omega) ?_; intro g5 cap5 w5 hg5 hI5 hb5) | fail)
  have hb45 := ((Below.refl w4.heap.size w4).alloc (Nat.le_refl _) (.cells #[] 3)).trans hb5
  have hb35 := hb34.trans (hb45.mono hb34.size)
  have hP5 := (hP4.keep hb45).mono hb45.size
  have hL5 := hL3.keep hb35
  have hw5 := after hw3 hb35
  have hD5 := (hD3.keep hb35).mono hb35.size
  have hR5 := (hR3.keep hb35).mono hb35.size
  have hs5 := (hb35.block _ (Array.getElem?_eq_some_iff.1 hs3).1).trans hs3
  clear hz4 hbz4 hD3z hb4 hb34 hz5 hbz5 hR5z hb5 hb45 hb35 hL3 hw3 hD3 hR3 hs3 hP4 hg5
  cases hok : (okL n.toNat f m && okK (m : Int) ep eq elen)
  · have HN := Lib.hid hok
    refine (Raise_no D4 elen ecap4 ep eq _ m cap5 f _ (by omega) (by omega) hL5 hP5 hI5.rd hok).mono ?_
    clear hok
    rintro e w6 ⟨rfl, hb6⟩
    have hw6 := after hw5 hb6
    have hD6 := (hD5.keep hb6).mono hb6.size
    have hR6 := (hR5.keep hb6).mono hb6.size
    have hs6 := (hb6.block _ (Array.getElem?_eq_some_iff.1 hs5).1).trans hs5
    clear hL5 hw5 hD5 hR5 hs5 hb6 hP5 hI5
    go_wp2_with (first | (refine ld31 rfl _ rfl _ rfl _ hs6 hsz.out ?_) | fail)
    refine (rRaise_any hG HR.out D elen ecap ep eq C m capl f _ (by omega) (by omega) hD6 hC hR6).mono ?_
    rintro e w7 (⟨hyes, _⟩ | ⟨_, rfl, hb7⟩)
    · rw [HN.out] at hyes; cases hyes
    have hw7 := after hw6 hb7
    go_wp2_with fail
    go_ret
    exact ⟨rfl, hw7⟩
  · have HN := Lib.hid hok
    obtain ⟨ok1, ok2⟩ : okL n.toNat f m = true ∧ okK (m : Int) ep eq elen = true := by simpa using hok
    have HT : Hid (Things m ep eq elen) := Lib.hid (fun i hi => by have := okK_at ok2 hi; omega)
    have HF : Hid (∀ x, x < m → isL n.toNat (f x) = true) := Lib.hid (okL_iff.1 ok1)
    refine (Raise_any hG D4 elen ecap4 ep eq _ m cap5 f _ (by omega) (by omega) hL5 hP5 hI5.rd ok1 ok2).mono ?_
    clear hok ok1 ok2
    rintro e w6 ⟨A1, cap1, c, rfl, hc6, hup, hb6⟩
    have HU := Lib.hid hup
    have hw6 := after hw5 hb6
    have hD6 := (hD5.keep hb6).mono hb6.size
    have hR6 := (hR5.keep hb6).mono hb6.size
    have hs6 := (hb6.block _ (Array.getElem?_eq_some_iff.1 hs5).1).trans hs5
    clear hL5 hw5 hD5 hR5 hs5 hb6 hP5 hI5 hup
    go_wp2_with (first | (refine ld31 rfl _ rfl _ rfl _ hs6 hsz.out ?_) | fail)
    refine (rRaise_any hG HR.out D elen ecap ep eq C m capl f _ (by omega) (by omega) hD6 hC hR6).mono ?_
    rintro e w7 (⟨_, go, cap7, rfl, hI7, hb7⟩ | ⟨hno, _⟩)
    case inr => rw [HN.out] at hno; cases hno
    have HS : Hid (smK c (roK n.toNat As ep eq elen f (8 * m)) m = true) := Lib.hid (smK_of fun i hi => HU.out.one hG (ref_raised hG HT.out HF.out) hi)
    have hw7 := after hw6 hb7
    have hc7 := (hc6.keep hb7).mono hb7.size
    clear hw6 hD6 hR6 hs6 hb7 hc6
    go_wp2_with fail
    refine (same_any A1 _ m cap1 cap7 c _ _ (by omega) hc7 hI7.rd).mono ?_
    rintro e w8 ⟨rfl, hb8⟩
    rw [HS.out]
    have hw8 := after hw7 hb8
    clear hw7 hc7 hI7 hb8
    go_wp2_with fail
    go_ret
    exact ⟨rfl, hw8⟩

theorem walk (n : Int) (A : Option Addr) (len cap : Nat) (p q : Nat → Int) (D : Option Addr) (elen ecap : Nat) (ep eq : Nat → Int) (C : Option Addr) (m capl : Nat) (f : Nat → Int) (w : World) (hp : Prs w w.heap.size A len p q) (hA : A = none → cap = 0) (hD : Prs w w.heap.size D elen ep eq) (hDn : D = none → ecap = 0) (hC : C = none → capl = 0) (hR : Rd w w.heap.size C m f) :
    Calls Try.prog 5 #[.int .i64 n, .slice A len cap, .slice D elen ecap, .slice C m capl] w fun e w' => e = .returned (.bool true) ∧ Below w.heap.size w w' := by
  rcases boths (n := n) (len := len) (p := p) (q := q) with h | ⟨h, hm, hl⟩
  · exact walk_none n A len cap p q _ _ w hp hA h
  · exact walk_ok n A len cap p q D elen ecap ep eq C m capl f w hp hA hD hDn hC hR h hm hl

set_option maxRecDepth 100000 in
theorem lifted (os : Os) (started : os.Started) (H : Type) (enc : TypeId × Value → H) :
    ReturnsInHanded {} Try.checked os 5 .any (Rows.labelRaisesSpec.pre6 enc Try.prog Try.f5 Rows.labelRaisesRow.domain false) (Rows.labelRaisesSpec.post enc Try.prog Try.f5 false true false false) := by
  refine returnsInHanded_of_change (C := Try.checked) own started (by kernel_rfl) Try.func5
    (ChangeSpec.witness6 (enc := enc) (C := Try.checked) false ⟨#[], #[.int .i64 0, .slice none 0 0, .slice none 0 0, .slice none 0 0], []⟩ 8 (by kernel_rfl) (by kernel_rfl) (by kernel_rfl) (by kernel_rfl)) ?_
  intro W base args ds gs before hval0 hW hcnd _
  have hval : ∀ (j : Nat) t v, Try.f5.params[j]? = some t → args[j]? = some v → Value.okWide Try.prog W .any base t v := hval0
  have hW' := hW
  obtain ⟨p, q, hA0, hV, rfl, hfz, hnd⟩ := hW
  have hA : DataW.TrodAll enc Try.prog W 0 (fun _ => true) true Try.f5.params.toList args.toList ds p := hA0
  rw [Try.params5] at hA hval
  obtain ⟨v0, vs0, d0, ds0, p0, q0, hargs, rfl, rfl, h0, r0⟩ := trodAll_cons hA
  obtain ⟨v1, vs1, d1, ds1, p1, q1, rfl, rfl, rfl, h1, r1⟩ := trodAll_cons r0
  obtain ⟨v2, vs2, d2, ds2, p2, q2, rfl, rfl, rfl, h2, r2⟩ := trodAll_cons r1
  obtain ⟨v3, vs3, d3, ds3, p3, q3, rfl, rfl, rfl, h3, r3⟩ := trodAll_cons r2
  obtain ⟨rfl, rfl, rfl⟩ := trodAll_nil r3
  obtain rfl : args = #[v0, v1, v2, v3] := by cases args; simp_all
  obtain ⟨rfl, rfl⟩ := trodVars_none hV
  obtain ⟨a0, rfl, rfl, rfl, w0⟩ := open_int Try.underlying3 (hval 0 3 v0 rfl rfl) h0
  clear hA0 hval0
  simp only [List.append_nil] at hW'
  have hlt1 : ∀ x ∈ p1, x.block < W.heap.size := fun x hx => by simpa using hW'.lt x (by simp [hx])
  have hlt2 : ∀ x ∈ p2, x.block < W.heap.size := fun x hx => by simpa using hW'.lt x (by simp [hx])
  have hlt3 : ∀ x ∈ p3, x.block < W.heap.size := fun x hx => by simpa using hW'.lt x (by simp [hx])
  obtain ⟨A, len, cap, pp, qq, rfl, hp, hAn⟩ := open_order (okWide_slice Try.underlying22 (hval 1 22 v1 rfl rfl)) h1 hlt1
  obtain ⟨D, elen, ecap, ep, eq, rfl, hD, hDn⟩ := open_order (okWide_slice Try.underlying22 (hval 2 22 v2 rfl rfl)) h2 hlt2
  obtain ⟨C, m, capl, f, rfl, hR, hC, _⟩ := open_list (okWide_slice Try.underlying23 (hval 3 23 v3 rfl rfl)) h3 hlt3
  refine (walk a0 A len cap pp qq D elen ecap ep eq C m capl f W hp hAn hD hDn hC hR).mono fun e W' ⟨he, hg⟩ => ?_
  subst he
  exact ⟨_, rfl, _, _, _, [], _, [], hW', trodAll_cons_mk (shut_bool Try.underlying4 _) trodAll_mk0,
    trodAll_cons_mk (shut_int Try.underlying3 w0) (trodAll_cons_mk (stays_order h1 hg hlt1) (trodAll_cons_mk (stays_order h2 hg hlt2) (trodAll_cons_mk (stays_list h3 hg hlt3) trodAll_mk0))), rfl, hg.frame _, fun h => by cases h⟩

theorem over : Rows.labelRaisesRow.holds Try.pinned (OpenSpec.ofChange Rows.labelRaisesSpec) :=
  OpenClaim.holds_of_wide 5 Try.f5 rfl rfl rfl rfl rfl rfl rfl ⟨rfl, rfl, rfl, rfl, rfl⟩ rfl rfl rfl rfl rfl (by kernel_rfl) Try.func5 (by kernel_rfl)
    (of_decide_eq_true (by kernel_rfl)) (by unfold Func.isWrapper; first | (rw [if_pos (by decide +kernel)]; kernel_rfl) | (rw [if_neg (by decide +kernel)]; exact ⟨rfl, rfl⟩))
    (fun os started H enc _ => lifted os started H enc)

theorem proved : Rows.LabelRaisesSaid := over
end lawRaises
end Go.Proofs.Ytmnbalmihehodaa

/-
  For every n, every list of pairs, every list of ints and every level the law LabelAll answers true and leaves its input as it was. No condition.
-/
import Derived.Test.YtmnbalmihehodaaFrameB
import Derived.Test.YtmnbalmihehodaaBothB
namespace Go.Proofs.Ytmnbalmihehodaa
open Go.ChangeShapes Go.WideShapes Go.ChangeAt Go.RowKit

theorem boths {n : Int} {len : Nat} {p q : Nat → Int} : (200 < len ∨ (len ≤ 200 ∧ (mbo n len p q && mkL n len p q) = false)) ∨ (len ≤ 200 ∧ mbo n len p q = true ∧ mkL n len p q = true) := by
  rcases Nat.lt_or_ge 200 len with h | h
  · exact .inl (.inl h)
  · cases hml : (mbo n len p q && mkL n len p q)
    · exact .inl (.inr ⟨h, rfl⟩)
    · exact .inr ⟨h, by simpa using hml⟩
theorem both_no (n : Int) (A : Option Addr) (len cap : Nat) (p q : Nat → Int) (w : World) (hp : Prs w w.heap.size A len p q) (hA : A = none → cap = 0) (h : 200 < len ∨ (len ≤ 200 ∧ (mbo n len p q && mkL n len p q) = false)) :
    Calls Try.prog 9 #[.int .i64 n, .slice A len cap] w (GivesNone w) := by
  rcases h with h | ⟨h1, h2⟩
  · exact both_long n A len cap w h
  · exact both_none n A len cap p q w hp hA h1 h2

/-- A fold of joins is at or below a label just if all that were folded are. -/
theorem fo_leq {n : Nat} {A B : Nat → Nat} {L : Nat → Nat → Bool} (hG : GLat n A B L) {f : Nat → Int} {lev : Int} (hv : isL n lev = true) : ∀ k, okL n f k = true →
    leqB n A ((fo (jn n A) (botK n A n) f k : Nat) : Int) lev = (List.range k).all fun i => leqB n A (f i) lev
  | 0, _ => by
    have hb := hG.bot_lt
    have := isL_iff.1 hv
    rw [fo, hG.leq (isL_iff.2 ⟨by omega, by omega⟩) hv]
    simpa using hG.bot_le (x := lev.toNat) (by omega)
  | k + 1, h => by
    rw [okL_succ] at h
    simp only [Bool.and_eq_true] at h
    have ih := fo_leq hG hv k h.1
    have hlt := fo_lt hG.jn_lt hG.bot_lt k h.1
    have hi : isL n ((fo (jn n A) (botK n A n) f k : Nat) : Int) = true := isL_iff.2 ⟨by omega, by omega⟩
    have e : ((fo (jn n A) (botK n A n) f (k + 1) : Nat) : Int) = jI n A ((fo (jn n A) (botK n A n) f k : Nat) : Int) (f k) := by rw [fo, jI, Int.toNat_natCast]
    rw [e, List.range_succ, List.all_append, ← ih, Bool.eq_iff_iff]
    simp only [List.all_cons, List.all_nil, Bool.and_true, Bool.and_eq_true]
    obtain ⟨u1, u2⟩ := hG.jI_up hi h.2
    exact ⟨fun hh => ⟨hG.trans u1 hh, hG.trans u2 hh⟩, fun hh => hG.jI_least hh.1 hh.2⟩

theorem pick_all {P : Nat → Bool} {k : Nat} (h : ((List.range k).all P) = true) : (pick P k).length = k := by
  unfold pick
  rw [List.filter_eq_self.2 (by simpa using h), List.length_range]
theorem pick_not {P : Nat → Bool} {k : Nat} (h : ((List.range k).all P) = false) : (pick P k).length ≠ k := by
  intro e
  unfold pick at e
  have : (List.range k).filter P = List.range k := List.Sublist.eq_of_length List.filter_sublist (by rw [e, List.length_range])
  rw [List.filter_eq_self] at this
  rw [List.all_eq_true.2 this] at h
  cases h

namespace lawAll

set_option maxRecDepth 100000 in
set_option maxHeartbeats 1000000 in
theorem walk_none (n : Int) (A : Option Addr) (len cap : Nat) (p q : Nat → Int) (v : Value) (lev : Int) (w : World) (hp : Prs w w.heap.size A len p q) (hA : A = none → cap = 0) (h : 200 < len ∨ (len ≤ 200 ∧ (mbo n len p q && mkL n len p q) = false)) :
    Calls Try.prog 8 #[.int .i64 n, .slice A len cap, v, .int .i64 lev] w fun e w' => e = .returned (.bool true) ∧ Below w.heap.size w w' := by
  have hzero := zero31
  have H := Lib.hid h
  clear h
  go_enter Try.func8, Try.ntmps8
  go_wp2_with fail
  refine (both_no n A len cap p q w hp hA H.out).mono ?_
  rintro e w1 ⟨cs, rfl, hcs, hone, hb1⟩
  have hsz := Lib.hid hcs
  have hl1 := heap_alloc_new w1 (.cells z31 28)
  have hb2 := below_setRow (hb1.alloc hb1.size (.cells z31 28)) hb1.size cs
  clear hcs hb1 hp hA H
  go_wp2_with (first | (refine st31 rfl _ _ rfl _ _ rfl rfl _ hl1 hsz.out z31_size hone ?_) | fail)
  clear hl1 hzero hone
  generalize (w1.alloc (.cells z31 28)).setRow w1.heap.size cs = w2 at *
  generalize w1.heap.size = s1 at *
  refine (awake_any _).mono ?_
  rintro e w3 ⟨rfl, hb3⟩
  have hb4 := after hb2 hb3
  go_wp2_with fail
  refine (awake_any _).mono ?_
  rintro e w5 ⟨rfl, hb5⟩
  have hb6 := after hb4 hb5
  go_wp2_with fail
  go_ret
  exact ⟨rfl, hb6⟩

set_option maxRecDepth 100000 in
set_option maxHeartbeats 1000000 in
theorem walk_ok (n : Int) (A : Option Addr) (len cap : Nat) (p q : Nat → Int) (C : Option Addr) (m capl : Nat) (f : Nat → Int) (lev : Int) (w : World) (hp : Prs w w.heap.size A len p q) (hA : A = none → cap = 0) (hR : Rd w w.heap.size C m f)
    (hlen : len ≤ 200) (hm : mbo n len p q = true) (hl : mkL n len p q = true) :
    Calls Try.prog 8 #[.int .i64 n, .slice A len cap, .slice C m capl, .int .i64 lev] w fun e w' => e = .returned (.bool true) ∧ Below w.heap.size w w' := by
  have hzero := zero31
  have hG := mk_good hm hl
  have HM := Lib.hid hm
  have HL := Lib.hid hl
  clear hm hl
  go_enter Try.func8, Try.ntmps8
  go_wp2_with fail
  refine (both_ok n A len cap p q w hp hA hlen HM.out HL.out).mono ?_
  rintro e w1 ⟨g, cs, rfl, hRL, hb1, hL1⟩
  have hsz := Lib.hid hRL.sz
  have hone := hRL.one
  have hl1 := heap_alloc_new w1 (.cells z31 28)
  have hw2 := below_setRow (hb1.alloc hb1.size (.cells z31 28)) hb1.size cs
  have hL2 : Lat ((w1.alloc (.cells z31 28)).setRow w1.heap.size cs) g _ _ _ := ⟨(heap_setRow_far _ _ _ cs (Nat.ne_of_lt hL1.lt)).trans (hL1.alloc (.cells z31 28)).blk, hL1.n8, hL1.a8, hL1.b8⟩
  clear hb1 hp hA HM HL hL1
  go_wp2_with (first | (refine st31 rfl _ _ rfl _ _ rfl rfl _ hl1 hsz.out z31_size hone ?_) | fail)
  clear hl1 hzero hone
  generalize (w1.alloc (.cells z31 28)).setRow w1.heap.size cs = w2 at *
  generalize w1.heap.size = s1 at *
  generalize mkA n len p q = As at *
  generalize mkB n len p q = Bs at *
  refine (awake_any _).mono ?_
  rintro e w3 ⟨rfl, hb3⟩
  have hw3 := after hw2 hb3
  have hL3 := hL2.keep hb3
  have hR3 := (hR.keep hw3).mono hw3.size
  clear hw2 hL2 hb3 hR
  by_cases hm300 : 300 < m
  · have hm300' : (300 : Int) < m := by omega
    go_wp2_with fail
    refine (awake_any _).mono ?_
    rintro e w5 ⟨rfl, hb5⟩
    have hb6 := after hw3 hb5
    go_wp2_with fail
    go_ret
    exact ⟨rfl, hb6⟩
  have hm300' : (m : Int) ≤ 300 := by omega
  cases hlv : leqB n.toNat As lev lev
  · have HV := Lib.hid hlv
    clear hlv
    go_wp2_with fail
    refine (leq_any lev lev _ hL3).mono ?_
    rintro e w' ⟨rfl, rfl⟩
    rw [HV.out]
    go_wp2_with fail
    refine (awake_any _).mono ?_
    rintro e w5 ⟨rfl, hb5⟩
    have hb6 := after hw3 hb5
    go_wp2_with fail
    go_ret
    exact ⟨rfl, hb6⟩
  have HI := Lib.hid (leqB_isL hlv).1
  have HV := Lib.hid hlv
  clear hlv
  cases hok : okL n.toNat f m
  · have HF : Hid (foldV n.toNat (jn n.toNat As) (botK n.toNat As n.toNat) f m = .tuple #[.int .i64 0, .int .i64 3]) := Lib.hid (by rw [foldV, hok]; rfl)
    clear hok
    go_wp2_with fail
    refine (leq_any lev lev _ hL3).mono ?_
    rintro e w' ⟨rfl, rfl⟩
    rw [HV.out]
    go_wp2_with fail
    refine (JoinAll_any hG C m capl f _ (by omega) hL3 hR3).mono ?_
    rintro e w4 ⟨rfl, hb4⟩
    rw [HF.out]
    have hw4 := after hw3 hb4
    go_wp2_with fail
    go_ret
    exact ⟨rfl, hw4⟩
  have HF : Hid (foldV n.toNat (jn n.toNat As) (botK n.toNat As n.toNat) f m = .tuple #[.int .i64 (fo (jn n.toNat As) (botK n.toNat As n.toNat) f m : Nat), .int .i64 0]) := Lib.hid (by rw [foldV, hok]; rfl)
  have hfl := fo_leq hG HI.out m hok
  clear hok
  cases hall : ((List.range m).all fun i => leqB n.toNat As (f i) lev)
  · rw [hall] at hfl
    have HQ := Lib.hid hfl
    have hne := pick_not hall
    clear hfl hall
    have hpl := pick_le (fun i => leqB n.toNat As (f i) lev) m
    go_wp2_with fail
    refine (leq_any lev lev _ hL3).mono ?_
    rintro e w' ⟨rfl, rfl⟩
    rw [HV.out]
    go_wp2_with fail
    refine (JoinAll_any hG C m capl f _ (by omega) hL3 hR3).mono ?_
    rintro e w4 ⟨rfl, hb4⟩
    rw [HF.out]
    have hw4 := after hw3 hb4
    have hL4 := hL3.keep hb4
    have hR4 := (hR3.keep hb4).mono hb4.size
    generalize fo (jn n.toNat As) (botK n.toNat As n.toNat) f m = z at *
    clear hL3 hw3 hR3 hb4
    go_wp2_with fail
    refine (leq_any _ lev _ hL4).mono ?_
    rintro e w' ⟨rfl, rfl⟩
    rw [HQ.out]
    go_wp2_with fail
    refine (Visible_any lev C m capl f _ (by omega) hL4 hR4).mono ?_
    rintro e w5 ⟨v5, rfl, hown5, hb5⟩
    have hw5 := after hw4 hb5
    obtain ⟨A5, cap5, rfl, _⟩ := row_read hown5
    clear hown5
    generalize (pick (fun i => leqB n.toNat As (f i) lev) m).length = k at *
    have hkm : ((k : Int) == (m : Int)) = false := by rw [beq_eq_false_iff_ne]; omega
    go_wp2_with fail
    go_ret
    exact ⟨rfl, hw5⟩
  · rw [hall] at hfl
    have HQ := Lib.hid hfl
    have HK := Lib.hid (pick_all hall)
    clear hfl hall
    go_wp2_with fail
    refine (leq_any lev lev _ hL3).mono ?_
    rintro e w' ⟨rfl, rfl⟩
    rw [HV.out]
    go_wp2_with fail
    refine (JoinAll_any hG C m capl f _ (by omega) hL3 hR3).mono ?_
    rintro e w4 ⟨rfl, hb4⟩
    rw [HF.out]
    have hw4 := after hw3 hb4
    have hL4 := hL3.keep hb4
    have hR4 := (hR3.keep hb4).mono hb4.size
    generalize fo (jn n.toNat As) (botK n.toNat As n.toNat) f m = z at *
    clear hL3 hw3 hR3 hb4
    go_wp2_with fail
    refine (leq_any _ lev _ hL4).mono ?_
    rintro e w' ⟨rfl, rfl⟩
    rw [HQ.out]
    go_wp2_with fail
    refine (Visible_any lev C m capl f _ (by omega) hL4 hR4).mono ?_
    rintro e w5 ⟨v5, rfl, hown5, hb5⟩
    have hw5 := after hw4 hb5
    obtain ⟨A5, cap5, rfl, _⟩ := row_read hown5
    clear hown5
    rw [HK.out]
    go_wp2_with fail
    go_ret
    exact ⟨by simp, hw5⟩

theorem walk (n : Int) (A : Option Addr) (len cap : Nat) (p q : Nat → Int) (C : Option Addr) (m capl : Nat) (f : Nat → Int) (lev : Int) (w : World) (hp : Prs w w.heap.size A len p q) (hA : A = none → cap = 0) (hR : Rd w w.heap.size C m f) :
    Calls Try.prog 8 #[.int .i64 n, .slice A len cap, .slice C m capl, .int .i64 lev] w fun e w' => e = .returned (.bool true) ∧ Below w.heap.size w w' := by
  rcases boths (n := n) (len := len) (p := p) (q := q) with h | ⟨h, hm, hl⟩
  · exact walk_none n A len cap p q _ lev w hp hA h
  · exact walk_ok n A len cap p q C m capl f lev w hp hA hR h hm hl

set_option maxRecDepth 100000 in
theorem lifted (os : Os) (started : os.Started) (H : Type) (enc : TypeId × Value → H) :
    ReturnsInHanded {} Try.checked os 8 .any (Rows.labelAllSpec.pre6 enc Try.prog Try.f8 Rows.labelAllRow.domain false) (Rows.labelAllSpec.post enc Try.prog Try.f8 false true false false) := by
  refine returnsInHanded_of_change (C := Try.checked) own started (by kernel_rfl) Try.func8
    (ChangeSpec.witness6 (enc := enc) (C := Try.checked) false ⟨#[], #[.int .i64 0, .slice none 0 0, .slice none 0 0, .int .i64 0], []⟩ 8 (by kernel_rfl) (by kernel_rfl) (by kernel_rfl) (by kernel_rfl)) ?_
  intro W base args ds gs before hval0 hW hcnd _
  have hval : ∀ (j : Nat) t v, Try.f8.params[j]? = some t → args[j]? = some v → Value.okWide Try.prog W .any base t v := hval0
  have hW' := hW
  obtain ⟨p, q, hA0, hV, rfl, hfz, hnd⟩ := hW
  have hA : DataW.TrodAll enc Try.prog W 0 (fun _ => true) true Try.f8.params.toList args.toList ds p := hA0
  rw [Try.params8] at hA hval
  obtain ⟨v0, vs0, d0, ds0, p0, q0, hargs, rfl, rfl, h0, r0⟩ := trodAll_cons hA
  obtain ⟨v1, vs1, d1, ds1, p1, q1, rfl, rfl, rfl, h1, r1⟩ := trodAll_cons r0
  obtain ⟨v2, vs2, d2, ds2, p2, q2, rfl, rfl, rfl, h2, r2⟩ := trodAll_cons r1
  obtain ⟨v3, vs3, d3, ds3, p3, q3, rfl, rfl, rfl, h3, r3⟩ := trodAll_cons r2
  obtain ⟨rfl, rfl, rfl⟩ := trodAll_nil r3
  obtain rfl : args = #[v0, v1, v2, v3] := by cases args; simp_all
  obtain ⟨rfl, rfl⟩ := trodVars_none hV
  obtain ⟨a0, rfl, rfl, rfl, w0⟩ := open_int Try.underlying3 (hval 0 3 v0 rfl rfl) h0
  obtain ⟨a3, rfl, rfl, rfl, w3⟩ := open_int Try.underlying3 (hval 3 3 v3 rfl rfl) h3
  clear hA0 hval0
  simp only [List.append_nil] at hW'
  have hlt1 : ∀ x ∈ p1, x.block < W.heap.size := fun x hx => by simpa using hW'.lt x (by simp [hx])
  have hlt2 : ∀ x ∈ p2, x.block < W.heap.size := fun x hx => by simpa using hW'.lt x (by simp [hx])
  obtain ⟨A, len, cap, pp, qq, rfl, hp, hAn⟩ := open_order (okWide_slice Try.underlying22 (hval 1 22 v1 rfl rfl)) h1 hlt1
  obtain ⟨C, m, capl, f, rfl, hR, _, _⟩ := open_list (okWide_slice Try.underlying23 (hval 2 23 v2 rfl rfl)) h2 hlt2
  refine (walk a0 A len cap pp qq C m capl f a3 W hp hAn hR).mono fun e W' ⟨he, hg⟩ => ?_
  subst he
  exact ⟨_, rfl, _, _, _, [], _, [], hW', trodAll_cons_mk (shut_bool Try.underlying4 _) trodAll_mk0,
    trodAll_cons_mk (shut_int Try.underlying3 w0) (trodAll_cons_mk (stays_order h1 hg hlt1) (trodAll_cons_mk (stays_list h2 hg hlt2) (trodAll_cons_mk (shut_int Try.underlying3 w3) trodAll_mk0))), rfl, hg.frame _, fun h => by cases h⟩

theorem over : Rows.labelAllRow.holds Try.pinned (OpenSpec.ofChange Rows.labelAllSpec) :=
  OpenClaim.holds_of_wide 8 Try.f8 rfl rfl rfl rfl rfl rfl rfl ⟨rfl, rfl, rfl, rfl, rfl⟩ rfl rfl rfl rfl rfl (by kernel_rfl) Try.func8 (by kernel_rfl)
    (of_decide_eq_true (by kernel_rfl)) (by unfold Func.isWrapper; first | (rw [if_pos (by decide +kernel)]; kernel_rfl) | (rw [if_neg (by decide +kernel)]; exact ⟨rfl, rfl⟩))
    (fun os started H enc _ => lifted os started H enc)

theorem proved : Rows.LabelAllSaid := over
end lawAll
end Go.Proofs.Ytmnbalmihehodaa

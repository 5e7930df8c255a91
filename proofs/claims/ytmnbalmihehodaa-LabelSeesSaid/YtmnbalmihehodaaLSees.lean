/-
  For every n, every list of pairs, every list of ints and every a and b the law LabelSees answers true and leaves its input as it was. No condition.
-/
import Derived.Test.YtmnbalmihehodaaLAll
namespace Go.Proofs.Ytmnbalmihehodaa
open Go.ChangeShapes Go.WideShapes Go.ChangeAt Go.RowKit

/-- Numbers that rise. -/
def Rising (u : Nat → Int) (k : Nat) : Prop := ∀ i j, i < j → j < k → u i < u j
theorem pick_rising (P : Nat → Bool) (m : Nat) : Rising (fOf (pick P m)) (pick P m).length := by
  intro i j hij hj
  have hp : (pick P m).Pairwise (· < ·) := List.Pairwise.filter P List.pairwise_lt_range
  have := List.pairwise_iff_getElem.1 hp i j (by omega) hj hij
  simp only [fOf, List.getD_eq_getElem?_getD, List.getElem?_eq_getElem hj, List.getElem?_eq_getElem (show i < (pick P m).length by omega), Option.getD_some]
  omega
theorem pick_sub {P Q : Nat → Bool} {m : Nat} (h : ∀ i, P i = true → Q i = true) : ∀ t, t < (pick P m).length → ∃ x, x < (pick Q m).length ∧ fOf (pick Q m) x = fOf (pick P m) t := by
  intro t ht
  have hm := List.getElem_mem ht
  have hq : (pick P m)[t] ∈ pick Q m := by
    unfold pick at hm ⊢
    rw [List.mem_filter] at hm ⊢
    exact ⟨hm.1, h _ hm.2⟩
  obtain ⟨x, hx, e⟩ := List.getElem_of_mem hq
  refine ⟨x, hx, ?_⟩
  simp only [fOf, List.getD_eq_getElem?_getD, List.getElem?_eq_getElem hx, List.getElem?_eq_getElem ht, Option.getD_some, e]
theorem pick_both (P : Nat → Bool) : ∀ k, (pick P k).length + (pick (fun i => !P i) k).length = k
  | 0 => rfl
  | k + 1 => by
    have ih := pick_both P k
    cases h : P k
    · rw [pick_miss h, pick_hit (P := fun i => !P i) (by simp [h]), List.length_append, List.length_singleton]
      omega
    · rw [pick_hit h, pick_miss (P := fun i => !P i) (by simp [h]), List.length_append, List.length_singleton]
      omega
theorem near_pick {n : Nat} {A : Nat → Nat} {L : Nat → Nat → Bool} (h : Rel n A L) (a : Int) : nearK n L a false n = pick (fun i => leqB n A (i : Int) a) n := by
  unfold nearK pick
  congr 1
  funext i
  rw [h.leq_eq]
  simp

/-- One is met where it stands: what is before k is less, what stands at k isn't. -/
theorem meet_at {u l : Nat → Int} {lU lL t k : Nat} (hu : Rising u lU) (hs : ∀ t, t < lL → ∃ x, x < lU ∧ u x = l t) (ht : t < lL) (hk : ∀ j, j < k → u j < l t) (hge : k < lU → ¬ u k < l t) (hku : k ≤ lU) :
    k < lU ∧ u k = l t := by
  obtain ⟨x, hx, e⟩ := hs t ht
  have hxk : k ≤ x := by
    rcases Nat.lt_or_ge x k with h | h
    · have := hk x h
      omega
    · exact h
  have hlt : k < lU := by omega
  refine ⟨hlt, ?_⟩
  have h1 := hge hlt
  rcases Nat.lt_or_ge k x with h | h
  · have := hu k x h hx
    omega
  · obtain rfl : k = x := by omega
    exact e

namespace lawSees

set_option maxRecDepth 100000 in
set_option maxHeartbeats 1000000 in
theorem walk_none (n : Int) (A : Option Addr) (len cap : Nat) (p q : Nat → Int) (v : Value) (a b : Int) (w : World) (hp : Prs w w.heap.size A len p q) (hA : A = none → cap = 0) (h : 200 < len ∨ (len ≤ 200 ∧ (mbo n len p q && mkL n len p q) = false)) :
    Calls Try.prog 4 #[.int .i64 n, .slice A len cap, v, .int .i64 a, .int .i64 b] w fun e w' => e = .returned (.bool true) ∧ Below w.heap.size w w' := by
  have hzero := zero31
  have H := Lib.hid h
  clear h
  go_enter Try.func4, Try.ntmps4
  go_wp2_with fail
  refine (both_no n A len cap p q w hp hA H.out).mono ?_
  rintro e w1 ⟨cs, rfl, hcs, hone, hb1⟩
  have hsz := Lib.hid hcs
  have hl1 := heap_alloc_new w1 (.cells z31 28)
  have hb2 := below_setRow (hb1.alloc hb1.size (.cells z31 28)) hb1.size cs
  clear hcs hb1 hp hA H
  go_wp2_with (first | (refine st31 rfl _ _ rfl _ _ rfl rfl _ hl1 hsz.out z31_size hone ?_) | fail)
  clear hl1 hzero hone
  generalize (w1.alloc (.cells z31 28)).setRow w1.heap.size cs = w2 at *
  generalize w1.heap.size = s1 at *
  refine (awake_any _).mono ?_
  rintro e w3 ⟨rfl, hb3⟩
  have hb4 := after hb2 hb3
  go_wp2_with fail
  refine (awake_any _).mono ?_
  rintro e w5 ⟨rfl, hb5⟩
  have hb6 := after hb4 hb5
  go_wp2_with fail
  go_ret
  exact ⟨rfl, hb6⟩

set_option maxRecDepth 100000 in
set_option maxHeartbeats 1000000 in
theorem walk_ok (n : Int) (A : Option Addr) (len cap : Nat) (p q : Nat → Int) (C : Option Addr) (m capl : Nat) (f : Nat → Int) (a b : Int) (w : World) (hp : Prs w w.heap.size A len p q) (hA : A = none → cap = 0) (hR : Rd w w.heap.size C m f)
    (hlen : len ≤ 200) (hm : mbo n len p q = true) (hl : mkL n len p q = true) :
    Calls Try.prog 4 #[.int .i64 n, .slice A len cap, .slice C m capl, .int .i64 a, .int .i64 b] w fun e w' => e = .returned (.bool true) ∧ Below w.heap.size w w' := by
  have hzero := zero31
  have hG := mk_good hm hl
  have HM := Lib.hid hm
  have HL := Lib.hid hl
  clear hm hl
  go_enter Try.func4, Try.ntmps4
  go_wp2_with fail
  refine (both_ok n A len cap p q w hp hA hlen HM.out HL.out).mono ?_
  rintro e w1 ⟨g, cs, rfl, hRL, hb1, hL1⟩
  have hsz := Lib.hid hRL.sz
  have hone := hRL.one
  have hl1 := heap_alloc_new w1 (.cells z31 28)
  have hw2 := below_setRow (hb1.alloc hb1.size (.cells z31 28)) hb1.size cs
  have hL2 : Lat ((w1.alloc (.cells z31 28)).setRow w1.heap.size cs) g _ _ _ := ⟨(heap_setRow_far _ _ _ cs (Nat.ne_of_lt hL1.lt)).trans (hL1.alloc (.cells z31 28)).blk, hL1.n8, hL1.a8, hL1.b8⟩
  clear hb1 hp hA HM HL hL1
  go_wp2_with (first | (refine st31 rfl _ _ rfl _ _ rfl rfl _ hl1 hsz.out z31_size hone ?_) | fail)
  clear hl1 hzero hone
  generalize (w1.alloc (.cells z31 28)).setRow w1.heap.size cs = w2 at *
  generalize w1.heap.size = s1 at *
  generalize mkA n len p q = As at *
  generalize mkB n len p q = Bs at *
  refine (awake_any _).mono ?_
  rintro e w3 ⟨rfl, hb3⟩
  have hw3 := after hw2 hb3
  have hL3 := hL2.keep hb3
  have hR3 := (hR.keep hw3).mono hw3.size
  clear hw2 hL2 hb3 hR
  by_cases hm300 : 300 < m
  · have hm300' : (300 : Int) < m := by omega
    go_wp2_with fail
    refine (awake_any _).mono ?_
    rintro e w5 ⟨rfl, hb5⟩
    have hb6 := after hw3 hb5
    go_wp2_with fail
    go_ret
    exact ⟨rfl, hb6⟩
  have hm300' : (m : Int) ≤ 300 := by omega
  cases hlv : leqB n.toNat As a b
  · have HV := Lib.hid hlv
    clear hlv
    go_wp2_with fail
    refine (leq_any a b _ hL3).mono ?_
    rintro e w' ⟨rfl, rfl⟩
    rw [HV.out]
    go_wp2_with fail
    refine (awake_any _).mono ?_
    rintro e w5 ⟨rfl, hb5⟩
    have hb6 := after hw3 hb5
    go_wp2_with fail
    go_ret
    exact ⟨rfl, hb6⟩
  have HI := Lib.hid (leqB_isL hlv).1
  have HV := Lib.hid hlv
  have HS : Hid (∀ t, t < (pick (fun i => leqB n.toNat As (f i) a) m).length → ∃ x, x < (pick (fun i => leqB n.toNat As (f i) b) m).length ∧ fOf (pick (fun i => leqB n.toNat As (f i) b) m) x = fOf (pick (fun i => leqB n.toNat As (f i) a) m) t) :=
    Lib.hid (pick_sub (fun i hi => hG.trans hi hlv))
  have HU : Hid (Rising (fOf (pick (fun i => leqB n.toNat As (f i) b) m)) (pick (fun i => leqB n.toNat As (f i) b) m).length) := Lib.hid (pick_rising _ _)
  have HW : Hid (Rising (fOf (pick (fun i => leqB n.toNat As (f i) a) m)) (pick (fun i => leqB n.toNat As (f i) a) m).length) := Lib.hid (pick_rising _ _)
  have HN : Hid ((mem (Bs a.toNat) 8).length + (pick (fun i => !leqB n.toNat As (i : Int) a) n.toNat).length = n.toNat) := Lib.hid (by
    rw [near_down hG.dn hG.n8 a (leqB_isL hlv).1, near_pick hG.up]
    exact pick_both _ _)
  have hpa := pick_le (fun i => leqB n.toNat As (f i) a) m
  have hpb := pick_le (fun i => leqB n.toNat As (f i) b) m
  clear hlv
  go_wp2_with fail
  refine (leq_any a b _ hL3).mono ?_
  rintro e w' ⟨rfl, rfl⟩
  rw [HV.out]
  go_wp2_with fail
  refine (Visible_any a C m capl f _ (by omega) hL3 hR3).mono ?_
  rintro e w4 ⟨v4, rfl, hown4, hb4⟩
  have hw4 := after hw3 hb4
  have hL4 := hL3.keep hb4
  have hR4 := (hR3.keep hb4).mono hb4.size
  obtain ⟨A4, cap4, rfl, hl4⟩ := row_read hown4
  clear hown4 hL3 hR3 hw3
  go_wp2_with fail
  refine (Visible_any b C m capl f _ (by omega) hL4 hR4).mono ?_
  rintro e w5 ⟨v5, rfl, hown5, hb5⟩
  have hw5 := after hw4 hb5
  have hL5 := hL4.keep hb5
  have hlR := (hl4.keep hb5).mono hb5.size
  obtain ⟨A5, cap5, rfl, huR⟩ := row_read hown5
  clear hown5 hL4 hR4 hw4 hl4 hb4 hb5
  generalize fOf (pick (fun i => leqB n.toNat As (f i) b) m) = u at *
  generalize fOf (pick (fun i => leqB n.toNat As (f i) a) m) = l at *
  generalize (pick (fun i => leqB n.toNat As (f i) b) m).length = lU at *
  generalize (pick (fun i => leqB n.toNat As (f i) a) m).length = lL at *
  go_wp2_with fail
  go_loop [16, 55] (fun kv iv => ∃ t k : Nat, t ≤ lL ∧ iv = .int .i64 t ∧ kv = .int .i64 k ∧ k ≤ lU ∧ Hid (∀ j, j < k → ∀ s, t ≤ s → s < lL → u j < l s)) (fun _ iv => lL - (intOf iv).toNat)
  case atStart => exact ⟨0, 0, Nat.zero_le _, rfl, rfl, Nat.zero_le _, fun j hj => absurd hj (Nat.not_lt_zero _)⟩
  case round =>
    obtain ⟨t, k, ht, rfl, rfl, hk, HK⟩ := hrel
    by_cases hlt : t < lL
    · obtain ⟨g1, o1, rfl, hg1, hc1⟩ := hlR (by omega)
      have d1 := hc1 t hlt
      clear hc1
      go_wp2_with fail
      go_loop [16] (fun kv => ∃ k : Nat, kv = .int .i64 k ∧ k ≤ lU ∧ Hid (∀ j, j < k → u j < l t)) (fun kv => lU - (intOf kv).toNat)
      case atStart => exact ⟨k, rfl, hk, fun j hj => HK.out j hj t (Nat.le_refl _) hlt⟩
      case round =>
        obtain ⟨k, rfl, hk, HK⟩ := hrel
        by_cases hc : k < lU ∧ u k < l t
        · obtain ⟨hku, hul⟩ := hc
          obtain ⟨g2, o2, rfl, hg2, hc2⟩ := huR (by omega)
          have d2 := hc2 k hku
          have HK2 : Hid (∀ j, j < k + 1 → u j < l t) := Lib.hid (fun j hj => by
            rcases Nat.lt_or_ge j k with h | h
            · exact HK.out j h
            · obtain rfl : j = k := by omega
              exact hul)
          have hk0 : (0 : Int) ≤ k := by omega
          have hk1 : (k : Int) < lU := by omega
          clear hc2
          go_wp2_with fail
          go_round
          case rel => exact ⟨k + 1, by go_num, by omega, HK2⟩
          case measure => simp [intOf]; omega
        · obtain ⟨hku, hue⟩ := meet_at HU.out HS.out hlt HK.out (fun h1 h2 => hc ⟨h1, h2⟩) hk
          obtain ⟨g2, o2, rfl, hg2, hc2⟩ := huR (by omega)
          have d2 := hc2 k hku
          rw [hue] at d2
          have HK2 : Hid (∀ j, j < k → ∀ s, t + 1 ≤ s → s < lL → u j < l s) := Lib.hid (fun j hj s hs hsl => by
            have h1 := HK.out j hj
            have h2 := HW.out t s (by omega) hsl
            omega)
          have hk0 : (0 : Int) ≤ k := by omega
          have hk1 : (k : Int) < lU := by omega
          have hke : ((k : Int) == (lU : Int)) = false := by rw [beq_eq_false_iff_ne]; omega
          clear hc2 hc hue
          go_wp2_with fail
          go_round
          case rel => exact ⟨t + 1, k, by omega, by go_num, rfl, hk, HK2⟩
          case measure => simp [intOf]; omega
    · obtain rfl : t = lL := by omega
      clear hlR huR
      go_wp2_with fail
      refine (Below_yes a _ hL5 HI.out).mono ?_
      rintro e w6 ⟨v6, rfl, hown6, hb6⟩
      have hw6 := after hw5 hb6
      have hL6 := hL5.keep hb6
      obtain ⟨A6, cap6, rfl, _⟩ := row_read hown6
      clear hown6 hL5 hw5
      go_wp2_with fail
      refine (High_any a _ hL6).mono ?_
      rintro e w7 ⟨v7, rfl, hown7, hb7⟩
      have hw7 := after hw6 hb7
      have hL7 := hL6.keep hb7
      obtain ⟨A7, cap7, rfl, _⟩ := row_read hown7
      clear hown7 hL6 hw6
      have hsum := HN.out
      have hn8 := hL7.n8
      generalize (mem (Bs a.toNat) 8).length = x at *
      generalize (pick (fun i => !leqB n.toNat As (i : Int) a) n.toNat).length = y at *
      have HN2 := Lib.hid hsum
      have hx8 : x ≤ 8 := by omega
      have hy8 : y ≤ 8 := by omega
      clear hsum HN
      go_wp2_with fail
      refine (size_any _ hL7).mono ?_
      rintro e w' ⟨rfl, rfl⟩
      have hfin : (((x : Int) + (y : Int)) == max n 0) = true := by rw [beq_iff_eq]; have := HN2.out; omega
      go_wp2_with fail
      go_ret
      exact ⟨rfl, hw7⟩

theorem walk (n : Int) (A : Option Addr) (len cap : Nat) (p q : Nat → Int) (C : Option Addr) (m capl : Nat) (f : Nat → Int) (a b : Int) (w : World) (hp : Prs w w.heap.size A len p q) (hA : A = none → cap = 0) (hR : Rd w w.heap.size C m f) :
    Calls Try.prog 4 #[.int .i64 n, .slice A len cap, .slice C m capl, .int .i64 a, .int .i64 b] w fun e w' => e = .returned (.bool true) ∧ Below w.heap.size w w' := by
  rcases boths (n := n) (len := len) (p := p) (q := q) with h | ⟨h, hm, hl⟩
  · exact walk_none n A len cap p q _ a b w hp hA h
  · exact walk_ok n A len cap p q C m capl f a b w hp hA hR h hm hl

set_option maxRecDepth 100000 in
theorem lifted (os : Os) (started : os.Started) (H : Type) (enc : TypeId × Value → H) :
    ReturnsInHanded {} Try.checked os 4 .any (Rows.labelSeesSpec.pre6 enc Try.prog Try.f4 Rows.labelSeesRow.domain false) (Rows.labelSeesSpec.post enc Try.prog Try.f4 false true false false) := by
  refine returnsInHanded_of_change (C := Try.checked) own started (by kernel_rfl) Try.func4
    (ChangeSpec.witness6 (enc := enc) (C := Try.checked) false ⟨#[], #[.int .i64 0, .slice none 0 0, .slice none 0 0, .int .i64 0, .int .i64 0], []⟩ 8 (by kernel_rfl) (by kernel_rfl) (by kernel_rfl) (by kernel_rfl)) ?_
  intro W base args ds gs before hval0 hW hcnd _
  have hval : ∀ (j : Nat) t v, Try.f4.params[j]? = some t → args[j]? = some v → Value.okWide Try.prog W .any base t v := hval0
  have hW' := hW
  obtain ⟨p, q, hA0, hV, rfl, hfz, hnd⟩ := hW
  have hA : DataW.TrodAll enc Try.prog W 0 (fun _ => true) true Try.f4.params.toList args.toList ds p := hA0
  rw [Try.params4] at hA hval
  obtain ⟨v0, vs0, d0, ds0, p0, q0, hargs, rfl, rfl, h0, r0⟩ := trodAll_cons hA
  obtain ⟨v1, vs1, d1, ds1, p1, q1, rfl, rfl, rfl, h1, r1⟩ := trodAll_cons r0
  obtain ⟨v2, vs2, d2, ds2, p2, q2, rfl, rfl, rfl, h2, r2⟩ := trodAll_cons r1
  obtain ⟨v3, vs3, d3, ds3, p3, q3, rfl, rfl, rfl, h3, r3⟩ := trodAll_cons r2
  obtain ⟨v4, vs4, d4, ds4, p4, q4, rfl, rfl, rfl, h4, r4⟩ := trodAll_cons r3
  obtain ⟨rfl, rfl, rfl⟩ := trodAll_nil r4
  obtain rfl : args = #[v0, v1, v2, v3, v4] := by cases args; simp_all
  obtain ⟨rfl, rfl⟩ := trodVars_none hV
  obtain ⟨a0, rfl, rfl, rfl, w0⟩ := open_int Try.underlying3 (hval 0 3 v0 rfl rfl) h0
  obtain ⟨a3, rfl, rfl, rfl, w3⟩ := open_int Try.underlying3 (hval 3 3 v3 rfl rfl) h3
  obtain ⟨a4, rfl, rfl, rfl, w4⟩ := open_int Try.underlying3 (hval 4 3 v4 rfl rfl) h4
  clear hA0 hval0
  simp only [List.append_nil] at hW'
  have hlt1 : ∀ x ∈ p1, x.block < W.heap.size := fun x hx => by simpa using hW'.lt x (by simp [hx])
  have hlt2 : ∀ x ∈ p2, x.block < W.heap.size := fun x hx => by simpa using hW'.lt x (by simp [hx])
  obtain ⟨A, len, cap, pp, qq, rfl, hp, hAn⟩ := open_order (okWide_slice Try.underlying22 (hval 1 22 v1 rfl rfl)) h1 hlt1
  obtain ⟨C, m, capl, f, rfl, hR, _, _⟩ := open_list (okWide_slice Try.underlying23 (hval 2 23 v2 rfl rfl)) h2 hlt2
  refine (walk a0 A len cap pp qq C m capl f a3 a4 W hp hAn hR).mono fun e W' ⟨he, hg⟩ => ?_
  subst he
  exact ⟨_, rfl, _, _, _, [], _, [], hW', trodAll_cons_mk (shut_bool Try.underlying4 _) trodAll_mk0,
    trodAll_cons_mk (shut_int Try.underlying3 w0) (trodAll_cons_mk (stays_order h1 hg hlt1) (trodAll_cons_mk (stays_list h2 hg hlt2) (trodAll_cons_mk (shut_int Try.underlying3 w3) (trodAll_cons_mk (shut_int Try.underlying3 w4) trodAll_mk0)))), rfl, hg.frame _, fun h => by cases h⟩

theorem over : Rows.labelSeesRow.holds Try.pinned (OpenSpec.ofChange Rows.labelSeesSpec) :=
  OpenClaim.holds_of_wide 4 Try.f4 rfl rfl rfl rfl rfl rfl rfl ⟨rfl, rfl, rfl, rfl, rfl⟩ rfl rfl rfl rfl rfl (by kernel_rfl) Try.func4 (by kernel_rfl)
    (of_decide_eq_true (by kernel_rfl)) (by unfold Func.isWrapper; first | (rw [if_pos (by decide +kernel)]; kernel_rfl) | (rw [if_neg (by decide +kernel)]; exact ⟨rfl, rfl⟩))
    (fun os started H enc _ => lifted os started H enc)

theorem proved : Rows.LabelSeesSaid := over
end lawSees
end Go.Proofs.Ytmnbalmihehodaa

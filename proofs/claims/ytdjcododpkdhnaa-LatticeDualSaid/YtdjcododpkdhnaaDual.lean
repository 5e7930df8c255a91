/-
  For every n, every list of pairs, every a and b the law LatticeDual answers true and leaves its input as it was. No condition.
-/
import Derived.Test.YtdjcododpkdhnaaMath4
import Derived.Test.YtdjcododpkdhnaaFrame
namespace Go.Proofs.Ytdjcododpkdhnaa
open Go.ChangeShapes Go.WideShapes Go.ChangeAt Go.RowKit

namespace lawDual

theorem walk_long (n : Int) (A : Option Addr) (len cap : Nat) (a b : Int) (w : World) (hlen : 200 < len) :
    Calls Try.prog 8 #[.int .i64 n, .slice A len cap, .int .i64 a, .int .i64 b] w fun e w' => e = .returned (.bool true) ∧ Below w.heap.size w w' := by
  have h3 : (200 : Int) < len := by omega
  go_enter Try.func8, Try.ntmps8
  go_wp2_with fail
  refine (awake_any _).mono ?_
  rintro e w1 ⟨rfl, hb1⟩
  go_wp2_with fail
  refine (awake_any _).mono ?_
  rintro e w2 ⟨rfl, hb2⟩
  have hb := after hb1 hb2
  go_wp2_with fail
  go_ret
  exact ⟨rfl, hb⟩

theorem rel_pair {k : Nat} {p q : Nat → Int} {w wr w1 : World} {u v' : Value} {o : Obj} (hB : w.heap.size ≤ wr.heap.size)
    (hnx : Below w.heap.size w wr)
    (hown' : w1.ownsRow w.heap.size 52 2 v' (k + 1) (prCells k q p ++ [.int .i64 (q k), .int .i64 (p k)])) (hown : wr.ownsRow w.heap.size 52 2 u k (prCells k q p)) (hgrow : (wr.alloc o).grownBy w1 u.ownBlock) :
    w1.ownsRow w.heap.size 52 2 v' (k + 1) (prCells (k + 1) q p) ∧ Below w.heap.size w w1 := by
  rw [prCells_succ]
  exact ⟨hown', (hnx.alloc hB o).grown hgrow (by simp; omega) (fun j hj => (hown.lt j hj).1)⟩

set_option maxRecDepth 100000 in
set_option maxHeartbeats 1000000 in
theorem walk_short (n : Int) (A : Option Addr) (len cap : Nat) (p q : Nat → Int) (a b : Int) (w : World) (hp : Prs w w.heap.size A len p q) (hlen : len ≤ 200) :
    Calls Try.prog 8 #[.int .i64 n, .slice A len cap, .int .i64 a, .int .i64 b] w fun e w' => e = .returned (.bool true) ∧ Below w.heap.size w w' := by
  have h3 : (len : Int) ≤ 200 := by omega
  obtain ⟨i0, hi, hz0, hz1, hz2⟩ := info_parts Try.info52
  go_enter Try.func8, Try.ntmps8
  go_wp2_with fail
  refine (awake_any _).mono ?_
  rintro e w1 ⟨rfl, hb1⟩
  go_wp2_with fail
  go_loopw [9, 30] (fun v i wr => ∃ k : Nat, k ≤ len ∧ i = .int .i64 k ∧ wr.ownsRow w.heap.size 52 2 v k (prCells k q p) ∧ Below w.heap.size w wr) (fun _ i _ => len - (intOf i).toNat)
  case atStart => exact ⟨0, Nat.zero_le _, rfl, ⟨rfl, .inl ⟨rfl, rfl⟩⟩, hb1⟩
  case round =>
    obtain ⟨k, hk, rfl, hown, hnx⟩ := hrel
    clear hb1
    by_cases hlt : k < len
    · obtain ⟨g1, off, rfl, hg, hc⟩ := hp (by omega)
      obtain ⟨c0, c1⟩ := hc k hlt
      have d0 := (hnx.cell (p := ⟨g1, off + k * 2, none⟩) hg).trans c0
      have d1 := (hnx.cell (p := ⟨g1, off + k * 2 + 1, none⟩) hg).trans c1
      have hsz := hnx.size
      have ho1 := hown.alloc (.cells #[.int .i64 (p k), .int .i64 (q k)] 52)
      have hn1 := hnx.alloc hsz (.cells #[.int .i64 (p k), .int .i64 (q k)] 52)
      clear hc c0 c1 hp
      go_wp2_with (at_builtin; refine wpList_append_own _ rfl _ _ 22 rfl w.heap.size 52 i0 (.agg #[.int .i64 0, .int .i64 0]) 2 16 Try.underlying22 hi hz0 hz1 hz2 rfl (by decide) _ _ _ rfl (ho1.alloc _) ⟨_, 0, none⟩ 1 1 [.int .i64 (q k), .int .i64 (p k)] rfl rfl ?c1 ?c2 ?c3 ?c4 ?c5 ?_)
      case c1 =>
        intro j u hu
        have hnew : ((wr.alloc (.cells #[.int .i64 (p k), .int .i64 (q k)] 52)).alloc (.cells #[.int .i64 (q k), .int .i64 (p k)] 52)).heap[wr.heap.size + 1]? = some (.cells #[.int .i64 (q k), .int .i64 (p k)] 52 (0, 0)) := by
          have := heap_alloc_new (wr.alloc (.cells #[.int .i64 (p k), .int .i64 (q k)] 52)) (.cells #[.int .i64 (q k), .int .i64 (p k)] 52)
          simpa using this
        match j, hu with
        | 0, hu => cases hu; exact cell_of_heap hnew 0
        | 1, hu => cases hu; exact cell_of_heap hnew 1
      case c2 => simp [Value.oneCell']
      case c3 => unfold maxLen; omega
      case c4 => omega
      case c5 => simp; omega
      intro v' w2 hown2 hgrow _
      obtain ⟨g1', g2'⟩ := rel_pair (by simp; omega) hn1 hown2 ho1 hgrow
      clear hown2 hgrow hown hnx ho1 hn1
      go_wp2_with fail
      go_roundw
      case rel => exact ⟨k + 1, by omega, by go_num, g1', g2'⟩
      case measure => simp [intOf]; omega
    · obtain rfl : k = len := by omega
      obtain ⟨A', cap', rfl, hp2⟩ := prs_of_own hown
      clear hown hlt hk
      cases hml : (mbo n k p q && mkL n k p q)
      · have hml' : (mbo n k q p && mkL n k q p) = false := by
          cases hm : mbo n k p q
          · rw [mbo_flip, hm]; rfl
          · rw [mkL_flip hm, mbo_flip]; rw [← hml]
        have hcode : mcode n k q p = mcode n k p q := by unfold mcode; rw [mbo_flip]
        have HM := Lib.hid hml
        have HM' := Lib.hid hml'
        have HC := Lib.hid hcode
        have hnee : (mcode n k p q != mcode n k p q) = false := by simp
        clear hml hml' hcode
        go_wp2_with fail
        refine (Make_nil n A k cap p q _ ((hp.keep hnx).mono hnx.size) HM.out).mono ?_
        rintro e w2 ⟨rfl, hb2⟩
        have hw2 := hnx.trans (hb2.mono hnx.size)
        have hp3 := (hp2.keep hb2).mono hb2.size
        clear hnx hb2 hp2
        go_wp2_with fail
        refine (Make_nil n A' k cap' q p _ hp3 HM'.out).mono ?_
        rintro e w3 ⟨rfl, hb3⟩
        have hw3 := hw2.trans (hb3.mono hw2.size)
        rw [HC.out]
        clear hw2 hb3 hp3
        go_wp2_with fail
        refine (Join_nil a b _).mono ?_
        rintro e w' ⟨rfl, rfl⟩
        go_wp2_with fail
        refine (Meet_nil a b _).mono ?_
        rintro e w' ⟨rfl, rfl⟩
        go_wp2_with fail
        refine (Bottom_nil _).mono ?_
        rintro e w' ⟨rfl, rfl⟩
        go_wp2_with fail
        refine (Top_nil _).mono ?_
        rintro e w' ⟨rfl, rfl⟩
        go_wp2_with fail
        refine (leq_nil a b _).mono ?_
        rintro e w' ⟨rfl, rfl⟩
        go_wp2_with fail
        refine (leq_nil b a _).mono ?_
        rintro e w' ⟨rfl, rfl⟩
        go_wp2_with fail
        go_ret
        exact ⟨rfl, hw3⟩
      · obtain ⟨hm, hl⟩ : mbo n k p q = true ∧ mkL n k p q = true := by simpa using hml
        have hm' : mbo n k q p = true := by rw [mbo_flip]; exact hm
        have hl' : mkL n k q p = true := by rw [mkL_flip hm]; exact hl
        have HE := Lib.hid (dual_ends hm hl)
        have HQ := Lib.hid (dual_leq hm a b)
        have HM := Lib.hid hm
        have HL := Lib.hid hl
        have HM' := Lib.hid hm'
        have HL' := Lib.hid hl'
        clear hml hm hl hm' hl'
        go_wp2_with fail
        refine (Make_ok n A k cap p q _ ((hp.keep hnx).mono hnx.size) HM.out HL.out).mono ?_
        rintro e w2 ⟨g, rfl, hgs, hb2, hL2⟩
        have hw2 := hnx.trans (hb2.mono hnx.size)
        have hp3 := (hp2.keep hb2).mono hb2.size
        clear hnx hb2 hp2 hgs
        go_wp2_with fail
        refine (Make_ok n A' k cap' q p _ hp3 HM'.out HL'.out).mono ?_
        rintro e w3 ⟨h, rfl, hhs, hb3, hT3⟩
        have hw3 := hw2.trans (hb3.mono hw2.size)
        have hL3 := hL2.keep hb3
        clear hw2 hb3 hp3 hL2 hhs
        cases hab : (isL n.toNat a && isL n.toNat b)
        · have Hab := Lib.hid hab
          clear hab
          go_wp2_with fail
          refine (Join_no a b _ hL3 Hab.out).mono ?_
          rintro e w' ⟨rfl, rfl⟩
          go_wp2_with fail
          refine (Meet_no a b _ hT3 Hab.out).mono ?_
          rintro e w' ⟨rfl, rfl⟩
          go_wp2_with fail
          refine (Bottom_any _ hL3).mono ?_
          rintro e w' ⟨rfl, rfl⟩
          rw [HE.out]
          go_wp2_with fail
          refine (Top_any _ hT3).mono ?_
          rintro e w' ⟨rfl, rfl⟩
          have hse : ((topK n.toNat (mkA n k q p) n.toNat : Int) == (topK n.toNat (mkA n k q p) n.toNat : Int)) = true := by simp
          go_wp2_with fail
          refine (leq_any a b _ hL3).mono ?_
          rintro e w' ⟨rfl, rfl⟩
          rw [HQ.out]
          go_wp2_with fail
          refine (leq_any b a _ hT3).mono ?_
          rintro e w' ⟨rfl, rfl⟩
          cases leqB n.toNat (mkA n k q p) b a
          all_goals
            go_wp2_with fail
            go_ret
            exact ⟨rfl, hw3⟩
        · obtain ⟨ha, hb⟩ : isL n.toNat a = true ∧ isL n.toNat b = true := by simpa using hab
          have ha1 := isL_iff.1 ha
          have hb1 := isL_iff.1 hb
          have HJ := Lib.hid (dual_join HM.out (a := a.toNat) (b := b.toNat) (by omega) (by omega))
          have Ha := Lib.hid ha
          have Hb := Lib.hid hb
          clear hab ha hb ha1 hb1
          go_wp2_with fail
          refine (Join_yes a b _ hL3 Ha.out Hb.out).mono ?_
          rintro e w4 ⟨rfl, hb4⟩
          have hw4 := hw3.trans (hb4.mono hw3.size)
          have hL4 := hL3.keep hb4
          have hT4 := hT3.keep hb4
          rw [HJ.out]
          clear hw3 hL3 hT3 hb4
          go_wp2_with fail
          refine (Meet_yes a b _ hT4 Ha.out Hb.out).mono ?_
          rintro e w5 ⟨rfl, hb5⟩
          have hw5 := hw4.trans (hb5.mono hw4.size)
          have hL5 := hL4.keep hb5
          have hT5 := hT4.keep hb5
          have hsj : ((jn n.toNat (mkB n k q p) a.toNat b.toNat : Int) == (jn n.toNat (mkB n k q p) a.toNat b.toNat : Int)) = true := by simp
          clear hw4 hL4 hT4 hb5
          go_wp2_with fail
          refine (Bottom_any _ hL5).mono ?_
          rintro e w' ⟨rfl, rfl⟩
          rw [HE.out]
          go_wp2_with fail
          refine (Top_any _ hT5).mono ?_
          rintro e w' ⟨rfl, rfl⟩
          have hse : ((topK n.toNat (mkA n k q p) n.toNat : Int) == (topK n.toNat (mkA n k q p) n.toNat : Int)) = true := by simp
          go_wp2_with fail
          refine (leq_any a b _ hL5).mono ?_
          rintro e w' ⟨rfl, rfl⟩
          rw [HQ.out]
          go_wp2_with fail
          refine (leq_any b a _ hT5).mono ?_
          rintro e w' ⟨rfl, rfl⟩
          cases leqB n.toNat (mkA n k q p) b a
          all_goals
            go_wp2_with fail
            go_ret
            exact ⟨rfl, hw5⟩

theorem walk (n : Int) (A : Option Addr) (len cap : Nat) (p q : Nat → Int) (a b : Int) (w : World) (hp : Prs w w.heap.size A len p q) (_ : A = none → cap = 0) :
    Calls Try.prog 8 #[.int .i64 n, .slice A len cap, .int .i64 a, .int .i64 b] w fun e w' => e = .returned (.bool true) ∧ Below w.heap.size w w' := by
  rcases Nat.lt_or_ge 200 len with h | h
  · exact walk_long n A len cap a b w h
  · exact walk_short n A len cap p q a b w hp h

set_option maxRecDepth 100000 in
theorem lifted (os : Os) (started : os.Started) (H : Type) (enc : TypeId × Value → H) :
    ReturnsInHanded {} Try.checked os 8 .any (Rows.latticeDualSpec.pre6 enc Try.prog Try.f8 Rows.latticeDualRow.domain false) (Rows.latticeDualSpec.post enc Try.prog Try.f8 false true false false) := by
  refine returnsInHanded_of_change (C := Try.checked) own started (by kernel_rfl) Try.func8
    (ChangeSpec.witness6 (enc := enc) (C := Try.checked) false ⟨#[], #[.int .i64 0, .slice none 0 0, .int .i64 0, .int .i64 0], []⟩ 8 (by kernel_rfl) (by kernel_rfl) (by kernel_rfl) (by kernel_rfl)) ?_
  intro W base args ds gs before hval0 hW hcnd _
  have hval : ∀ (j : Nat) t v, Try.f8.params[j]? = some t → args[j]? = some v → Value.okWide Try.prog W .any base t v := hval0
  have hW' := hW
  obtain ⟨p, q, hA0, hV, rfl, hfz, hnd⟩ := hW
  have hA : DataW.TrodAll enc Try.prog W 0 (fun _ => true) true Try.f8.params.toList args.toList ds p := hA0
  rw [Try.params8] at hA hval
  obtain ⟨v0, vs0, d0, ds0, p0, q0, hargs, rfl, rfl, h0, r0⟩ := trodAll_cons hA
  obtain ⟨v1, vs1, d1, ds1, p1, q1, rfl, rfl, rfl, h1, r1⟩ := trodAll_cons r0
  obtain ⟨v2, vs2, d2, ds2, p2, q2, rfl, rfl, rfl, h2, r2⟩ := trodAll_cons r1
  obtain ⟨v3, vs3, d3, ds3, p3, q3, rfl, rfl, rfl, h3, r3⟩ := trodAll_cons r2
  obtain ⟨rfl, rfl, rfl⟩ := trodAll_nil r3
  obtain rfl : args = #[v0, v1, v2, v3] := by cases args; simp_all
  obtain ⟨rfl, rfl⟩ := trodVars_none hV
  obtain ⟨a0, rfl, rfl, rfl, w0⟩ := open_int Try.underlying3 (hval 0 3 v0 rfl rfl) h0
  obtain ⟨a2, rfl, rfl, rfl, w2⟩ := open_int Try.underlying3 (hval 2 3 v2 rfl rfl) h2
  obtain ⟨a3, rfl, rfl, rfl, w3⟩ := open_int Try.underlying3 (hval 3 3 v3 rfl rfl) h3
  clear hA0 hval0
  simp only [List.append_nil] at hW'
  have hlt : ∀ x ∈ p1, x.block < W.heap.size := fun x hx => by simpa using hW'.lt x (by simpa using hx)
  obtain ⟨A, len, cap, pp, qq, rfl, hp, hAn⟩ := open_order (okWide_slice Try.underlying22 (hval 1 22 v1 rfl rfl)) h1 hlt
  refine (walk a0 A len cap pp qq a2 a3 W hp hAn).mono fun e W' ⟨he, hg⟩ => ?_
  subst he
  exact ⟨_, rfl, _, _, _, [], _, [], hW', trodAll_cons_mk (shut_bool Try.underlying4 _) trodAll_mk0,
    trodAll_cons_mk (shut_int Try.underlying3 w0) (trodAll_cons_mk (stays_order h1 hg hlt) (trodAll_cons_mk (shut_int Try.underlying3 w2) (trodAll_cons_mk (shut_int Try.underlying3 w3) trodAll_mk0))), rfl, hg.frame _, fun h => by cases h⟩

theorem over : Rows.latticeDualRow.holds Try.pinned (OpenSpec.ofChange Rows.latticeDualSpec) :=
  OpenClaim.holds_of_wide 8 Try.f8 rfl rfl rfl rfl rfl rfl rfl ⟨rfl, rfl, rfl, rfl, rfl⟩ rfl rfl rfl rfl rfl (by kernel_rfl) Try.func8 (by kernel_rfl)
    (of_decide_eq_true (by kernel_rfl)) (by unfold Func.isWrapper; first | (rw [if_pos (by decide +kernel)]; kernel_rfl) | (rw [if_neg (by decide +kernel)]; exact ⟨rfl, rfl⟩))
    (fun os started H enc _ => lifted os started H enc)

theorem proved : Rows.LatticeDualSaid := over
end lawDual
end Go.Proofs.Ytdjcododpkdhnaa

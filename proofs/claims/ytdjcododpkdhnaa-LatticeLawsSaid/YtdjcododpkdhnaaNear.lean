/-
  For every n, every list of pairs and every a the law LatticeNear answers true and leaves its input as it was. No condition.
-/
import Derived.Test.YtdjcododpkdhnaaReady
import Derived.Test.YtdjcododpkdhnaaFrame
namespace Go.Proofs.Ytdjcododpkdhnaa
open Go.ChangeShapes Go.WideShapes Go.ChangeAt Go.RowKit

/-- A list of labels is handed back. -/
def GivesList (L : List Nat) (w : World) (e : Ending) (w' : World) : Prop :=
  ∃ A cap, e = .returned (.slice A L.length cap) ∧ Rd w' w'.heap.size A L.length (fOf L) ∧ Below w.heap.size w w'

theorem list_of_none {L : List Nat} (hL : L = []) {w w' : World} {e : Ending} (h : e = .returned (.slice none 0 0) ∧ w = w') : GivesList L w e w' := by
  obtain ⟨rfl, rfl⟩ := h
  subst hL
  exact ⟨none, 0, rfl, fun h => absurd h (Nat.lt_irrefl 0), Below.refl _ _⟩
theorem list_of_row {L M : List Nat} (hL : M = L) {w w' : World} {e : Ending} (h : GivesRow M w e w') : GivesList L w e w' := by
  subst hL
  obtain ⟨v, rfl, hown, hb⟩ := h
  obtain ⟨A, cap, rfl, hR⟩ := row_read hown
  exact ⟨A, cap, rfl, hR, hb⟩
theorem list_of_row1 {L : List Nat} {w w' : World} {e : Ending} (h : GivesRow1 L w e w') : GivesList L w e w' := by
  obtain ⟨v, rfl, hown, hb⟩ := h
  obtain ⟨A, cap, rfl, hR⟩ := row_read hown
  exact ⟨A, cap, rfl, hR, hb⟩

theorem Below_list {g n : Nat} {A B : Nat → Nat} {L : Nat → Nat → Bool} (a : Int) (w : World) (h : Lat w g n A B) (hr : Rel n B (flip L)) :
    Calls Try.prog 26 #[.pointer (some ⟨g, 0, none⟩), .int .i64 a] w (GivesList (nearK n L a false n) w) := by
  cases ha : isL n a
  · exact (Below_no a w h ha).mono fun e w' hh => list_of_none (near_none a false ha n) hh
  · exact (Below_yes a w h ha).mono fun e w' hh => list_of_row (near_down hr h.n8 a ha) hh
theorem Above_list {g n : Nat} {A B : Nat → Nat} {L : Nat → Nat → Bool} (a : Int) (w : World) (h : Lat w g n A B) (hr : Rel n A L) :
    Calls Try.prog 28 #[.pointer (some ⟨g, 0, none⟩), .int .i64 a] w (GivesList (nearK n L a true n) w) := by
  cases ha : isL n a
  · exact (Above_no a w h ha).mono fun e w' hh => list_of_none (near_none a true ha n) hh
  · exact (Above_yes a w h ha).mono fun e w' hh => list_of_row (near_up hr h.n8 a ha) hh

theorem smK_self (f : Nat → Int) (k : Nat) : smK f f k = true := by simp [smK]

/-- What the laws over both share: where nothing is handed out they ask awake once more. -/
theorem boths {n : Int} {len : Nat} {p q : Nat → Int} : (200 < len ∨ (len ≤ 200 ∧ (mbo n len p q && mkL n len p q) = false)) ∨ (len ≤ 200 ∧ mbo n len p q = true ∧ mkL n len p q = true) := by
  rcases Nat.lt_or_ge 200 len with h | h
  · exact .inl (.inl h)
  · cases hml : (mbo n len p q && mkL n len p q)
    · exact .inl (.inr ⟨h, rfl⟩)
    · exact .inr ⟨h, by simpa using hml⟩

theorem both_no (n : Int) (A : Option Addr) (len cap : Nat) (p q : Nat → Int) (w : World) (hp : Prs w w.heap.size A len p q) (hA : A = none → cap = 0) (h : 200 < len ∨ (len ≤ 200 ∧ (mbo n len p q && mkL n len p q) = false)) :
    Calls Try.prog 24 #[.int .i64 n, .slice A len cap] w (GivesNone w) := by
  rcases h with h | ⟨h1, h2⟩
  · exact both_long n A len cap w h
  · exact both_none n A len cap p q w hp hA h1 h2

namespace lawNear

set_option maxRecDepth 100000 in
theorem walk_none (n : Int) (A : Option Addr) (len cap : Nat) (p q : Nat → Int) (a : Int) (w : World) (hp : Prs w w.heap.size A len p q) (hA : A = none → cap = 0) (h : 200 < len ∨ (len ≤ 200 ∧ (mbo n len p q && mkL n len p q) = false)) :
    Calls Try.prog 4 #[.int .i64 n, .slice A len cap, .int .i64 a] w fun e w' => e = .returned (.bool true) ∧ Below w.heap.size w w' := by
  have hzero := zero31
  have H := Lib.hid h
  clear h
  go_enter Try.func4, Try.ntmps4
  go_wp2_with fail
  refine (both_no n A len cap p q w hp hA H.out).mono ?_
  rintro e w1 ⟨cs, rfl, hcs, hone, hb1⟩
  have hsz := Lib.hid hcs
  have hl1 := heap_alloc_new w1 (.cells z31 31)
  have hb2 := below_setRow (hb1.alloc hb1.size (.cells z31 31)) hb1.size cs
  clear hcs hb1 hp hA H
  go_wp2_with (first | (refine st31 rfl _ _ rfl _ _ rfl rfl _ hl1 hsz.out z31_size hone ?_) | fail)
  clear hl1 hzero hone
  generalize (w1.alloc (.cells z31 31)).setRow w1.heap.size cs = w2 at *
  generalize w1.heap.size = s1 at *
  refine (awake_any _).mono ?_
  rintro e w3 ⟨rfl, hb3⟩
  have hb4 := after hb2 hb3
  go_wp2_with fail
  refine (awake_any _).mono ?_
  rintro e w5 ⟨rfl, hb5⟩
  have hb6 := after hb4 hb5
  go_wp2_with fail
  go_ret
  exact ⟨rfl, hb6⟩

set_option maxRecDepth 100000 in
set_option maxHeartbeats 1000000 in
theorem walk_ok (n : Int) (A : Option Addr) (len cap : Nat) (p q : Nat → Int) (a : Int) (w : World) (hp : Prs w w.heap.size A len p q) (hA : A = none → cap = 0) (hlen : len ≤ 200) (hm : mbo n len p q = true) (hl : mkL n len p q = true) :
    Calls Try.prog 4 #[.int .i64 n, .slice A len cap, .int .i64 a] w fun e w' => e = .returned (.bool true) ∧ Below w.heap.size w w' := by
  have hzero := zero31
  obtain ⟨hrA, hrB⟩ := mk_rel hm
  have HM := Lib.hid hm
  have HL := Lib.hid hl
  clear hm hl
  go_enter Try.func4, Try.ntmps4
  go_wp2_with fail
  refine (both_ok n A len cap p q w hp hA hlen HM.out HL.out).mono ?_
  rintro e w1 ⟨g, cs, rfl, hRL, hb1, hL1⟩
  have hsz := Lib.hid hRL.sz
  have hone := hRL.one
  have hl1 := heap_alloc_new w1 (.cells z31 31)
  have hw2 := below_setRow (hb1.alloc hb1.size (.cells z31 31)) hb1.size cs
  have hl2 := setRow_heap _ _ _ cs 31 (0, 0) hl1
  have hL2 : Lat ((w1.alloc (.cells z31 31)).setRow w1.heap.size cs) g _ _ _ := ⟨(heap_setRow_far _ _ _ cs (Nat.ne_of_lt hL1.lt)).trans (hL1.alloc (.cells z31 31)).blk, hL1.n8, hL1.a8, hL1.b8⟩
  clear hb1 hp hA HM HL hL1
  go_wp2_with (first | (refine st31 rfl _ _ rfl _ _ rfl rfl _ hl1 hsz.out z31_size hone ?_) | fail)
  clear hl1 hzero hone
  generalize (w1.alloc (.cells z31 31)).setRow w1.heap.size cs = w2 at *
  generalize w1.heap.size = s1 at *
  refine (awake_any _).mono ?_
  rintro e w3 ⟨rfl, hb3⟩
  have hw3 := after hw2 hb3
  have hL3 := hL2.keep hb3
  have hl3 := (hb3.block _ (Array.getElem?_eq_some_iff.1 hl2).1).trans hl2
  clear hw2 hL2 hl2 hb3
  go_wp2_with fail
  have l3 : w3.drew.heap[s1]? = some (.cells cs 31 (0, 0)) := hl3
  have k3 := hL3.drew
  have b3 := hw3.drew
  clear hl3 hL3 hw3
  have ln : ∀ up, (nearK n.toNat (rcl n.toNat len p q) a up n.toNat).length ≤ 1000 := fun up => Nat.le_trans (near_le _ _ _ _ _) (by have := k3.n8; omega)
  refine wp_region_any (by kernel_rfl) ?_
  change wpAny _ _ _ _ _ _ _ w3.drew
  refine take_g (i := 0) (some 24) (.pointer (some ⟨g, 0, none⟩)) rfl rfl (by kernel_rfl) (by kernel_rfl) (by kernel_rfl) (fun _ _ _ h => h) (by kernel_rfl) (fun _ => by kernel_rfl) ?_
  refine take_g (i := 1) (some 25) (.int .i64 a) rfl rfl (by kernel_rfl) (by kernel_rfl) (by kernel_rfl) (fun _ _ _ h => h) (by kernel_rfl) (fun _ => by kernel_rfl) ?_
  refine take_g (i := 4) (some 28) (.int .i64 a) rfl rfl (by kernel_rfl) (by kernel_rfl) (by kernel_rfl) (fun _ _ _ h => h) (by kernel_rfl) (fun _ => by kernel_rfl) ?_
  refine ready_both2 (i := 2) (j := 3) 26 #[.pointer (some ⟨g, 0, none⟩), .int .i64 a] (.tmp 8) 26 27 (by decide) rfl rfl rfl rfl rfl (by kernel_rfl) (by kernel_rfl) (by kernel_rfl) (by kernel_rfl) s1 cs (by kernel_rfl) (by kernel_rfl) (by kernel_rfl) (by kernel_rfl) (by kernel_rfl) (by kernel_rfl) (fun _ => by kernel_rfl) (fun _ => by kernel_rfl) l3 hsz.out ?_
  refine (Below_list a _ k3 hrB).mono ?_
  rintro e w4 ⟨A1, c1, rfl, hR1, hb4⟩
  have l4 := (hb4.block _ (Array.getElem?_eq_some_iff.1 l3).1).trans l3
  have k4 := k3.keep hb4
  have b4 := b3.trans (hb4.mono b3.size)
  refine ⟨_, rfl, l4, ?_⟩
  clear hb4 l3 k3 b3
  refine ready_call (i := 5) 27 #[.agg cs, .int .i64 a, .bool false] (some 29) rfl (by kernel_rfl) rfl (by kernel_rfl) (by kernel_rfl) ?_
  refine (rNear_down a _ hRL).mono ?_
  rintro e w5 hgl
  obtain ⟨A2, c2, rfl, hR2, hb5⟩ := list_of_row1 hgl
  have l5 := (hb5.block _ (Array.getElem?_eq_some_iff.1 l4).1).trans l4
  have k5 := k4.keep hb5
  have b5 := b4.trans (hb5.mono b4.size)
  have hR15 := (hR1.keep hb5).mono hb5.size
  refine ⟨_, rfl, ?_⟩
  clear hb5 l4 k4 b4 hR1 hgl
  refine ready_call (i := 6) 25 #[.slice A1 (nearK n.toNat (rcl n.toNat len p q) a false n.toNat).length c1, .slice A2 (nearK n.toNat (rcl n.toNat len p q) a false n.toNat).length c2] (some 30) rfl (by kernel_rfl) rfl (by kernel_rfl) (by kernel_rfl) ?_
  refine (same_any A1 A2 _ c1 c2 _ _ _ (ln false) hR15 hR2).mono ?_
  rintro e w6 ⟨rfl, hb6⟩
  have l6 := (hb6.block _ (Array.getElem?_eq_some_iff.1 l5).1).trans l5
  have k6 := k5.keep hb6
  have b6 := b5.trans (hb6.mono b5.size)
  refine ⟨_, rfl, ?_⟩
  rw [smK_self]
  clear hb6 l5 k5 b5 hR15 hR2
  refine take_g (i := 7) (some 31) (.bool true) rfl rfl (by kernel_rfl) (by kernel_rfl) (by kernel_rfl) (fun _ _ _ h => h) (by kernel_rfl) (fun _ => by kernel_rfl) ?_
  refine take_g (i := 8) (some 32) (.pointer (some ⟨g, 0, none⟩)) rfl rfl (by kernel_rfl) (by kernel_rfl) (by kernel_rfl) (fun _ _ _ h => h) (by kernel_rfl) (fun _ => by kernel_rfl) ?_
  refine take_g (i := 9) (some 33) (.int .i64 a) rfl rfl (by kernel_rfl) (by kernel_rfl) (by kernel_rfl) (fun _ _ _ h => h) (by kernel_rfl) (fun _ => by kernel_rfl) ?_
  refine take_g (i := 12) (some 36) (.int .i64 a) rfl rfl (by kernel_rfl) (by kernel_rfl) (by kernel_rfl) (fun _ _ _ h => h) (by kernel_rfl) (fun _ => by kernel_rfl) ?_
  refine ready_both2 (i := 10) (j := 11) 28 #[.pointer (some ⟨g, 0, none⟩), .int .i64 a] (.tmp 8) 34 35 (by decide) rfl rfl rfl rfl rfl (by kernel_rfl) (by kernel_rfl) (by kernel_rfl) (by kernel_rfl) s1 cs (by kernel_rfl) (by kernel_rfl) (by kernel_rfl) (by kernel_rfl) (by kernel_rfl) (by kernel_rfl) (fun _ => by kernel_rfl) (fun _ => by kernel_rfl) l6 hsz.out ?_
  refine (Above_list a _ k6 hrA).mono ?_
  rintro e w7 ⟨A3, c3, rfl, hR3, hb7⟩
  have l7 := (hb7.block _ (Array.getElem?_eq_some_iff.1 l6).1).trans l6
  have b7 := b6.trans (hb7.mono b6.size)
  refine ⟨_, rfl, l7, ?_⟩
  clear hb7 l6 k6 b6
  refine ready_call (i := 13) 27 #[.agg cs, .int .i64 a, .bool true] (some 37) rfl (by kernel_rfl) rfl (by kernel_rfl) (by kernel_rfl) ?_
  refine (rNear_up a _ hRL).mono ?_
  rintro e w8 hgl
  obtain ⟨A4, c4, rfl, hR4, hb8⟩ := list_of_row1 hgl
  have b8 := b7.trans (hb8.mono b7.size)
  have hR38 := (hR3.keep hb8).mono hb8.size
  refine ⟨_, rfl, ?_⟩
  clear hb8 l7 b7 hR3 hgl
  refine ready_call (i := 14) 25 #[.slice A3 (nearK n.toNat (rcl n.toNat len p q) a true n.toNat).length c3, .slice A4 (nearK n.toNat (rcl n.toNat len p q) a true n.toNat).length c4] (some 38) rfl (by kernel_rfl) rfl (by kernel_rfl) (by kernel_rfl) ?_
  refine (same_any A3 A4 _ c3 c4 _ _ _ (ln true) hR38 hR4).mono ?_
  rintro e w9 ⟨rfl, hb9⟩
  have b9 := b8.trans (hb9.mono b8.size)
  refine ⟨_, rfl, ?_⟩
  rw [smK_self]
  clear hb9 b8 hR38 hR4
  refine take_g (i := 15) (some 39) (.bool true) rfl rfl (by kernel_rfl) (by kernel_rfl) (by kernel_rfl) (fun _ _ _ h => h) (by kernel_rfl) (fun _ => by kernel_rfl) ?_
  refine take_g (i := 16) (some 6) (.bool true) rfl rfl (by kernel_rfl) (by kernel_rfl) (by kernel_rfl) (fun _ _ _ h => h) (by kernel_rfl) (fun _ => by kernel_rfl) ?_
  refine wpAny_done (by kernel_rfl) ?_ _
  go_simp
  go_wp2_with fail
  go_ret
  exact ⟨rfl, b9⟩

theorem walk (n : Int) (A : Option Addr) (len cap : Nat) (p q : Nat → Int) (a : Int) (w : World) (hp : Prs w w.heap.size A len p q) (hA : A = none → cap = 0) :
    Calls Try.prog 4 #[.int .i64 n, .slice A len cap, .int .i64 a] w fun e w' => e = .returned (.bool true) ∧ Below w.heap.size w w' := by
  rcases boths (n := n) (len := len) (p := p) (q := q) with h | ⟨h, hm, hl⟩
  · exact walk_none n A len cap p q a w hp hA h
  · exact walk_ok n A len cap p q a w hp hA h hm hl

set_option maxRecDepth 100000 in
theorem lifted (os : Os) (started : os.Started) (H : Type) (enc : TypeId × Value → H) :
    ReturnsInHanded {} Try.checked os 4 .any (Rows.latticeNearSpec.pre6 enc Try.prog Try.f4 Rows.latticeNearRow.domain false) (Rows.latticeNearSpec.post enc Try.prog Try.f4 false true false false) := by
  refine returnsInHanded_of_change (C := Try.checked) own started (by kernel_rfl) Try.func4
    (ChangeSpec.witness6 (enc := enc) (C := Try.checked) false ⟨#[], #[.int .i64 0, .slice none 0 0, .int .i64 0], []⟩ 8 (by kernel_rfl) (by kernel_rfl) (by kernel_rfl) (by kernel_rfl)) ?_
  intro W base args ds gs before hval0 hW hcnd _
  have hval : ∀ (j : Nat) t v, Try.f4.params[j]? = some t → args[j]? = some v → Value.okWide Try.prog W .any base t v := hval0
  have hW' := hW
  obtain ⟨p, q, hA0, hV, rfl, hfz, hnd⟩ := hW
  have hA : DataW.TrodAll enc Try.prog W 0 (fun _ => true) true Try.f4.params.toList args.toList ds p := hA0
  rw [Try.params4] at hA hval
  obtain ⟨v0, vs0, d0, ds0, p0, q0, hargs, rfl, rfl, h0, r0⟩ := trodAll_cons hA
  obtain ⟨v1, vs1, d1, ds1, p1, q1, rfl, rfl, rfl, h1, r1⟩ := trodAll_cons r0
  obtain ⟨v2, vs2, d2, ds2, p2, q2, rfl, rfl, rfl, h2, r2⟩ := trodAll_cons r1
  obtain ⟨rfl, rfl, rfl⟩ := trodAll_nil r2
  obtain rfl : args = #[v0, v1, v2] := by cases args; simp_all
  obtain ⟨rfl, rfl⟩ := trodVars_none hV
  obtain ⟨a0, rfl, rfl, rfl, w0⟩ := open_int Try.underlying3 (hval 0 3 v0 rfl rfl) h0
  obtain ⟨a2, rfl, rfl, rfl, w2⟩ := open_int Try.underlying3 (hval 2 3 v2 rfl rfl) h2
  clear hA0 hval0
  simp only [List.append_nil] at hW'
  have hlt : ∀ x ∈ p1, x.block < W.heap.size := fun x hx => by simpa using hW'.lt x (by simpa using hx)
  obtain ⟨A, len, cap, pp, qq, rfl, hp, hAn⟩ := open_order (okWide_slice Try.underlying22 (hval 1 22 v1 rfl rfl)) h1 hlt
  refine (walk a0 A len cap pp qq a2 W hp hAn).mono fun e W' ⟨he, hg⟩ => ?_
  subst he
  exact ⟨_, rfl, _, _, _, [], _, [], hW', trodAll_cons_mk (shut_bool Try.underlying4 _) trodAll_mk0,
    trodAll_cons_mk (shut_int Try.underlying3 w0) (trodAll_cons_mk (stays_order h1 hg hlt) (trodAll_cons_mk (shut_int Try.underlying3 w2) trodAll_mk0)), rfl, hg.frame _, fun h => by cases h⟩

theorem over : Rows.latticeNearRow.holds Try.pinned (OpenSpec.ofChange Rows.latticeNearSpec) :=
  OpenClaim.holds_of_wide 4 Try.f4 rfl rfl rfl rfl rfl rfl rfl ⟨rfl, rfl, rfl, rfl, rfl⟩ rfl rfl rfl rfl rfl (by kernel_rfl) Try.func4 (by kernel_rfl)
    (of_decide_eq_true (by kernel_rfl)) (by unfold Func.isWrapper; first | (rw [if_pos (by decide +kernel)]; kernel_rfl) | (rw [if_neg (by decide +kernel)]; exact ⟨rfl, rfl⟩))
    (fun os started H enc _ => lifted os started H enc)

theorem proved : Rows.LatticeNearSaid := over
end lawNear
end Go.Proofs.Ytdjcododpkdhnaa

/-
  For every n, every list of pairs, every a, b and c the law LatticeLaws answers true and leaves its input as it was. No condition.
-/
import Derived.Test.YtdjcododpkdhnaaNear
namespace Go.Proofs.Ytdjcododpkdhnaa
open Go.ChangeShapes Go.WideShapes Go.ChangeAt Go.RowKit

/-! ### The laws of joins, plainly -/
section
variable {n : Nat} {A B : Nat → Nat} {L : Nat → Nat → Bool}

theorem jn_spec (hr : Rel n A L) (hl : IsLat n L) {a b : Nat} (ha : a < n) (hb : b < n) :
    jn n A a b < n ∧ L a (jn n A a b) = true ∧ L b (jn n A a b) = true ∧ ∀ d, d < n → L a d = true → L b d = true → L (jn n A a b) d = true := by
  unfold jn
  rw [hr.fnd_eq ha hb]
  obtain ⟨c, hc⟩ := Option.isSome_iff_exists.1 (hl.join a b ha hb)
  obtain ⟨h1, h2⟩ := rJ_is hc
  rw [hc]
  obtain ⟨c1, c2, c3⟩ := isJ_iff.1 h2
  exact ⟨h1, c1, c2, c3⟩
theorem jn_comm (hr : Rel n A L) {a b : Nat} (ha : a < n) (hb : b < n) : jn n A a b = jn n A b a := by
  unfold jn
  rw [hr.fnd_eq ha hb, hr.fnd_eq hb ha, rJ_comm]
theorem jn_self (hr : Rel n A L) (hl : IsLat n L) {a : Nat} (ha : a < n) : jn n A a a = a := by
  obtain ⟨h1, h2, _, h4⟩ := jn_spec hr hl ha ha
  exact hl.anti _ _ h1 ha (h4 a ha (hl.refl a ha) (hl.refl a ha)) h2
theorem jn_assoc (hr : Rel n A L) (hl : IsLat n L) {a b c : Nat} (ha : a < n) (hb : b < n) (hc : c < n) : jn n A a (jn n A b c) = jn n A (jn n A a b) c := by
  obtain ⟨p1, p2, p3, p4⟩ := jn_spec hr hl hb hc
  obtain ⟨q1, q2, q3, q4⟩ := jn_spec hr hl ha hb
  obtain ⟨r1, r2, r3, r4⟩ := jn_spec hr hl ha p1
  obtain ⟨s1, s2, s3, s4⟩ := jn_spec hr hl q1 hc
  refine hl.anti _ _ r1 s1 ?_ ?_
  · exact r4 _ s1 (hl.trans _ _ _ ha q1 s1 q2 s2) (p4 _ s1 (hl.trans _ _ _ hb q1 s1 q3 s2) s3)
  · exact s4 _ r1 (q4 _ r1 r2 (hl.trans _ _ _ hb p1 r1 p2 r3)) (hl.trans _ _ _ hc p1 r1 p3 r3)
theorem jn_absorb (hrA : Rel n A L) (hrB : Rel n B (flip L)) (hl : IsLat n L) {a b : Nat} (ha : a < n) (hb : b < n) : jn n A a (jn n B a b) = a := by
  obtain ⟨p1, p2, p3, p4⟩ := jn_spec hrB hl.dual ha hb
  have p2' : L (jn n B a b) a = true := p2
  obtain ⟨q1, q2, _, q4⟩ := jn_spec hrA hl ha p1
  exact hl.anti _ _ q1 ha (q4 a ha (hl.refl a ha) p2') q2
theorem jn_leq (hr : Rel n A L) (hl : IsLat n L) {a b : Nat} (ha : a < n) (hb : b < n) : L a b = decide (jn n A a b = b) := by
  obtain ⟨q1, q2, q3, q4⟩ := jn_spec hr hl ha hb
  rw [Bool.eq_iff_iff, decide_eq_true_iff]
  constructor
  · intro h
    exact hl.anti _ _ q1 hb (q4 b hb h (hl.refl b hb)) q3
  · intro h
    rw [h] at q2
    exact q2
end

/-- A captured variable that holds a Lattice's pointer. -/
def Cap (w : World) (c g : Nat) : Prop := w.heap[c]? = some (.cells #[.pointer (some ⟨g, 0, none⟩)] 24 (0, 0))
theorem Cap.keep {w w' : World} {c g : Nat} (h : Cap w c g) (hb : Below w.heap.size w w') : Cap w' c g := (hb.block c (Array.getElem?_eq_some_iff.1 h).1).trans h

theorem fnJoin_any {c g n : Nat} {A B : Nat → Nat} (x y : Nat) (w : World) (hc : Cap w c g) (h : Lat w g n A B) (hx : x < n) (hy : y < n) :
    Calls Try.prog 29 #[.int .i64 (x : Int), .int .i64 (y : Int), .pointer (some ⟨c, 0, none⟩)] w fun e w' => e = .returned (.int .i64 (jn n A x y : Nat)) ∧ Below w.heap.size w w' := by
  have hcell := cell_of_heap hc 0
  have i1 : isL n (x : Int) = true := isL_iff.2 ⟨by omega, by omega⟩
  have i2 : isL n (y : Int) = true := isL_iff.2 ⟨by omega, by omega⟩
  have I1 := Lib.hid i1
  have I2 := Lib.hid i2
  clear i1 i2 hc
  go_enter Try.func29, Try.ntmps29
  go_wp2_with fail
  refine (Join_yes _ _ _ h I1.out I2.out).mono ?_
  rintro e w' ⟨rfl, hb⟩
  simp only [Int.toNat_natCast]
  go_wp2_with fail
  go_ret
  exact ⟨rfl, hb⟩
theorem fnMeet_any {c g n : Nat} {A B : Nat → Nat} (x y : Nat) (w : World) (hc : Cap w c g) (h : Lat w g n A B) (hx : x < n) (hy : y < n) :
    Calls Try.prog 30 #[.int .i64 (x : Int), .int .i64 (y : Int), .pointer (some ⟨c, 0, none⟩)] w fun e w' => e = .returned (.int .i64 (jn n B x y : Nat)) ∧ Below w.heap.size w w' := by
  have hcell := cell_of_heap hc 0
  have i1 : isL n (x : Int) = true := isL_iff.2 ⟨by omega, by omega⟩
  have i2 : isL n (y : Int) = true := isL_iff.2 ⟨by omega, by omega⟩
  have I1 := Lib.hid i1
  have I2 := Lib.hid i2
  clear i1 i2 hc
  go_enter Try.func30, Try.ntmps30
  go_wp2_with fail
  refine (Meet_yes _ _ _ h I1.out I2.out).mono ?_
  rintro e w' ⟨rfl, hb⟩
  simp only [Int.toNat_natCast]
  go_wp2_with fail
  go_ret
  exact ⟨rfl, hb⟩

namespace lawLaws

set_option maxRecDepth 100000 in
set_option maxHeartbeats 1000000 in
theorem walk_none (n : Int) (A : Option Addr) (len cap : Nat) (p q : Nat → Int) (a b c : Int) (w : World) (hp : Prs w w.heap.size A len p q) (hA : A = none → cap = 0) (h : 200 < len ∨ (len ≤ 200 ∧ (mbo n len p q && mkL n len p q) = false)) :
    Calls Try.prog 5 #[.int .i64 n, .slice A len cap, .int .i64 a, .int .i64 b, .int .i64 c] w fun e w' => e = .returned (.bool true) ∧ Below w.heap.size w w' := by
  have hzero := zero31
  have H := Lib.hid h
  clear h
  go_enter Try.func5, Try.ntmps5
  go_wp2_with fail
  refine (both_no n A len cap p q w hp hA H.out).mono ?_
  rintro e w1 ⟨cs, rfl, hcs, hone, hb1⟩
  have hsz := Lib.hid hcs
  have hz1 : ((w1.alloc (.cells #[.pointer none] 24)).alloc (.cells z31 31)).heap[w1.heap.size + 1]? = some (.cells z31 31 (0, 0)) := by
    have := heap_alloc_new (w1.alloc (.cells #[.pointer none] 24)) (.cells z31 31)
    simpa using this
  have hb2 := below_setRow ((hb1.alloc hb1.size (.cells #[.pointer none] 24)).alloc (by have := hb1.size; simp; omega) (.cells z31 31)) (show w.heap.size ≤ w1.heap.size + 1 by have := hb1.size; omega) cs
  clear hcs hb1 hp hA H
  go_wp2_with (first | (refine st31 rfl _ _ rfl _ _ rfl rfl _ hz1 hsz.out z31_size hone ?_) | fail)
  clear hz1 hzero hone
  generalize ((w1.alloc (.cells #[.pointer none] 24)).alloc (.cells z31 31)).setRow (w1.heap.size + 1) cs = w2 at *
  generalize w1.heap.size = s1 at *
  refine (awake_any _).mono ?_
  rintro e w3 ⟨rfl, hb3⟩
  have hb4 := after hb2 hb3
  go_wp2_with fail
  refine (awake_any _).mono ?_
  rintro e w5 ⟨rfl, hb5⟩
  have hb6 := after hb4 hb5
  go_wp2_with fail
  go_ret
  exact ⟨rfl, hb6⟩

set_option maxRecDepth 100000 in
set_option maxHeartbeats 4000000 in
theorem walk_ok (k : Nat) (A : Option Addr) (len cap : Nat) (p q : Nat → Int) (a b c : Int) (w : World) (hp : Prs w w.heap.size A len p q) (hA : A = none → cap = 0) (hlen : len ≤ 200) (hm : mbo (k : Int) len p q = true) (hl : mkL (k : Int) len p q = true) :
    Calls Try.prog 5 #[.int .i64 (k : Int), .slice A len cap, .int .i64 a, .int .i64 b, .int .i64 c] w fun e w' => e = .returned (.bool true) ∧ Below w.heap.size w w' := by
  have hzero := zero31
  have hmf : ∀ (fn : Fn) (first cap : Array Value) (w : World), (Instr.makeFunc fn first cap).run Try.prog w = .ok (.func fn first cap) w := fun _ _ _ _ => rfl
  obtain ⟨hrA, hrB⟩ := mk_rel hm
  have hlat := (mkL_iff hm).1 hl
  rw [Int.toNat_natCast] at hrA hrB hlat
  have HM := Lib.hid hm
  have HL := Lib.hid hl
  clear hm hl
  go_enter Try.func5, Try.ntmps5
  go_wp2_with fail
  refine (both_ok k A len cap p q w hp hA hlen HM.out HL.out).mono ?_
  rintro e w1 ⟨g, cs, rfl, hRL, hb1, hL1⟩
  rw [Int.toNat_natCast] at hRL hL1
  have hsz := Lib.hid hRL.sz
  have hone := hRL.one
  have hz1 : ((w1.alloc (.cells #[.pointer (some ⟨g, 0, none⟩)] 24)).alloc (.cells z31 31)).heap[w1.heap.size + 1]? = some (.cells z31 31 (0, 0)) := by
    have := heap_alloc_new (w1.alloc (.cells #[.pointer (some ⟨g, 0, none⟩)] 24)) (.cells z31 31)
    simpa using this
  have hw2 := below_setRow ((hb1.alloc hb1.size (.cells #[.pointer (some ⟨g, 0, none⟩)] 24)).alloc (by have := hb1.size; simp; omega) (.cells z31 31)) (show w.heap.size ≤ w1.heap.size + 1 by have := hb1.size; omega) cs
  have hl2 := setRow_heap _ _ _ cs 31 (0, 0) hz1
  have hC2 : Cap (((w1.alloc (.cells #[.pointer (some ⟨g, 0, none⟩)] 24)).alloc (.cells z31 31)).setRow (w1.heap.size + 1) cs) w1.heap.size g := by
    unfold Cap
    rw [heap_setRow_far _ _ _ _ (by omega), Below.heap_alloc _ _ _ (by simp)]
    exact heap_alloc_new _ _
  have hL2 : Lat (((w1.alloc (.cells #[.pointer (some ⟨g, 0, none⟩)] 24)).alloc (.cells z31 31)).setRow (w1.heap.size + 1) cs) g _ _ _ :=
    ⟨(heap_setRow_far _ _ _ cs (by have := hL1.lt; omega)).trans ((hL1.alloc (.cells #[.pointer (some ⟨g, 0, none⟩)] 24)).alloc (.cells z31 31)).blk, hL1.n8, hL1.a8, hL1.b8⟩
  clear hb1 hp hA HM HL hL1
  go_wp2_with (first | (refine st31 rfl _ _ rfl _ _ rfl rfl _ hz1 hsz.out z31_size hone ?_) | fail)
  clear hz1 hzero hone
  generalize ((w1.alloc (.cells #[.pointer (some ⟨g, 0, none⟩)] 24)).alloc (.cells z31 31)).setRow (w1.heap.size + 1) cs = w2 at *
  generalize w1.heap.size + 1 = s2 at *
  generalize w1.heap.size = s1 at *
  refine (awake_any _).mono ?_
  rintro e w3 ⟨rfl, hb3⟩
  have hw3 := after hw2 hb3
  have hL3 := hL2.keep hb3
  have hC3 := hC2.keep hb3
  have hl3 := (hb3.block _ (Array.getElem?_eq_some_iff.1 hl2).1).trans hl2
  clear hw2 hL2 hC2 hl2 hb3
  go_wp2_with (first | (refine ld31 rfl _ rfl _ rfl _ hl3 hsz.out ?_) | fail)
  refine (Is_any a _ hRL).mono ?_
  rintro e w4 ⟨rfl, hb4⟩
  have hw4 := hw3.trans (hb4.mono hw3.size)
  have hL4 := hL3.keep hb4
  have hC4 := hC3.keep hb4
  have hl4 := (hb4.block _ (Array.getElem?_eq_some_iff.1 hl3).1).trans hl3
  clear hw3 hL3 hC3 hl3 hb4
  cases ha : isL k a
  · clear ha
    go_wp2_with fail
    refine (awake_any _).mono ?_
    rintro e w5 ⟨rfl, hb5⟩
    have hb6 := after hw4 hb5
    go_wp2_with fail
    go_ret
    exact ⟨rfl, hb6⟩
  have Ha := Lib.hid ha
  clear ha
  go_wp2_with (first | (refine ld31 rfl _ rfl _ rfl _ hl4 hsz.out ?_) | fail)
  refine (Is_any b _ hRL).mono ?_
  rintro e w5 ⟨rfl, hb5⟩
  have hw5 := hw4.trans (hb5.mono hw4.size)
  have hL5 := hL4.keep hb5
  have hC5 := hC4.keep hb5
  have hl5 := (hb5.block _ (Array.getElem?_eq_some_iff.1 hl4).1).trans hl4
  clear hw4 hL4 hC4 hl4 hb5
  cases hb : isL k b
  · clear hb
    go_wp2_with fail
    refine (awake_any _).mono ?_
    rintro e w6 ⟨rfl, hb6⟩
    have hb7 := after hw5 hb6
    go_wp2_with fail
    go_ret
    exact ⟨rfl, hb7⟩
  have Hb := Lib.hid hb
  clear hb
  go_wp2_with (first | (refine ld31 rfl _ rfl _ rfl _ hl5 hsz.out ?_) | fail)
  refine (Is_any c _ hRL).mono ?_
  rintro e w6 ⟨rfl, hb6⟩
  have hw6 := hw5.trans (hb6.mono hw5.size)
  have hL6 := hL5.keep hb6
  have hC6 := hC5.keep hb6
  clear hw5 hL5 hC5 hl5 hb6 hRL
  cases hc : isL k c
  · clear hc
    go_wp2_with fail
    refine (awake_any _).mono ?_
    rintro e w7 ⟨rfl, hb7⟩
    have hb8 := after hw6 hb7
    go_wp2_with fail
    go_ret
    exact ⟨rfl, hb8⟩
  have g1 := isL_iff.1 Ha.out
  have g2 := isL_iff.1 Hb.out
  have g3 := isL_iff.1 hc
  obtain ⟨x, rfl⟩ := Int.eq_ofNat_of_zero_le g1.1
  obtain ⟨y, rfl⟩ := Int.eq_ofNat_of_zero_le g2.1
  obtain ⟨z, rfl⟩ := Int.eq_ofNat_of_zero_le g3.1
  have hx : x < k := by omega
  have hy : y < k := by omega
  have hz : z < k := by omega
  clear g1 g2 g3 hc
  have jyz := (jn_spec hrA hlat hy hz).1
  have jxy := (jn_spec hrA hlat hx hy).1
  have myz := (jn_spec hrB hlat.dual hy hz).1
  have mxy := (jn_spec hrB hlat.dual hx hy).1
  have E1 := Lib.hid (jn_comm hrA hy hx)
  have E2 := Lib.hid (jn_comm hrB hy hx)
  have E3 := Lib.hid (jn_assoc hrA hlat hx hy hz)
  have E4 := Lib.hid (jn_assoc hrB hlat.dual hx hy hz)
  have E5 := Lib.hid (jn_self hrA hlat hx)
  have E6 := Lib.hid (jn_self hrB hlat.dual hx)
  have E7 := Lib.hid (jn_absorb hrA hrB hlat hx hy)
  have E8 := Lib.hid (jn_absorb hrB (show Rel k (mkA k len p q) (flip (flip (rcl k len p q))) from hrA) hlat.dual hx hy)
  have E9 : Hid (leqB k (mkA k len p q) x y = decide (jn k (mkA k len p q) x y = y)) := Lib.hid (by
    have i1 : isL k (x : Int) = true := isL_iff.2 ⟨by omega, by omega⟩
    have i2 : isL k (y : Int) = true := isL_iff.2 ⟨by omega, by omega⟩
    rw [hrA.leq_eq, rleq_nat k _ x y hx hy]
    exact jn_leq hrA hlat hx hy)
  clear hrA hrB hlat
  go_wp2_with fail
  refine (fnJoin_any x y _ hC6 hL6 hx hy).mono ?_
  rintro e w7 ⟨rfl, hb7⟩
  have hw7 := hw6.trans (hb7.mono hw6.size)
  have hL7 := hL6.keep hb7
  have hC7 := hC6.keep hb7
  clear hw6 hL6 hC6 hb7
  go_wp2_with fail
  refine (fnJoin_any y x _ hC7 hL7 hy hx).mono ?_
  rintro e w8 ⟨rfl, hb8⟩
  have hw8 := hw7.trans (hb8.mono hw7.size)
  have hL8 := hL7.keep hb8
  have hC8 := hC7.keep hb8
  clear hw7 hL7 hC7 hb8
  rw [E1.out]
  go_wp2_with fail
  refine (fnMeet_any x y _ hC8 hL8 hx hy).mono ?_
  rintro e w9 ⟨rfl, hb9⟩
  have hw9 := hw8.trans (hb9.mono hw8.size)
  have hL9 := hL8.keep hb9
  have hC9 := hC8.keep hb9
  clear hw8 hL8 hC8 hb9
  go_wp2_with fail
  refine (fnMeet_any y x _ hC9 hL9 hy hx).mono ?_
  rintro e w10 ⟨rfl, hb10⟩
  have hw10 := hw9.trans (hb10.mono hw9.size)
  have hL10 := hL9.keep hb10
  have hC10 := hC9.keep hb10
  clear hw9 hL9 hC9 hb10
  rw [E2.out]
  go_wp2_with fail
  refine (fnJoin_any y z _ hC10 hL10 hy hz).mono ?_
  rintro e w11 ⟨rfl, hb11⟩
  have hw11 := hw10.trans (hb11.mono hw10.size)
  have hL11 := hL10.keep hb11
  have hC11 := hC10.keep hb11
  clear hw10 hL10 hC10 hb11
  go_wp2_with fail
  refine (fnJoin_any x (jn k (mkA k len p q) y z) _ hC11 hL11 hx jyz).mono ?_
  rintro e w12 ⟨rfl, hb12⟩
  have hw12 := hw11.trans (hb12.mono hw11.size)
  have hL12 := hL11.keep hb12
  have hC12 := hC11.keep hb12
  clear hw11 hL11 hC11 hb12
  go_wp2_with fail
  refine (fnJoin_any x y _ hC12 hL12 hx hy).mono ?_
  rintro e w13 ⟨rfl, hb13⟩
  have hw13 := hw12.trans (hb13.mono hw12.size)
  have hL13 := hL12.keep hb13
  have hC13 := hC12.keep hb13
  clear hw12 hL12 hC12 hb13
  go_wp2_with fail
  refine (fnJoin_any (jn k (mkA k len p q) x y) z _ hC13 hL13 jxy hz).mono ?_
  rintro e w14 ⟨rfl, hb14⟩
  have hw14 := hw13.trans (hb14.mono hw13.size)
  have hL14 := hL13.keep hb14
  have hC14 := hC13.keep hb14
  clear hw13 hL13 hC13 hb14
  rw [E3.out]
  go_wp2_with fail
  refine (fnMeet_any y z _ hC14 hL14 hy hz).mono ?_
  rintro e w15 ⟨rfl, hb15⟩
  have hw15 := hw14.trans (hb15.mono hw14.size)
  have hL15 := hL14.keep hb15
  have hC15 := hC14.keep hb15
  clear hw14 hL14 hC14 hb15
  go_wp2_with fail
  refine (fnMeet_any x (jn k (mkB k len p q) y z) _ hC15 hL15 hx myz).mono ?_
  rintro e w16 ⟨rfl, hb16⟩
  have hw16 := hw15.trans (hb16.mono hw15.size)
  have hL16 := hL15.keep hb16
  have hC16 := hC15.keep hb16
  clear hw15 hL15 hC15 hb16
  go_wp2_with fail
  refine (fnMeet_any x y _ hC16 hL16 hx hy).mono ?_
  rintro e w17 ⟨rfl, hb17⟩
  have hw17 := hw16.trans (hb17.mono hw16.size)
  have hL17 := hL16.keep hb17
  have hC17 := hC16.keep hb17
  clear hw16 hL16 hC16 hb17
  go_wp2_with fail
  refine (fnMeet_any (jn k (mkB k len p q) x y) z _ hC17 hL17 mxy hz).mono ?_
  rintro e w18 ⟨rfl, hb18⟩
  have hw18 := hw17.trans (hb18.mono hw17.size)
  have hL18 := hL17.keep hb18
  have hC18 := hC17.keep hb18
  clear hw17 hL17 hC17 hb18
  rw [E4.out]
  go_wp2_with fail
  refine (fnJoin_any x x _ hC18 hL18 hx hx).mono ?_
  rintro e w19 ⟨rfl, hb19⟩
  have hw19 := hw18.trans (hb19.mono hw18.size)
  have hL19 := hL18.keep hb19
  have hC19 := hC18.keep hb19
  clear hw18 hL18 hC18 hb19
  rw [E5.out]
  go_wp2_with fail
  refine (fnMeet_any x x _ hC19 hL19 hx hx).mono ?_
  rintro e w20 ⟨rfl, hb20⟩
  have hw20 := hw19.trans (hb20.mono hw19.size)
  have hL20 := hL19.keep hb20
  have hC20 := hC19.keep hb20
  clear hw19 hL19 hC19 hb20
  rw [E6.out]
  go_wp2_with fail
  refine (fnMeet_any x y _ hC20 hL20 hx hy).mono ?_
  rintro e w21 ⟨rfl, hb21⟩
  have hw21 := hw20.trans (hb21.mono hw20.size)
  have hL21 := hL20.keep hb21
  have hC21 := hC20.keep hb21
  clear hw20 hL20 hC20 hb21
  go_wp2_with fail
  refine (fnJoin_any x (jn k (mkB k len p q) x y) _ hC21 hL21 hx mxy).mono ?_
  rintro e w22 ⟨rfl, hb22⟩
  have hw22 := hw21.trans (hb22.mono hw21.size)
  have hL22 := hL21.keep hb22
  have hC22 := hC21.keep hb22
  clear hw21 hL21 hC21 hb22
  rw [E7.out]
  go_wp2_with fail
  refine (fnJoin_any x y _ hC22 hL22 hx hy).mono ?_
  rintro e w23 ⟨rfl, hb23⟩
  have hw23 := hw22.trans (hb23.mono hw22.size)
  have hL23 := hL22.keep hb23
  have hC23 := hC22.keep hb23
  clear hw22 hL22 hC22 hb23
  go_wp2_with fail
  refine (fnMeet_any x (jn k (mkA k len p q) x y) _ hC23 hL23 hx jxy).mono ?_
  rintro e w24 ⟨rfl, hb24⟩
  have hw24 := hw23.trans (hb24.mono hw23.size)
  have hL24 := hL23.keep hb24
  have hC24 := hC23.keep hb24
  clear hw23 hL23 hC23 hb24
  rw [E8.out]
  have hcell := cell_of_heap hC24 0
  go_wp2_with fail
  refine (leq_any _ _ _ hL24).mono ?_
  rintro e w' ⟨rfl, rfl⟩
  rw [E9.out]
  clear hcell
  by_cases hq : jn k (mkA k len p q) x y = y
  · have Hd : Hid (decide (jn k (mkA k len p q) x y = y) = true) := Lib.hid (by simp [hq])
    have he : ((jn k (mkA k len p q) x y : Int) == (y : Int)) = true := by simp [hq]
    clear hq
    rw [Hd.out]
    go_wp2_with fail
    refine (fnJoin_any x y _ hC24 hL24 hx hy).mono ?_
    rintro e w25 ⟨rfl, hb25⟩
    have hw25 := hw24.trans (hb25.mono hw24.size)
    have hL25 := hL24.keep hb25
    have hC25 := hC24.keep hb25
    clear hw24 hL24 hC24 hb25
    go_wp2_with fail
    go_ret
    exact ⟨rfl, hw25⟩
  · have Hd : Hid (decide (jn k (mkA k len p q) x y = y) = false) := Lib.hid (by simp [hq])
    have he : ((jn k (mkA k len p q) x y : Int) == (y : Int)) = false := by simp; omega
    clear hq
    rw [Hd.out]
    go_wp2_with fail
    refine (fnJoin_any x y _ hC24 hL24 hx hy).mono ?_
    rintro e w25 ⟨rfl, hb25⟩
    have hw25 := hw24.trans (hb25.mono hw24.size)
    have hL25 := hL24.keep hb25
    have hC25 := hC24.keep hb25
    clear hw24 hL24 hC24 hb25
    go_wp2_with fail
    go_ret
    exact ⟨rfl, hw25⟩

theorem walk (n : Int) (A : Option Addr) (len cap : Nat) (p q : Nat → Int) (a b c : Int) (w : World) (hp : Prs w w.heap.size A len p q) (hA : A = none → cap = 0) :
    Calls Try.prog 5 #[.int .i64 n, .slice A len cap, .int .i64 a, .int .i64 b, .int .i64 c] w fun e w' => e = .returned (.bool true) ∧ Below w.heap.size w w' := by
  rcases boths (n := n) (len := len) (p := p) (q := q) with h | ⟨h, hm, hl⟩
  · exact walk_none n A len cap p q a b c w hp hA h
  · obtain ⟨k, rfl⟩ := Int.eq_ofNat_of_zero_le (show 0 ≤ n by have := mbo_iff hm; omega)
    exact walk_ok k A len cap p q a b c w hp hA h hm hl

set_option maxRecDepth 100000 in
theorem lifted (os : Os) (started : os.Started) (H : Type) (enc : TypeId × Value → H) :
    ReturnsInHanded {} Try.checked os 5 .any (Rows.latticeLawsSpec.pre6 enc Try.prog Try.f5 Rows.latticeLawsRow.domain false) (Rows.latticeLawsSpec.post enc Try.prog Try.f5 false true false false) := by
  refine returnsInHanded_of_change (C := Try.checked) own started (by kernel_rfl) Try.func5
    (ChangeSpec.witness6 (enc := enc) (C := Try.checked) false ⟨#[], #[.int .i64 0, .slice none 0 0, .int .i64 0, .int .i64 0, .int .i64 0], []⟩ 8 (by kernel_rfl) (by kernel_rfl) (by kernel_rfl) (by kernel_rfl)) ?_
  intro W base args ds gs before hval0 hW hcnd _
  have hval : ∀ (j : Nat) t v, Try.f5.params[j]? = some t → args[j]? = some v → Value.okWide Try.prog W .any base t v := hval0
  have hW' := hW
  obtain ⟨p, q, hA0, hV, rfl, hfz, hnd⟩ := hW
  have hA : DataW.TrodAll enc Try.prog W 0 (fun _ => true) true Try.f5.params.toList args.toList ds p := hA0
  rw [Try.params5] at hA hval
  obtain ⟨v0, vs0, d0, ds0, p0, q0, hargs, rfl, rfl, h0, r0⟩ := trodAll_cons hA
  obtain ⟨v1, vs1, d1, ds1, p1, q1, rfl, rfl, rfl, h1, r1⟩ := trodAll_cons r0
  obtain ⟨v2, vs2, d2, ds2, p2, q2, rfl, rfl, rfl, h2, r2⟩ := trodAll_cons r1
  obtain ⟨v3, vs3, d3, ds3, p3, q3, rfl, rfl, rfl, h3, r3⟩ := trodAll_cons r2
  obtain ⟨v4, vs4, d4, ds4, p4, q4, rfl, rfl, rfl, h4, r4⟩ := trodAll_cons r3
  obtain ⟨rfl, rfl, rfl⟩ := trodAll_nil r4
  obtain rfl : args = #[v0, v1, v2, v3, v4] := by cases args; simp_all
  obtain ⟨rfl, rfl⟩ := trodVars_none hV
  obtain ⟨a0, rfl, rfl, rfl, w0⟩ := open_int Try.underlying3 (hval 0 3 v0 rfl rfl) h0
  obtain ⟨a2, rfl, rfl, rfl, w2⟩ := open_int Try.underlying3 (hval 2 3 v2 rfl rfl) h2
  obtain ⟨a3, rfl, rfl, rfl, w3⟩ := open_int Try.underlying3 (hval 3 3 v3 rfl rfl) h3
  obtain ⟨a4, rfl, rfl, rfl, w4⟩ := open_int Try.underlying3 (hval 4 3 v4 rfl rfl) h4
  clear hA0 hval0
  simp only [List.append_nil] at hW'
  have hlt : ∀ x ∈ p1, x.block < W.heap.size := fun x hx => by simpa using hW'.lt x (by simpa using hx)
  obtain ⟨A, len, cap, pp, qq, rfl, hp, hAn⟩ := open_order (okWide_slice Try.underlying22 (hval 1 22 v1 rfl rfl)) h1 hlt
  refine (walk a0 A len cap pp qq a2 a3 a4 W hp hAn).mono fun e W' ⟨he, hg⟩ => ?_
  subst he
  exact ⟨_, rfl, _, _, _, [], _, [], hW', trodAll_cons_mk (shut_bool Try.underlying4 _) trodAll_mk0,
    trodAll_cons_mk (shut_int Try.underlying3 w0) (trodAll_cons_mk (stays_order h1 hg hlt) (trodAll_cons_mk (shut_int Try.underlying3 w2) (trodAll_cons_mk (shut_int Try.underlying3 w3) (trodAll_cons_mk (shut_int Try.underlying3 w4) trodAll_mk0)))), rfl, hg.frame _, fun h => by cases h⟩

theorem over : Rows.latticeLawsRow.holds Try.pinned (OpenSpec.ofChange Rows.latticeLawsSpec) :=
  OpenClaim.holds_of_wide 5 Try.f5 rfl rfl rfl rfl rfl rfl rfl ⟨rfl, rfl, rfl, rfl, rfl⟩ rfl rfl rfl rfl rfl (by kernel_rfl) Try.func5 (by kernel_rfl)
    (of_decide_eq_true (by kernel_rfl)) (by unfold Func.isWrapper; first | (rw [if_pos (by decide +kernel)]; kernel_rfl) | (rw [if_neg (by decide +kernel)]; exact ⟨rfl, rfl⟩))
    (fun os started H enc _ => lifted os started H enc)

theorem proved : Rows.LatticeLawsSaid := over

end lawLaws
end Go.Proofs.Ytdjcododpkdhnaa

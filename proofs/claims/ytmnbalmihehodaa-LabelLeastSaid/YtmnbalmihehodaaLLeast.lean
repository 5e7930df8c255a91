/-
  For every n, all lists of pairs and all lists of ints the law LabelLeast answers true and leaves its input as it was. No condition.
-/
import Derived.Test.YtmnbalmihehodaaLAll
namespace Go.Proofs.Ytmnbalmihehodaa
open Go.ChangeShapes Go.WideShapes Go.ChangeAt Go.RowKit

theorem leq_q {g n : Nat} {A B : Nat → Nat} {a b : Int} {v : Bool} {W : World} (h : Lat W g n A B) (hv : leqB n A a b = v) :
    ∀ k, Calls Try.prog 19 #[.pointer (some ⟨g, 0, none⟩), .int .i64 a, .int .i64 b] (W.drewN k) fun e w' => e = .returned (.bool v) ∧ w' = W.drewN k := by
  intro k
  have := leq_still a b (W.drewN k) (h.drewN k)
  rwa [hv] at this

/-- Do the others fit what was given, as far as k? -/
def ftK (n : Nat) (A : Nat → Nat) (f o : Nat → Int) (k : Nat) : Bool := (List.range k).all fun i => leqB n A (f i) (o i)
theorem ftK_succ (n : Nat) (A : Nat → Nat) (f o : Nat → Int) (k : Nat) : ftK n A f o (k + 1) = (ftK n A f o k && leqB n A (f k) (o k)) := by simp [ftK, List.range_succ]
/-- Do they rise along the first k edges? -/
def feK (n : Nat) (A : Nat → Nat) (p q o : Nat → Int) (k : Nat) : Bool := (List.range k).all fun i => leqB n A (o (p i).toNat) (o (q i).toNat)
theorem feK_succ (n : Nat) (A : Nat → Nat) (p q o : Nat → Int) (k : Nat) : feK n A p q o (k + 1) = (feK n A p q o k && leqB n A (o (p k).toNat) (o (q k).toNat)) := by simp [feK, List.range_succ]

theorem raised_ok {n m len : Nat} {A : Nat → Nat} {p q f c : Nat → Int} (h : Raised n A m p q len f c) : okL n c m = true := okL_iff.2 fun x hx => (leqB_isL (h.low x hx)).2
theorem raised_self {n m len : Nat} {A B : Nat → Nat} {L : Nat → Nat → Bool} (hG : GLat n A B L) {p q f c : Nat → Int} (h : Raised n A m p q len f c) : Raised n A m p q len c c :=
  ⟨fun x hx => hG.refl (leqB_isL (h.low x hx)).2, h.up, fun _ _ h => h⟩

namespace lawLeast

set_option maxRecDepth 100000 in
set_option maxHeartbeats 1000000 in
theorem walk_none (n : Int) (A : Option Addr) (len cap : Nat) (p q : Nat → Int) (v v1 v2 : Value) (w : World) (hp : Prs w w.heap.size A len p q) (hA : A = none → cap = 0) (h : 200 < len ∨ (len ≤ 200 ∧ (mbo n len p q && mkL n len p q) = false)) :
    Calls Try.prog 6 #[.int .i64 n, .slice A len cap, v, v1, v2] w fun e w' => e = .returned (.bool true) ∧ Below w.heap.size w w' := by
  have hzero := zero31
  have H := Lib.hid h
  clear h
  go_enter Try.func6, Try.ntmps6
  go_wp2_with fail
  refine (both_no n A len cap p q w hp hA H.out).mono ?_
  rintro e w1 ⟨cs, rfl, hcs, hone, hb1⟩
  have hsz := Lib.hid hcs
  have hl1 := heap_alloc_new w1 (.cells z31 28)
  have hb2 := below_setRow (hb1.alloc hb1.size (.cells z31 28)) hb1.size cs
  clear hcs hb1 hp hA H
  go_wp2_with (first | (refine st31 rfl _ _ rfl _ _ rfl rfl _ hl1 hsz.out z31_size hone ?_) | fail)
  clear hl1 hzero hone
  generalize (w1.alloc (.cells z31 28)).setRow w1.heap.size cs = w2 at *
  generalize w1.heap.size = s1 at *
  refine (awake_any _).mono ?_
  rintro e w3 ⟨rfl, hb3⟩
  have hb4 := after hb2 hb3
  go_wp2_with fail
  refine (awake_any _).mono ?_
  rintro e w5 ⟨rfl, hb5⟩
  have hb6 := after hb4 hb5
  go_wp2_with fail
  go_ret
  exact ⟨rfl, hb6⟩

set_option maxRecDepth 100000 in
set_option maxHeartbeats 4000000 in
theorem walk_ok (n : Int) (A : Option Addr) (len cap : Nat) (p q : Nat → Int) (D : Option Addr) (elen ecap : Nat) (ep eq : Nat → Int) (C : Option Addr) (m capl : Nat) (f : Nat → Int) (E : Option Addr) (mo capo : Nat) (o : Nat → Int) (w : World) (hp : Prs w w.heap.size A len p q) (hA : A = none → cap = 0) (hD : Prs w w.heap.size D elen ep eq) (hR : Rd w w.heap.size C m f) (hO : Rd w w.heap.size E mo o)
    (hlen : len ≤ 200) (hm : mbo n len p q = true) (hl : mkL n len p q = true) :
    Calls Try.prog 6 #[.int .i64 n, .slice A len cap, .slice D elen ecap, .slice C m capl, .slice E mo capo] w fun e w' => e = .returned (.bool true) ∧ Below w.heap.size w w' := by
  have hzero := zero31
  have hG := mk_good hm hl
  have HM := Lib.hid hm
  have HL := Lib.hid hl
  clear hm hl
  go_enter Try.func6, Try.ntmps6
  go_wp2_with fail
  refine (both_ok n A len cap p q w hp hA hlen HM.out HL.out).mono ?_
  rintro e w1 ⟨g, cs, rfl, hRL, hb1, hL1⟩
  have hsz := Lib.hid hRL.sz
  have hone := hRL.one
  have hl1 := heap_alloc_new w1 (.cells z31 28)
  have hw2 := below_setRow (hb1.alloc hb1.size (.cells z31 28)) hb1.size cs
  have hL2 : Lat ((w1.alloc (.cells z31 28)).setRow w1.heap.size cs) g _ _ _ := ⟨(heap_setRow_far _ _ _ cs (Nat.ne_of_lt hL1.lt)).trans (hL1.alloc (.cells z31 28)).blk, hL1.n8, hL1.a8, hL1.b8⟩
  clear hb1 hp hA HM HL hL1
  go_wp2_with (first | (refine st31 rfl _ _ rfl _ _ rfl rfl _ hl1 hsz.out z31_size hone ?_) | fail)
  clear hl1 hzero hone
  generalize (w1.alloc (.cells z31 28)).setRow w1.heap.size cs = w2 at *
  generalize w1.heap.size = s1 at *
  generalize mkA n len p q = As at *
  generalize mkB n len p q = Bs at *
  refine (awake_any _).mono ?_
  rintro e w3 ⟨rfl, hb3⟩
  have hw3 := after hw2 hb3
  have hL3 := hL2.keep hb3
  have hD3 := (hD.keep hw3).mono hw3.size
  have hR3 := (hR.keep hw3).mono hw3.size
  have hO3 := (hO.keep hw3).mono hw3.size
  clear hw2 hL2 hb3 hR hD hO
  by_cases hsk : 100 < elen ∨ 40 < m ∨ mo ≠ m
  · by_cases h1 : 100 < elen
    · have h1' : (100 : Int) < elen := by omega
      clear hsk
      go_wp2_with fail
      refine (awake_any _).mono ?_
      rintro e w5 ⟨rfl, hb5⟩
      have hb6 := after hw3 hb5
      go_wp2_with fail
      go_ret
      exact ⟨rfl, hb6⟩
    have h1' : (elen : Int) ≤ 100 := by omega
    by_cases h2 : 40 < m
    · have h2' : (40 : Int) < m := by omega
      clear hsk
      go_wp2_with fail
      refine (awake_any _).mono ?_
      rintro e w5 ⟨rfl, hb5⟩
      have hb6 := after hw3 hb5
      go_wp2_with fail
      go_ret
      exact ⟨rfl, hb6⟩
    have h2' : (m : Int) ≤ 40 := by omega
    have h3 : ((mo : Int) != (m : Int)) = true := by rw [bne_iff_ne]; omega
    clear hsk
    go_wp2_with fail
    refine (awake_any _).mono ?_
    rintro e w5 ⟨rfl, hb5⟩
    have hb6 := after hw3 hb5
    go_wp2_with fail
    go_ret
    exact ⟨rfl, hb6⟩
  obtain ⟨h1, h2, rfl⟩ : elen ≤ 100 ∧ m ≤ 40 ∧ mo = m := by omega
  have h1' : (elen : Int) ≤ 100 := by omega
  have h2' : (mo : Int) ≤ 40 := by omega
  clear hsk
  cases hok : (okL n.toNat f mo && okK (mo : Int) ep eq elen)
  · have HN := Lib.hid hok
    clear hok
    go_wp2_with fail
    refine (Raise_no D elen ecap ep eq C mo capl f _ (by omega) (by omega) hL3 hD3 hR3 HN.out).mono ?_
    rintro e w4 ⟨rfl, hb4⟩
    have hw4 := after hw3 hb4
    go_wp2_with fail
    go_ret
    exact ⟨rfl, hw4⟩
  obtain ⟨ok1, ok2⟩ : okL n.toNat f mo = true ∧ okK (mo : Int) ep eq elen = true := by simpa using hok
  have OK1 := Lib.hid ok1
  have OK2 := Lib.hid ok2
  clear hok ok1 ok2
  go_wp2_with fail
  refine (Raise_any hG D elen ecap ep eq C mo capl f _ (by omega) (by omega) hL3 hD3 hR3 OK1.out OK2.out).mono ?_
  rintro e w4 ⟨A1, cap1, c, rfl, hc4, hup, hb4⟩
  have hw4 := after hw3 hb4
  have hL4 := hL3.keep hb4
  have hD4 := (hD3.keep hb4).mono hb4.size
  have hR4 := (hR3.keep hb4).mono hb4.size
  have hO4 := (hO3.keep hb4).mono hb4.size
  have HU := Lib.hid hup
  clear hL3 hD3 hR3 hO3 hw3 hb4 hup
  go_wp2_with fail
  refine (Raise_any hG D elen ecap ep eq A1 mo cap1 c _ (by omega) (by omega) hL4 hD4 hc4 (raised_ok HU.out) OK2.out).mono ?_
  rintro e w5 ⟨A2, cap2, d, rfl, hd5, hup2, hb5⟩
  have hw5 := after hw4 hb5
  have hL5 := hL4.keep hb5
  have hD5 := (hD4.keep hb5).mono hb5.size
  have hR5 := (hR4.keep hb5).mono hb5.size
  have hO5 := (hO4.keep hb5).mono hb5.size
  have hc5 := (hc4.keep hb5).mono hb5.size
  have HS : Hid (smK c d mo = true) := Lib.hid (smK_of fun i hi => (raised_self hG HU.out).one hG hup2 hi)
  clear hL4 hD4 hR4 hO4 hc4 hw4 hb5 hup2
  go_wp2_with fail
  refine (same_any A1 A2 mo cap1 cap2 c d _ (by omega) hc5 hd5).mono ?_
  rintro e w6 ⟨rfl, hb6⟩
  rw [HS.out]
  have hw6 := after hw5 hb6
  have hL6 := hL5.keep hb6
  have hD6 := (hD5.keep hb6).mono hb6.size
  have hR6 := (hR5.keep hb6).mono hb6.size
  have hO6 := (hO5.keep hb6).mono hb6.size
  have hc6 := (hc5.keep hb6).mono hb6.size
  clear hL5 hD5 hR5 hO5 hc5 hw5 hb6 hd5
  go_wp2_with fail
  go_loopg [18, 80] mo (fun j fv iv wr => ∃ (k : Nat) (b : Bool), Hid (j + k = mo) ∧ k ≤ mo ∧ iv = .int .i64 k ∧ fv = .bool b ∧ Hid (b = ftK n.toNat As f o k) ∧ Below w6.heap.size w6 wr)
  case atStart => exact ⟨0, true, Lib.hid rfl, Nat.zero_le _, rfl, rfl, Lib.hid rfl, Below.refl _ _⟩
  case round =>
    obtain ⟨k, b, HJ, hk, rfl, rfl, HB, hb⟩ := hrel
    by_cases hlt : k < mo
    · obtain ⟨g1, o1, rfl, hg1, hc1⟩ := hR6 (by omega)
      obtain ⟨g2, o2, rfl, hg2, hc2⟩ := hc6 (by omega)
      obtain ⟨g3, o3, rfl, hg3, hc3⟩ := hO6 (by omega)
      have d1 := (hb.cell (p := ⟨g1, o1 + k, none⟩) hg1).trans (hc1 k hlt)
      have d2 := (hb.cell (p := ⟨g2, o2 + k, none⟩) hg2).trans (hc2 k hlt)
      have d3 := (hb.cell (p := ⟨g3, o3 + k, none⟩) hg3).trans (hc3 k hlt)
      have hk0 : (0 : Int) ≤ k := by omega
      have hk1 : (k : Int) < mo := by omega
      have hL7 := hL6.keep hb
      have HQ := leq_q hL7 (HU.out.low k hlt)
      clear hR6 hc6 hO6 hc1 hc2 hc3 hD6
      go_wp2_with fail
      go_quiet ((go_at_call 19; exact Calls.quiet_of_same (HQ _)))
      go_wp2_with fail
      have b5 := below_drewN hb nq
      have d1 : (wr.drewN nq).cell? ⟨g1, o1 + k, none⟩ = some (.int .i64 (f k)) := d1
      have d3 : (wr.drewN nq).cell? ⟨g3, o3 + k, none⟩ = some (.int .i64 (o k)) := d3
      have hL7 := hL7.drewN nq
      clear hb HQ d2
      generalize wr.drewN nq = w7 at *
      cases b
      · have HB2 : Hid (false = ftK n.toNat As f o (k + 1)) := Lib.hid (by rw [ftK_succ, ← HB.out]; rfl)
        clear HB
        go_quiet (fail)
        go_wp2_with fail
        go_roundg (mo - (k + 1))
        case rel => exact ⟨k + 1, false, Lib.hid (by omega), by omega, by go_num, rfl, HB2, below_drewN b5 _⟩
        case measure => have := HJ.out; omega
      · obtain ⟨v, hv⟩ : ∃ v, leqB n.toNat As (f k) (o k) = v := ⟨_, rfl⟩
        have HQ := leq_q hL7 hv
        have HB2 : Hid (v = ftK n.toNat As f o (k + 1)) := Lib.hid (by rw [ftK_succ, ← HB.out, hv]; rfl)
        clear HB hv
        go_quiet ((go_at_call 19; exact Calls.quiet_of_same (HQ _)))
        go_wp2_with fail
        go_roundg (mo - (k + 1))
        case rel => exact ⟨k + 1, v, Lib.hid (by omega), by omega, by go_num, rfl, HB2, below_drewN b5 _⟩
        case measure => have := HJ.out; omega
    · obtain rfl : k = mo := by omega
      have b7 := after hw6 hb
      have hL7 := hL6.keep hb
      have hD7 := (hD6.keep hb).mono hb.size
      have hO7 := (hO6.keep hb).mono hb.size
      have hc7 := (hc6.keep hb).mono hb.size
      clear hL6 hD6 hR6 hO6 hc6 hw6 hb HJ hlt
      obtain ⟨w7, rfl⟩ : ∃ w7 : World, w7 = wr := ⟨_, rfl⟩
      go_wp2_with fail
      go_loopg [18, 110] elen (fun j fv iv wr => ∃ (t : Nat) (b : Bool), Hid (j + t = elen) ∧ t ≤ elen ∧ iv = .int .i64 t ∧ fv = .bool b ∧ Hid (b = (ftK n.toNat As f o k && feK n.toNat As ep eq o t)) ∧ Below w7.heap.size w7 wr)
      case atStart => exact ⟨0, b, Lib.hid rfl, Nat.zero_le _, rfl, rfl, Lib.hid (by rw [← HB.out]; simp [feK]), Below.refl _ _⟩
      case round =>
        obtain ⟨t, b, HJ, ht, rfl, rfl, HB2, hb⟩ := hrel
        by_cases hlt : t < elen
        · obtain ⟨g1, o1, rfl, hg1, hc1⟩ := hD7 (by omega)
          have hkt := okK_at OK2.out hlt
          obtain ⟨x, hx⟩ : ∃ x : Nat, ep t = (x : Int) := ⟨(ep t).toNat, by omega⟩
          obtain ⟨y, hy⟩ : ∃ y : Nat, eq t = (y : Int) := ⟨(eq t).toNat, by omega⟩
          have HX : Hid ((ep t).toNat = x) := Lib.hid (by omega)
          have HY : Hid ((eq t).toNat = y) := Lib.hid (by omega)
          have hxm : x < k := by omega
          have hym : y < k := by omega
          have c0 := (hb.cell (p := ⟨g1, o1 + t * 2, none⟩) hg1).trans (hc1 t hlt).1
          have c1 := (hb.cell (p := ⟨g1, o1 + t * 2 + 1, none⟩) hg1).trans (hc1 t hlt).2
          rw [hx] at c0
          rw [hy] at c1
          clear hx hy hkt hc1 hD7
          obtain ⟨g2, o2, rfl, hg2, hc2⟩ := hc7 (by omega)
          obtain ⟨g3, o3, rfl, hg3, hc3⟩ := hO7 (by omega)
          have hbA := hb.alloc hb.size (.cells #[.int .i64 (x : Int), .int .i64 (y : Int)] 51)
          have e0 : (wr.alloc (.cells #[.int .i64 (x : Int), .int .i64 (y : Int)] 51)).cell? ⟨wr.heap.size, 0, none⟩ = some (.int .i64 (x : Int)) := cell_of_heap (heap_alloc_new _ _) 0
          have e1 : (wr.alloc (.cells #[.int .i64 (x : Int), .int .i64 (y : Int)] 51)).cell? ⟨wr.heap.size, 1, none⟩ = some (.int .i64 (y : Int)) := cell_of_heap (heap_alloc_new _ _) 1
          have d1 := (hbA.cell (p := ⟨g2, o2 + x, none⟩) hg2).trans (hc2 x hxm)
          have d2 := (hbA.cell (p := ⟨g2, o2 + y, none⟩) hg2).trans (hc2 y hym)
          have d3 := (hbA.cell (p := ⟨g3, o3 + x, none⟩) hg3).trans (hc3 x hxm)
          have d4 := (hbA.cell (p := ⟨g3, o3 + y, none⟩) hg3).trans (hc3 y hym)
          have hL8 := hL7.keep hbA
          have HQ := leq_q hL8 (show leqB n.toNat As (c x) (c y) = true by rw [← HX.out, ← HY.out]; exact HU.out.up t hlt)
          have hx0 : (0 : Int) ≤ x := by omega
          have hx1 : (x : Int) < k := by omega
          have hy0 : (0 : Int) ≤ y := by omega
          have hy1 : (y : Int) < k := by omega
          clear hc2 hc3 hb hL7
          go_wp2_with fail
          clear c0 c1
          generalize wr.alloc (.cells #[.int .i64 (x : Int), .int .i64 (y : Int)] 51) = w8 at *
          generalize wr.heap.size = s8 at *
          go_quiet ((go_at_call 19; exact Calls.quiet_of_same (HQ _)))
          go_wp2_with fail
          have b5 := below_drewN hbA nq
          have e0 : (w8.drewN nq).cell? ⟨s8, 0, none⟩ = some (.int .i64 (x : Int)) := e0
          have e1 : (w8.drewN nq).cell? ⟨s8, 1, none⟩ = some (.int .i64 (y : Int)) := e1
          have d3 : (w8.drewN nq).cell? ⟨g3, o3 + x, none⟩ = some (.int .i64 (o x)) := d3
          have d4 : (w8.drewN nq).cell? ⟨g3, o3 + y, none⟩ = some (.int .i64 (o y)) := d4
          have hL9 := hL8.drewN nq
          clear hbA HQ d1 d2 hL8
          generalize w8.drewN nq = w9 at *
          cases b
          · have HB3 : Hid (false = (ftK n.toNat As f o k && feK n.toNat As ep eq o (t + 1))) := Lib.hid (by rw [feK_succ, ← Bool.and_assoc, ← HB2.out]; rfl)
            clear HB2
            go_quiet (fail)
            go_wp2_with fail
            go_roundg (elen - (t + 1))
            case rel => exact ⟨t + 1, false, Lib.hid (by omega), by omega, by go_num, rfl, HB3, below_drewN b5 _⟩
            case measure => have := HJ.out; omega
          · obtain ⟨v, hv⟩ : ∃ v, leqB n.toNat As (o x) (o y) = v := ⟨_, rfl⟩
            have HQ := leq_q hL9 hv
            have HB3 : Hid (v = (ftK n.toNat As f o k && feK n.toNat As ep eq o (t + 1))) := Lib.hid (by rw [feK_succ, ← Bool.and_assoc, ← HB2.out, HX.out, HY.out, hv]; rfl)
            clear HB2 hv
            go_quiet ((go_at_call 19; exact Calls.quiet_of_same (HQ _)))
            go_wp2_with fail
            go_roundg (elen - (t + 1))
            case rel => exact ⟨t + 1, v, Lib.hid (by omega), by omega, by go_num, rfl, HB3, below_drewN b5 _⟩
            case measure => have := HJ.out; omega
        · obtain rfl : t = elen := by omega
          have b8 := after b7 hb
          have hL8 := hL7.keep hb
          have hO8 := (hO7.keep hb).mono hb.size
          have hc8 := (hc7.keep hb).mono hb.size
          have HA : Hid (b = true → ∀ i, i < k → leqB n.toNat As (c i) (o i) = true) := Lib.hid (by
            intro hbt
            rw [HB2.out] at hbt
            simp only [Bool.and_eq_true, ftK, feK, List.all_eq_true, List.mem_range] at hbt
            exact HU.out.least o hbt.2 hbt.1)
          clear hL7 hD7 hO7 hc7 b7 hb HJ hlt HB2 HB
          obtain ⟨w8, rfl⟩ : ∃ w8 : World, w8 = wr := ⟨_, rfl⟩
          go_wp2_with fail
          go_loopg [145] k (fun j iv wr => ∃ i : Nat, Hid (j + i = k) ∧ i ≤ k ∧ iv = .int .i64 i ∧ Below w8.heap.size w8 wr)
          case atStart => exact ⟨0, Lib.hid rfl, Nat.zero_le _, rfl, Below.refl _ _⟩
          case round =>
            obtain ⟨i, HJ, hi, rfl, hb⟩ := hrel
            by_cases hlt : i < k
            · obtain ⟨g2, o2, rfl, hg2, hc2⟩ := hc8 (by omega)
              obtain ⟨g3, o3, rfl, hg3, hc3⟩ := hO8 (by omega)
              have d1 := (hb.cell (p := ⟨g2, o2 + i, none⟩) hg2).trans (hc2 i hlt)
              have d2 := (hb.cell (p := ⟨g3, o3 + i, none⟩) hg3).trans (hc3 i hlt)
              have hL9 := hL8.keep hb
              have hi0 : (0 : Int) ≤ i := by omega
              have hi1 : (i : Int) < k := by omega
              clear hc2 hc3 hc8 hO8
              cases b
              · go_wp2_with fail
                go_quiet (fail)
                go_wp2_with fail
                go_roundg (k - (i + 1))
                case rel => exact ⟨i + 1, Lib.hid (by omega), by omega, by go_num, below_drewN hb _⟩
                case measure => have := HJ.out; omega
              · have HQ := leq_q hL9 (HA.out rfl i hlt)
                go_wp2_with fail
                go_quiet ((go_at_call 19; exact Calls.quiet_of_same (HQ _)))
                go_wp2_with fail
                go_roundg (k - (i + 1))
                case rel => exact ⟨i + 1, Lib.hid (by omega), by omega, by go_num, below_drewN hb _⟩
                case measure => have := HJ.out; omega
            · obtain rfl : i = k := by omega
              go_wp2_with fail
              go_ret
              exact ⟨rfl, after b8 hb⟩

theorem walk (n : Int) (A : Option Addr) (len cap : Nat) (p q : Nat → Int) (D : Option Addr) (elen ecap : Nat) (ep eq : Nat → Int) (C : Option Addr) (m capl : Nat) (f : Nat → Int) (E : Option Addr) (mo capo : Nat) (o : Nat → Int) (w : World) (hp : Prs w w.heap.size A len p q) (hA : A = none → cap = 0) (hD : Prs w w.heap.size D elen ep eq) (hR : Rd w w.heap.size C m f) (hO : Rd w w.heap.size E mo o) :
    Calls Try.prog 6 #[.int .i64 n, .slice A len cap, .slice D elen ecap, .slice C m capl, .slice E mo capo] w fun e w' => e = .returned (.bool true) ∧ Below w.heap.size w w' := by
  rcases boths (n := n) (len := len) (p := p) (q := q) with h | ⟨h, hm, hl⟩
  · exact walk_none n A len cap p q _ _ _ w hp hA h
  · exact walk_ok n A len cap p q D elen ecap ep eq C m capl f E mo capo o w hp hA hD hR hO h hm hl

set_option maxRecDepth 100000 in
theorem lifted (os : Os) (started : os.Started) (H : Type) (enc : TypeId × Value → H) :
    ReturnsInHanded {} Try.checked os 6 .any (Rows.labelLeastSpec.pre6 enc Try.prog Try.f6 Rows.labelLeastRow.domain false) (Rows.labelLeastSpec.post enc Try.prog Try.f6 false true false false) := by
  refine returnsInHanded_of_change (C := Try.checked) own started (by kernel_rfl) Try.func6
    (ChangeSpec.witness6 (enc := enc) (C := Try.checked) false ⟨#[], #[.int .i64 0, .slice none 0 0, .slice none 0 0, .slice none 0 0, .slice none 0 0], []⟩ 8 (by kernel_rfl) (by kernel_rfl) (by kernel_rfl) (by kernel_rfl)) ?_
  intro W base args ds gs before hval0 hW hcnd _
  have hval : ∀ (j : Nat) t v, Try.f6.params[j]? = some t → args[j]? = some v → Value.okWide Try.prog W .any base t v := hval0
  have hW' := hW
  obtain ⟨p, q, hA0, hV, rfl, hfz, hnd⟩ := hW
  have hA : DataW.TrodAll enc Try.prog W 0 (fun _ => true) true Try.f6.params.toList args.toList ds p := hA0
  rw [Try.params6] at hA hval
  obtain ⟨v0, vs0, d0, ds0, p0, q0, hargs, rfl, rfl, h0, r0⟩ := trodAll_cons hA
  obtain ⟨v1, vs1, d1, ds1, p1, q1, rfl, rfl, rfl, h1, r1⟩ := trodAll_cons r0
  obtain ⟨v2, vs2, d2, ds2, p2, q2, rfl, rfl, rfl, h2, r2⟩ := trodAll_cons r1
  obtain ⟨v3, vs3, d3, ds3, p3, q3, rfl, rfl, rfl, h3, r3⟩ := trodAll_cons r2
  obtain ⟨v4, vs4, d4, ds4, p4, q4, rfl, rfl, rfl, h4, r4⟩ := trodAll_cons r3
  obtain ⟨rfl, rfl, rfl⟩ := trodAll_nil r4
  obtain rfl : args = #[v0, v1, v2, v3, v4] := by cases args; simp_all
  obtain ⟨rfl, rfl⟩ := trodVars_none hV
  obtain ⟨a0, rfl, rfl, rfl, w0⟩ := open_int Try.underlying3 (hval 0 3 v0 rfl rfl) h0
  clear hA0 hval0
  simp only [List.append_nil] at hW'
  have hlt1 : ∀ x ∈ p1, x.block < W.heap.size := fun x hx => by simpa using hW'.lt x (by simp [hx])
  have hlt2 : ∀ x ∈ p2, x.block < W.heap.size := fun x hx => by simpa using hW'.lt x (by simp [hx])
  have hlt3 : ∀ x ∈ p3, x.block < W.heap.size := fun x hx => by simpa using hW'.lt x (by simp [hx])
  have hlt4 : ∀ x ∈ p4, x.block < W.heap.size := fun x hx => by simpa using hW'.lt x (by simp [hx])
  obtain ⟨A, len, cap, pp, qq, rfl, hp, hAn⟩ := open_order (okWide_slice Try.underlying22 (hval 1 22 v1 rfl rfl)) h1 hlt1
  obtain ⟨D, elen, ecap, ep, eq, rfl, hD, _⟩ := open_order (okWide_slice Try.underlying22 (hval 2 22 v2 rfl rfl)) h2 hlt2
  obtain ⟨C, m, capl, f, rfl, hR, _, _⟩ := open_list (okWide_slice Try.underlying23 (hval 3 23 v3 rfl rfl)) h3 hlt3
  obtain ⟨E, mo, capo, o, rfl, hO, _, _⟩ := open_list (okWide_slice Try.underlying23 (hval 4 23 v4 rfl rfl)) h4 hlt4
  refine (walk a0 A len cap pp qq D elen ecap ep eq C m capl f E mo capo o W hp hAn hD hR hO).mono fun e W' ⟨he, hg⟩ => ?_
  subst he
  exact ⟨_, rfl, _, _, _, [], _, [], hW', trodAll_cons_mk (shut_bool Try.underlying4 _) trodAll_mk0,
    trodAll_cons_mk (shut_int Try.underlying3 w0) (trodAll_cons_mk (stays_order h1 hg hlt1) (trodAll_cons_mk (stays_order h2 hg hlt2) (trodAll_cons_mk (stays_list h3 hg hlt3) (trodAll_cons_mk (stays_list h4 hg hlt4) trodAll_mk0)))), rfl, hg.frame _, fun h => by cases h⟩

theorem over : Rows.labelLeastRow.holds Try.pinned (OpenSpec.ofChange Rows.labelLeastSpec) :=
  OpenClaim.holds_of_wide 6 Try.f6 rfl rfl rfl rfl rfl rfl rfl ⟨rfl, rfl, rfl, rfl, rfl⟩ rfl rfl rfl rfl rfl (by kernel_rfl) Try.func6 (by kernel_rfl)
    (of_decide_eq_true (by kernel_rfl)) (by unfold Func.isWrapper; first | (rw [if_pos (by decide +kernel)]; kernel_rfl) | (rw [if_neg (by decide +kernel)]; exact ⟨rfl, rfl⟩))
    (fun os started H enc _ => lifted os started H enc)

theorem proved : Rows.LabelLeastSaid := over
end lawLeast
end Go.Proofs.Ytmnbalmihehodaa

/-
  For every n and every list of pairs the law LatticeOrder answers true and leaves its input as it was. No condition.
-/
import Derived.Test.YtdjcododpkdhnaaNear
namespace Go.Proofs.Ytdjcododpkdhnaa
open Go.ChangeShapes Go.WideShapes Go.ChangeAt Go.RowKit

section
variable {n : Nat} {A : Nat → Nat} {L : Nat → Nat → Bool}
theorem leqB_nat (hr : Rel n A L) {a b : Nat} (ha : a < n) (hb : b < n) : leqB n A a b = L a b := by
  rw [hr.leq_eq, rleq_nat n L a b ha hb]
end

namespace lawOrder

set_option maxRecDepth 100000 in
theorem walk_none (n : Int) (A : Option Addr) (len cap : Nat) (p q : Nat → Int) (w : World) (hp : Prs w w.heap.size A len p q) (hA : A = none → cap = 0) (h : 200 < len ∨ (len ≤ 200 ∧ (mbo n len p q && mkL n len p q) = false)) :
    Calls Try.prog 6 #[.int .i64 n, .slice A len cap] w fun e w' => e = .returned (.bool true) ∧ Below w.heap.size w w' := by
  have hzero := zero31
  have H := Lib.hid h
  clear h
  go_enter Try.func6, Try.ntmps6
  go_wp2_with fail
  refine (both_no n A len cap p q w hp hA H.out).mono ?_
  rintro e w1 ⟨cs, rfl, hcs, hone, hb1⟩
  have hsz := Lib.hid hcs
  have hl1 := heap_alloc_new w1 (.cells z31 31)
  have hb2 := below_setRow (hb1.alloc hb1.size (.cells z31 31)) hb1.size cs
  clear hcs hb1 hp hA H
  go_wp2_with (first | (refine st31 rfl _ _ rfl _ _ rfl rfl _ hl1 hsz.out z31_size hone ?_) | fail)
  clear hl1 hzero hone
  generalize (w1.alloc (.cells z31 31)).setRow w1.heap.size cs = w2 at *
  generalize w1.heap.size = s1 at *
  refine (awake_any _).mono ?_
  rintro e w3 ⟨rfl, hb3⟩
  have hb4 := after hb2 hb3
  go_wp2_with fail
  refine (awake_any _).mono ?_
  rintro e w5 ⟨rfl, hb5⟩
  have hb6 := after hb4 hb5
  go_wp2_with fail
  go_ret
  exact ⟨rfl, hb6⟩

set_option maxRecDepth 100000 in
set_option maxHeartbeats 2000000 in
theorem walk_ok (k : Nat) (A : Option Addr) (len cap : Nat) (p q : Nat → Int) (w : World) (hp : Prs w w.heap.size A len p q) (hA : A = none → cap = 0) (hlen : len ≤ 200) (hm : mbo (k : Int) len p q = true) (hl : mkL (k : Int) len p q = true) :
    Calls Try.prog 6 #[.int .i64 (k : Int), .slice A len cap] w fun e w' => e = .returned (.bool true) ∧ Below w.heap.size w w' := by
  have hzero := zero31
  obtain ⟨hrA, hrB⟩ := mk_rel hm
  have hlat := (mkL_iff hm).1 hl
  have hmb := mbo_iff hm
  rw [Int.toNat_natCast] at hrA hrB hlat
  have hk1 : 1 ≤ k := by omega
  have hk8 : k ≤ 8 := by omega
  have hbl : botK k (mkA k len p q) k < k := by rw [botK_eq hrA hlat hk1]; exact rbF_lt hk1 _
  have htl : topK k (mkA k len p q) k < k := by rw [topK_eq hrA hlat hk1]; exact rbF_lt hk1 _
  have F1 : Hid (∀ a : Nat, a < k → leqB k (mkA k len p q) a a = true) := Lib.hid fun a ha => by rw [leqB_nat hrA ha ha]; exact hlat.refl a ha
  have F2 : Hid (∀ a : Nat, a < k → leqB k (mkA k len p q) (botK k (mkA k len p q) k : Nat) a = true) := Lib.hid fun a ha => by
    rw [leqB_nat hrA hbl ha, botK_eq hrA hlat hk1]; exact hlat.dual.rb_top hk1 (k - 1) (by omega) a (by omega)
  have F3 : Hid (∀ a : Nat, a < k → leqB k (mkA k len p q) a (topK k (mkA k len p q) k : Nat) = true) := Lib.hid fun a ha => by
    rw [leqB_nat hrA ha htl, topK_eq hrA hlat hk1]; exact hlat.rb_top hk1 (k - 1) (by omega) a (by omega)
  have F4 : Hid (∀ a b : Nat, a < k → b < k → a ≠ b → leqB k (mkA k len p q) a b = true → leqB k (mkA k len p q) b a = false) := Lib.hid fun a b ha hb hab h => by
    rw [leqB_nat hrA ha hb] at h
    rw [leqB_nat hrA hb ha]
    cases hc : rcl k len p q b a
    · rfl
    · exact absurd (hlat.anti a b ha hb h hc) hab
  have F5 : Hid (∀ a b c : Nat, a < k → b < k → c < k → leqB k (mkA k len p q) a b = true → leqB k (mkA k len p q) b c = true → leqB k (mkA k len p q) a c = true) := Lib.hid fun a b c ha hb hc h1 h2 => by
    rw [leqB_nat hrA ha hb] at h1
    rw [leqB_nat hrA hb hc] at h2
    rw [leqB_nat hrA ha hc]
    exact hlat.trans a b c ha hb hc h1 h2
  have F6 : Hid (∀ i, i < len → leqB k (mkA k len p q) (p i) (q i) = true) := Lib.hid fun i hi => by
    have hi4 := okK_at hmb.2.2.2 hi
    rw [hrA.leq_eq]
    have i1 : isL k (p i) = true := isL_iff.2 ⟨hi4.1, hi4.2.1⟩
    have i2 : isL k (q i) = true := isL_iff.2 ⟨hi4.2.2.1, hi4.2.2.2⟩
    have := rcl_base (n := k) (len := len) (p := p) (q := q) _ _ (prL_pair p q (idK k) len i hi)
    simp [rleq, i1, i2, this]
  have HM := Lib.hid hm
  have HL := Lib.hid hl
  clear hm hl hbl htl hrA hrB hlat hmb
  go_enter Try.func6, Try.ntmps6
  go_wp2_with fail
  refine (both_ok k A len cap p q w hp hA hlen HM.out HL.out).mono ?_
  rintro e w1 ⟨g, cs, rfl, hRL, hb1, hL1⟩
  rw [Int.toNat_natCast] at hRL hL1
  have hsz := Lib.hid hRL.sz
  have hone := hRL.one
  have hl1 := heap_alloc_new w1 (.cells z31 31)
  have hw2 := below_setRow (hb1.alloc hb1.size (.cells z31 31)) hb1.size cs
  have hL2 : Lat ((w1.alloc (.cells z31 31)).setRow w1.heap.size cs) g _ _ _ := ⟨(heap_setRow_far _ _ _ cs (Nat.ne_of_lt hL1.lt)).trans (hL1.alloc (.cells z31 31)).blk, hL1.n8, hL1.a8, hL1.b8⟩
  clear hb1 hA HM HL hL1 hRL
  go_wp2_with (first | (refine st31 rfl _ _ rfl _ _ rfl rfl _ hl1 hsz.out z31_size hone ?_) | fail)
  clear hl1 hzero hone
  generalize (w1.alloc (.cells z31 31)).setRow w1.heap.size cs = w2 at *
  generalize w1.heap.size = s1 at *
  refine (awake_any _).mono ?_
  rintro e w3 ⟨rfl, hb3⟩
  have hw3 := after hw2 hb3
  have hL3 := hL2.keep hb3
  clear hw2 hL2 hb3
  go_wp2_with fail
  go_loop [28] (fun i => ∃ a : Nat, a ≤ k ∧ i = .int .i64 a) (fun i => k - (intOf i).toNat)
  case atStart => exact ⟨0, Nat.zero_le _, rfl⟩
  case round =>
    obtain ⟨a, ha, rfl⟩ := hrel
    by_cases hla : a < k
    · have E1 := Lib.hid (F1.out a hla)
      have E2 := Lib.hid (F2.out a hla)
      have E3 := Lib.hid (F3.out a hla)
      go_wp2_with fail
      refine (leq_any _ _ _ hL3).mono ?_
      rintro e w' ⟨rfl, rfl⟩
      rw [E1.out]
      go_wp2_with fail
      refine (Bottom_any _ hL3).mono ?_
      rintro e w' ⟨rfl, rfl⟩
      go_wp2_with fail
      refine (leq_any _ _ _ hL3).mono ?_
      rintro e w' ⟨rfl, rfl⟩
      rw [E2.out]
      go_wp2_with fail
      refine (Top_any _ hL3).mono ?_
      rintro e w' ⟨rfl, rfl⟩
      go_wp2_with fail
      refine (leq_any _ _ _ hL3).mono ?_
      rintro e w' ⟨rfl, rfl⟩
      rw [E3.out]
      go_wp2_with fail
      go_loop [53] (fun i => ∃ b : Nat, b ≤ k ∧ i = .int .i64 b) (fun i => k - (intOf i).toNat)
      case atStart => exact ⟨0, Nat.zero_le _, rfl⟩
      case round =>
        obtain ⟨b, hb, rfl⟩ := hrel
        by_cases hlb : b < k
        · have G4 : Hid (a ≠ b → leqB k (mkA k len p q) a b = true → leqB k (mkA k len p q) b a = false) := Lib.hid (F4.out a b hla hlb)
          by_cases hab : a = b
          · have hne : ((a : Int) != (b : Int)) = false := by simp [hab]
            have Hab := Lib.hid hab
            clear hab
            go_wp2_with fail
            go_loop [72] (fun i => ∃ c : Nat, c ≤ k ∧ i = .int .i64 c) (fun i => k - (intOf i).toNat)
            case atStart => exact ⟨0, Nat.zero_le _, rfl⟩
            case round =>
              obtain ⟨c, hc, rfl⟩ := hrel
              by_cases hlc : c < k
              · cases k1 : leqB k (mkA k len p q) a b
                · have K1 := Lib.hid k1
                  clear k1
                  go_wp2_with fail
                  refine (leq_any _ _ _ hL3).mono ?_
                  rintro e w' ⟨rfl, rfl⟩
                  rw [K1.out]
                  go_wp2_with fail
                  go_round
                  case rel => exact ⟨c + 1, by omega, by go_num⟩
                  case measure => simp [intOf]; omega
                cases k2 : leqB k (mkA k len p q) b c
                · have K1 := Lib.hid k1
                  have K2 := Lib.hid k2
                  clear k1 k2
                  go_wp2_with fail
                  refine (leq_any _ _ _ hL3).mono ?_
                  rintro e w' ⟨rfl, rfl⟩
                  rw [K1.out]
                  go_wp2_with fail
                  refine (leq_any _ _ _ hL3).mono ?_
                  rintro e w' ⟨rfl, rfl⟩
                  rw [K2.out]
                  go_wp2_with fail
                  go_round
                  case rel => exact ⟨c + 1, by omega, by go_num⟩
                  case measure => simp [intOf]; omega
                · have K3 := Lib.hid (F5.out a b c hla hlb hlc k1 k2)
                  have K1 := Lib.hid k1
                  have K2 := Lib.hid k2
                  clear k1 k2
                  go_wp2_with fail
                  refine (leq_any _ _ _ hL3).mono ?_
                  rintro e w' ⟨rfl, rfl⟩
                  rw [K1.out]
                  go_wp2_with fail
                  refine (leq_any _ _ _ hL3).mono ?_
                  rintro e w' ⟨rfl, rfl⟩
                  rw [K2.out]
                  go_wp2_with fail
                  refine (leq_any _ _ _ hL3).mono ?_
                  rintro e w' ⟨rfl, rfl⟩
                  rw [K3.out]
                  go_wp2_with fail
                  go_round
                  case rel => exact ⟨c + 1, by omega, by go_num⟩
                  case measure => simp [intOf]; omega
              · obtain rfl : c = k := by omega
                go_wp2_with fail
                go_round
                case rel => exact ⟨b + 1, by omega, by go_num⟩
                case measure => simp [intOf]; omega
          · have hne : ((a : Int) != (b : Int)) = true := by rw [bne_iff_ne]; omega
            cases h1 : leqB k (mkA k len p q) a b
            · have H1 := Lib.hid h1
              clear h1
              go_wp2_with fail
              refine (leq_any _ _ _ hL3).mono ?_
              rintro e w' ⟨rfl, rfl⟩
              rw [H1.out]
              go_wp2_with fail
              go_loop [72] (fun i => ∃ c : Nat, c ≤ k ∧ i = .int .i64 c) (fun i => k - (intOf i).toNat)
              case atStart => exact ⟨0, Nat.zero_le _, rfl⟩
              case round =>
                obtain ⟨c, hc, rfl⟩ := hrel
                by_cases hlc : c < k
                · cases k1 : leqB k (mkA k len p q) a b
                  · have K1 := Lib.hid k1
                    clear k1
                    go_wp2_with fail
                    refine (leq_any _ _ _ hL3).mono ?_
                    rintro e w' ⟨rfl, rfl⟩
                    rw [K1.out]
                    go_wp2_with fail
                    go_round
                    case rel => exact ⟨c + 1, by omega, by go_num⟩
                    case measure => simp [intOf]; omega
                  cases k2 : leqB k (mkA k len p q) b c
                  · have K1 := Lib.hid k1
                    have K2 := Lib.hid k2
                    clear k1 k2
                    go_wp2_with fail
                    refine (leq_any _ _ _ hL3).mono ?_
                    rintro e w' ⟨rfl, rfl⟩
                    rw [K1.out]
                    go_wp2_with fail
                    refine (leq_any _ _ _ hL3).mono ?_
                    rintro e w' ⟨rfl, rfl⟩
                    rw [K2.out]
                    go_wp2_with fail
                    go_round
                    case rel => exact ⟨c + 1, by omega, by go_num⟩
                    case measure => simp [intOf]; omega
                  · have K3 := Lib.hid (F5.out a b c hla hlb hlc k1 k2)
                    have K1 := Lib.hid k1
                    have K2 := Lib.hid k2
                    clear k1 k2
                    go_wp2_with fail
                    refine (leq_any _ _ _ hL3).mono ?_
                    rintro e w' ⟨rfl, rfl⟩
                    rw [K1.out]
                    go_wp2_with fail
                    refine (leq_any _ _ _ hL3).mono ?_
                    rintro e w' ⟨rfl, rfl⟩
                    rw [K2.out]
                    go_wp2_with fail
                    refine (leq_any _ _ _ hL3).mono ?_
                    rintro e w' ⟨rfl, rfl⟩
                    rw [K3.out]
                    go_wp2_with fail
                    go_round
                    case rel => exact ⟨c + 1, by omega, by go_num⟩
                    case measure => simp [intOf]; omega
                · obtain rfl : c = k := by omega
                  go_wp2_with fail
                  go_round
                  case rel => exact ⟨b + 1, by omega, by go_num⟩
                  case measure => simp [intOf]; omega
            · have H2 := Lib.hid (G4.out hab h1)
              have H1 := Lib.hid h1
              clear h1
              go_wp2_with fail
              refine (leq_any _ _ _ hL3).mono ?_
              rintro e w' ⟨rfl, rfl⟩
              rw [H1.out]
              go_wp2_with fail
              refine (leq_any _ _ _ hL3).mono ?_
              rintro e w' ⟨rfl, rfl⟩
              rw [H2.out]
              go_wp2_with fail
              go_loop [72] (fun i => ∃ c : Nat, c ≤ k ∧ i = .int .i64 c) (fun i => k - (intOf i).toNat)
              case atStart => exact ⟨0, Nat.zero_le _, rfl⟩
              case round =>
                obtain ⟨c, hc, rfl⟩ := hrel
                by_cases hlc : c < k
                · cases k1 : leqB k (mkA k len p q) a b
                  · have K1 := Lib.hid k1
                    clear k1
                    go_wp2_with fail
                    refine (leq_any _ _ _ hL3).mono ?_
                    rintro e w' ⟨rfl, rfl⟩
                    rw [K1.out]
                    go_wp2_with fail
                    go_round
                    case rel => exact ⟨c + 1, by omega, by go_num⟩
                    case measure => simp [intOf]; omega
                  cases k2 : leqB k (mkA k len p q) b c
                  · have K1 := Lib.hid k1
                    have K2 := Lib.hid k2
                    clear k1 k2
                    go_wp2_with fail
                    refine (leq_any _ _ _ hL3).mono ?_
                    rintro e w' ⟨rfl, rfl⟩
                    rw [K1.out]
                    go_wp2_with fail
                    refine (leq_any _ _ _ hL3).mono ?_
                    rintro e w' ⟨rfl, rfl⟩
                    rw [K2.out]
                    go_wp2_with fail
                    go_round
                    case rel => exact ⟨c + 1, by omega, by go_num⟩
                    case measure => simp [intOf]; omega
                  · have K3 := Lib.hid (F5.out a b c hla hlb hlc k1 k2)
                    have K1 := Lib.hid k1
                    have K2 := Lib.hid k2
                    clear k1 k2
                    go_wp2_with fail
                    refine (leq_any _ _ _ hL3).mono ?_
                    rintro e w' ⟨rfl, rfl⟩
                    rw [K1.out]
                    go_wp2_with fail
                    refine (leq_any _ _ _ hL3).mono ?_
                    rintro e w' ⟨rfl, rfl⟩
                    rw [K2.out]
                    go_wp2_with fail
                    refine (leq_any _ _ _ hL3).mono ?_
                    rintro e w' ⟨rfl, rfl⟩
                    rw [K3.out]
                    go_wp2_with fail
                    go_round
                    case rel => exact ⟨c + 1, by omega, by go_num⟩
                    case measure => simp [intOf]; omega
                · obtain rfl : c = k := by omega
                  go_wp2_with fail
                  go_round
                  case rel => exact ⟨b + 1, by omega, by go_num⟩
                  case measure => simp [intOf]; omega
        · obtain rfl : b = k := by omega
          go_wp2_with fail
          go_round
          case rel => exact ⟨a + 1, by omega, by go_num⟩
          case measure => simp [intOf]; omega
    · obtain rfl : a = k := by omega
      clear hla ha
      go_wp2_with fail
      go_loopw [97] (fun i wr => ∃ j : Nat, j ≤ len ∧ i = .int .i64 j ∧ Below w.heap.size w wr ∧ Lat wr g a (mkA a len p q) (mkB a len p q)) (fun i _ => len - (intOf i).toNat)
      case atStart => exact ⟨0, Nat.zero_le _, rfl, hw3, hL3⟩
      case round =>
        obtain ⟨j, hj, rfl, hb, hL⟩ := hrel
        clear hw3 hL3
        by_cases hlj : j < len
        · obtain ⟨g1, off, rfl, hg, hc⟩ := hp (by omega)
          obtain ⟨c0, c1⟩ := hc j hlj
          have d0 := (hb.cell (p := ⟨g1, off + j * 2, none⟩) hg).trans c0
          have d1 := (hb.cell (p := ⟨g1, off + j * 2 + 1, none⟩) hg).trans c1
          have E6 := Lib.hid (F6.out j hlj)
          clear hc c0 c1 hp
          have hLa := hL.alloc (.cells #[.int .i64 (p j), .int .i64 (q j)] 52)
          have hba := hb.alloc hb.size (.cells #[.int .i64 (p j), .int .i64 (q j)] 52)
          go_wp2_with fail
          refine (leq_any _ _ _ hLa).mono ?_
          rintro e w' ⟨rfl, rfl⟩
          rw [E6.out]
          go_wp2_with fail
          go_roundw
          case rel => exact ⟨j + 1, by omega, by go_num, hba, hLa⟩
          case measure => simp [intOf]; omega
        · obtain rfl : j = len := by omega
          go_wp2_with fail
          go_ret
          exact ⟨rfl, hb⟩

theorem walk (n : Int) (A : Option Addr) (len cap : Nat) (p q : Nat → Int) (w : World) (hp : Prs w w.heap.size A len p q) (hA : A = none → cap = 0) :
    Calls Try.prog 6 #[.int .i64 n, .slice A len cap] w fun e w' => e = .returned (.bool true) ∧ Below w.heap.size w w' := by
  rcases boths (n := n) (len := len) (p := p) (q := q) with h | ⟨h, hm, hl⟩
  · exact walk_none n A len cap p q w hp hA h
  · obtain ⟨k, rfl⟩ := Int.eq_ofNat_of_zero_le (show 0 ≤ n by have := mbo_iff hm; omega)
    exact walk_ok k A len cap p q w hp hA h hm hl

set_option maxRecDepth 100000 in
theorem lifted (os : Os) (started : os.Started) (H : Type) (enc : TypeId × Value → H) :
    ReturnsInHanded {} Try.checked os 6 .any (Rows.latticeOrderSpec.pre6 enc Try.prog Try.f6 Rows.latticeOrderRow.domain false) (Rows.latticeOrderSpec.post enc Try.prog Try.f6 false true false false) := by
  refine returnsInHanded_of_change (C := Try.checked) own started (by kernel_rfl) Try.func6
    (ChangeSpec.witness6 (enc := enc) (C := Try.checked) false ⟨#[], #[.int .i64 0, .slice none 0 0], []⟩ 8 (by kernel_rfl) (by kernel_rfl) (by kernel_rfl) (by kernel_rfl)) ?_
  intro W base args ds gs before hval0 hW hcnd _
  have hval : ∀ (j : Nat) t v, Try.f6.params[j]? = some t → args[j]? = some v → Value.okWide Try.prog W .any base t v := hval0
  have hW' := hW
  obtain ⟨p, q, hA0, hV, rfl, hfz, hnd⟩ := hW
  have hA : DataW.TrodAll enc Try.prog W 0 (fun _ => true) true Try.f6.params.toList args.toList ds p := hA0
  rw [Try.params6] at hA hval
  obtain ⟨v0, vs0, d0, ds0, p0, q0, hargs, rfl, rfl, h0, r0⟩ := trodAll_cons hA
  obtain ⟨v1, vs1, d1, ds1, p1, q1, rfl, rfl, rfl, h1, r1⟩ := trodAll_cons r0
  obtain ⟨rfl, rfl, rfl⟩ := trodAll_nil r1
  obtain rfl : args = #[v0, v1] := by cases args; simp_all
  obtain ⟨rfl, rfl⟩ := trodVars_none hV
  obtain ⟨a0, rfl, rfl, rfl, w0⟩ := open_int Try.underlying3 (hval 0 3 v0 rfl rfl) h0
  clear hA0 hval0
  simp only [List.append_nil] at hW'
  have hlt : ∀ x ∈ p1, x.block < W.heap.size := fun x hx => by simpa using hW'.lt x (by simpa using hx)
  obtain ⟨A, len, cap, pp, qq, rfl, hp, hAn⟩ := open_order (okWide_slice Try.underlying22 (hval 1 22 v1 rfl rfl)) h1 hlt
  refine (walk a0 A len cap pp qq W hp hAn).mono fun e W' ⟨he, hg⟩ => ?_
  subst he
  exact ⟨_, rfl, _, _, _, [], _, [], hW', trodAll_cons_mk (shut_bool Try.underlying4 _) trodAll_mk0,
    trodAll_cons_mk (shut_int Try.underlying3 w0) (trodAll_cons_mk (stays_order h1 hg hlt) trodAll_mk0), rfl, hg.frame _, fun h => by cases h⟩

theorem over : Rows.latticeOrderRow.holds Try.pinned (OpenSpec.ofChange Rows.latticeOrderSpec) :=
  OpenClaim.holds_of_wide 6 Try.f6 rfl rfl rfl rfl rfl rfl rfl ⟨rfl, rfl, rfl, rfl, rfl⟩ rfl rfl rfl rfl rfl (by kernel_rfl) Try.func6 (by kernel_rfl)
    (of_decide_eq_true (by kernel_rfl)) (by unfold Func.isWrapper; first | (rw [if_pos (by decide +kernel)]; kernel_rfl) | (rw [if_neg (by decide +kernel)]; exact ⟨rfl, rfl⟩))
    (fun os started H enc _ => lifted os started H enc)

theorem proved : Rows.LatticeOrderSaid := over
end lawOrder
end Go.Proofs.Ytdjcododpkdhnaa

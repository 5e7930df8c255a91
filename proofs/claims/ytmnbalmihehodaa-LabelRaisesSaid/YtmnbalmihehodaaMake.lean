/-
  The contracts of isLattice and Make.
-/
import Derived.Test.YtmnbalmihehodaaClose
namespace Go.Proofs.Ytmnbalmihehodaa
open Go.RowKit

/-- Have these two labels a join and a meet, and are they not below one another both ways? -/
def good (n : Nat) (A B : Nat → Nat) (a b : Nat) : Bool :=
  (fnd n A (A a &&& A b)).isSome && ((fnd n B (B a &&& B b)).isSome && !(leqB n A a b && leqB n A b a))
def goodIn (n : Nat) (A B : Nat → Nat) (a k : Nat) : Bool := (List.range k).all fun b => good n A B a b
def latK (n : Nat) (A B : Nat → Nat) (k : Nat) : Bool := (List.range k).all fun a => goodIn n A B a a
theorem goodIn_succ (n : Nat) (A B : Nat → Nat) (a k : Nat) : goodIn n A B a (k + 1) = (goodIn n A B a k && good n A B a k) := by simp [goodIn, List.range_succ]
theorem latK_succ (n : Nat) (A B : Nat → Nat) (k : Nat) : latK n A B (k + 1) = (latK n A B k && goodIn n A B k k) := by simp [latK, List.range_succ]
theorem latK_bad {n : Nat} {A B : Nat → Nat} {a b : Nat} (h : good n A B a b = false) (hb : b < a) (ha : a < n) : latK n A B n = false := by
  rw [← Bool.not_eq_true]
  intro hl
  simp only [latK, goodIn, List.all_eq_true, List.mem_range] at hl
  have := hl a ha b hb
  rw [h] at this
  cases this

set_option maxHeartbeats 2000000 in
theorem isLattice_any {g n : Nat} {A B : Nat → Nat} (w : World) (h : Lat w g n A B) :
    Calls Try.prog 45 #[.pointer (some ⟨g, 0, none⟩)] w fun e w' => e = .returned (.bool (latK n A B n)) ∧ Below w.heap.size w w' := by
  have n8 := h.n8
  have hs := h.size
  go_enter Try.func45, Try.ntmps45
  go_wp2_with fail
  go_step3
  go_wp2_with fail
  go_step3
  go_wp2_with fail
  go_loopw [3, 14] (fun s i wr => ∃ a : Nat, a ≤ n ∧ i = .int .i64 a ∧ s = .bool true ∧ Hid (latK n A B a = true) ∧ Below w.heap.size w wr) (fun _ i _ => n - (intOf i).toNat)
  case atStart => exact ⟨0, Nat.zero_le _, rfl, rfl, rfl, Below.refl _ _⟩
  case round =>
    obtain ⟨a, ha, rfl, rfl, hok, hb⟩ := hrel
    clear hs
    by_cases hlt : a < n
    · obtain ⟨wo, rfl⟩ : ∃ wo : World, wo = wr := ⟨_, rfl⟩
      go_wp2_with fail
      go_loopw [3, 18] (fun s i wr => ∃ b : Nat, b ≤ a ∧ i = .int .i64 b ∧ s = .bool true ∧ Hid (goodIn n A B a b = true) ∧ Below w.heap.size w wr) (fun _ i _ => a - (intOf i).toNat)
      case atStart => exact ⟨0, Nat.zero_le _, rfl, rfl, rfl, hb⟩
      case round =>
        obtain ⟨b, hba, rfl, rfl, hin, hbb⟩ := hrel
        clear hb
        by_cases hlb : b < a
        · have hL := h.keep hbb
          go_wp2_with fail
          refine (join_any _ _ _ hL (by omega) (by omega) (by omega) (by omega)).mono ?_
          rintro e w1 ⟨rfl, hb1⟩
          have hL1 := hL.keep hb1
          have hbb1 := hbb.trans (hb1.mono hbb.size)
          unfold fndV
          go_wp2_with fail
          refine (meet_any _ _ _ hL1 (by omega) (by omega) (by omega) (by omega)).mono ?_
          rintro e w2 ⟨rfl, hb2⟩
          have hL2 := hL1.keep hb2
          have hbb2 := hbb1.trans (hb2.mono hbb1.size)
          unfold fndV
          simp only [Int.toNat_natCast]
          clear hL hb1 hL1 hbb1 hb2 hbb
          cases hj : (fnd n A (A a &&& A b)).isSome
          · have Hf : Hid (latK n A B n = false) := Lib.hid (latK_bad (by simp [good, hj]) hlb hlt)
            clear hj
            go_wp2_with fail
            try rw [Exit.noGoto_ret]
            go_ret
            exact ⟨by rw [Hf.out]; rfl, hbb2⟩
          cases hm : (fnd n B (B a &&& B b)).isSome
          · have Hf : Hid (latK n A B n = false) := Lib.hid (latK_bad (by simp [good, hm]) hlb hlt)
            clear hj hm
            go_wp2_with fail
            try rw [Exit.noGoto_ret]
            go_ret
            exact ⟨by rw [Hf.out]; rfl, hbb2⟩
          cases h1 : leqB n A a b
          · have Hg : Hid (goodIn n A B a (b + 1) = true) := Lib.hid (by rw [goodIn_succ, hin.out]; simp [good, hj, hm, h1])
            have H1 := Lib.hid h1
            clear hj hm h1
            go_wp2_with fail
            refine (leq_any _ _ _ hL2).mono ?_
            rintro e w' ⟨rfl, rfl⟩
            rw [H1.out]
            go_wp2_with fail
            go_roundw
            case rel => exact ⟨b + 1, by omega, by go_num, rfl, Hg, hbb2⟩
            case measure => simp [intOf]; omega
          cases h2 : leqB n A b a
          · have Hg : Hid (goodIn n A B a (b + 1) = true) := Lib.hid (by rw [goodIn_succ, hin.out]; simp [good, hj, hm, h1, h2])
            have H1 := Lib.hid h1
            have H2 := Lib.hid h2
            clear hj hm h1 h2
            go_wp2_with fail
            refine (leq_any _ _ _ hL2).mono ?_
            rintro e w' ⟨rfl, rfl⟩
            rw [H1.out]
            go_wp2_with fail
            refine (leq_any _ _ _ hL2).mono ?_
            rintro e w' ⟨rfl, rfl⟩
            rw [H2.out]
            go_wp2_with fail
            go_roundw
            case rel => exact ⟨b + 1, by omega, by go_num, rfl, Hg, hbb2⟩
            case measure => simp [intOf]; omega
          · have Hf : Hid (latK n A B n = false) := Lib.hid (latK_bad (by simp [good, h1, h2]) hlb hlt)
            have H1 := Lib.hid h1
            have H2 := Lib.hid h2
            clear hj hm h1 h2
            go_wp2_with fail
            refine (leq_any _ _ _ hL2).mono ?_
            rintro e w' ⟨rfl, rfl⟩
            rw [H1.out]
            go_wp2_with fail
            refine (leq_any _ _ _ hL2).mono ?_
            rintro e w' ⟨rfl, rfl⟩
            rw [H2.out]
            go_wp2_with fail
            try rw [Exit.noGoto_ret]
            go_ret
            exact ⟨by rw [Hf.out]; rfl, hbb2⟩
        · obtain rfl : b = a := by omega
          have Hl : Hid (latK n A B (b + 1) = true) := Lib.hid (by rw [latK_succ, hok.out, hin.out]; rfl)
          clear hba hlb hin
          go_wp2_with fail
          go_roundw
          case rel => exact ⟨b + 1, by omega, by go_num, rfl, Hl, hbb⟩
          case measure => simp [intOf]; omega
    · obtain rfl : a = n := by omega
      go_wp2_with fail
      try rw [Exit.noGoto_ret]
      go_ret
      exact ⟨by rw [hok.out]; rfl, hb⟩

theorem mayBe_all (n : Int) (A : Option Addr) (len cap : Nat) (p q : Nat → Int) (w : World) (hp : Prs w w.heap.size A len p q) :
    Calls Try.prog 43 #[.int .i64 n, .slice A len cap] w fun e w' => e = .returned (.bool (mbo n len p q)) ∧ Below w.heap.size w w' := by
  by_cases h1 : 1 ≤ n ∧ n ≤ 8
  · by_cases h2 : len ≤ 64
    · refine (mayBe_any n A len cap p q w h1.1 h1.2 h2 hp).mono ?_
      rintro e w' ⟨rfl, hb⟩
      exact ⟨by simp [mbo, h1.1, h1.2, h2], hb⟩
    · refine (mayBe_long n A len cap w h1.1 h1.2 (by omega)).mono ?_
      rintro e w' ⟨rfl, rfl⟩
      exact ⟨by simp [mbo, h2], Below.refl _ _⟩
  · refine (mayBe_n n _ w h1).mono ?_
    rintro e w' ⟨rfl, rfl⟩
    refine ⟨?_, Below.refl _ _⟩
    have : (decide (1 ≤ n) && decide (n ≤ 8)) = false := by simp; omega
    simp [mbo, this]

/-- The sets that Make has for a given order, above and below; are they a lattice? -/
def mkA (n : Int) (len : Nat) (p q : Nat → Int) : Nat → Nat := closed n.toNat len p q
def mkB (n : Int) (len : Nat) (p q : Nat → Int) : Nat → Nat := turnK n.toNat (mkA n len p q) n.toNat
def mkL (n : Int) (len : Nat) (p q : Nat → Int) : Bool := latK n.toNat (mkA n len p q) (mkB n len p q) n.toNat

/-- A lattice is handed out. -/
def GivesLat (n : Int) (len : Nat) (p q : Nat → Int) (w : World) (e : Ending) (w' : World) : Prop :=
  ∃ g, e = .returned (.tuple #[.pointer (some ⟨g, 0, none⟩), .int .i64 0]) ∧ w.heap.size ≤ g ∧ Below w.heap.size w w' ∧ Lat w' g n.toNat (mkA n len p q) (mkB n len p q)

theorem Make_arg (n : Int) (A : Option Addr) (len cap : Nat) (p q : Nat → Int) (w : World) (hp : Prs w w.heap.size A len p q) (h : mbo n len p q = false) :
    Calls Try.prog 24 #[.int .i64 n, .slice A len cap] w fun e w' => e = .returned (.tuple #[.pointer none, .int .i64 2]) ∧ Below w.heap.size w w' := by
  have H := Lib.hid h
  clear h
  go_enter Try.func24, Try.ntmps24
  go_wp2_with fail
  refine (mayBe_all n A len cap p q w hp).mono ?_
  rintro e w1 ⟨rfl, hb⟩
  rw [H.out]
  go_wp2_with fail
  go_ret2
  exact ⟨rfl, hb⟩

theorem mbo_iff {n : Int} {len : Nat} {p q : Nat → Int} (h : mbo n len p q = true) : 1 ≤ n ∧ n ≤ 8 ∧ len ≤ 64 ∧ okK n p q len = true := by
  simp only [mbo, Bool.and_eq_true, decide_eq_true_eq] at h
  exact ⟨h.1.1, h.1.2, h.2.1, h.2.2⟩

theorem Make_lat (n : Int) (A : Option Addr) (len cap : Nat) (p q : Nat → Int) (w : World) (hp : Prs w w.heap.size A len p q) (h : mbo n len p q = true) (hl : mkL n len p q = false) :
    Calls Try.prog 24 #[.int .i64 n, .slice A len cap] w fun e w' => e = .returned (.tuple #[.pointer none, .int .i64 16]) ∧ Below w.heap.size w w' := by
  obtain ⟨k, rfl⟩ := Int.eq_ofNat_of_zero_le (show 0 ≤ n by have := mbo_iff h; omega)
  have H := Lib.hid h
  have HL : Hid (latK k (closed k len p q) (turnK k (closed k len p q) k) k = false) := Lib.hid hl
  clear h hl
  go_enter Try.func24, Try.ntmps24
  go_wp2_with fail
  refine (mayBe_all _ A len cap p q w hp).mono ?_
  rintro e w1 ⟨rfl, hb⟩
  rw [H.out]
  go_wp2_with fail
  refine (close_any k A len cap p q w1 (by have := mbo_iff H.out; omega) (by have := mbo_iff H.out; omega) (by have := mbo_iff H.out; omega) (fun hl => (hp.keep hb).mono hb.size hl) (mbo_iff H.out).2.2.2).mono ?_
  rintro e w2 ⟨rfl, hb2, hL⟩
  go_wp2_with fail
  refine (isLattice_any _ hL).mono ?_
  rintro e w3 ⟨rfl, hb3⟩
  rw [HL.out]
  have hb12 := hb.trans (hb2.mono hb.size)
  have hb123 := hb12.trans (hb3.mono hb12.size)
  go_wp2_with fail
  go_ret2
  exact ⟨rfl, hb123⟩

theorem Make_ok (n : Int) (A : Option Addr) (len cap : Nat) (p q : Nat → Int) (w : World) (hp : Prs w w.heap.size A len p q) (h : mbo n len p q = true) (hl : mkL n len p q = true) :
    Calls Try.prog 24 #[.int .i64 n, .slice A len cap] w (GivesLat n len p q w) := by
  obtain ⟨k, rfl⟩ := Int.eq_ofNat_of_zero_le (show 0 ≤ n by have := mbo_iff h; omega)
  have H := Lib.hid h
  have HL : Hid (latK k (closed k len p q) (turnK k (closed k len p q) k) k = true) := Lib.hid hl
  clear h hl
  go_enter Try.func24, Try.ntmps24
  go_wp2_with fail
  refine (mayBe_all _ A len cap p q w hp).mono ?_
  rintro e w1 ⟨rfl, hb⟩
  rw [H.out]
  go_wp2_with fail
  refine (close_any k A len cap p q w1 (by have := mbo_iff H.out; omega) (by have := mbo_iff H.out; omega) (by have := mbo_iff H.out; omega) (fun hl => (hp.keep hb).mono hb.size hl) (mbo_iff H.out).2.2.2).mono ?_
  rintro e w2 ⟨rfl, hb2, hL⟩
  go_wp2_with fail
  refine (isLattice_any _ hL).mono ?_
  rintro e w3 ⟨rfl, hb3⟩
  rw [HL.out]
  have hL3 := hL.keep hb3
  have hb12 := hb.trans (hb2.mono hb.size)
  have hb123 := hb12.trans (hb3.mono hb12.size)
  have hsz := hb.size
  clear hb hb2 hb12 hb3 hL
  go_wp2_with fail
  go_ret2
  exact ⟨_, rfl, hsz, hb123, hL3⟩
end Go.Proofs.Ytmnbalmihehodaa

/-
  Contract of the program's readUint.
-/
import Derived.Test.YtdmbfajhcihfgaaDa
import Derived.Laws.BitsAllLaws
namespace Go.Proofs.Ytdmbfajhcihfgaa
open Go.RowKit

/-- How a reading of the program's ends: a panic, or what is read and the place behind it. -/
def DEnds (s : ByteArray) (w : World) (g : Nat) (p : Int) {α : Type} (r : Except Nat (α × List UInt8)) (x : Ending) (w' : World) (val : α → Value) : Prop :=
  Past g w w' ∧ match r with
  | .error c => x = .panicked (errL c)
  | .ok (n, l) => x = .returned (val n) ∧ ∃ a : Nat, a ≤ s.size ∧ l = left s a ∧ Dr w' g s a p
theorem or_add {k n x : Nat} (hn : n < 2 ^ k) : n ||| x * 2 ^ k = n + x * 2 ^ k := by
  have h := Nat.two_pow_add_eq_or_of_lt hn x
  rw [Nat.mul_comm x, Nat.or_comm, ← h, Nat.add_comm]
theorem or_eq {i n b : Nat} (hn : i ≤ 9 → n < 2 ^ (7 * i)) (h : ¬ (9 < i ∨ (i = 9 ∧ 1 < b) ∨ (0 < i ∧ b = 0))) (hb : b < 2 ^ 8) :
    bits .or .u64 (n : Int) (IntKind.u64.wrap ((b : Int) % 128 * 2 ^ (7 * i))) = ((n + b % 128 * 2 ^ (7 * i) : Nat) : Int) ∧ (i + 1 ≤ 9 → n + b % 128 * 2 ^ (7 * i) < 2 ^ (7 * (i + 1))) := by
  refine ⟨?_, (acc_eq hn h hb).2⟩
  have hn := hn (by omega)
  have hx : b % 128 * 2 ^ (7 * i) < 18446744073709551616 ∧ n < 18446744073709551616 := by
    obtain rfl | rfl | rfl | rfl | rfl | rfl | rfl | rfl | rfl | rfl : i = 0 ∨ i = 1 ∨ i = 2 ∨ i = 3 ∨ i = 4 ∨ i = 5 ∨ i = 6 ∨ i = 7 ∨ i = 8 ∨ i = 9 := by omega
    case inr.inr.inr.inr.inr.inr.inr.inr.inr =>
      obtain rfl : b = 1 := by omega
      simp only [Nat.reduceMul, Nat.reducePow] at *
      omega
    all_goals
      simp only [Nat.reduceMul, Nat.reducePow] at *
      omega
  have e : IntKind.u64.wrap ((b : Int) % 128 * 2 ^ (7 * i)) = ((b % 128 * 2 ^ (7 * i) : Nat) : Int) := by
    have e1 : ((b : Int) % 128 * 2 ^ (7 * i)) = ((b % 128 * 2 ^ (7 * i) : Nat) : Int) := by simp
    rw [e1, IntKind.wrap_u64]
    omega
  rw [e, u64_or_nat _ _ hx.2 hx.1, or_add hn]
theorem or_0 {n b : Nat} (hn : n < 2 ^ (7 * 0)) : bits .or .u64 (n : Int) ((b : Int) % 128) = ((n + b % 128 * 2 ^ (7 * 0) : Nat) : Int) := by
  have e : ((b : Int) % 128) = ((b % 128 : Nat) : Int) := by simp
  rw [e, u64_or_nat _ _ (by simp at hn; omega) (by omega)]
  obtain rfl : n = 0 := by simpa using hn
  simp
set_option maxRecDepth 20000 in
set_option maxHeartbeats 4000000 in
theorem readUint_ok {w : World} {g : Nat} {s : ByteArray} {a : Nat} {p : Int} (h : Dr w g s a p) (ha : a ≤ s.size) (hs : s.size ≤ 1000000000) :
    Calls Try.prog 55 #[.pointer (some ⟨g, 0, none⟩)] w fun x w' => DEnds s w g p (uP 0 0 (left s a)) x w' (fun n => .int .u64 n) := by
  have HH := Lib.hid h
  clear h
  go_enter Try.func55, Try.ntmps55
  go_wp2_with fail
  go_loopw [3, 4] (fun nv iv wr => ∃ (i c n : Nat), i ≤ 9 ∧ c ≤ s.size ∧ nv = .int .u64 n ∧ iv = .int .i64 (7 * i : Nat) ∧ (i ≤ 9 → n < 2 ^ (7 * i)) ∧ Hid (uP i n (left s c) = uP 0 0 (left s a)) ∧ Dr wr g s c p ∧ Past g w wr) (fun _ iv _ => 100 - (intOf iv).toNat)
  case atStart => exact ⟨0, a, 0, by omega, ha, rfl, rfl, fun _ => by decide, Lib.hid rfl, HH.out, Past.refl _ _⟩
  case round =>
    obtain ⟨i, c, n, hi, hc, rfl, rfl, hn, hu, hr, hp⟩ := hrel
    by_cases hlt : c < s.size
    · have B := readByte_ok hr hs hlt
      obtain ⟨b, hb0⟩ : ∃ b, s[c] = b := ⟨_, rfl⟩
      have hu' := hu.out
      rw [left_cons hlt, hb0] at hu'
      rw [hb0] at B
      have hb256 := b.toNat_lt
      have Y := insist_yes
      have N := insist_no
      have HY := Lib.hid Y
      have HN := Lib.hid N
      clear Y N
      by_cases hbad : 9 < i ∨ (i = 9 ∧ 1 < b.toNat) ∨ (0 < i ∧ b.toNat = 0)
      · rw [uP_bad hbad] at hu'
        have HU := Lib.hid hu'
        have HP := Lib.hid hp
        clear hu hu' hr hb0 hp hn
        by_cases i9 : i = 9
        · subst i9
          by_cases b1 : 1 < b.toNat
          · have t1 : decide ((b.toNat : Int) ≤ 1) = false := by simp; omega
            go_wp2_with (first | (go_at_call 89; refine B.mono ?_; rintro e w1 ⟨rfl, h1, hp1⟩) | (go_at_call 76; first | ((with_reducible refine (HY.out _).mono ?_); rintro e w2 ⟨rfl, rfl⟩) | ((with_reducible refine (HN.out _).mono ?_); rintro e w2 ⟨rfl, rfl⟩)))
            refine ⟨rfl, HP.out.trans hp1, ?_⟩
            rw [← HU.out]
            rfl
          · have t1 : decide ((b.toNat : Int) ≤ 1) = true := by simp; omega
            have tl : decide ((b.toNat : Int) < 128) = true := by simp; omega
            have t0 : decide ((0 : Int) < (b.toNat : Int)) = false := by simp; omega
            go_wp2_with (first | (go_at_call 89; refine B.mono ?_; rintro e w1 ⟨rfl, h1, hp1⟩) | (go_at_call 76; first | ((with_reducible refine (HY.out _).mono ?_); rintro e w2 ⟨rfl, rfl⟩) | ((with_reducible refine (HN.out _).mono ?_); rintro e w2 ⟨rfl, rfl⟩)))
            refine ⟨rfl, HP.out.trans hp1, ?_⟩
            rw [← HU.out]
            rfl
        · have h63 : 7 * (i : Int) < 63 := by omega
          have tl : decide ((b.toNat : Int) < 128) = true := by simp; omega
          have t0 : decide ((0 : Int) < (b.toNat : Int)) = false := by simp; omega
          have ts : (7 * (i : Int) == 0) = false := by simp; omega
          go_wp2_with (first | (go_at_call 89; refine B.mono ?_; rintro e w1 ⟨rfl, h1, hp1⟩) | (go_at_call 76; first | ((with_reducible refine (HY.out _).mono ?_); rintro e w2 ⟨rfl, rfl⟩) | ((with_reducible refine (HN.out _).mono ?_); rintro e w2 ⟨rfl, rfl⟩)))
          refine ⟨rfl, HP.out.trans hp1, ?_⟩
          rw [← HU.out]
          rfl
      · have hE := or_eq hn hbad hb256
        by_cases hl : b.toNat < 128
        · rw [uP_last hbad hl] at hu'
          have HU := Lib.hid hu'
          have HP := Lib.hid hp
          have HE := Lib.hid hE
          have HNN := Lib.hid hn
          clear hu hu' hr hb0 hp hE hn
          have tl : decide ((b.toNat : Int) < 128) = true := by simp; omega
          by_cases i0 : i = 0
          · subst i0
            have H0 := Lib.hid (or_0 (b := b.toNat) (HNN.out (by omega)))
            go_wp2_with (first | (go_at_call 89; refine B.mono ?_; rintro e w1 ⟨rfl, h1, hp1⟩) | (go_at_call 76; first | ((with_reducible refine (HY.out _).mono ?_); rintro e w2 ⟨rfl, rfl⟩) | ((with_reducible refine (HN.out _).mono ?_); rintro e w2 ⟨rfl, rfl⟩)))
            all_goals
              go_ret
              refine ⟨HP.out.trans hp1, ?_⟩
              rw [← HU.out]
              first
                | exact ⟨congrArg (fun z => Ending.returned (Value.int .u64 z)) H0.out, _, hlt, rfl, h1⟩
                | exact ⟨congrArg (fun z => Ending.returned (Value.int .u64 z)) (by have e : (0 : Int) = (b.toNat : Int) % 128 := by omega
                                                                                    rw [e]; exact H0.out), _, hlt, rfl, h1⟩
          · have t0 : decide ((0 : Int) < (b.toNat : Int)) = true := by simp; omega
            by_cases i9 : i = 9
            · subst i9
              have t1 : decide ((b.toNat : Int) ≤ 1) = true := by simp; omega
              go_wp2_with (first | (go_at_call 89; refine B.mono ?_; rintro e w1 ⟨rfl, h1, hp1⟩) | (go_at_call 76; first | ((with_reducible refine (HY.out _).mono ?_); rintro e w2 ⟨rfl, rfl⟩) | ((with_reducible refine (HN.out _).mono ?_); rintro e w2 ⟨rfl, rfl⟩)))
              go_ret
              refine ⟨HP.out.trans hp1, ?_⟩
              rw [← HU.out]
              exact ⟨congrArg (fun z => Ending.returned (Value.int .u64 z)) HE.out.1, _, hlt, rfl, h1⟩
            · have h63 : 7 * (i : Int) < 63 := by omega
              go_wp2_with (first | (go_at_call 89; refine B.mono ?_; rintro e w1 ⟨rfl, h1, hp1⟩) | (go_at_call 76; first | ((with_reducible refine (HY.out _).mono ?_); rintro e w2 ⟨rfl, rfl⟩) | ((with_reducible refine (HN.out _).mono ?_); rintro e w2 ⟨rfl, rfl⟩)))
              go_ret
              refine ⟨HP.out.trans hp1, ?_⟩
              rw [← HU.out]
              exact ⟨congrArg (fun z => Ending.returned (Value.int .u64 z)) HE.out.1, _, hlt, rfl, h1⟩
        · rw [uP_more hbad hl] at hu'
          have HU := Lib.hid hu'
          have HP := Lib.hid hp
          have HE := Lib.hid hE
          have HNN := Lib.hid hn
          clear hu hu' hr hb0 hp hE hn
          have tl : decide ((b.toNat : Int) < 128) = false := by simp; omega
          have i9 : i < 9 := by omega
          have h63 : 7 * (i : Int) < 63 := by omega
          go_wp2_with (first | (go_at_call 89; refine B.mono ?_; rintro e w1 ⟨rfl, h1, hp1⟩) | (go_at_call 76; first | ((with_reducible refine (HY.out _).mono ?_); rintro e w2 ⟨rfl, rfl⟩) | ((with_reducible refine (HN.out _).mono ?_); rintro e w2 ⟨rfl, rfl⟩)))
          go_roundw
          case rel => exact ⟨i + 1, c + 1, _, by omega, hlt, congrArg (Value.int .u64) HE.out.1, by go_num, HE.out.2, HU, h1, HP.out.trans hp1⟩
          case measure => simp [intOf] <;> omega
    · have B := readByte_end hr hs (by omega)
      have hu' := hu.out
      rw [left_nil (by omega), uP_nil] at hu'
      have HU := Lib.hid hu'
      have HP := Lib.hid hp
      clear hu hu' hr hp
      go_wp2_with (go_at_call 89; refine B.mono ?_; rintro e w1 ⟨rfl, hp1⟩)
      refine ⟨rfl, HP.out.trans hp1, ?_⟩
      rw [← HU.out]
      rfl
end Go.Proofs.Ytdmbfajhcihfgaa

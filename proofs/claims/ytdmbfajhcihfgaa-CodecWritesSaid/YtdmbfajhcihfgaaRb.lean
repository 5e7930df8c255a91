/-
  The document's reader: Uint.
-/
import Derived.Test.YtdmbfajhcihfgaaRa
namespace Go.Proofs.Ytdmbfajhcihfgaa
open Go.RowKit

/-- The number at the front of these bytes, behind i groups that make n. -/
def uP : Nat → Nat → List UInt8 → Except Nat (Nat × List UInt8)
  | _, _, [] => .error 14
  | i, n, b :: r =>
    if 9 < i ∨ (i = 9 ∧ 1 < b.toNat) ∨ (0 < i ∧ b.toNat = 0) then .error 5
    else if b.toNat < 128 then .ok (n + b.toNat % 128 * 2 ^ (7 * i), r) else uP (i + 1) (n + b.toNat % 128 * 2 ^ (7 * i)) r
theorem uP_nil (i n : Nat) : uP i n [] = .error 14 := by rw [uP]
theorem uP_bad {i n : Nat} {b : UInt8} {r : List UInt8} (h : 9 < i ∨ (i = 9 ∧ 1 < b.toNat) ∨ (0 < i ∧ b.toNat = 0)) : uP i n (b :: r) = .error 5 := by rw [uP, if_pos h]
theorem uP_last {i n : Nat} {b : UInt8} {r : List UInt8} (h : ¬ (9 < i ∨ (i = 9 ∧ 1 < b.toNat) ∨ (0 < i ∧ b.toNat = 0))) (hb : b.toNat < 128) : uP i n (b :: r) = .ok (n + b.toNat % 128 * 2 ^ (7 * i), r) := by rw [uP, if_neg h, if_pos hb]
theorem uP_more {i n : Nat} {b : UInt8} {r : List UInt8} (h : ¬ (9 < i ∨ (i = 9 ∧ 1 < b.toNat) ∨ (0 < i ∧ b.toNat = 0))) (hb : ¬ b.toNat < 128) : uP i n (b :: r) = uP (i + 1) (n + b.toNat % 128 * 2 ^ (7 * i)) r := by rw [uP, if_neg h, if_neg hb]
/-- What is left from a place on. -/
def left (s : ByteArray) (a : Nat) : List UInt8 := s.data.toList.drop a
theorem left_nil {s : ByteArray} {a : Nat} (h : s.size ≤ a) : left s a = [] := by
  unfold left
  rw [List.drop_eq_nil_iff]; simpa using h
theorem left_cons {s : ByteArray} {a : Nat} (h : a < s.size) : left s a = s[a] :: left s (a + 1) := by
  unfold left
  rw [List.drop_eq_getElem_cons (by simpa using h)]
  rfl
theorem left_len (s : ByteArray) (a : Nat) : (left s a).length = s.size - a := by
  unfold left; simp
/-- How a reading ends: an error, or what is read and the place behind it. -/
def Ends (s : ByteArray) (w : World) (g : Nat) (p : Int) {α : Type} (r : Except Nat (α × List UInt8)) (x : Ending) (w' : World) (zero : Value) (val : α → Value) : Prop :=
  Past g w w' ∧ match r with
  | .error c => x = .returned zero ∧ c ≠ 0 ∧ ∃ a : Nat, Rdr w' g s a c p
  | .ok (n, l) => x = .returned (val n) ∧ ∃ a : Nat, a ≤ s.size ∧ l = left s a ∧ Rdr w' g s a 0 p
theorem acc_eq {i n b : Nat} (hn : i ≤ 9 → n < 2 ^ (7 * i)) (h : ¬ (9 < i ∨ (i = 9 ∧ 1 < b) ∨ (0 < i ∧ b = 0))) (hb : b < 2 ^ 8) :
    IntKind.u64.wrap ((n : Int) + IntKind.u64.wrap ((b : Int) % 128 * 2 ^ (7 * i))) = ((n + b % 128 * 2 ^ (7 * i) : Nat) : Int) ∧ (i + 1 ≤ 9 → n + b % 128 * 2 ^ (7 * i) < 2 ^ (7 * (i + 1))) := by
  have hn := hn (by omega)
  rw [IntKind.wrap_u64, IntKind.wrap_u64]
  obtain rfl | rfl | rfl | rfl | rfl | rfl | rfl | rfl | rfl | rfl : i = 0 ∨ i = 1 ∨ i = 2 ∨ i = 3 ∨ i = 4 ∨ i = 5 ∨ i = 6 ∨ i = 7 ∨ i = 8 ∨ i = 9 := by omega
  case inr.inr.inr.inr.inr.inr.inr.inr.inr =>
    obtain rfl : b = 1 := by omega
    simp only [Nat.reduceMul, Nat.reduceAdd, Nat.reducePow, Int.reducePow] at *
    constructor <;> omega
  all_goals
    simp only [Nat.reduceMul, Nat.reduceAdd, Nat.reducePow, Int.reducePow] at *
    constructor <;> omega
theorem acc_0 {n b : Nat} (hn : n < 2 ^ (7 * 0)) : IntKind.u64.wrap ((n : Int) + (b : Int) % 128) = ((n + b % 128 * 2 ^ (7 * 0) : Nat) : Int) := by
  rw [IntKind.wrap_u64]
  simp only [Nat.reduceMul, Nat.reducePow] at *
  omega
theorem acc_9 {n b : Nat} (hn : n < 2 ^ (7 * 9)) (hb : b = 1) : IntKind.u64.wrap ((n : Int) + 9223372036854775808) = ((n + b % 128 * 2 ^ (7 * 9) : Nat) : Int) := by
  subst hb
  rw [IntKind.wrap_u64]
  simp only [Nat.reduceMul, Nat.reducePow] at *
  omega
set_option maxRecDepth 20000 in
set_option maxHeartbeats 4000000 in
theorem Uint_ok {w : World} {g : Nat} {s : ByteArray} {a : Nat} {p : Int} (h : Rdr w g s a 0 p) (ha : a ≤ s.size) (hs : s.size ≤ 1000000000) :
    Calls Try.prog 106 #[.pointer (some ⟨g, 0, none⟩)] w fun x w' => Ends s w g p (uP 0 0 (left s a)) x w' (.int .u64 0) (fun n => .int .u64 n) := by
  have HH := Lib.hid h
  clear h
  go_enter Try.func106, Try.ntmps106
  go_wp2_with fail
  go_loopw [3, 4] (fun nv iv wr => ∃ (i c n : Nat), i ≤ 10 ∧ c ≤ s.size ∧ nv = .int .u64 n ∧ iv = .int .i64 i ∧ (i ≤ 9 → n < 2 ^ (7 * i)) ∧ Hid (uP i n (left s c) = uP 0 0 (left s a)) ∧ Rdr wr g s c 0 p ∧ Past g w wr) (fun _ iv _ => 11 - (intOf iv).toNat)
  case atStart => exact ⟨0, a, 0, by omega, ha, rfl, rfl, fun _ => by decide, Lib.hid rfl, HH.out, Past.refl _ _⟩
  case round =>
    obtain ⟨i, c, n, hi, hc, rfl, rfl, hn, hu, hr, hp⟩ := hrel
    by_cases hlt : c < s.size
    · have B := Byte_ok hr hlt (by omega)
      obtain ⟨b, hb0⟩ : ∃ b, s[c] = b := ⟨_, rfl⟩
      have hu' := hu.out
      rw [left_cons hlt, hb0] at hu'
      rw [hb0] at B
      have hb256 := b.toNat_lt
      by_cases hbad : 9 < i ∨ (i = 9 ∧ 1 < b.toNat) ∨ (0 < i ∧ b.toNat = 0)
      · rw [uP_bad hbad] at hu'
        have HU := Lib.hid hu'
        have HP := Lib.hid hp
        clear hu hu' hr hb0 hp hn
        by_cases i10 : i = 10
        · subst i10
          go_wp2_with (first | (go_at_call 78; refine B.mono ?_; rintro e w1 ⟨rfl, h1, hp1⟩; obtain ⟨d0, d1, d2, d3, df⟩ := h1.cells; have F := fail_0 h1 5) | (go_at_call 49; refine F.mono ?_; rintro e w2 ⟨rfl, h2, hp2⟩))
          go_ret
          refine ⟨(HP.out.trans hp1).trans hp2, ?_⟩
          rw [← HU.out]
          exact ⟨rfl, by decide, _, h2⟩
        · by_cases i9 : i = 9
          · subst i9
            by_cases b1 : 1 < b.toNat
            · have t1 : decide ((1 : Int) < (b.toNat : Int)) = true := by simp; omega
              go_wp2_with (first | (go_at_call 78; refine B.mono ?_; rintro e w1 ⟨rfl, h1, hp1⟩; obtain ⟨d0, d1, d2, d3, df⟩ := h1.cells; have F := fail_0 h1 5) | (go_at_call 49; refine F.mono ?_; rintro e w2 ⟨rfl, h2, hp2⟩))
              go_ret
              refine ⟨(HP.out.trans hp1).trans hp2, ?_⟩
              rw [← HU.out]
              exact ⟨rfl, by decide, _, h2⟩
            · have t1 : decide ((1 : Int) < (b.toNat : Int)) = false := by simp; omega
              have t0 : ((b.toNat : Int) == 0) = true := by simp; omega
              go_wp2_with (first | (go_at_call 78; refine B.mono ?_; rintro e w1 ⟨rfl, h1, hp1⟩; obtain ⟨d0, d1, d2, d3, df⟩ := h1.cells; have F := fail_0 h1 5) | (go_at_call 49; refine F.mono ?_; rintro e w2 ⟨rfl, h2, hp2⟩))
              go_ret
              refine ⟨(HP.out.trans hp1).trans hp2, ?_⟩
              rw [← HU.out]
              exact ⟨rfl, by decide, _, h2⟩
          · have t9 : decide ((9 : Int) < (i : Int)) = false := by simp; omega
            have t9' : ((i : Int) == 9) = false := by simp; omega
            have ti : decide ((0 : Int) < (i : Int)) = true := by simp; omega
            have t0 : ((b.toNat : Int) == 0) = true := by simp; omega
            go_wp2_with (first | (go_at_call 78; refine B.mono ?_; rintro e w1 ⟨rfl, h1, hp1⟩; obtain ⟨d0, d1, d2, d3, df⟩ := h1.cells; have F := fail_0 h1 5) | (go_at_call 49; refine F.mono ?_; rintro e w2 ⟨rfl, h2, hp2⟩))
            go_ret
            refine ⟨(HP.out.trans hp1).trans hp2, ?_⟩
            rw [← HU.out]
            exact ⟨rfl, by decide, _, h2⟩
      · have hE := acc_eq hn hbad hb256
        by_cases hl : b.toNat < 128
        · rw [uP_last hbad hl] at hu'
          have HU := Lib.hid hu'
          have HP := Lib.hid hp
          have HE := Lib.hid hE
          have HN := Lib.hid hn
          clear hu hu' hr hb0 hp hE hn
          by_cases i0 : i = 0
          · subst i0
            have H0 := Lib.hid (acc_0 (b := b.toNat) (HN.out (by omega)))
            have tl : decide ((b.toNat : Int) < 128) = true := by simp; omega
            go_wp2_with (go_at_call 78; refine B.mono ?_; rintro e w1 ⟨rfl, h1, hp1⟩; obtain ⟨d0, d1, d2, d3, df⟩ := h1.cells)
            go_ret
            refine ⟨HP.out.trans hp1, ?_⟩
            rw [← HU.out]
            exact ⟨congrArg (fun z => Ending.returned (Value.int .u64 z)) H0.out, _, hlt, rfl, h1⟩
          · by_cases i9 : i = 9
            · subst i9
              have hb1 : b.toNat = 1 := by omega
              have t1 : decide ((1 : Int) < (b.toNat : Int)) = false := by simp; omega
              have t0 : ((b.toNat : Int) == 0) = false := by simp; omega
              have H9 := Lib.hid (acc_9 (HN.out (by omega)) hb1)
              have tl : decide ((b.toNat : Int) < 128) = true := by simp; omega
              go_wp2_with (go_at_call 78; refine B.mono ?_; rintro e w1 ⟨rfl, h1, hp1⟩; obtain ⟨d0, d1, d2, d3, df⟩ := h1.cells)
              go_ret
              refine ⟨HP.out.trans hp1, ?_⟩
              rw [← HU.out]
              exact ⟨congrArg (fun z => Ending.returned (Value.int .u64 z)) H9.out, _, hlt, rfl, h1⟩
            · have t9 : decide ((9 : Int) < (i : Int)) = false := by simp; omega
              have t9' : ((i : Int) == 9) = false := by simp; omega
              have ti : decide ((0 : Int) < (i : Int)) = true := by simp; omega
              have t0 : ((b.toNat : Int) == 0) = false := by simp; omega
              have tl : decide ((b.toNat : Int) < 128) = true := by simp; omega
              go_wp2_with (go_at_call 78; refine B.mono ?_; rintro e w1 ⟨rfl, h1, hp1⟩; obtain ⟨d0, d1, d2, d3, df⟩ := h1.cells)
              go_ret
              refine ⟨HP.out.trans hp1, ?_⟩
              rw [← HU.out]
              exact ⟨congrArg (fun z => Ending.returned (Value.int .u64 z)) HE.out.1, _, hlt, rfl, h1⟩
        · rw [uP_more hbad hl] at hu'
          have HU := Lib.hid hu'
          have HP := Lib.hid hp
          have HE := Lib.hid hE
          have HN := Lib.hid hn
          clear hu hu' hr hb0 hp hE hn
          by_cases i0 : i = 0
          · subst i0
            have H0 := Lib.hid (acc_0 (b := b.toNat) (HN.out (by omega)))
            have tl : decide ((b.toNat : Int) < 128) = false := by simp; omega
            go_wp2_with (go_at_call 78; refine B.mono ?_; rintro e w1 ⟨rfl, h1, hp1⟩; obtain ⟨d0, d1, d2, d3, df⟩ := h1.cells)
            go_roundw
            case rel => exact ⟨1, c + 1, _, by omega, hlt, congrArg (Value.int .u64) H0.out, by go_num, HE.out.2, HU, h1, HP.out.trans hp1⟩
            case measure => simp [intOf] <;> omega
          · by_cases i9 : i = 9
            · subst i9
              have hb1 : b.toNat = 1 := by omega
              omega
            · have t9 : decide ((9 : Int) < (i : Int)) = false := by simp; omega
              have t9' : ((i : Int) == 9) = false := by simp; omega
              have ti : decide ((0 : Int) < (i : Int)) = true := by simp; omega
              have t0 : ((b.toNat : Int) == 0) = false := by simp; omega
              have tl : decide ((b.toNat : Int) < 128) = false := by simp; omega
              go_wp2_with (go_at_call 78; refine B.mono ?_; rintro e w1 ⟨rfl, h1, hp1⟩; obtain ⟨d0, d1, d2, d3, df⟩ := h1.cells)
              go_roundw
              case rel => exact ⟨i + 1, c + 1, _, by omega, hlt, congrArg (Value.int .u64) HE.out.1, by go_num, HE.out.2, HU, h1, HP.out.trans hp1⟩
              case measure => simp [intOf] <;> omega
    · have B := Byte_end hr (by omega)
      have hu' := hu.out
      rw [left_nil (by omega), uP_nil] at hu'
      have HU := Lib.hid hu'
      have HP := Lib.hid hp
      clear hu hu' hr hp
      go_wp2_with (go_at_call 78; refine B.mono ?_; rintro e w1 ⟨rfl, h1, hp1⟩; obtain ⟨d0, d1, d2, d3, df⟩ := h1.cells)
      go_ret
      refine ⟨HP.out.trans hp1, ?_⟩
      rw [← HU.out]
      exact ⟨rfl, by decide, _, h1⟩
end Go.Proofs.Ytdmbfajhcihfgaa

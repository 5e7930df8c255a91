/-
  What CodecOne calls: each reader at the beginning, and the writer behind it; the walk.
-/
import Derived.Test.YteclpehbpicpaaaM38
import Derived.Test.YteclpehbpicpaaaM04
namespace Go.Proofs.Yteclpehbpicpaaa.codecOne
open Go.RowKit

theorem left_0 : ((0 : Int).toNat) = 0 := rfl
theorem off_0 (s : ByteArray) : ¬ ((0 : Int) < 0 ∨ (s.size : Int) < 0) := by omega
def UErr (s : ByteArray) : Prop := ∃ c : Nat, c ≠ 0 ∧ ∀ W, Calls Try.prog 24 #[.string s, .int .i64 0] W fun e w' => e = .returned (.tuple #[.int .u64 0, .int .i64 0, .int .i64 c]) ∧ Below W.heap.size W w'
def UOk (s : ByteArray) : Prop := ∃ n nx : Nat, n < 18446744073709551616 ∧ nx ≤ s.size ∧ s.extract 0 nx = strL (uintL n) ∧ ∀ W, Calls Try.prog 24 #[.string s, .int .i64 0] W fun e w' => e = .returned (.tuple #[.int .u64 n, .int .i64 nx, .int .i64 0]) ∧ Below W.heap.size W w'
theorem partU {s : ByteArray} (hs : s.size ≤ 3000) : UErr s ∨ UOk s := by
  have F := fun W => ReadUint_f (s := s) (a := 0) (w := W) (by omega)
  unfold rdU at F
  rw [if_neg (off_0 s), left_0] at F
  cases hu : uP 0 0 (left s 0) with
  | error c => rw [hu] at F; exact .inl ⟨c, uP_ne _ _ _ _ hu, F⟩
  | ok z =>
    obtain ⟨n, l⟩ := z
    rw [hu] at F
    obtain ⟨e1, e2⟩ := ext_cat (U_one hu)
    exact .inr ⟨n, _, U_in hu, e2, e1, F⟩
def IErr (s : ByteArray) : Prop := ∃ c : Nat, c ≠ 0 ∧ ∀ W, Calls Try.prog 25 #[.string s, .int .i64 0] W fun e w' => e = .returned (.tuple #[.int .i64 0, .int .i64 0, .int .i64 c]) ∧ Below W.heap.size W w'
def IOk (s : ByteArray) : Prop := ∃ (n : Int) (nx : Nat), (-9223372036854775808 ≤ n ∧ n ≤ 9223372036854775807) ∧ nx ≤ s.size ∧ s.extract 0 nx = strL (uintL (zig n)) ∧ ∀ W, Calls Try.prog 25 #[.string s, .int .i64 0] W fun e w' => e = .returned (.tuple #[.int .i64 n, .int .i64 nx, .int .i64 0]) ∧ Below W.heap.size W w'
theorem partI {s : ByteArray} (hs : s.size ≤ 3000) : IErr s ∨ IOk s := by
  have F := fun W => ReadInt_f (s := s) (a := 0) (w := W) (by omega)
  unfold rdI at F
  rw [if_neg (off_0 s), left_0] at F
  cases hu : iP (left s 0) with
  | error c => rw [hu] at F; exact .inl ⟨c, iP_ne hu, F⟩
  | ok z =>
    obtain ⟨n, l⟩ := z
    rw [hu] at F
    obtain ⟨e0, e3⟩ := I_one hu
    obtain ⟨e1, e2⟩ := ext_cat e0
    exact .inr ⟨n, _, e3, e2, e1, F⟩
def VErr (s : ByteArray) : Prop := ∃ c : Nat, c ≠ 0 ∧ ∀ W, Calls Try.prog 31 #[.string s, .int .i64 0] W fun e w' => e = .returned (.tuple #[.agg zero6, .int .i64 0, .int .i64 c]) ∧ Below W.heap.size W w'
def VOk (s : ByteArray) : Prop := ∃ (x : ByteArray) (nx : Nat), nx ≤ s.size ∧ s.extract 0 nx = x ∧ ∀ W, Calls Try.prog 31 #[.string s, .int .i64 0] W fun e w' => ∃ (b0 b1 : Int) (b2 : Nat) (b3 : ByteArray) (b4 : Option Addr) (b5 b6 : Nat) (b7 : Option Addr) (b8 b9 : Nat), e = .returned (.tuple #[.agg #[.int .i64 b0, .int .i64 b1, .float .f64 b2, .string b3, .slice b4 b5 b6, .slice b7 b8 b9], .int .i64 nx, .int .i64 0]) ∧ Below W.heap.size W w' ∧
    Calls Try.prog 12 #[.agg #[.int .i64 b0, .int .i64 b1, .float .f64 b2, .string b3, .slice b4 b5 b6, .slice b7 b8 b9]] (w'.alloc (.cells #[.int .i64 b0, .int .i64 b1, .float .f64 b2, .string b3, .slice b4 b5 b6, .slice b7 b8 b9] 27)) fun e w2 => e = .returned (.tuple #[.string x, .int .i64 0]) ∧ Below W.heap.size W w2
theorem partV {s : ByteArray} (hs : s.size ≤ 3000) : VErr s ∨ VOk s := by
  cases hr : rdV s 0 with
  | error c =>
    refine .inl ⟨c, ?_, fun W => ReadValue_err hr (by omega)⟩
    unfold rdV at hr
    rw [if_neg (off_0 s)] at hr
    unfold rrV at hr
    cases hv : vP 12 0 (left s (0 : Int).toNat) with
    | error c' => rw [hv] at hr; cases hr; exact vP_ne _ _ _ _ hv
    | ok z =>
      rw [hv] at hr
      dsimp only at hr
      split at hr
      · cases hr
      · cases hr; decide
  | ok z =>
    obtain ⟨t, l⟩ := z
    have hr0 := hr
    unfold rdV at hr
    rw [if_neg (off_0 s)] at hr
    unfold rrV at hr
    cases hv : vP 12 0 (left s (0 : Int).toNat) with
    | error c' => rw [hv] at hr; cases hr
    | ok z =>
      obtain ⟨t', p', l'⟩ := z
      rw [hv] at hr
      dsimp only at hr
      split at hr
      · rename_i hok
        cases hr
        have h1 := v_one _ _ _ _ _ _ hv
        rw [left_0] at h1
        obtain ⟨e1, e2⟩ := ext_cat h1
        refine .inr ⟨valB t, _, e2, by rw [e1]; exact strL_self _, fun W => ?_⟩
        refine (ReadValue_ok (w := W) hr0 (by omega)).mono fun e w' hx => ?_
        obtain ⟨⟨v, rfl, hv⟩, hb⟩ := hx
        obtain ⟨b0, b1, b2, b3, b4, b5, b6, b7, b8, b9, rfl⟩ := hv.val.eight
        refine ⟨_, _, _, _, _, _, _, _, _, _, rfl, hb, ?_⟩
        have P := Value_f (hv.alloc (.cells #[.int .i64 b0, .int .i64 b1, .float .f64 b2, .string b3, .slice b4 b5 b6, .slice b7 b8 b9] 27)).val
        unfold wrV at P
        rw [if_pos hok] at P
        exact P.mono fun e w2 h => ⟨h.1, (hb.alloc hb.size _).trans (h.2.mono (Nat.le_trans hb.size (by simp)))⟩
      · cases hr
def TErr (s : ByteArray) : Prop := ∃ c : Nat, c ≠ 0 ∧ ∀ W, Calls Try.prog 33 #[.string s, .int .i64 0] W fun e w' => e = .returned (.tuple #[.agg zero3, .int .i64 0, .int .i64 c]) ∧ Below W.heap.size W w'
def TOk (s : ByteArray) : Prop := ∃ (x : ByteArray) (nx : Nat), nx ≤ s.size ∧ s.extract 0 nx = x ∧ ∀ W, Calls Try.prog 33 #[.string s, .int .i64 0] W fun e w' => ∃ (b0 : Int) (b1 : Option Addr) (b2 b3 : Nat) (b4 : Option Addr) (b5 b6 : Nat), e = .returned (.tuple #[.agg #[.int .i64 b0, .slice b1 b2 b3, .slice b4 b5 b6], .int .i64 nx, .int .i64 0]) ∧ Below W.heap.size W w' ∧
    Calls Try.prog 13 #[.agg #[.int .i64 b0, .slice b1 b2 b3, .slice b4 b5 b6]] (w'.alloc (.cells #[.int .i64 b0, .slice b1 b2 b3, .slice b4 b5 b6] 30)) fun e w2 => e = .returned (.tuple #[.string x, .int .i64 0]) ∧ Below W.heap.size W w2
theorem partT {s : ByteArray} (hs : s.size ≤ 3000) : TErr s ∨ TOk s := by
  cases hr : rdT s 0 with
  | error c =>
    refine .inl ⟨c, ?_, fun W => ReadType_err hr (by omega)⟩
    unfold rdT at hr
    rw [if_neg (off_0 s)] at hr
    unfold rrT at hr
    cases hv : tP 12 0 (left s (0 : Int).toNat) with
    | error c' => rw [hv] at hr; cases hr; exact tP_ne _ _ _ _ hv
    | ok z =>
      rw [hv] at hr
      dsimp only at hr
      split at hr
      · cases hr
      · cases hr; decide
  | ok z =>
    obtain ⟨t, l⟩ := z
    have hr0 := hr
    unfold rdT at hr
    rw [if_neg (off_0 s)] at hr
    unfold rrT at hr
    cases hv : tP 12 0 (left s (0 : Int).toNat) with
    | error c' => rw [hv] at hr; cases hr
    | ok z =>
      obtain ⟨t', p', l'⟩ := z
      rw [hv] at hr
      dsimp only at hr
      split at hr
      · rename_i hok
        cases hr
        have h1 := t_one _ _ _ _ _ _ hv
        rw [left_0] at h1
        obtain ⟨e1, e2⟩ := ext_cat h1
        refine .inr ⟨typeB t, _, e2, by rw [e1]; exact strL_self _, fun W => ?_⟩
        refine (ReadType_ok (w := W) hr0 (by omega)).mono fun e w' hx => ?_
        obtain ⟨⟨v, rfl, hv⟩, hb⟩ := hx
        obtain ⟨b0, b1, b2, b3, b4, b5, b6, rfl⟩ := hv.val.four
        refine ⟨_, _, _, _, _, _, _, rfl, hb, ?_⟩
        have P := Type_f (hv.alloc (.cells #[.int .i64 b0, .slice b1 b2 b3, .slice b4 b5 b6] 30)).val
        unfold twrV at P
        rw [if_pos hok] at P
        exact P.mono fun e w2 h => ⟨h.1, (hb.alloc hb.size _).trans (h.2.mono (Nat.le_trans hb.size (by simp)))⟩
      · cases hr
end Go.Proofs.Yteclpehbpicpaaa.codecOne

/-
  Contracts of the program's appendUint, Uint, appendInt, Int, Str: bytes behind those of a row of the call's own.
-/
import Derived.Test.YtdmbfajhcihfgaaCu
namespace Go.Proofs.Ytdmbfajhcihfgaa
open Go.RowKit

/-- All that lies below B, and all that is no row of bytes, is as it was. -/
structure Keeps (B : Nat) (w w' : World) : Prop where
  os : w'.os = w.os
  tape : w'.tape = w.tape
  output : w'.output = w.output
  size : w.heap.size ≤ w'.heap.size
  block : ∀ k, k < w.heap.size → (k < B ∨ ∀ cur, w.heap[k]? ≠ some (.cells cur 5 (0, 0))) → w'.heap[k]? = w.heap[k]?
theorem Keeps.refl (B : Nat) (w : World) : Keeps B w w := ⟨rfl, rfl, rfl, Nat.le_refl _, fun _ _ _ => rfl⟩
theorem Keeps.trans {B : Nat} {a b c : World} (h : Keeps B a b) (k : Keeps B b c) : Keeps B a c :=
  ⟨k.os.trans h.os, k.tape.trans h.tape, k.output.trans h.output, Nat.le_trans h.size k.size, fun i hi hc => by
    have e := h.block i hi hc
    have hs := h.size
    rw [← e]
    refine k.block i (by omega) ?_
    rcases hc with hc | hc
    · exact .inl hc
    · exact .inr fun cur => by rw [e]; exact hc cur⟩
theorem Keeps.of_below {B : Nat} {w w' : World} (h : Below w.heap.size w w') : Keeps B w w' := ⟨h.os, h.tape, h.output, h.size, fun k hk _ => h.block k hk⟩
theorem Keeps.alloc {B : Nat} {a w : World} (h : Keeps B a w) (o : Obj) : Keeps B a (w.alloc o) := h.trans (.of_below ((Below.refl _ _).alloc (Nat.le_refl _) o))
theorem Keeps.below {B : Nat} {w w' : World} (h : Keeps B w w') (hB : B ≤ w.heap.size) : Below B w w' := ⟨h.os, h.tape, h.output, h.size, fun k hk => h.block k (by omega) (.inl hk)⟩
/-- A row of bytes of the call's own. -/
def Row5 (w : World) (B : Nat) (v : Value) (L : List UInt8) : Prop := w.ownsRow B 5 1 v L.length (Lib.byteCells L)
theorem Row5.nil (w : World) (B : Nat) : Row5 w B (.slice none 0 0) [] := World.ownsRow_nil w B 5 1
theorem Keeps.grown {B : Nat} {w w' : World} {v : Value} {L : List UInt8} (h : Row5 w B v L) (hg : w.grownBy w' v.ownBlock) : Keeps B w w' :=
  ⟨hg.os, hg.tape, hg.output, hg.size, fun k hk hc => hg.block k hk fun e => by
    have hlt := (h.lt k e.symm).1
    rcases hc with hc | hc
    · omega
    · rcases h.2 with ⟨hv, _⟩ | ⟨g, cap, cur, hv, _, hh, _⟩
      · rw [hv] at e; simp [Value.ownBlock] at e
      · rw [hv] at e
        simp [Value.ownBlock] at e
        subst e
        exact hc cur hh⟩
theorem Row5.alloc {w : World} {B : Nat} {v : Value} {L : List UInt8} (h : Row5 w B v L) (o : Obj) : Row5 (w.alloc o) B v L := World.ownsRow.alloc h o
/-- What one append leaves. -/
theorem Row5.more {w' : World} {B : Nat} {v' : Value} {L M : List UInt8} {m : Nat} {xs : List Value} (h : w'.ownsRow B 5 1 v' (L.length + m) (Lib.byteCells L ++ xs)) (hx : xs = Lib.byteCells M) (hm : m = M.length) : Row5 w' B v' (L ++ M) := by
  unfold Row5
  rw [Lib.byteCells_append, ← hx, List.length_append, ← hm]
  exact h
theorem Row5.slice {w : World} {B : Nat} {v : Value} {L : List UInt8} (h : Row5 w B v L) : ∃ A cap, v = .slice A L.length cap := by
  rcases h.2 with ⟨h, h0⟩ | ⟨g, cap, _, h, _⟩
  · exact ⟨none, 0, by rw [h, h0]⟩
  · exact ⟨_, cap, h⟩
def AddsTo (w : World) (B : Nat) (L : List UInt8) (e : Ending) (w' : World) : Prop := ∃ v', e = .returned v' ∧ Row5 w' B v' L ∧ Keeps B w w'
set_option maxRecDepth 20000 in
set_option maxHeartbeats 2000000 in
theorem addUint_any {n : Nat} (hn : n < 18446744073709551616) {w : World} {B : Nat} {v : Value} {L0 : List UInt8} (hv : Row5 w B v L0) (hB : B ≤ w.heap.size) (hL0 : L0.length ≤ 1000000000) :
    Calls Try.prog 43 #[v, .int .u64 n] w (AddsTo w B (L0 ++ uintL n)) := by
  obtain ⟨i0, hi, hz0, hz1, hz2⟩ := info_parts info5
  have hn' := Lib.hid hn
  have HV := Lib.hid hv
  clear hn hv
  go_enter Try.func43, Try.ntmps43
  go_wp2_with fail
  go_loopw [0, 1] (fun v nv wr => ∃ (m : Nat) (A : Option Addr) (cap : Nat) (L : List UInt8), m ≤ n ∧ nv = .int .u64 m ∧ v = .slice A L.length cap ∧ Hid (L ++ uintL m = L0 ++ uintL n) ∧ Hid (Row5 wr B (.slice A L.length cap) L) ∧ Hid (Keeps B w wr)) (fun _ nv _ => (intOf nv).toNat)
  case atStart =>
    obtain ⟨A, cap, rfl⟩ := HV.out.slice
    exact ⟨n, A, cap, L0, Nat.le_refl _, rfl, rfl, Lib.hid rfl, HV, Lib.hid (Keeps.refl _ _)⟩
  case round =>
    obtain ⟨m, A, cap, L, hm, rfl, rfl, hL, hown, hk⟩ := hrel
    have hsz := hk.out.size
    have hlen : L.length + 1 ≤ L0.length + 10 := by
      have h1 := uintL_len10 hn'.out
      have h2 := congrArg List.length hL.out
      rw [List.length_append, List.length_append] at h2
      have := uintL_pos m
      omega
    have hmb : m < 18446744073709551616 := by have := hn'.out; omega
    by_cases h128 : m < 128
    · have hF : Hid (L ++ [UInt8.ofNat m] = L0 ++ uintL n) := Lib.hid (by rw [← hL.out, uintL_last h128])
      clear hL
      have hcell : Hid (([.int .u8 (m : Int)] : List Value) = Lib.byteCells [UInt8.ofNat m]) := Lib.hid (by
        simp [Lib.byteCells]; omega)
      have t1 : decide ((128 : Int) ≤ (m : Int)) = false := by simp; omega
      have HM := Lib.hid hmb
      clear hmb
      go_wp2_with (first | (at_builtin; refine wpList_append_own _ rfl (.tmp 16) (.tmp 19) 67 rfl B 5 i0 (.int .u8 0) 1 1 Try.underlying67 hi hz0 hz1 hz2 rfl (by decide) _ _ _ rfl (hown.out.alloc _) ⟨wr.heap.size, 0, none⟩ 1 1 [.int .u8 (m : Int)] rfl rfl (cell_one_new _ _ _) (fun x hx => by simp at hx; subst hx; rfl) (by unfold maxLen; omega) (by omega) (by simp; omega) ?_; intro v' w3 hown' hgrow3 hnil3; refine Hid.out ?_))
      refine Lib.hid ?_
      have HR : Hid (Row5 w3 B v' (L ++ [UInt8.ofNat m])) := Lib.hid (Row5.more hown' hcell.out rfl)
      have HK : Hid (Keeps B w w3) := Lib.hid ((hk.out.alloc _).trans (Keeps.grown (hown.out.alloc _) hgrow3))
      rw [hF.out] at HR
      obtain ⟨A', cap', rfl⟩ := HR.out.slice
      clear hown' hgrow3 hnil3 hown hk
      go_wp2_with fail
      go_ret
      exact ⟨_, rfl, HR.out, HK.out⟩
    · have hN : Hid ((L ++ [UInt8.ofNat (m % 128 + 128)]) ++ uintL (m / 128) = L0 ++ uintL n) := Lib.hid (by rw [← hL.out, uintL_more h128]; simp)
      have hcell : Hid (([.int .u8 ((m : Int) % 128 + 128)] : List Value) = Lib.byteCells [UInt8.ofNat (m % 128 + 128)]) := Lib.hid (by
        simp [Lib.byteCells]; omega)
      clear hL
      have D : IntKind.u64.wrap ((m : Int) / 128) = ((m / 128 : Nat) : Int) := by rw [IntKind.wrap_u64]; omega
      have HM := Lib.hid hmb
      clear hmb
      have t1 : decide ((128 : Int) ≤ (m : Int)) = true := by simp; omega
      clear h128
      go_wp2_with (first | (at_builtin; refine wpList_append_own _ rfl (.tmp 9) (.tmp 14) 67 rfl B 5 i0 (.int .u8 0) 1 1 Try.underlying67 hi hz0 hz1 hz2 rfl (by decide) _ _ _ rfl (hown.out.alloc _) ⟨wr.heap.size, 0, none⟩ 1 1 [.int .u8 ((m : Int) % 128 + 128)] rfl rfl (cell_one_new _ _ _) (fun x hx => by simp at hx; subst hx; rfl) (by unfold maxLen; omega) (by omega) (by simp; omega) ?_; intro v' w3 hown' hgrow3 hnil3; refine Hid.out ?_))
      refine Lib.hid ?_
      have HR : Hid (Row5 w3 B v' (L ++ [UInt8.ofNat (m % 128 + 128)])) := Lib.hid (Row5.more hown' hcell.out rfl)
      have HK : Hid (Keeps B w w3) := Lib.hid ((hk.out.alloc _).trans (Keeps.grown (hown.out.alloc _) hgrow3))
      obtain ⟨A', cap', rfl⟩ := HR.out.slice
      have hlt : Hid (m / 128 ≤ n ∧ m / 128 < m) := Lib.hid ⟨by omega, by have := t1; simp at this; omega⟩
      clear hown' hgrow3 hnil3 hown hk
      go_wp2_with fail
      go_roundw
      case rel => exact ⟨m / 128, A', cap', _, hlt.out.1, rfl, rfl, hN, HR, HK⟩
      case measure => have := hlt.out.2; simp [intOf]; omega
end Go.Proofs.Ytdmbfajhcihfgaa

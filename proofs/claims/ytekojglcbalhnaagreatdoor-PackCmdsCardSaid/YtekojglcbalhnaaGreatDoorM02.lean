/-
  Contracts of the program's appendUint, Uint, appendInt, Int, Str: bytes behind those of a row of the call's own.
  Contracts of the program's Uint, appendInt, Int, appendStr, Str.
  Bytes in a buffer of the call's own, whatever mark its block bears: '[]byte(s)', then grown by append.
  Contracts of basculeref04's Depth, Parts, Small.
-/
import Derived.Test.YtekojglcbalhnaaGreatDoorM01
import Derived.Lib.AppendStr
import Derived.ArgAppend
namespace Go.Proofs.YtekojglcbalhnaaGreatDoor
open Go.RowKit

/-- All that lies below B, and all that is no row of bytes, is as it was. -/
structure Keeps (B : Nat) (w w' : World) : Prop where
  os : w'.os = w.os
  tape : w'.tape = w.tape
  output : w'.output = w.output
  size : w.heap.size ≤ w'.heap.size
  block : ∀ k, k < w.heap.size → (k < B ∨ ∀ cur, w.heap[k]? ≠ some (.cells cur 5 (0, 0))) → w'.heap[k]? = w.heap[k]?
theorem Keeps.refl (B : Nat) (w : World) : Keeps B w w := ⟨rfl, rfl, rfl, Nat.le_refl _, fun _ _ _ => rfl⟩
theorem Keeps.trans {B : Nat} {a b c : World} (h : Keeps B a b) (k : Keeps B b c) : Keeps B a c :=
  ⟨k.os.trans h.os, k.tape.trans h.tape, k.output.trans h.output, Nat.le_trans h.size k.size, fun i hi hc => by
    have e := h.block i hi hc
    have hs := h.size
    rw [← e]
    refine k.block i (by omega) ?_
    rcases hc with hc | hc
    · exact .inl hc
    · exact .inr fun cur => by rw [e]; exact hc cur⟩
theorem Keeps.of_below {B : Nat} {w w' : World} (h : Below w.heap.size w w') : Keeps B w w' := ⟨h.os, h.tape, h.output, h.size, fun k hk _ => h.block k hk⟩
theorem Keeps.alloc {B : Nat} {a w : World} (h : Keeps B a w) (o : Obj) : Keeps B a (w.alloc o) := h.trans (.of_below ((Below.refl _ _).alloc (Nat.le_refl _) o))
theorem Keeps.below {B : Nat} {w w' : World} (h : Keeps B w w') (hB : B ≤ w.heap.size) : Below B w w' := ⟨h.os, h.tape, h.output, h.size, fun k hk => h.block k (by omega) (.inl hk)⟩
/-- A row of bytes of the call's own. -/
def Row5 (w : World) (B : Nat) (v : Value) (L : List UInt8) : Prop := w.ownsRow B 5 1 v L.length (Lib.byteCells L)
theorem Row5.nil (w : World) (B : Nat) : Row5 w B (.slice none 0 0) [] := World.ownsRow_nil w B 5 1
theorem Keeps.grown {B : Nat} {w w' : World} {v : Value} {L : List UInt8} (h : Row5 w B v L) (hg : w.grownBy w' v.ownBlock) : Keeps B w w' :=
  ⟨hg.os, hg.tape, hg.output, hg.size, fun k hk hc => hg.block k hk fun e => by
    have hlt := (h.lt k e.symm).1
    rcases hc with hc | hc
    · omega
    · rcases h.2 with ⟨hv, _⟩ | ⟨g, cap, cur, hv, _, hh, _⟩
      · rw [hv] at e; simp [Value.ownBlock] at e
      · rw [hv] at e
        simp [Value.ownBlock] at e
        subst e
        exact hc cur hh⟩
theorem Row5.alloc {w : World} {B : Nat} {v : Value} {L : List UInt8} (h : Row5 w B v L) (o : Obj) : Row5 (w.alloc o) B v L := World.ownsRow.alloc h o
/-- What one append leaves. -/
theorem Row5.more {w' : World} {B : Nat} {v' : Value} {L M : List UInt8} {m : Nat} {xs : List Value} (h : w'.ownsRow B 5 1 v' (L.length + m) (Lib.byteCells L ++ xs)) (hx : xs = Lib.byteCells M) (hm : m = M.length) : Row5 w' B v' (L ++ M) := by
  unfold Row5
  rw [Lib.byteCells_append, ← hx, List.length_append, ← hm]
  exact h
theorem Row5.slice {w : World} {B : Nat} {v : Value} {L : List UInt8} (h : Row5 w B v L) : ∃ A cap, v = .slice A L.length cap := by
  rcases h.2 with ⟨h, h0⟩ | ⟨g, cap, _, h, _⟩
  · exact ⟨none, 0, by rw [h, h0]⟩
  · exact ⟨_, cap, h⟩
def AddsTo (w : World) (B : Nat) (L : List UInt8) (e : Ending) (w' : World) : Prop := ∃ v', e = .returned v' ∧ Row5 w' B v' L ∧ Keeps B w w'
set_option maxRecDepth 20000 in
set_option maxHeartbeats 2000000 in
theorem addUint_any {n : Nat} (hn : n < 18446744073709551616) {w : World} {B : Nat} {v : Value} {L0 : List UInt8} (hv : Row5 w B v L0) (hB : B ≤ w.heap.size) (hL0 : L0.length ≤ 1000000000) :
    Calls Tryz.prog 102 #[v, .int .u64 n] w (AddsTo w B (L0 ++ uintL n)) := by
  obtain ⟨i0, hi, hz0, hz1, hz2⟩ := info_parts info5
  have hn' := Lib.hid hn
  have HV := Lib.hid hv
  clear hn hv
  go_enter Tryz.func102, Tryz.ntmps102
  go_wp2_with fail
  go_loopw [0, 1] (fun v nv wr => ∃ (m : Nat) (A : Option Addr) (cap : Nat) (L : List UInt8), m ≤ n ∧ nv = .int .u64 m ∧ v = .slice A L.length cap ∧ Hid (L ++ uintL m = L0 ++ uintL n) ∧ Hid (Row5 wr B (.slice A L.length cap) L) ∧ Hid (Keeps B w wr)) (fun _ nv _ => (intOf nv).toNat)
  case atStart =>
    obtain ⟨A, cap, rfl⟩ := HV.out.slice
    exact ⟨n, A, cap, L0, Nat.le_refl _, rfl, rfl, Lib.hid rfl, HV, Lib.hid (Keeps.refl _ _)⟩
  case round =>
    obtain ⟨m, A, cap, L, hm, rfl, rfl, hL, hown, hk⟩ := hrel
    have hsz := hk.out.size
    have hlen : L.length + 1 ≤ L0.length + 10 := by
      have h1 := uintL_len10 hn'.out
      have h2 := congrArg List.length hL.out
      rw [List.length_append, List.length_append] at h2
      have := uintL_pos m
      omega
    have hmb : m < 18446744073709551616 := by have := hn'.out; omega
    by_cases h128 : m < 128
    · have hF : Hid (L ++ [UInt8.ofNat m] = L0 ++ uintL n) := Lib.hid (by rw [← hL.out, uintL_last h128])
      clear hL
      have hcell : Hid (([.int .u8 (m : Int)] : List Value) = Lib.byteCells [UInt8.ofNat m]) := Lib.hid (by
        simp [Lib.byteCells]; omega)
      have t1 : decide ((128 : Int) ≤ (m : Int)) = false := by simp; omega
      have HM := Lib.hid hmb
      clear hmb
      go_wp2_with (first | (at_builtin; refine wpList_append_own _ rfl (.tmp 16) (.tmp 19) 103 rfl B 5 i0 (.int .u8 0) 1 1 Tryz.underlying103 hi hz0 hz1 hz2 rfl (by decide) _ _ _ rfl (hown.out.alloc _) ⟨wr.heap.size, 0, none⟩ 1 1 [.int .u8 (m : Int)] rfl rfl (cell_one_new _ _ _) (fun x hx => by simp at hx; subst hx; rfl) (by unfold maxLen; omega) (by omega) (by simp; omega) ?_; intro v' w3 hown' hgrow3 hnil3; refine Hid.out ?_))
      refine Lib.hid ?_
      have HR : Hid (Row5 w3 B v' (L ++ [UInt8.ofNat m])) := Lib.hid (Row5.more hown' hcell.out rfl)
      have HK : Hid (Keeps B w w3) := Lib.hid ((hk.out.alloc _).trans (Keeps.grown (hown.out.alloc _) hgrow3))
      rw [hF.out] at HR
      obtain ⟨A', cap', rfl⟩ := HR.out.slice
      clear hown' hgrow3 hnil3 hown hk
      go_wp2_with fail
      go_ret
      exact ⟨_, rfl, HR.out, HK.out⟩
    · have hN : Hid ((L ++ [UInt8.ofNat (m % 128 + 128)]) ++ uintL (m / 128) = L0 ++ uintL n) := Lib.hid (by rw [← hL.out, uintL_more h128]; simp)
      have hcell : Hid (([.int .u8 ((m : Int) % 128 + 128)] : List Value) = Lib.byteCells [UInt8.ofNat (m % 128 + 128)]) := Lib.hid (by
        simp [Lib.byteCells]; omega)
      clear hL
      have D : IntKind.u64.wrap ((m : Int) / 128) = ((m / 128 : Nat) : Int) := by rw [IntKind.wrap_u64]; omega
      have HM := Lib.hid hmb
      clear hmb
      have t1 : decide ((128 : Int) ≤ (m : Int)) = true := by simp; omega
      clear h128
      go_wp2_with (first | (at_builtin; refine wpList_append_own _ rfl (.tmp 9) (.tmp 14) 103 rfl B 5 i0 (.int .u8 0) 1 1 Tryz.underlying103 hi hz0 hz1 hz2 rfl (by decide) _ _ _ rfl (hown.out.alloc _) ⟨wr.heap.size, 0, none⟩ 1 1 [.int .u8 ((m : Int) % 128 + 128)] rfl rfl (cell_one_new _ _ _) (fun x hx => by simp at hx; subst hx; rfl) (by unfold maxLen; omega) (by omega) (by simp; omega) ?_; intro v' w3 hown' hgrow3 hnil3; refine Hid.out ?_))
      refine Lib.hid ?_
      have HR : Hid (Row5 w3 B v' (L ++ [UInt8.ofNat (m % 128 + 128)])) := Lib.hid (Row5.more hown' hcell.out rfl)
      have HK : Hid (Keeps B w w3) := Lib.hid ((hk.out.alloc _).trans (Keeps.grown (hown.out.alloc _) hgrow3))
      obtain ⟨A', cap', rfl⟩ := HR.out.slice
      have hlt : Hid (m / 128 ≤ n ∧ m / 128 < m) := Lib.hid ⟨by omega, by have := t1; simp at this; omega⟩
      clear hown' hgrow3 hnil3 hown hk
      go_wp2_with fail
      go_roundw
      case rel => exact ⟨m / 128, A', cap', _, hlt.out.1, rfl, rfl, hN, HR, HK⟩
      case measure => have := hlt.out.2; simp [intOf]; omega
end Go.Proofs.YtekojglcbalhnaaGreatDoor
namespace Go.Proofs.YtekojglcbalhnaaGreatDoor
open Go.RowKit

theorem conv_row {w : World} {B : Nat} {v : Value} {L : List UInt8} (h : Row5 w B v L) (h0 : 0 < L.length) : (convert 103 9 v).run Tryz.prog w = .ok (.string (strL L)) w := by
  rcases h.2 with ⟨_, h1⟩ | ⟨g, cap, cur, hv, _⟩
  · omega
  · subst hv
    exact run_convert_bytes_back (P := Tryz.prog) w 103 9 5 ⟨g, 0, none⟩ cap L Tryz.underlying103 Tryz.underlying5 Tryz.underlying9 (fun j hj => World.ownsRow.cells h (g := g) rfl j _ (by simp [Lib.byteCells, hj]))
theorem Uint_f {n : Nat} (hn : n < 18446744073709551616) (w : World) : Calls Tryz.prog 70 #[.int .u64 n] w fun e w' => e = .returned (.string (strL (uintL n))) ∧ Below w.heap.size w w' := by
  have A := addUint_any hn (w := w) (Row5.nil w w.heap.size) (Nat.le_refl _) (by simp)
  rw [List.nil_append] at A
  have hp := uintL_pos n
  generalize uintL n = L at *
  go_enter Tryz.func70, Tryz.ntmps70
  go_wp2_with (go_at_call 102; refine A.mono ?_; rintro e w1 ⟨v', rfl, hr, hk⟩; have hcv := conv_row hr hp; have HR := Lib.hid hr; clear hr)
  go_ret
  exact ⟨rfl, hk.below (Nat.le_refl _)⟩
set_option maxRecDepth 20000 in
theorem addInt_any {n : Int} (h : -9223372036854775808 ≤ n ∧ n ≤ 9223372036854775807) {w : World} {B : Nat} {v : Value} {L0 : List UInt8} (hv : Row5 w B v L0) (hB : B ≤ w.heap.size) (hL0 : L0.length ≤ 1000000000) :
    Calls Tryz.prog 159 #[v, .int .i64 n] w (AddsTo w B (L0 ++ uintL (zig n))) := by
  have U := addUint_any (zig_lt h) hv hB hL0
  obtain ⟨A, cap, rfl⟩ := hv.slice
  by_cases h0 : n < 0
  · have hz : ((zig n : Nat) : Int) = (-(n + 1)) * 2 + 1 := by unfold zig; rw [if_pos h0]; omega
    rw [hz] at U
    generalize uintL (zig n) = M at *
    have E0 : IntKind.i64.wrap (n + 1) = n + 1 := by rw [IntKind.wrap_i64]; omega
    have E00 : IntKind.i64.wrap (-(n + 1)) = -(n + 1) := by rw [IntKind.wrap_i64]; omega
    have E1 : IntKind.u64.wrap (-(n + 1)) = -(n + 1) := by rw [IntKind.wrap_u64]; omega
    have E2 : IntKind.u64.wrap (-(n + 1) * 2) = -(n + 1) * 2 := by rw [IntKind.wrap_u64]; omega
    have E3 : IntKind.u64.wrap (-(n + 1) * 2 + 1) = -(n + 1) * 2 + 1 := by rw [IntKind.wrap_u64]; omega
    clear hz hv
    go_enter Tryz.func159, Tryz.ntmps159
    go_wp2_with (go_at_call 102; refine U.mono ?_; rintro e w1 ⟨v', rfl, hr, hk⟩; have HR := Lib.hid hr; clear hr)
    go_ret
    exact ⟨_, rfl, HR.out, hk⟩
  · have hz : ((zig n : Nat) : Int) = n * 2 := by unfold zig; rw [if_neg h0]; omega
    rw [hz] at U
    generalize uintL (zig n) = M at *
    have E1 : IntKind.u64.wrap n = n := by rw [IntKind.wrap_u64]; omega
    have E2 : IntKind.u64.wrap (n * 2) = n * 2 := by rw [IntKind.wrap_u64]; omega
    clear hz hv
    go_enter Tryz.func159, Tryz.ntmps159
    go_wp2_with (go_at_call 102; refine U.mono ?_; rintro e w1 ⟨v', rfl, hr, hk⟩; have HR := Lib.hid hr; clear hr)
    go_ret
    exact ⟨_, rfl, HR.out, hk⟩
theorem Str_f {t : ByteArray} (h : t.size ≤ 1000000000) (w : World) : Calls Tryz.prog 148 #[.string t] w fun e w' => e = .returned (.string (strB t)) ∧ Below w.heap.size w w' := by
  have U := Uint_f (n := t.size) (by omega)
  have hl := uintL_len10 (n := t.size) (by omega)
  have hz : ¬ 9223372036854775807 < (strL (uintL t.size)).size + t.size := by
    have : (strL (uintL t.size)).size = (uintL t.size).length := rfl
    omega
  unfold strB
  generalize strL (uintL t.size) = x at *
  clear hl
  go_enter Tryz.func148, Tryz.ntmps148
  go_wp2_with (go_at_call 70; refine (U _).mono ?_; rintro e w1 ⟨rfl, hb1⟩)
  go_ret
  exact ⟨rfl, hb1⟩
/-- A string's bytes, behind how many they are. -/
def strBL (t : ByteArray) : List UInt8 := uintL t.size ++ t.data.toList
theorem strBL_eq (t : ByteArray) : strL (strBL t) = strB t := by
  unfold strBL strB
  rw [← strL_append]
  rfl
set_option maxHeartbeats 1000000 in
theorem addStr_any {t : ByteArray} (h : t.size ≤ 1000000000) {w : World} {B : Nat} {v : Value} {L0 : List UInt8} (hv : Row5 w B v L0) (hB : B ≤ w.heap.size) (hL0 : L0.length ≤ 1000000000) :
    Calls Tryz.prog 161 #[v, .string t] w (AddsTo w B (L0 ++ strBL t)) := by
  have U := addUint_any (n := t.size) (by omega) hv hB hL0
  have hl := uintL_len10 (n := t.size) (by omega)
  have hU : Hid ((L0 ++ uintL t.size) ++ t.data.toList = L0 ++ strBL t) := Lib.hid (by unfold strBL; simp)
  have hsz : (L0 ++ uintL t.size).length + t.size ≤ 3000000000 := by rw [List.length_append]; omega
  have ht : Hid (t.size = t.data.toList.length) := Lib.hid (by rw [Array.length_toList]; rfl)
  obtain ⟨M, hM⟩ : ∃ M, M = L0 ++ uintL t.size := ⟨_, rfl⟩
  rw [← hM] at U hU hsz
  obtain ⟨i0, hi, hz0, hz1, hz2⟩ := info_parts info5
  have HV := Lib.hid hv
  clear hM hl hv
  go_enter Tryz.func161, Tryz.ntmps161
  go_wp2_with (first | (go_at_call 102; refine U.mono ?_; rintro e w1 ⟨v1, rfl, hr, hk⟩; have HR := Lib.hid hr; have HK := Lib.hid hk; have hB1 : B ≤ w1.heap.size := Nat.le_trans hB hk.size; clear hr hk) | (at_builtin; refine Lib.wpList_append_own_string _ rfl (.tmp 9) (.tmp 10) 103 9 rfl B 5 i0 Tryz.underlying103 Tryz.underlying9 hi hz0 hz1 hz2 _ _ _ rfl HR.out t rfl (by unfold maxLen; omega) (by omega) hB1 ?_; intro v' w3 hown' hgrow3 hnil3; refine Hid.out ?_))
  refine Lib.hid ?_
  have H2 : Hid (Row5 w3 B v' (M ++ t.data.toList)) := Lib.hid (Row5.more hown' rfl ht.out)
  have HK2 : Hid (Keeps B w w3) := Lib.hid (HK.out.trans (Keeps.grown HR.out hgrow3))
  rw [hU.out] at H2
  clear hown' hgrow3 hnil3
  go_wp2_with fail
  go_ret
  exact ⟨_, rfl, H2.out, HK2.out⟩
end Go.Proofs.YtekojglcbalhnaaGreatDoor
namespace Go.Proofs.YtekojglcbalhnaaGreatDoor
open Go.RowKit

/-- A slice of the call's own that holds these bytes, with room behind that may be written. -/
def Buf (w : World) (base : Nat) (v : Value) (L : List UInt8) : Prop :=
  ∃ g cap, v = .slice (some ⟨g, 0, none⟩) L.length cap ∧ base ≤ g ∧ g < w.heap.size ∧ (∀ j u, (Lib.byteCells L)[j]? = some u → w.cell? ⟨g, j, none⟩ = some u) ∧
    ∀ j, L.length ≤ j → j < cap → (w.cell? ⟨g, j, none⟩).isSome = true ∧ w.frozen? ⟨g, j, none⟩ = false
theorem Buf.of_owns {w : World} {base : Nat} {v : Value} {L : List UInt8} (h : w.ownsRow base 5 1 v L.length (Lib.byteCells L)) (hL : 0 < L.length) : Buf w base v L := by
  rcases h.2 with ⟨_, h0⟩ | ⟨g, cap, cur, hv, hg, hh, hn, hm, hc, ht⟩
  · omega
  · subst hv
    have hlt := (h.lt g rfl).2
    refine ⟨g, cap, rfl, hg, hlt, fun j u hj => ?_, fun j h1 h2 => ⟨?_, h.frozenAt j⟩⟩
    · have := h.cells (g := g) rfl j u hj
      rw [Addr.add_lit] at this
      simpa using this
    · have : j < cur.size := by omega
      simp [World.cell?, hh, this]
theorem Buf.keep {w w' : World} {base lim : Nat} {v : Value} {L : List UInt8} (h : Buf w base v L) (hb : Below lim w w') (hl : ∀ g cap, v = .slice (some ⟨g, 0, none⟩) L.length cap → g < lim) : Buf w' base v L := by
  obtain ⟨g, cap, rfl, hg, hlt, hc, hf⟩ := h
  have hgl := hl g cap rfl
  have := hb.size
  exact ⟨g, cap, rfl, hg, by omega, fun j u hj => (hb.cell (p := ⟨g, j, none⟩) hgl).trans (hc j u hj), fun j h1 h2 => by
    rw [hb.cell (p := ⟨g, j, none⟩) hgl, hb.frozen (p := ⟨g, j, none⟩) hgl]; exact hf j h1 h2⟩
theorem Buf.alloc {w : World} {base : Nat} {v : Value} {L : List UInt8} (h : Buf w base v L) (x : Obj) : Buf (w.alloc x) base v L := by
  obtain ⟨g, cap, e, hg, hlt, hc, hf⟩ := h
  exact Buf.keep ⟨g, cap, e, hg, hlt, hc, hf⟩ ((Below.refl w.heap.size w).alloc (Nat.le_refl _) x) (fun g' cap' e' => by rw [e] at e'; simp at e'; omega)
/-- One byte more. -/
theorem wpList_push {w : World} {base : Nat} {ops : Array Oper} {rest : List Oper} {o : Oper} {a : Act} {Q : Exit → Act → World → Prop}
    (hg : o.guard = none) (s x : Operand) (hop : o.op = Op.call { callee := Callee.builtin Builtin.append, args := #[s, x], argTypes := #[103, 103] })
    (v : Value) (L : List UInt8) (b : UInt8) (hs : a.eval s = v) (hbuf : Buf w base v L) (hbase : base ≤ w.heap.size) (hL : L.length ≤ 1000000000)
    (ad : Addr) (hx : a.eval x = .slice (some ad) 1 1) (hc : w.cell? ad = some (.int .u8 b.toNat))
    (hK : ∀ v' w', Buf w' base v' (L ++ [b]) → Below base w w' → wpList Tryz.prog ops Q rest (a.put o.dst v') w') :
    wpList Tryz.prog ops Q (o :: rest) a w := by
  obtain ⟨i0, hi, hz0, hz1, hz2⟩ := info_parts info5
  obtain ⟨g, cap, rfl, hgb, hlt, hcell, hfree⟩ := hbuf
  refine wpList_append_arg w hg s x 103 hop 5 i0 (.int .u8 0) 1 1 Tryz.underlying103 hi hz0 hz1 hz2 rfl (by decide) g 0 L.length cap (Lib.byteCells L) hs (by simp [Lib.byteCells]) (fun j u hj => by simpa using hcell j u hj)
    ad 1 1 [.int .u8 b.toNat] hx rfl (fun j u hj => by
      have : j = 0 := by
        have := (List.getElem?_eq_some_iff.1 hj).1
        simpa using this
      subst this
      simp at hj
      rw [← hj, ← hc]
      congr 1) (fun u hu => by simp at hu; subst hu; rfl) (fun hr j hj => ?_) (by unfold maxLen; omega) (by omega) (fun hr => ?_) (fun hr v' w' hown hgrow => ?_)
  · have := hfree (L.length + j) (by omega) (by simp at hj; omega)
    simpa using this
  · have e0 : w.setCells g (0 + L.length * 1) [.int .u8 b.toNat] = w.setCell ⟨g, L.length, none⟩ (.int .u8 b.toNat) := by
      simp [World.setCells]
    rw [e0]
    refine hK _ _ ⟨g, cap, by simp, hgb, by simpa [World.setCell] using hlt, fun j u hj => ?_, fun j h1 h2 => ?_⟩ ((Below.refl _ _).setCell hgb _)
    · by_cases e : j = L.length
      · subst e
        obtain ⟨old, ho⟩ := Option.isSome_iff_exists.1 (hfree L.length (Nat.le_refl _) (by omega)).1
        rw [World.cell?_setCell_same _ _ _ ho]
        simpa [Lib.byteCells] using hj
      · have hjl : j < L.length := by
          have := (List.getElem?_eq_some_iff.1 hj).1
          simp [Lib.byteCells] at this
          omega
        rw [World.cell?_setCell_other _ _ _ _ (by intro h; injection h; omega)]
        refine hcell j u ?_
        rw [← hj]
        simp only [Lib.byteCells, List.map_append]
        rw [List.getElem?_append_left (by simpa using hjl)]
    · have hjl : L.length < j := by simp at h1; omega
      rw [World.cell?_setCell_other _ _ _ _ (by intro h; injection h; omega), World.frozen?_setCell]
      exact hfree j (by omega) h2
  · have hown' : w'.ownsRow w.heap.size 5 1 v' (L ++ [b]).length (Lib.byteCells (L ++ [b])) := by
      simpa [Lib.byteCells] using hown
    obtain ⟨g', cap', e1, e2, e3⟩ := Buf.of_owns hown' (by simp)
    exact hK _ _ ⟨g', cap', e1, by omega, e3⟩ (((Below.refl base w).grown hgrow hbase (fun k h => by cases h)))
/-- '[]byte(s)'. -/
theorem conv_buf (s : ByteArray) (w : World) : ∃ v w', (convert 9 103 (.string s)).run Tryz.prog w = .ok v w' ∧ Buf w' w.heap.size v s.data.toList ∧ Below w.heap.size w w' := by
  have h := run_bytes_of_string (P := Tryz.prog) w 9 103 5 s Tryz.underlying9 Tryz.underlying103 Tryz.underlying5
  have hb : Below w.heap.size w (w.drew.alloc (.cells (bytesRow s (grownCap w s.size 0 5)) 5 ((bytesRow s (grownCap w s.size 0 5)).size, (bytesRow s (grownCap w s.size 0 5)).size + 1))) := (Below.refl _ _).drew.alloc (Nat.le_refl _) _
  have hge := grownCap_ge w s.size 0 5
  have hsz : (bytesRow s (grownCap w s.size 0 5)).size = grownCap w s.size 0 5 := by
    unfold bytesRow; simp; omega
  refine ⟨_, _, h, ⟨w.heap.size, grownCap w s.size 0 5, ?_, Nat.le_refl _, ?_, fun j u hj => ?_, fun j h1 h2 => ?_⟩, hb⟩
  · simp
  · simp
  · have := World.cell?_alloc_mark w.drew (bytesRow s (grownCap w s.size 0 5)) 5 ((bytesRow s (grownCap w s.size 0 5)).size, (bytesRow s (grownCap w s.size 0 5)).size + 1) j
    refine this.trans ?_
    rw [← hj]
    have hjl : j < s.data.size := by
      have := (List.getElem?_eq_some_iff.1 hj).1
      simpa [Lib.byteCells] using this
    unfold bytesRow
    rw [Array.getElem?_append_left (by simpa using hjl)]
    simp [Lib.byteCells]
  · have := World.cell?_alloc_mark w.drew (bytesRow s (grownCap w s.size 0 5)) 5 ((bytesRow s (grownCap w s.size 0 5)).size, (bytesRow s (grownCap w s.size 0 5)).size + 1) j
    constructor
    · refine (congrArg Option.isSome this).trans ?_
      rw [Array.getElem?_eq_getElem (by omega)]; rfl
    · have f := World.frozen?_alloc_mark w.drew (bytesRow s (grownCap w s.size 0 5)) 5 (bytesRow s (grownCap w s.size 0 5)).size ((bytesRow s (grownCap w s.size 0 5)).size + 1) j
      refine f.trans ?_
      rw [decide_eq_false (by omega), Bool.false_and]
end Go.Proofs.YtekojglcbalhnaaGreatDoor
namespace Go.Proofs.YtekojglcbalhnaaGreatDoor
open Go.RowKit

def maxGo (g : Nat → Int) : Nat → Nat → Int → Int
  | 0, _, n => n
  | r + 1, i, n => maxGo g r (i + 1) (max n (g i))
theorem maxGo_in (g : Nat → Int) {b : Int} (hg : ∀ i, 1 ≤ g i ∧ g i ≤ b) : ∀ r i n, 0 ≤ n → n ≤ b → 0 ≤ maxGo g r i n ∧ maxGo g r i n ≤ b := by
  intro r
  induction r with
  | zero => intro i n h1 h2; exact ⟨h1, h2⟩
  | succ r ih =>
    intro i n h1 h2
    unfold maxGo
    have := hg i
    exact ih _ _ (by omega) (by omega)
def depV : VT → Int → Int
  | .bad, _ => 1
  | .mk _ _ _ _ _ _ m xs, far => (if 0 < far then maxGo (fun i => depV (xs i) (far - 1)) m 0 0 else 0) + 1
theorem depV_in : ∀ (t : VT) (far : Int), 1 ≤ depV t far ∧ depV t far ≤ max far 0 + 1 := by
  intro t
  induction t with
  | bad => intro far; unfold depV; omega
  | mk k n f s c ns m xs ih =>
    intro far
    unfold depV
    by_cases h : 0 < far
    · rw [if_pos h]
      have := maxGo_in (fun i => depV (xs i) (far - 1)) (b := far) (fun i => by have := ih i (far - 1); omega) m 0 0 (by omega) (by omega)
      omega
    · rw [if_neg h]; omega

set_option maxHeartbeats 1000000 in
theorem depth_any : ∀ (t : VT) (v : Array Value) (far : Int) (w : World), Val w w.heap.size v t → 0 ≤ far → far ≤ 1000 →
    Calls Tryz.prog 33 #[.agg v, .int .i64 far] w fun e w' => e = .returned (.int .i64 (depV t far)) ∧ Below w.heap.size w w' := by
  intro t
  induction t with
  | bad => intro v far w hv; cases hv
  | mk k n0 f s c ns m xs ih =>
    intro v far w hv h0 h5
    cases hv with
    | mk _ _ _ _ A _ ca B _ cb _ _ vs hk hn hf hs hc hm hns hB hxs =>
      have hmx : m ≤ 9223372036854775807 := by have := hm; unfold maxLen at this; omega
      have hall := depV_in (.mk k n0 f s c ns m xs) far
      have hitem := fun i => depV_in (xs i) (far - 1)
      unfold fields
      go_enter Tryz.func33, Tryz.ntmps33
      go_wp2_with fail
      obtain ⟨W1, hW1⟩ : ∃ W1, W1 = w.alloc (.cells #[.int .i64 k, .int .i64 n0, .float .f64 f, .string s, .slice A c ca, .slice B m cb] 28) := ⟨_, rfl⟩
      have hbW : Below w.heap.size w W1 := by rw [hW1]; exact (Below.refl _ _).alloc (Nat.le_refl _) _
      have hsz : W1.heap.size = w.heap.size + 1 := by rw [hW1]; simp
      have h5c : W1.cell? ⟨w.heap.size, 5, none⟩ = some (.slice B m cb) := by rw [hW1, World.cell?_alloc_new]; rfl
      rw [← hW1]
      have HW := Lib.hid (And.intro hW1 hsz)
      have H5 := Lib.hid h5c
      have HI := Lib.hid hitem
      have HA := Lib.hid hall
      clear hW1 hsz h5c hitem hall
      go_loopw [5, 6] (fun nv iv wr => ∃ (i : Nat) (q : Int), i ≤ m ∧ iv = .int .i64 i ∧ nv = .int .i64 q ∧ 0 ≤ q ∧ q ≤ 1000 ∧ Hid (depV (.mk k n0 f s c ns m xs) far = (if 0 < far then maxGo (fun i => depV (xs i) (far - 1)) (m - i) i q else q) + 1) ∧ Below W1.heap.size W1 wr) (fun _ iv _ => m - (intOf iv).toNat)
      case atStart => exact ⟨0, 0, Nat.zero_le _, rfl, rfl, by omega, by omega, Lib.hid rfl, Below.refl _ _⟩
      case round =>
        obtain ⟨i, q, hi, rfl, rfl, hq0, hq5, hh, hb⟩ := hrel
        have h5r : wr.cell? ⟨w.heap.size, 5, none⟩ = some (.slice B m cb) := (hb.cell (p := ⟨w.heap.size, 5, none⟩) (by have := HW.out.2; simp; omega)).trans H5.out
        by_cases hlt : i < m
        · by_cases hq : 0 < far
          · obtain ⟨g, o, rfl, hg, hx⟩ := hB (by omega)
            have hsix := hx i hlt
            have hvi := hxs i hlt
            generalize vs i = vi at *
            have hsixr : SixAt wr g (o + i * 6) vi := hsix.keep fun o => (hb.cell (p := ⟨g, o, none⟩) (show g < W1.heap.size by have := HW.out.2; omega)).trans (hbW.cell (p := ⟨g, o, none⟩) hg)
            have hvr : Val wr wr.heap.size vi (xs i) := ((hvi.stay hbW).mono (by have := HW.out.2; omega)).stay hb |>.mono hb.size
            obtain ⟨a0, a1, a2, a3, a4, a5, rfl⟩ := hvi.six
            obtain ⟨c0, c1, c2, c3, c4, c5⟩ := hsixr.cells
            have hcall := ih i _ (far - 1) wr hvr (by omega) (by omega)
            have hin := HI.out i
            have hh' : Hid (depV (.mk k n0 f s c ns m xs) far = (if 0 < far then maxGo (fun i => depV (xs i) (far - 1)) (m - (i + 1)) (i + 1) (max q (depV (xs i) (far - 1))) else max q (depV (xs i) (far - 1))) + 1) := Lib.hid (by
              rw [hh.out, if_pos hq, if_pos hq, show m - i = (m - (i + 1)) + 1 by omega]
              rfl)
            generalize depV (xs i) (far - 1) = z at *
            have hz : z ≤ 1000 := by omega
            clear hB hx hsix hsixr hvi hvr ih hxs hns hh
            go_wp2_with (go_at_call 33; refine hcall.mono ?_; rintro e w' ⟨rfl, hb'⟩)
            go_roundw
            case rel => exact ⟨i + 1, max q z, by omega, by go_num, by rw [show max q z = if q < z then z else q by split <;> omega], by omega, by omega, hh', hb.trans (hb'.mono hb.size)⟩
            case measure => simp [intOf]; omega
          · have R : Hid (depV (.mk k n0 f s c ns m xs) far = q + 1) := Lib.hid (by rw [hh.out, if_neg hq])
            have hfin : Below w.heap.size w wr := hbW.trans (hb.mono (by have := HW.out.2; omega))
            clear hh hns hB hxs ih
            go_wp2_with fail
            go_ret
            exact ⟨by rw [R.out]; rfl, hfin⟩
        · have R : Hid (depV (.mk k n0 f s c ns m xs) far = q + 1) := Lib.hid (by
            rw [hh.out, show m - i = 0 by omega]
            split <;> rfl)
          have hfin : Below w.heap.size w wr := hbW.trans (hb.mono (by have := HW.out.2; omega))
          clear hh hns hB hxs ih
          go_wp2_with fail
          go_ret
          exact ⟨by rw [R.out]; rfl, hfin⟩

/-- A value boxed anew is loaded as it was. -/
theorem vparts_any {t : VT} {v : Array Value} {w : World} (hv : Val w w.heap.size v t) : Calls Tryz.prog 34 #[.agg v] w fun e w' => e = .returned (.int .i64 (cntV t 0)) ∧ Below w.heap.size w w' := by
  have hbW : Below w.heap.size w (w.alloc (.cells v 28)) := (Below.refl _ _).alloc (Nat.le_refl _) _
  have C := count_any t v 0 (w.alloc (.cells v 28)) ((hv.stay hbW).mono hbW.size) (by omega) (by omega)
  obtain ⟨a0, a1, a2, a3, a4, a5, rfl⟩ := hv.six
  clear hv
  go_enter Tryz.func34, Tryz.ntmps34
  go_wp2_with (go_at_call 68; refine C.mono ?_; rintro e w' ⟨rfl, hb'⟩)
  go_ret
  exact ⟨rfl, hbW.trans (hb'.mono hbW.size)⟩
def smallV (t : VT) : Bool := decide (depV t 40 ≤ 30) && decide (cntV t 0 < 500)
theorem small_any {t : VT} {v : Array Value} {w : World} (hv : Val w w.heap.size v t) : Calls Tryz.prog 14 #[.agg v] w fun e w' => e = .returned (.bool (smallV t)) ∧ Below w.heap.size w w' := by
  have hbW : Below w.heap.size w (w.alloc (.cells v 28)) := (Below.refl _ _).alloc (Nat.le_refl _) _
  have hvW := (hv.stay hbW).mono hbW.size
  have D := depth_any t v 40 (w.alloc (.cells v 28)) hvW (by omega) (by omega)
  have P := fun w' (hb : Below (w.alloc (.cells v 28)).heap.size (w.alloc (.cells v 28)) w') => vparts_any ((hvW.stay hb).mono hb.size)
  have K := fun w' (hb : Below (w.alloc (.cells v 28)).heap.size (w.alloc (.cells v 28)) w') o => hb.cell (p := ⟨w.heap.size, o, none⟩) (by simp)
  obtain ⟨a0, a1, a2, a3, a4, a5, rfl⟩ := hv.six
  unfold smallV
  have h1 := depV_in t 40
  have h2 := cntV_in t 0 (by omega) (by omega)
  generalize depV t 40 = d at *
  generalize cntV t 0 = p at *
  clear hv hvW
  have hK : ∀ w', Below (w.alloc (.cells #[a0, a1, a2, a3, a4, a5] 28)).heap.size (w.alloc (.cells #[a0, a1, a2, a3, a4, a5] 28)) w' → w'.cell? ⟨w.heap.size, 0, none⟩ = some a0 ∧ w'.cell? ⟨w.heap.size, 1, none⟩ = some a1 ∧ w'.cell? ⟨w.heap.size, 2, none⟩ = some a2 ∧ w'.cell? ⟨w.heap.size, 3, none⟩ = some a3 ∧ w'.cell? ⟨w.heap.size, 4, none⟩ = some a4 ∧ w'.cell? ⟨w.heap.size, 5, none⟩ = some a5 := fun w' hb => by
    refine ⟨?_, ?_, ?_, ?_, ?_, ?_⟩ <;> (rw [K w' hb, World.cell?_alloc_new]; rfl)
  clear K
  have HK := Lib.hid hK
  have HP := Lib.hid P
  clear hK P
  go_enter Tryz.func14, Tryz.ntmps14
  go_wp2_with fail
  refine D.mono ?_
  rintro e w1 ⟨rfl, hb1⟩
  obtain ⟨c0, c1, c2, c3, c4, c5⟩ := HK.out w1 hb1
  have hfin := hbW.trans (hb1.mono hbW.size)
  go_wp2_with (go_at_call 34; refine (HP.out w1 hb1).mono ?_; rintro e w2 ⟨rfl, hb2⟩)
  · go_ret
    exact ⟨by simp [*], hfin.trans (hb2.mono hfin.size)⟩
  · go_ret
    exact ⟨by simp; omega, hfin⟩
end Go.Proofs.YtekojglcbalhnaaGreatDoor

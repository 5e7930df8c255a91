/-
  Contracts of the program's appendValue, of plain values.
-/
import Derived.Test.YtdmbfajhcihfgaaKc
namespace Go.Proofs.Ytdmbfajhcihfgaa
open Go.RowKit

theorem byte_new1 {w : World} {o : Obj} {z : Int} : ((w.alloc o).alloc (.cells #[.int .u8 z] 5)).cell? ⟨w.heap.size + 1, 0, none⟩ = some (.int .u8 z) := by
  have h := byte_new (w := w.alloc o) (z := z)
  rwa [World.size_alloc] at h
theorem box_keeps {w : World} {a0 a1 a2 a3 a4 a5 : Value} {B : Nat} : Hid (∀ w', Keeps B (w.alloc (.cells #[a0, a1, a2, a3, a4, a5] 27)) w' →
    w'.cell? ⟨w.heap.size, 0, none⟩ = some a0 ∧ w'.cell? ⟨w.heap.size, 1, none⟩ = some a1 ∧ w'.cell? ⟨w.heap.size, 2, none⟩ = some a2 ∧ w'.cell? ⟨w.heap.size, 3, none⟩ = some a3 ∧ w'.cell? ⟨w.heap.size, 4, none⟩ = some a4 ∧ w'.cell? ⟨w.heap.size, 5, none⟩ = some a5) := Lib.hid fun w' hb => by
  have hn := heap_alloc_new w (.cells #[a0, a1, a2, a3, a4, a5] 27)
  have K := fun o => World.cell?_of_block (a := ⟨w.heap.size, o, none⟩) (hb.block w.heap.size (by simp) (.inr fun cur e => by
    rw [hn] at e
    injection e with e
    injection e with _ e2 _
    exact absurd e2 (by decide)))
  refine ⟨?_, ?_, ?_, ?_, ?_, ?_⟩ <;> (rw [K, World.cell?_alloc_new]; rfl)
set_option maxRecDepth 20000 in
set_option maxHeartbeats 2000000 in
theorem addV_1 {n : Int} {f : Nat} {s : ByteArray} {A : Option Addr} {c ca : Nat} {B : Option Addr} {m cb : Nat} {w : World} {lim : Nat} {v : Value} {L0 : List UInt8} (hn : n = 0 ∨ n = 1)
    (hv : Row5 w lim v L0) (hB : lim ≤ w.heap.size) (hL0 : L0.length ≤ 900000000) :
    Calls Try.prog 36 #[v, .agg (fields 1 n f s A c ca B m cb)] w (AddsTo w lim (L0 ++ plainL 1 n f s)) := by
  have HK := box_keeps (w := w) (a0 := .int .i64 1) (a1 := .int .i64 n) (a2 := .float .f64 f) (a3 := .string s) (a4 := .slice A c ca) (a5 := .slice B m cb) (B := lim)
  unfold fields at *
  obtain ⟨W0, hW0⟩ : ∃ W0, W0 = w.alloc (.cells #[.int .i64 1, .int .i64 n, .float .f64 f, .string s, .slice A c ca, .slice B m cb] 27) := ⟨_, rfl⟩
  have HK0 := Lib.hid (show Keeps lim w W0 by rw [hW0]; exact (Keeps.refl _ _).alloc _)
  have E2 : IntKind.u8.wrap n = n := by rw [IntKind.wrap_u8]; omega
  have hnb : n = ((UInt8.ofNat n.toNat).toNat : Int) := by rcases hn with rfl | rfl <;> decide
  have HN := Lib.hid hnb
  have R : Hid ((L0 ++ [UInt8.ofNat 1]) ++ [UInt8.ofNat n.toNat] = L0 ++ plainL 1 n f s) := Lib.hid (by unfold plainL tailL; rw [if_pos rfl]; simp)
  obtain ⟨L1, hL1⟩ : ∃ L1, L1 = L0 ++ [UInt8.ofNat 1] := ⟨_, rfl⟩
  have hlen : L1.length ≤ 1000000000 := by rw [hL1]; simp; omega
  rw [← hL1] at R
  have HL1 := Lib.hid hL1
  have HV := Lib.hid hv
  rw [← hW0] at HK
  clear hv hL1 hn hnb
  go_enter Try.func36, Try.ntmps36
  go_wp2_with (at_builtin; refine wpList_byte (B := lim) rfl (.tmp 5) (.tmp 9) rfl v L0 1 (UInt8.ofNat 1) rfl ((HV.out.alloc _).alloc _) (by simp; omega) (by omega) ⟨w.heap.size + 1, 0, none⟩ rfl byte_new1 rfl ?_; intro v1 w1 hr1 hk1; refine Hid.out ?_)
  refine Lib.hid ?_
  rw [← hW0] at hk1
  rw [← HL1.out] at hr1
  have HR1 := Lib.hid hr1
  have HK1 := Lib.hid (show Keeps lim W0 w1 from ((Keeps.refl _ _).alloc _).trans hk1)
  obtain ⟨q0, q1, q2, q3, q4, q5⟩ := HK.out w1 HK1.out
  have hB1 : lim ≤ w1.heap.size := Nat.le_trans hB (HK0.out.trans HK1.out).size
  obtain ⟨A1, cap1, rfl⟩ := hr1.slice
  clear hr1 hk1 hW0
  go_wp2_with (at_builtin; refine wpList_byte (B := lim) rfl (.tmp 15) (.tmp 19) rfl _ L1 n (UInt8.ofNat n.toNat) rfl (HR1.out.alloc _) (by simp; omega) (by omega) ⟨w1.heap.size, 0, none⟩ rfl byte_new HN.out ?_; intro v2 w2 hr2 hk2; refine Hid.out ?_)
  refine Lib.hid ?_
  have HR2 := Lib.hid hr2
  have HK2 := Lib.hid (show Keeps lim w w2 from HK0.out.trans (HK1.out.trans (((Keeps.refl _ _).alloc _).trans hk2)))
  clear hr2 hk2
  go_wp2_with fail
  go_ret
  exact ⟨_, rfl, by rw [← R.out]; exact HR2.out, HK2.out⟩
set_option maxRecDepth 20000 in
set_option maxHeartbeats 2000000 in
theorem addV_2 {n : Int} {f : Nat} {s : ByteArray} {A : Option Addr} {c ca : Nat} {B : Option Addr} {m cb : Nat} {w : World} {lim : Nat} {v : Value} {L0 : List UInt8} (hn : -9223372036854775808 ≤ n ∧ n ≤ 9223372036854775807)
    (hv : Row5 w lim v L0) (hB : lim ≤ w.heap.size) (hL0 : L0.length ≤ 900000000) :
    Calls Try.prog 36 #[v, .agg (fields 2 n f s A c ca B m cb)] w (AddsTo w lim (L0 ++ plainL 2 n f s)) := by
  have HK := box_keeps (w := w) (a0 := .int .i64 2) (a1 := .int .i64 n) (a2 := .float .f64 f) (a3 := .string s) (a4 := .slice A c ca) (a5 := .slice B m cb) (B := lim)
  unfold fields at *
  obtain ⟨W0, hW0⟩ : ∃ W0, W0 = w.alloc (.cells #[.int .i64 2, .int .i64 n, .float .f64 f, .string s, .slice A c ca, .slice B m cb] 27) := ⟨_, rfl⟩
  have HK0 := Lib.hid (show Keeps lim w W0 by rw [hW0]; exact (Keeps.refl _ _).alloc _)
  have HN := Lib.hid hn
  have R : Hid ((L0 ++ [UInt8.ofNat 2]) ++ uintL (zig n) = L0 ++ plainL 2 n f s) := Lib.hid (by unfold plainL tailL; rw [if_neg (by decide), if_pos rfl]; simp)
  obtain ⟨L1, hL1⟩ : ∃ L1, L1 = L0 ++ [UInt8.ofNat 2] := ⟨_, rfl⟩
  have hlen : L1.length ≤ 1000000000 := by rw [hL1]; simp; omega
  rw [← hL1] at R
  have HL1 := Lib.hid hL1
  have HV := Lib.hid hv
  rw [← hW0] at HK
  clear hv hL1 hn
  go_enter Try.func36, Try.ntmps36
  go_wp2_with (at_builtin; refine wpList_byte (B := lim) rfl (.tmp 5) (.tmp 9) rfl v L0 2 (UInt8.ofNat 2) rfl ((HV.out.alloc _).alloc _) (by simp; omega) (by omega) ⟨w.heap.size + 1, 0, none⟩ rfl byte_new1 rfl ?_; intro v1 w1 hr1 hk1; refine Hid.out ?_)
  refine Lib.hid ?_
  rw [← hW0] at hk1
  rw [← HL1.out] at hr1
  have HR1 := Lib.hid hr1
  have HK1 := Lib.hid (show Keeps lim W0 w1 from ((Keeps.refl _ _).alloc _).trans hk1)
  obtain ⟨q0, q1, q2, q3, q4, q5⟩ := HK.out w1 HK1.out
  have hB1 : lim ≤ w1.heap.size := Nat.le_trans hB (HK0.out.trans HK1.out).size
  obtain ⟨A1, cap1, rfl⟩ := hr1.slice
  clear hr1 hk1 hW0
  have C := addInt_any HN.out HR1.out hB1 hlen
  have HC := Lib.hid C
  clear C
  go_wp2_with (go_at_call 44; refine HC.out.mono ?_; rintro e w2 ⟨v2, rfl, hr2, hk2⟩; have HR2 := Lib.hid hr2; have HK2 := Lib.hid hk2; clear hr2 hk2)
  go_ret
  exact ⟨_, rfl, by rw [← R.out]; exact HR2.out, HK0.out.trans (HK1.out.trans HK2.out)⟩
set_option maxRecDepth 20000 in
set_option maxHeartbeats 2000000 in
theorem addV_3 {n : Int} {f : Nat} {s : ByteArray} {A : Option Addr} {c ca : Nat} {B : Option Addr} {m cb : Nat} {w : World} {lim : Nat} {v : Value} {L0 : List UInt8}
    (hv : Row5 w lim v L0) (hB : lim ≤ w.heap.size) (hL0 : L0.length ≤ 900000000) :
    Calls Try.prog 36 #[v, .agg (fields 3 n f s A c ca B m cb)] w (AddsTo w lim (L0 ++ plainL 3 n f s)) := by
  have HK := box_keeps (w := w) (a0 := .int .i64 3) (a1 := .int .i64 n) (a2 := .float .f64 f) (a3 := .string s) (a4 := .slice A c ca) (a5 := .slice B m cb) (B := lim)
  unfold fields at *
  obtain ⟨W0, hW0⟩ : ∃ W0, W0 = w.alloc (.cells #[.int .i64 3, .int .i64 n, .float .f64 f, .string s, .slice A c ca, .slice B m cb] 27) := ⟨_, rfl⟩
  have HK0 := Lib.hid (show Keeps lim w W0 by rw [hW0]; exact (Keeps.refl _ _).alloc _)
  have R : Hid ((L0 ++ [UInt8.ofNat 3]) ++ wordL (canonW f) 8 = L0 ++ plainL 3 n f s) := Lib.hid (by unfold plainL tailL; rw [if_neg (by decide), if_neg (by decide), if_pos rfl]; simp)
  obtain ⟨L1, hL1⟩ : ∃ L1, L1 = L0 ++ [UInt8.ofNat 3] := ⟨_, rfl⟩
  have hlen : L1.length ≤ 1000000000 := by rw [hL1]; simp; omega
  rw [← hL1] at R
  have HL1 := Lib.hid hL1
  have HV := Lib.hid hv
  rw [← hW0] at HK
  clear hv hL1
  go_enter Try.func36, Try.ntmps36
  go_wp2_with (at_builtin; refine wpList_byte (B := lim) rfl (.tmp 5) (.tmp 9) rfl v L0 3 (UInt8.ofNat 3) rfl ((HV.out.alloc _).alloc _) (by simp; omega) (by omega) ⟨w.heap.size + 1, 0, none⟩ rfl byte_new1 rfl ?_; intro v1 w1 hr1 hk1; refine Hid.out ?_)
  refine Lib.hid ?_
  rw [← hW0] at hk1
  rw [← HL1.out] at hr1
  have HR1 := Lib.hid hr1
  have HK1 := Lib.hid (show Keeps lim W0 w1 from ((Keeps.refl _ _).alloc _).trans hk1)
  obtain ⟨q0, q1, q2, q3, q4, q5⟩ := HK.out w1 HK1.out
  have hB1 : lim ≤ w1.heap.size := Nat.le_trans hB (HK0.out.trans HK1.out).size
  obtain ⟨A1, cap1, rfl⟩ := hr1.slice
  clear hr1 hk1 hW0
  have C := addFloat_any f HR1.out hB1 hlen
  have HC := Lib.hid C
  clear C
  go_wp2_with (go_at_call 63; refine HC.out.mono ?_; rintro e w2 ⟨v2, rfl, hr2, hk2⟩; have HR2 := Lib.hid hr2; have HK2 := Lib.hid hk2; clear hr2 hk2)
  go_ret
  exact ⟨_, rfl, by rw [← R.out]; exact HR2.out, HK0.out.trans (HK1.out.trans HK2.out)⟩
set_option maxRecDepth 20000 in
set_option maxHeartbeats 2000000 in
theorem addV_4 {n : Int} {f : Nat} {s : ByteArray} {A : Option Addr} {c ca : Nat} {B : Option Addr} {m cb : Nat} {w : World} {lim : Nat} {v : Value} {L0 : List UInt8} (hs : s.size ≤ 1000000000)
    (hv : Row5 w lim v L0) (hB : lim ≤ w.heap.size) (hL0 : L0.length ≤ 900000000) :
    Calls Try.prog 36 #[v, .agg (fields 4 n f s A c ca B m cb)] w (AddsTo w lim (L0 ++ plainL 4 n f s)) := by
  have HK := box_keeps (w := w) (a0 := .int .i64 4) (a1 := .int .i64 n) (a2 := .float .f64 f) (a3 := .string s) (a4 := .slice A c ca) (a5 := .slice B m cb) (B := lim)
  unfold fields at *
  obtain ⟨W0, hW0⟩ : ∃ W0, W0 = w.alloc (.cells #[.int .i64 4, .int .i64 n, .float .f64 f, .string s, .slice A c ca, .slice B m cb] 27) := ⟨_, rfl⟩
  have HK0 := Lib.hid (show Keeps lim w W0 by rw [hW0]; exact (Keeps.refl _ _).alloc _)
  have HN := Lib.hid hs
  have R : Hid ((L0 ++ [UInt8.ofNat 4]) ++ strBL s = L0 ++ plainL 4 n f s) := Lib.hid (by unfold plainL tailL; rw [if_neg (by decide), if_neg (by decide), if_neg (by decide)]; simp)
  obtain ⟨L1, hL1⟩ : ∃ L1, L1 = L0 ++ [UInt8.ofNat 4] := ⟨_, rfl⟩
  have hlen : L1.length ≤ 1000000000 := by rw [hL1]; simp; omega
  rw [← hL1] at R
  have HL1 := Lib.hid hL1
  have HV := Lib.hid hv
  rw [← hW0] at HK
  clear hv hL1 hs
  go_enter Try.func36, Try.ntmps36
  go_wp2_with (at_builtin; refine wpList_byte (B := lim) rfl (.tmp 5) (.tmp 9) rfl v L0 4 (UInt8.ofNat 4) rfl ((HV.out.alloc _).alloc _) (by simp; omega) (by omega) ⟨w.heap.size + 1, 0, none⟩ rfl byte_new1 rfl ?_; intro v1 w1 hr1 hk1; refine Hid.out ?_)
  refine Lib.hid ?_
  rw [← hW0] at hk1
  rw [← HL1.out] at hr1
  have HR1 := Lib.hid hr1
  have HK1 := Lib.hid (show Keeps lim W0 w1 from ((Keeps.refl _ _).alloc _).trans hk1)
  obtain ⟨q0, q1, q2, q3, q4, q5⟩ := HK.out w1 HK1.out
  have hB1 : lim ≤ w1.heap.size := Nat.le_trans hB (HK0.out.trans HK1.out).size
  obtain ⟨A1, cap1, rfl⟩ := hr1.slice
  clear hr1 hk1 hW0
  have C := addStr_any HN.out HR1.out hB1 hlen
  have HC := Lib.hid C
  clear C
  go_wp2_with (go_at_call 64; refine HC.out.mono ?_; rintro e w2 ⟨v2, rfl, hr2, hk2⟩; have HR2 := Lib.hid hr2; have HK2 := Lib.hid hk2; clear hr2 hk2)
  go_ret
  exact ⟨_, rfl, by rw [← R.out]; exact HR2.out, HK0.out.trans (HK1.out.trans HK2.out)⟩
end Go.Proofs.Ytdmbfajhcihfgaa

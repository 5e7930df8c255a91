/-
  Contracts of the program's appendValue, of plain values.
  Contract of the program's appendItems, of values.
  Contracts of the program's appendValue, of any right value, and of Value.
-/
import Derived.Test.YtekojglcbalhnaaGreatDoorM09
namespace Go.Proofs.YtekojglcbalhnaaGreatDoor
open Go.RowKit

theorem byte_new1 {w : World} {o : Obj} {z : Int} : ((w.alloc o).alloc (.cells #[.int .u8 z] 5)).cell? ⟨w.heap.size + 1, 0, none⟩ = some (.int .u8 z) := by
  have h := byte_new (w := w.alloc o) (z := z)
  rwa [World.size_alloc] at h
theorem box_keeps {w : World} {a0 a1 a2 a3 a4 a5 : Value} {B : Nat} : Hid (∀ w', Keeps B (w.alloc (.cells #[a0, a1, a2, a3, a4, a5] 28)) w' →
    w'.cell? ⟨w.heap.size, 0, none⟩ = some a0 ∧ w'.cell? ⟨w.heap.size, 1, none⟩ = some a1 ∧ w'.cell? ⟨w.heap.size, 2, none⟩ = some a2 ∧ w'.cell? ⟨w.heap.size, 3, none⟩ = some a3 ∧ w'.cell? ⟨w.heap.size, 4, none⟩ = some a4 ∧ w'.cell? ⟨w.heap.size, 5, none⟩ = some a5) := Lib.hid fun w' hb => by
  have hn := heap_alloc_new w (.cells #[a0, a1, a2, a3, a4, a5] 28)
  have K := fun o => World.cell?_of_block (a := ⟨w.heap.size, o, none⟩) (hb.block w.heap.size (by simp) (.inr fun cur e => by
    rw [hn] at e
    injection e with e
    injection e with _ e2 _
    exact absurd e2 (by decide)))
  refine ⟨?_, ?_, ?_, ?_, ?_, ?_⟩ <;> (rw [K, World.cell?_alloc_new]; rfl)
set_option maxRecDepth 20000 in
set_option maxHeartbeats 2000000 in
theorem addV_1 {n : Int} {f : Nat} {s : ByteArray} {A : Option Addr} {c ca : Nat} {B : Option Addr} {m cb : Nat} {w : World} {lim : Nat} {v : Value} {L0 : List UInt8} (hn : n = 0 ∨ n = 1)
    (hv : Row5 w lim v L0) (hB : lim ≤ w.heap.size) (hL0 : L0.length ≤ 900000000) :
    Calls Tryz.prog 127 #[v, .agg (fields 1 n f s A c ca B m cb)] w (AddsTo w lim (L0 ++ plainL 1 n f s)) := by
  have HK := box_keeps (w := w) (a0 := .int .i64 1) (a1 := .int .i64 n) (a2 := .float .f64 f) (a3 := .string s) (a4 := .slice A c ca) (a5 := .slice B m cb) (B := lim)
  unfold fields at *
  obtain ⟨W0, hW0⟩ : ∃ W0, W0 = w.alloc (.cells #[.int .i64 1, .int .i64 n, .float .f64 f, .string s, .slice A c ca, .slice B m cb] 28) := ⟨_, rfl⟩
  have HK0 := Lib.hid (show Keeps lim w W0 by rw [hW0]; exact (Keeps.refl _ _).alloc _)
  have E2 : IntKind.u8.wrap n = n := by rw [IntKind.wrap_u8]; omega
  have hnb : n = ((UInt8.ofNat n.toNat).toNat : Int) := by rcases hn with rfl | rfl <;> decide
  have HN := Lib.hid hnb
  have R : Hid ((L0 ++ [UInt8.ofNat 1]) ++ [UInt8.ofNat n.toNat] = L0 ++ plainL 1 n f s) := Lib.hid (by unfold plainL tailL; rw [if_pos rfl]; simp)
  obtain ⟨L1, hL1⟩ : ∃ L1, L1 = L0 ++ [UInt8.ofNat 1] := ⟨_, rfl⟩
  have hlen : L1.length ≤ 1000000000 := by rw [hL1]; simp; omega
  rw [← hL1] at R
  have HL1 := Lib.hid hL1
  have HV := Lib.hid hv
  rw [← hW0] at HK
  clear hv hL1 hn hnb
  go_enter Tryz.func127, Tryz.ntmps127
  go_wp2_with (at_builtin; refine wpList_byte (B := lim) rfl (.tmp 5) (.tmp 9) rfl v L0 1 (UInt8.ofNat 1) rfl ((HV.out.alloc _).alloc _) (by simp; omega) (by omega) ⟨w.heap.size + 1, 0, none⟩ rfl byte_new1 rfl ?_; intro v1 w1 hr1 hk1; refine Hid.out ?_)
  refine Lib.hid ?_
  rw [← hW0] at hk1
  rw [← HL1.out] at hr1
  have HR1 := Lib.hid hr1
  have HK1 := Lib.hid (show Keeps lim W0 w1 from ((Keeps.refl _ _).alloc _).trans hk1)
  obtain ⟨q0, q1, q2, q3, q4, q5⟩ := HK.out w1 HK1.out
  have hB1 : lim ≤ w1.heap.size := Nat.le_trans hB (HK0.out.trans HK1.out).size
  obtain ⟨A1, cap1, rfl⟩ := hr1.slice
  clear hr1 hk1 hW0
  go_wp2_with (at_builtin; refine wpList_byte (B := lim) rfl (.tmp 15) (.tmp 19) rfl _ L1 n (UInt8.ofNat n.toNat) rfl (HR1.out.alloc _) (by simp; omega) (by omega) ⟨w1.heap.size, 0, none⟩ rfl byte_new HN.out ?_; intro v2 w2 hr2 hk2; refine Hid.out ?_)
  refine Lib.hid ?_
  have HR2 := Lib.hid hr2
  have HK2 := Lib.hid (show Keeps lim w w2 from HK0.out.trans (HK1.out.trans (((Keeps.refl _ _).alloc _).trans hk2)))
  clear hr2 hk2
  go_wp2_with fail
  go_ret
  exact ⟨_, rfl, by rw [← R.out]; exact HR2.out, HK2.out⟩
set_option maxRecDepth 20000 in
set_option maxHeartbeats 2000000 in
theorem addV_2 {n : Int} {f : Nat} {s : ByteArray} {A : Option Addr} {c ca : Nat} {B : Option Addr} {m cb : Nat} {w : World} {lim : Nat} {v : Value} {L0 : List UInt8} (hn : -9223372036854775808 ≤ n ∧ n ≤ 9223372036854775807)
    (hv : Row5 w lim v L0) (hB : lim ≤ w.heap.size) (hL0 : L0.length ≤ 900000000) :
    Calls Tryz.prog 127 #[v, .agg (fields 2 n f s A c ca B m cb)] w (AddsTo w lim (L0 ++ plainL 2 n f s)) := by
  have HK := box_keeps (w := w) (a0 := .int .i64 2) (a1 := .int .i64 n) (a2 := .float .f64 f) (a3 := .string s) (a4 := .slice A c ca) (a5 := .slice B m cb) (B := lim)
  unfold fields at *
  obtain ⟨W0, hW0⟩ : ∃ W0, W0 = w.alloc (.cells #[.int .i64 2, .int .i64 n, .float .f64 f, .string s, .slice A c ca, .slice B m cb] 28) := ⟨_, rfl⟩
  have HK0 := Lib.hid (show Keeps lim w W0 by rw [hW0]; exact (Keeps.refl _ _).alloc _)
  have HN := Lib.hid hn
  have R : Hid ((L0 ++ [UInt8.ofNat 2]) ++ uintL (zig n) = L0 ++ plainL 2 n f s) := Lib.hid (by unfold plainL tailL; rw [if_neg (by decide), if_pos rfl]; simp)
  obtain ⟨L1, hL1⟩ : ∃ L1, L1 = L0 ++ [UInt8.ofNat 2] := ⟨_, rfl⟩
  have hlen : L1.length ≤ 1000000000 := by rw [hL1]; simp; omega
  rw [← hL1] at R
  have HL1 := Lib.hid hL1
  have HV := Lib.hid hv
  rw [← hW0] at HK
  clear hv hL1 hn
  go_enter Tryz.func127, Tryz.ntmps127
  go_wp2_with (at_builtin; refine wpList_byte (B := lim) rfl (.tmp 5) (.tmp 9) rfl v L0 2 (UInt8.ofNat 2) rfl ((HV.out.alloc _).alloc _) (by simp; omega) (by omega) ⟨w.heap.size + 1, 0, none⟩ rfl byte_new1 rfl ?_; intro v1 w1 hr1 hk1; refine Hid.out ?_)
  refine Lib.hid ?_
  rw [← hW0] at hk1
  rw [← HL1.out] at hr1
  have HR1 := Lib.hid hr1
  have HK1 := Lib.hid (show Keeps lim W0 w1 from ((Keeps.refl _ _).alloc _).trans hk1)
  obtain ⟨q0, q1, q2, q3, q4, q5⟩ := HK.out w1 HK1.out
  have hB1 : lim ≤ w1.heap.size := Nat.le_trans hB (HK0.out.trans HK1.out).size
  obtain ⟨A1, cap1, rfl⟩ := hr1.slice
  clear hr1 hk1 hW0
  have C := addInt_any HN.out HR1.out hB1 hlen
  have HC := Lib.hid C
  clear C
  go_wp2_with (go_at_call 159; refine HC.out.mono ?_; rintro e w2 ⟨v2, rfl, hr2, hk2⟩; have HR2 := Lib.hid hr2; have HK2 := Lib.hid hk2; clear hr2 hk2)
  go_ret
  exact ⟨_, rfl, by rw [← R.out]; exact HR2.out, HK0.out.trans (HK1.out.trans HK2.out)⟩
set_option maxRecDepth 20000 in
set_option maxHeartbeats 2000000 in
theorem addV_3 {n : Int} {f : Nat} {s : ByteArray} {A : Option Addr} {c ca : Nat} {B : Option Addr} {m cb : Nat} {w : World} {lim : Nat} {v : Value} {L0 : List UInt8}
    (hv : Row5 w lim v L0) (hB : lim ≤ w.heap.size) (hL0 : L0.length ≤ 900000000) :
    Calls Tryz.prog 127 #[v, .agg (fields 3 n f s A c ca B m cb)] w (AddsTo w lim (L0 ++ plainL 3 n f s)) := by
  have HK := box_keeps (w := w) (a0 := .int .i64 3) (a1 := .int .i64 n) (a2 := .float .f64 f) (a3 := .string s) (a4 := .slice A c ca) (a5 := .slice B m cb) (B := lim)
  unfold fields at *
  obtain ⟨W0, hW0⟩ : ∃ W0, W0 = w.alloc (.cells #[.int .i64 3, .int .i64 n, .float .f64 f, .string s, .slice A c ca, .slice B m cb] 28) := ⟨_, rfl⟩
  have HK0 := Lib.hid (show Keeps lim w W0 by rw [hW0]; exact (Keeps.refl _ _).alloc _)
  have R : Hid ((L0 ++ [UInt8.ofNat 3]) ++ wordL (canonW f) 8 = L0 ++ plainL 3 n f s) := Lib.hid (by unfold plainL tailL; rw [if_neg (by decide), if_neg (by decide), if_pos rfl]; simp)
  obtain ⟨L1, hL1⟩ : ∃ L1, L1 = L0 ++ [UInt8.ofNat 3] := ⟨_, rfl⟩
  have hlen : L1.length ≤ 1000000000 := by rw [hL1]; simp; omega
  rw [← hL1] at R
  have HL1 := Lib.hid hL1
  have HV := Lib.hid hv
  rw [← hW0] at HK
  clear hv hL1
  go_enter Tryz.func127, Tryz.ntmps127
  go_wp2_with (at_builtin; refine wpList_byte (B := lim) rfl (.tmp 5) (.tmp 9) rfl v L0 3 (UInt8.ofNat 3) rfl ((HV.out.alloc _).alloc _) (by simp; omega) (by omega) ⟨w.heap.size + 1, 0, none⟩ rfl byte_new1 rfl ?_; intro v1 w1 hr1 hk1; refine Hid.out ?_)
  refine Lib.hid ?_
  rw [← hW0] at hk1
  rw [← HL1.out] at hr1
  have HR1 := Lib.hid hr1
  have HK1 := Lib.hid (show Keeps lim W0 w1 from ((Keeps.refl _ _).alloc _).trans hk1)
  obtain ⟨q0, q1, q2, q3, q4, q5⟩ := HK.out w1 HK1.out
  have hB1 : lim ≤ w1.heap.size := Nat.le_trans hB (HK0.out.trans HK1.out).size
  obtain ⟨A1, cap1, rfl⟩ := hr1.slice
  clear hr1 hk1 hW0
  have C := addFloat_any f HR1.out hB1 hlen
  have HC := Lib.hid C
  clear C
  go_wp2_with (go_at_call 160; refine HC.out.mono ?_; rintro e w2 ⟨v2, rfl, hr2, hk2⟩; have HR2 := Lib.hid hr2; have HK2 := Lib.hid hk2; clear hr2 hk2)
  go_ret
  exact ⟨_, rfl, by rw [← R.out]; exact HR2.out, HK0.out.trans (HK1.out.trans HK2.out)⟩
set_option maxRecDepth 20000 in
set_option maxHeartbeats 2000000 in
theorem addV_4 {n : Int} {f : Nat} {s : ByteArray} {A : Option Addr} {c ca : Nat} {B : Option Addr} {m cb : Nat} {w : World} {lim : Nat} {v : Value} {L0 : List UInt8} (hs : s.size ≤ 1000000000)
    (hv : Row5 w lim v L0) (hB : lim ≤ w.heap.size) (hL0 : L0.length ≤ 900000000) :
    Calls Tryz.prog 127 #[v, .agg (fields 4 n f s A c ca B m cb)] w (AddsTo w lim (L0 ++ plainL 4 n f s)) := by
  have HK := box_keeps (w := w) (a0 := .int .i64 4) (a1 := .int .i64 n) (a2 := .float .f64 f) (a3 := .string s) (a4 := .slice A c ca) (a5 := .slice B m cb) (B := lim)
  unfold fields at *
  obtain ⟨W0, hW0⟩ : ∃ W0, W0 = w.alloc (.cells #[.int .i64 4, .int .i64 n, .float .f64 f, .string s, .slice A c ca, .slice B m cb] 28) := ⟨_, rfl⟩
  have HK0 := Lib.hid (show Keeps lim w W0 by rw [hW0]; exact (Keeps.refl _ _).alloc _)
  have HN := Lib.hid hs
  have R : Hid ((L0 ++ [UInt8.ofNat 4]) ++ strBL s = L0 ++ plainL 4 n f s) := Lib.hid (by unfold plainL tailL; rw [if_neg (by decide), if_neg (by decide), if_neg (by decide)]; simp)
  obtain ⟨L1, hL1⟩ : ∃ L1, L1 = L0 ++ [UInt8.ofNat 4] := ⟨_, rfl⟩
  have hlen : L1.length ≤ 1000000000 := by rw [hL1]; simp; omega
  rw [← hL1] at R
  have HL1 := Lib.hid hL1
  have HV := Lib.hid hv
  rw [← hW0] at HK
  clear hv hL1 hs
  go_enter Tryz.func127, Tryz.ntmps127
  go_wp2_with (at_builtin; refine wpList_byte (B := lim) rfl (.tmp 5) (.tmp 9) rfl v L0 4 (UInt8.ofNat 4) rfl ((HV.out.alloc _).alloc _) (by simp; omega) (by omega) ⟨w.heap.size + 1, 0, none⟩ rfl byte_new1 rfl ?_; intro v1 w1 hr1 hk1; refine Hid.out ?_)
  refine Lib.hid ?_
  rw [← hW0] at hk1
  rw [← HL1.out] at hr1
  have HR1 := Lib.hid hr1
  have HK1 := Lib.hid (show Keeps lim W0 w1 from ((Keeps.refl _ _).alloc _).trans hk1)
  obtain ⟨q0, q1, q2, q3, q4, q5⟩ := HK.out w1 HK1.out
  have hB1 : lim ≤ w1.heap.size := Nat.le_trans hB (HK0.out.trans HK1.out).size
  obtain ⟨A1, cap1, rfl⟩ := hr1.slice
  clear hr1 hk1 hW0
  have C := addStr_any HN.out HR1.out hB1 hlen
  have HC := Lib.hid C
  clear C
  go_wp2_with (go_at_call 161; refine HC.out.mono ?_; rintro e w2 ⟨v2, rfl, hr2, hk2⟩; have HR2 := Lib.hid hr2; have HK2 := Lib.hid hk2; clear hr2 hk2)
  go_ret
  exact ⟨_, rfl, by rw [← R.out]; exact HR2.out, HK0.out.trans (HK1.out.trans HK2.out)⟩
end Go.Proofs.YtekojglcbalhnaaGreatDoor
namespace Go.Proofs.YtekojglcbalhnaaGreatDoor
open Go.RowKit

/-- Items' bytes, each behind its name's, if they have names. -/
def itL (nm : Bool) (ns : Nat → ByteArray) (G : Nat → List UInt8) : Nat → List UInt8
  | 0 => []
  | i + 1 => (itL nm ns G i ++ (if nm = true then strBL (ns i) else [])) ++ G i
theorem itL_mono {nm : Bool} {ns : Nat → ByteArray} {G : Nat → List UInt8} {i m : Nat} (h : i ≤ m) : (itL nm ns G i).length ≤ (itL nm ns G m).length := by
  induction m with
  | zero => obtain rfl : i = 0 := by omega
            exact Nat.le_refl _
  | succ m ih =>
    by_cases e : i = m + 1
    · subst e; exact Nat.le_refl _
    · have := ih (by omega)
      rw [itL, List.length_append, List.length_append]; omega
theorem lst_cat (a b : ByteArray) : (a ++ b).data.toList = a.data.toList ++ b.data.toList := by simp
theorem lst_str (l : List UInt8) : (strL l).data.toList = l := by unfold strL; simp
theorem str_lst (b : ByteArray) : strL b.data.toList = b := by unfold strL; cases b; simp
theorem lst_strB (t : ByteArray) : (strB t).data.toList = strBL t := by rw [← strBL_eq, lst_str]
theorem joinC_lst (S : ByteArray) (k : Int) (ns G : Nat → ByteArray) : ∀ m, (joinC S k ns G m).data.toList = S.data.toList ++ itL (decide (k = 6)) ns (fun i => (G i).data.toList) m := by
  intro m
  induction m with
  | zero => simp [joinC, itL]
  | succ m ih =>
    rw [joinC, itL, lst_cat]
    by_cases h : k = 6
    · rw [if_pos h, lst_cat, ih, lst_strB, if_pos (by simpa using h)]; simp
    · rw [if_neg h, ih, if_neg (by simpa using h)]; simp
theorem strBL_len (t : ByteArray) : t.size ≤ (strBL t).length := by
  have e : t.data.toList.length = t.size := by rw [Array.length_toList]; rfl
  unfold strBL
  rw [List.length_append]
  omega
set_option maxRecDepth 20000 in
set_option maxHeartbeats 2000000 in
theorem items_un {A : Option Addr} {ca : Nat} {B : Option Addr} {m cb : Nat} {w : World} {lim : Nat} {v : Value} {L0 : List UInt8} {ns : Nat → ByteArray} {vs : Nat → Array Value} {xs : Nat → VT} {G : Nat → List UInt8}
    (hB : 0 < m → ∃ g o, B = some ⟨g, o, none⟩ ∧ g < lim ∧ ∀ i, i < m → SixAt w g (o + i * 6) (vs i)) (hxs : ∀ i, i < m → Val w lim (vs i) (xs i)) (hmx : m ≤ 9223372036854775807)
    (hitem : ∀ i, i < m → ∀ (W : World) (v : Value) (L : List UInt8), Val W lim (vs i) (xs i) → Row5 W lim v L → lim ≤ W.heap.size → (L ++ G i).length ≤ 900000000 → Calls Tryz.prog 127 #[v, .agg (vs i)] W (AddsTo W lim (L ++ G i)))
    (hv : Row5 w lim v L0) (hl : lim ≤ w.heap.size) (hL : (L0 ++ itL false ns G m).length ≤ 900000000) :
    Calls Tryz.prog 162 #[v, .slice A 0 ca, .slice B m cb, .func (.func 127) #[] #[]] w (AddsTo w lim (L0 ++ itL false ns G m)) := by
  have SF := float_store
  have HV := Lib.hid hv
  clear hv
  go_enter Tryz.func162, Tryz.ntmps162
  go_wp2_with fail
  go_loopw [0, 13] (fun v iv wr => ∃ (i : Nat) (A' : Option Addr) (cap : Nat) (L : List UInt8), i ≤ m ∧ iv = .int .i64 i ∧ v = .slice A' L.length cap ∧ Hid (L = L0 ++ itL false ns G i) ∧ Hid (Row5 wr lim (.slice A' L.length cap) L) ∧ Hid (Keeps lim w wr)) (fun _ iv _ => m - (intOf iv).toNat)
  case atStart =>
    obtain ⟨A', cap, rfl⟩ := HV.out.slice
    exact ⟨0, A', cap, L0, Nat.zero_le _, rfl, rfl, Lib.hid (by simp [itL]), HV, Lib.hid (Keeps.refl _ _)⟩
  case round =>
    obtain ⟨i, A', cap, L, hi, rfl, rfl, hLe, hown, hk⟩ := hrel
    by_cases hlt : i < m
    · obtain ⟨g, o, rfl, hg, hx⟩ := hB (by omega)
      have hbW : Below lim w wr := hk.out.below hl
      have hsz := hk.out.size
      have hsix := (hx i hlt).keep (w' := wr) fun o => hbW.cell (p := ⟨g, o, none⟩) hg
      have hN : Hid (L ++ G i = L0 ++ itL false ns G (i + 1)) := Lib.hid (by rw [hLe.out, itL]; simp)
      have hlen : (L ++ G i).length ≤ 900000000 := by
        rw [hN.out]
        have := itL_mono (nm := false) (ns := ns) (G := G) (show i + 1 ≤ m by omega)
        rw [List.length_append] at hL ⊢
        omega
      have hcall := Lib.hid fun (x : Obj) => hitem i hlt (wr.alloc x) _ L ((hxs i hlt).stay (hbW.alloc (by omega) x)) (hown.out.alloc x) (by simp; omega) hlen
      obtain ⟨b0, b1, b2, b3, b4, b5, b6, b7, b8, b9, hv0⟩ := (hxs i hlt).eight
      rw [hv0] at hsix hcall
      obtain ⟨e0, e1, e2, e3, e4, e5⟩ := hsix.cells
      clear hv0 hsix hx hB hxs hitem hL hlen hbW hLe
      go_wp2_with (go_at_call 127; refine (hcall.out _).mono ?_; rintro e w3 ⟨v3, rfl, hr3, hk3⟩; have HR3 := Lib.hid hr3; have HK3 := Lib.hid hk3; clear hr3 hk3)
      obtain ⟨A3, cap3, rfl⟩ := HR3.out.slice
      go_roundw
      case rel => exact ⟨i + 1, A3, cap3, _, by omega, by go_num, rfl, hN, HR3, Lib.hid (hk.out.trans (((Keeps.refl _ _).alloc _).trans HK3.out))⟩
      case measure => simp [intOf]; omega
    · obtain rfl : i = m := by omega
      clear hB hxs hitem
      go_wp2_with fail
      go_ret
      exact ⟨_, rfl, by rw [← hLe.out]; exact hown.out, hk.out⟩
set_option maxRecDepth 20000 in
set_option maxHeartbeats 2000000 in
theorem items_named {A : Option Addr} {c ca : Nat} {B : Option Addr} {m cb : Nat} {w : World} {lim : Nat} {v : Value} {L0 : List UInt8} {ns : Nat → ByteArray} {vs : Nat → Array Value} {xs : Nat → VT} {G : Nat → List UInt8}
    (hns : Strs w lim A c ns) (hcm : m ≤ c) (hcx : c ≤ 9223372036854775807) (hc0 : 0 < c)
    (hB : 0 < m → ∃ g o, B = some ⟨g, o, none⟩ ∧ g < lim ∧ ∀ i, i < m → SixAt w g (o + i * 6) (vs i)) (hxs : ∀ i, i < m → Val w lim (vs i) (xs i))
    (hitem : ∀ i, i < m → ∀ (W : World) (v : Value) (L : List UInt8), Val W lim (vs i) (xs i) → Row5 W lim v L → lim ≤ W.heap.size → (L ++ G i).length ≤ 900000000 → Calls Tryz.prog 127 #[v, .agg (vs i)] W (AddsTo W lim (L ++ G i)))
    (hv : Row5 w lim v L0) (hl : lim ≤ w.heap.size) (hL : (L0 ++ itL true ns G m).length ≤ 900000000) :
    Calls Tryz.prog 162 #[v, .slice A c ca, .slice B m cb, .func (.func 127) #[] #[]] w (AddsTo w lim (L0 ++ itL true ns G m)) := by
  have SF := float_store
  have HV := Lib.hid hv
  obtain ⟨gn, on, rfl, hgn, hnx⟩ := hns hc0
  clear hv hns
  go_enter Tryz.func162, Tryz.ntmps162
  go_wp2_with fail
  go_loopw [0, 13] (fun v iv wr => ∃ (i : Nat) (A' : Option Addr) (cap : Nat) (L : List UInt8), i ≤ m ∧ iv = .int .i64 i ∧ v = .slice A' L.length cap ∧ Hid (L = L0 ++ itL true ns G i) ∧ Hid (Row5 wr lim (.slice A' L.length cap) L) ∧ Hid (Keeps lim w wr)) (fun _ iv _ => m - (intOf iv).toNat)
  case atStart =>
    obtain ⟨A', cap, rfl⟩ := HV.out.slice
    exact ⟨0, A', cap, L0, Nat.zero_le _, rfl, rfl, Lib.hid (by simp [itL]), HV, Lib.hid (Keeps.refl _ _)⟩
  case round =>
    obtain ⟨i, A', cap, L, hi, rfl, rfl, hLe, hown, hk⟩ := hrel
    by_cases hlt : i < m
    · obtain ⟨g, o, rfl, hg, hx⟩ := hB (by omega)
      have hbW : Below lim w wr := hk.out.below hl
      have hsz := hk.out.size
      have hsix := (hx i hlt).keep (w' := wr) fun o => hbW.cell (p := ⟨g, o, none⟩) hg
      have hnm : ∀ x, (wr.alloc x).cell? ⟨gn, on + i, none⟩ = some (.string (ns i)) := fun x => ((hbW.alloc (by omega) x).cell (p := ⟨gn, on + i, none⟩) hgn).trans (hnx i (by omega)).1
      have hN : Hid ((L ++ strBL (ns i)) ++ G i = L0 ++ itL true ns G (i + 1)) := Lib.hid (by rw [hLe.out, itL, if_pos rfl]; simp)
      have hlen : ((L ++ strBL (ns i)) ++ G i).length ≤ 900000000 := by
        rw [hN.out]
        have := itL_mono (nm := true) (ns := ns) (G := G) (show i + 1 ≤ m by omega)
        rw [List.length_append] at hL ⊢
        omega
      have hlen1 : L.length ≤ 900000000 ∧ (ns i).size ≤ 900000000 := by
        have := strBL_len (ns i)
        rw [List.length_append, List.length_append] at hlen
        omega
      obtain ⟨b0, b1, b2, b3, b4, b5, b6, b7, b8, b9, hv0⟩ := (hxs i hlt).eight
      have hstr := Lib.hid fun (x : Obj) => addStr_any (t := ns i) (by omega) (hown.out.alloc x) (show lim ≤ (wr.alloc x).heap.size by simp; omega) (show L.length ≤ 1000000000 by omega)
      have hcall := Lib.hid fun (W : World) (hW : Keeps lim wr W) (v : Value) (h : Row5 W lim v (L ++ strBL (ns i))) => hitem i hlt W v (L ++ strBL (ns i)) ((hxs i hlt).stay (hbW.trans (hW.below (by omega)))) h (by have := hW.size; omega) hlen
      rw [hv0] at hsix hcall
      obtain ⟨e0, e1, e2, e3, e4, e5⟩ := hsix.cells
      have HK := box_keeps (w := wr) (a0 := .int .i64 b0) (a1 := .int .i64 b1) (a2 := .float .f64 b2) (a3 := .string b3) (a4 := .slice b4 b5 b6) (a5 := .slice b7 b8 b9) (B := lim)
      have HNM := Lib.hid hnm
      have hnm1 := hnm (.cells #[.int .i64 b0, .int .i64 b1, .float .f64 b2, .string b3, .slice b4 b5 b6, .slice b7 b8 b9] 28)
      generalize hM : L ++ strBL (ns i) = M at *

      clear hv0 hsix hx hB hxs hitem hL hlen hbW hLe hlen1 hM hnm
      go_wp2_with (first | (go_at_call 161; refine (hstr.out _).mono ?_; rintro e w2 ⟨v2, rfl, hr2, hk2⟩; have HR2 := Lib.hid hr2; have HK2 := Lib.hid hk2; clear hr2 hk2; obtain ⟨q0, q1, q2, q3, q4, q5⟩ := HK.out _ HK2.out; refine Hid.out ?_) )
      refine Lib.hid ?_
      obtain ⟨A2, cap2, rfl⟩ := HR2.out.slice
      have HC := Lib.hid (hcall.out _ (((Keeps.refl _ _).alloc _).trans HK2.out) _ HR2.out)
      go_wp2_with (go_at_call 127; refine HC.out.mono ?_; rintro e w3 ⟨v3, rfl, hr3, hk3⟩; have HR3 := Lib.hid hr3; have HK3 := Lib.hid hk3; clear hr3 hk3)
      obtain ⟨A3, cap3, rfl⟩ := HR3.out.slice
      go_roundw
      case rel => exact ⟨i + 1, A3, cap3, _, by omega, by go_num, rfl, hN, HR3, Lib.hid (hk.out.trans ((((Keeps.refl _ _).alloc _).trans HK2.out).trans HK3.out))⟩
      case measure => simp [intOf]; omega
    · obtain rfl : i = m := by omega
      clear hB hxs hitem
      go_wp2_with fail
      go_ret
      exact ⟨_, rfl, by rw [← hLe.out]; exact hown.out, hk.out⟩
end Go.Proofs.YtekojglcbalhnaaGreatDoor
namespace Go.Proofs.YtekojglcbalhnaaGreatDoor
open Go.RowKit

set_option maxRecDepth 20000 in
set_option maxHeartbeats 2000000 in
theorem addV_56 {k n : Int} {f : Nat} {s : ByteArray} {A : Option Addr} {c ca : Nat} {B : Option Addr} {m cb : Nat} {w : World} {lim : Nat} {v : Value} {L0 I : List UInt8} (hk : k = 5 ∨ k = 6) (hmx : m ≤ 9223372036854775807)
    (hitems : ∀ (W : World) (v : Value), Keeps lim w W → Row5 W lim v (L0 ++ ([UInt8.ofNat k.toNat] ++ uintL m)) → Calls Tryz.prog 162 #[v, .slice A c ca, .slice B m cb, .func (.func 127) #[] #[]] W (AddsTo W lim ((L0 ++ ([UInt8.ofNat k.toNat] ++ uintL m)) ++ I)))
    (hv : Row5 w lim v L0) (hB : lim ≤ w.heap.size) (hL0 : L0.length ≤ 900000000) :
    Calls Tryz.prog 127 #[v, .agg (fields k n f s A c ca B m cb)] w (AddsTo w lim (L0 ++ (([UInt8.ofNat k.toNat] ++ uintL m) ++ I))) := by
  have HK := box_keeps (w := w) (a0 := .int .i64 k) (a1 := .int .i64 n) (a2 := .float .f64 f) (a3 := .string s) (a4 := .slice A c ca) (a5 := .slice B m cb) (B := lim)
  unfold fields at *
  obtain ⟨W0, hW0⟩ : ∃ W0, W0 = w.alloc (.cells #[.int .i64 k, .int .i64 n, .float .f64 f, .string s, .slice A c ca, .slice B m cb] 28) := ⟨_, rfl⟩
  have HK0 := Lib.hid (show Keeps lim w W0 by rw [hW0]; exact (Keeps.refl _ _).alloc _)
  have R : Hid (((L0 ++ ([UInt8.ofNat k.toNat] ++ uintL m)) ++ I) = L0 ++ (([UInt8.ofNat k.toNat] ++ uintL m) ++ I)) := Lib.hid (by simp)
  generalize L0 ++ (([UInt8.ofNat k.toNat] ++ uintL m) ++ I) = LF at *
  obtain ⟨b, hb⟩ : ∃ b, b = UInt8.ofNat k.toNat := ⟨_, rfl⟩
  have hkb : k = ((UInt8.ofNat k.toNat).toNat : Int) := by rcases hk with rfl | rfl <;> decide
  rw [← hb] at hkb R hitems
  have E2 : IntKind.u8.wrap k = k := by rw [IntKind.wrap_u8]; omega
  have HKB := Lib.hid hkb
  obtain ⟨L1, hL1⟩ : ∃ L1, L1 = L0 ++ [b] := ⟨_, rfl⟩
  have hlen : L1.length ≤ 1000000000 := by rw [hL1]; simp; omega
  have HE := Lib.hid (show L0 ++ ([b] ++ uintL m) = L1 ++ uintL m by rw [hL1]; simp)
  rw [HE.out] at hitems R
  obtain ⟨L2, hL2⟩ : ∃ L2, L2 = L1 ++ uintL m := ⟨_, rfl⟩
  rw [← hL2] at hitems R
  have HL2 := Lib.hid hL2
  have HL1 := Lib.hid hL1
  have HV := Lib.hid hv
  have HI := Lib.hid hitems
  have t1 : (k == 1) = false := by simp; omega
  have t2 : (k == 2) = false := by simp; omega
  have t3 : (k == 3) = false := by simp; omega
  have t4 : (k == 4) = false := by simp; omega
  rw [← hW0] at HK
  clear hv hL1 hL2 hk hkb hb hitems
  go_enter Tryz.func127, Tryz.ntmps127
  go_wp2_with (at_builtin; refine wpList_byte (B := lim) rfl (.tmp 5) (.tmp 9) rfl v L0 k b rfl ((HV.out.alloc _).alloc _) (by simp; omega) (by omega) ⟨w.heap.size + 1, 0, none⟩ rfl byte_new1 HKB.out ?_; intro v1 w1 hr1 hk1; refine Hid.out ?_)
  refine Lib.hid ?_
  rw [← hW0] at hk1
  rw [← HL1.out] at hr1
  have HR1 := Lib.hid hr1
  have HK1 := Lib.hid (show Keeps lim W0 w1 from ((Keeps.refl _ _).alloc _).trans hk1)
  obtain ⟨q0, q1, q2, q3, q4, q5⟩ := HK.out w1 HK1.out
  have hB1 : lim ≤ w1.heap.size := Nat.le_trans hB (HK0.out.trans HK1.out).size
  have hC := addUint_any (n := m) (by omega) hr1 hB1 hlen
  rw [← HL2.out] at hC
  have HC := Lib.hid hC
  obtain ⟨A1, cap1, rfl⟩ := hr1.slice
  clear hr1 hk1 hW0 hC
  go_wp2_with (go_at_call 102; refine HC.out.mono ?_; rintro e w2 ⟨v2, rfl, hr2, hk2⟩; have HR2 := Lib.hid hr2; have HK2 := Lib.hid hk2; clear hr2 hk2; refine Hid.out ?_)
  refine Lib.hid ?_
  clear q0 q1 q2 q3 q4 q5
  obtain ⟨q0, q1, q2, q3, q4, q5⟩ := HK.out w2 (HK1.out.trans HK2.out)
  have HKA := Lib.hid (HK0.out.trans (HK1.out.trans HK2.out))
  have HD := Lib.hid (HI.out w2 _ HKA.out HR2.out)
  obtain ⟨A2, cap2, rfl⟩ := HR2.out.slice
  go_wp2_with (go_at_call 162; refine HD.out.mono ?_; rintro e w3 ⟨v3, rfl, hr3, hk3⟩; have HR3 := Lib.hid hr3; have HK3 := Lib.hid hk3; clear hr3 hk3)
  go_ret
  exact ⟨_, rfl, by rw [← R.out]; exact HR3.out, HKA.out.trans HK3.out⟩
/-- A value's bytes, as a list. -/
def valL (t : VT) : List UInt8 := (valB t).data.toList
theorem valL_plain {k n : Int} {f : Nat} {s : ByteArray} {c : Nat} {ns : Nat → ByteArray} {m : Nat} {xs : Nat → VT} (h : k = 1 ∨ k = 2 ∨ k = 3 ∨ k = 4) : valL (.mk k n f s c ns m xs) = plainL k n f s := by
  unfold valL
  rw [valB, if_pos h, ← plainL_eq, lst_str]
theorem valL_items {k n : Int} {f : Nat} {s : ByteArray} {c : Nat} {ns : Nat → ByteArray} {m : Nat} {xs : Nat → VT} (h : ¬ (k = 1 ∨ k = 2 ∨ k = 3 ∨ k = 4)) : valL (.mk k n f s c ns m xs) = ([UInt8.ofNat k.toNat] ++ uintL m) ++ itL (decide (k = 6)) (nz k ns) (fun i => valL (xs i)) m := by
  unfold valL
  rw [valB, if_neg h, joinC_lst]
  congr 1
theorem itL_false {ns ns' : Nat → ByteArray} {G : Nat → List UInt8} : ∀ m, itL false ns G m = itL false ns' G m := by
  intro m
  induction m with
  | zero => rfl
  | succ m ih => rw [itL, itL, ih]; simp
theorem addValue_any : ∀ (t : VT) (v : Array Value) (w : World) (lim : Nat) (u : Value) (L0 : List UInt8), Val w lim v t → (∃ a, rightV t a = true) → Row5 w lim u L0 → lim ≤ w.heap.size → (L0 ++ valL t).length ≤ 900000000 →
    Calls Tryz.prog 127 #[u, .agg v] w (AddsTo w lim (L0 ++ valL t)) := by
  intro t
  induction t with
  | bad => intro v w lim u L0 hv; cases hv
  | mk k n f s c ns m xs ih =>
    intro v w lim u L0 hv hr hu hl hlen
    obtain ⟨a, hr⟩ := hr
    rw [rightV, Bool.and_eq_true] at hr
    obtain ⟨_, hr⟩ := hr
    cases hv with
    | mk _ _ _ _ A _ ca B _ cb _ _ vs hk hn hf hs hc hm hns hB hxs =>
      have hmx : m ≤ 9223372036854775807 := by have := hm; unfold maxLen at this; omega
      have hcx : c ≤ 9223372036854775807 := by have := hc; unfold maxLen at this; omega
      have hL0 : L0.length ≤ 900000000 := by rw [List.length_append] at hlen; omega
      by_cases h56 : k = 5 ∨ k = 6
      · rw [if_pos h56, Bool.and_eq_true] at hr
        obtain ⟨hh, hall⟩ := hr
        have hitem : ∀ i, i < m → rightV (xs i) (a - 1) = true := fun i hi => List.all_eq_true.1 hall i (List.mem_range.2 hi)
        have ih' : ∀ i, i < m → ∀ (W : World) (v : Value) (L : List UInt8), Val W lim (vs i) (xs i) → Row5 W lim v L → lim ≤ W.heap.size → (L ++ valL (xs i)).length ≤ 900000000 → Calls Tryz.prog 127 #[v, .agg (vs i)] W (AddsTo W lim (L ++ valL (xs i))) := fun i hi W v L hv hr hl hL => ih i (vs i) W lim v L hv ⟨_, hitem i hi⟩ hr hl hL
        rw [valL_items (by omega)] at hlen ⊢
        have hlen2 : ((L0 ++ ([UInt8.ofNat k.toNat] ++ uintL m)) ++ itL (decide (k = 6)) (nz k ns) (fun i => valL (xs i)) m).length ≤ 900000000 := by
          rw [List.append_assoc]; exact hlen
        refine addV_56 h56 hmx (fun W v hW hR => ?_) hu hl hL0
        have hbW : Below lim w W := hW.below hl
        have hBW : 0 < m → ∃ g o, B = some ⟨g, o, none⟩ ∧ g < lim ∧ ∀ i, i < m → SixAt W g (o + i * 6) (vs i) := fun h0 => by
          obtain ⟨g, o, e, hg, hx⟩ := hB h0
          exact ⟨g, o, e, hg, fun i hi => (hx i hi).keep fun o => hbW.cell (p := ⟨g, o, none⟩) hg⟩
        have hxW : ∀ i, i < m → Val W lim (vs i) (xs i) := fun i hi => (hxs i hi).stay hbW
        have hlW : lim ≤ W.heap.size := Nat.le_trans hl hW.size
        rcases h56 with rfl | rfl
        · have hc0 : c = 0 := by unfold headB at hh; simp at hh; omega
          subst hc0
          exact items_un hBW hxW hmx ih' hR hlW hlen2
        · have hcm : c = m := by unfold headB at hh; simp at hh; omega
          subst hcm
          rw [nz_6] at hlen2 ⊢
          by_cases h0 : 0 < c
          · exact items_named (strs_keep hns hbW) (Nat.le_refl _) hcx h0 hBW hxW ih' hR hlW hlen2
          · obtain rfl : c = 0 := by omega
            exact items_un (ns := ns) hBW hxW hmx ih' hR hlW hlen2
      · rw [if_neg h56] at hr
        unfold plainB at hr
        by_cases k1 : k = 1
        · subst k1
          rw [if_pos rfl] at hr
          rw [valL_plain (by omega)]
          exact addV_1 (by simp at hr; omega) hu hl hL0
        rw [if_neg k1] at hr
        by_cases k2 : k = 2
        · subst k2
          rw [valL_plain (by omega)]
          exact addV_2 hn hu hl hL0
        rw [if_neg k2] at hr
        by_cases k3 : k = 3
        · subst k3
          rw [valL_plain (by omega)]
          exact addV_3 hu hl hL0
        rw [if_neg k3] at hr
        by_cases k4 : k = 4
        · subst k4
          rw [valL_plain (by omega)]
          rw [if_pos rfl] at hr
          simp at hr
          exact addV_4 (by omega) hu hl hL0
        rw [if_neg k4] at hr
        exact absurd hr (by decide)
/-- A right value takes few bytes. -/
theorem valL_few {t : VT} {v : Array Value} {w : World} {lim : Nat} (hv : Val w lim v t) (hr : ∃ a, rightV t a = true) (ht : tot t ≤ 200) : (valL t).length ≤ 130000 := by
  obtain ⟨a, hr⟩ := hr
  have h1 := wt_right t a hr
  have h2 := valB_size t v w lim hv (by omega)
  have e : (valL t).length = (valB t).size := by unfold valL; rw [Array.length_toList]; rfl
  omega
theorem ok_tot {t : VT} {v : Array Value} {w : World} {lim : Nat} (hv : Val w lim v t) (h : okV t = true) : tot t ≤ 200 ∧ rightV t 12 = true := by
  have hcnt := cnt_tot hv 0 (by omega) (by omega)
  unfold okV at h
  rw [hcnt, Bool.and_eq_true] at h
  have := of_decide_eq_true h.1
  exact ⟨by omega, h.2⟩
theorem valL_pos (t : VT) (h : ∃ a, rightV t a = true) : 0 < (valL t).length := by
  cases t with
  | bad => obtain ⟨a, h⟩ := h; rw [rightV] at h; exact absurd h (by decide)
  | mk k n f s c ns m xs =>
    by_cases h : k = 1 ∨ k = 2 ∨ k = 3 ∨ k = 4
    · rw [valL_plain h]; simp [plainL]
    · rw [valL_items h]; simp
/-- What Value answers: the bytes of a right value; of others none, and an error. -/
def wrV (t : VT) : Value := if okV t = true then .tuple #[.string (valB t), .int .i64 0] else .tuple #[.string ⟨#[]⟩, .int .i64 5]
set_option maxRecDepth 20000 in
set_option maxHeartbeats 1000000 in
theorem Value_f {t : VT} {v : Array Value} {w : World} (hv : Val w w.heap.size v t) : Calls Tryz.prog 104 #[.agg v] w fun e w' => e = .returned (wrV t) ∧ Below w.heap.size w w' := by
  have hbW : Below w.heap.size w (w.alloc (.cells v 28)) := (Below.refl _ _).alloc (Nat.le_refl _) _
  have hvW := hv.stay hbW
  have P := right_f (hvW.mono hbW.size)
  have A0 := Lib.hid fun (hr : okV t = true) (W : World) (hW : Below (w.alloc (.cells v 28)).heap.size (w.alloc (.cells v 28)) W) => addValue_any t v W w.heap.size _ [] (hvW.stay (hW.mono hbW.size)) ⟨12, (ok_tot hv hr).2⟩ (Row5.nil W _) (Nat.le_trans hbW.size hW.size) (by have := valL_few hv ⟨12, (ok_tot hv hr).2⟩ (ok_tot hv hr).1; simp; omega)
  have HP := Lib.hid fun (hr : okV t = true) => valL_pos t ⟨12, (ok_tot hv hr).2⟩
  obtain ⟨a0, a1, a2, a3, a4, a5, rfl⟩ := hv.six
  have HK := box_stays (w := w) (a0 := a0) (a1 := a1) (a2 := a2) (a3 := a3) (a4 := a4) (a5 := a5) (t := 28)
  have HS : Hid (strL (valL t) = valB t) := Lib.hid (str_lst _)
  unfold wrV
  generalize valB t = bs at *
  generalize valL t = L at *
  cases ho : okV t with
  | false =>
    rw [ho] at P
    rw [if_neg (by decide)]
    clear hv hvW A0 HP ho
    go_enter Tryz.func104, Tryz.ntmps104
    go_wp2_with (go_at_call 126; refine P.mono ?_; rintro e w1 ⟨rfl, hb1⟩)
    go_ret2
    exact ⟨rfl, hbW.trans (hb1.mono hbW.size)⟩
  | true =>
    rw [ho] at P
    rw [if_pos rfl]
    have A1 := Lib.hid (A0.out ho)
    have HP1 := Lib.hid (HP.out ho)
    clear hv hvW A0 HP ho
    go_enter Tryz.func104, Tryz.ntmps104
    go_wp2_with (first | (go_at_call 126; refine P.mono ?_; rintro e w1 ⟨rfl, hb1⟩; obtain ⟨q0, q1, q2, q3, q4, q5⟩ := HK.out w1 hb1; have HC := Lib.hid (A1.out w1 hb1)) | (go_at_call 127; refine HC.out.mono ?_; rintro e w2 ⟨v2, rfl, hr2, hk2⟩; have hcv := conv_row hr2 HP1.out; have HK2 := Lib.hid (hk2.below (Nat.le_trans hbW.size hb1.size)); clear hr2 hk2))
    go_ret2
    exact ⟨by rw [← HS.out]; rfl, (hbW.trans (hb1.mono hbW.size)).trans HK2.out⟩
end Go.Proofs.YtekojglcbalhnaaGreatDoor

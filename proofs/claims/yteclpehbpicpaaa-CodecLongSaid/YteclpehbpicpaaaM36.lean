/-
  Contracts of the program's appendItems of types, appendType, and Type.
  Plain facts on types as bytes: each has one way.
-/
import Derived.Test.YteclpehbpicpaaaM15
import Derived.Test.YteclpehbpicpaaaM35
import Derived.Test.YteclpehbpicpaaaM23
import Derived.Test.YteclpehbpicpaaaM34
namespace Go.Proofs.Yteclpehbpicpaaa
open Go.RowKit

theorem box3_keeps {w : World} {a0 a1 a2 : Value} {B : Nat} : Hid (∀ w', Keeps B (w.alloc (.cells #[a0, a1, a2] 30)) w' →
    w'.cell? ⟨w.heap.size, 0, none⟩ = some a0 ∧ w'.cell? ⟨w.heap.size, 1, none⟩ = some a1 ∧ w'.cell? ⟨w.heap.size, 2, none⟩ = some a2) := Lib.hid fun w' hb => by
  have hn := heap_alloc_new w (.cells #[a0, a1, a2] 30)
  have K := fun o => World.cell?_of_block (a := ⟨w.heap.size, o, none⟩) (hb.block w.heap.size (by simp) (.inr fun cur e => by
    rw [hn] at e
    injection e with e
    injection e with _ e2 _
    exact absurd e2 (by decide)))
  refine ⟨?_, ?_, ?_⟩ <;> (rw [K, World.cell?_alloc_new]; rfl)
set_option maxRecDepth 20000 in
set_option maxHeartbeats 2000000 in
theorem titems_un {A : Option Addr} {ca : Nat} {B : Option Addr} {m cb : Nat} {w : World} {lim : Nat} {v : Value} {L0 : List UInt8} {ns : Nat → ByteArray} {vs : Nat → Array Value} {xs : Nat → TT} {G : Nat → List UInt8}
    (hB : 0 < m → ∃ g o, B = some ⟨g, o, none⟩ ∧ g < lim ∧ ∀ i, i < m → ThreeAt w g (o + i * 3) (vs i)) (hxs : ∀ i, i < m → TVal w lim (vs i) (xs i)) (hmx : m ≤ 9223372036854775807)
    (hitem : ∀ i, i < m → ∀ (W : World) (v : Value) (L : List UInt8), TVal W lim (vs i) (xs i) → Row5 W lim v L → lim ≤ W.heap.size → (L ++ G i).length ≤ 900000000 → Calls Try.prog 44 #[v, .agg (vs i)] W (AddsTo W lim (L ++ G i)))
    (hv : Row5 w lim v L0) (hl : lim ≤ w.heap.size) (hL : (L0 ++ itL false ns G m).length ≤ 900000000) :
    Calls Try.prog 78 #[v, .slice A 0 ca, .slice B m cb, .func (.func 44) #[] #[]] w (AddsTo w lim (L0 ++ itL false ns G m)) := by
  have HV := Lib.hid hv
  clear hv
  go_enter Try.func78, Try.ntmps78
  go_wp2_with fail
  go_loopw [0, 13] (fun v iv wr => ∃ (i : Nat) (A' : Option Addr) (cap : Nat) (L : List UInt8), i ≤ m ∧ iv = .int .i64 i ∧ v = .slice A' L.length cap ∧ Hid (L = L0 ++ itL false ns G i) ∧ Hid (Row5 wr lim (.slice A' L.length cap) L) ∧ Hid (Keeps lim w wr)) (fun _ iv _ => m - (intOf iv).toNat)
  case atStart =>
    obtain ⟨A', cap, rfl⟩ := HV.out.slice
    exact ⟨0, A', cap, L0, Nat.zero_le _, rfl, rfl, Lib.hid (by simp [itL]), HV, Lib.hid (Keeps.refl _ _)⟩
  case round =>
    obtain ⟨i, A', cap, L, hi, rfl, rfl, hLe, hown, hk⟩ := hrel
    by_cases hlt : i < m
    · obtain ⟨g, o, rfl, hg, hx⟩ := hB (by omega)
      have hbW : Below lim w wr := hk.out.below hl
      have hsz := hk.out.size
      have hsix := (hx i hlt).keep (w' := wr) fun o => hbW.cell (p := ⟨g, o, none⟩) hg
      have hN : Hid (L ++ G i = L0 ++ itL false ns G (i + 1)) := Lib.hid (by rw [hLe.out, itL]; simp)
      have hlen : (L ++ G i).length ≤ 900000000 := by
        rw [hN.out]
        have := itL_mono (nm := false) (ns := ns) (G := G) (show i + 1 ≤ m by omega)
        rw [List.length_append] at hL ⊢
        omega
      have hcall := Lib.hid fun (x : Obj) => hitem i hlt (wr.alloc x) _ L ((hxs i hlt).stay (hbW.alloc (by omega) x)) (hown.out.alloc x) (by simp; omega) hlen
      obtain ⟨b0, b4, b5, b6, b7, b8, b9, hv0⟩ := (hxs i hlt).four
      rw [hv0] at hsix hcall
      obtain ⟨e0, e1, e2⟩ := hsix.cells
      clear hv0 hsix hx hB hxs hitem hL hlen hbW hLe
      go_wp2_with (go_at_call 44; refine (hcall.out _).mono ?_; rintro e w3 ⟨v3, rfl, hr3, hk3⟩; have HR3 := Lib.hid hr3; have HK3 := Lib.hid hk3; clear hr3 hk3)
      obtain ⟨A3, cap3, rfl⟩ := HR3.out.slice
      go_roundw
      case rel => exact ⟨i + 1, A3, cap3, _, by omega, by go_num, rfl, hN, HR3, Lib.hid (hk.out.trans (((Keeps.refl _ _).alloc _).trans HK3.out))⟩
      case measure => simp [intOf]; omega
    · obtain rfl : i = m := by omega
      clear hB hxs hitem
      go_wp2_with fail
      go_ret
      exact ⟨_, rfl, by rw [← hLe.out]; exact hown.out, hk.out⟩
set_option maxRecDepth 20000 in
set_option maxHeartbeats 2000000 in
theorem titems_named {A : Option Addr} {c ca : Nat} {B : Option Addr} {m cb : Nat} {w : World} {lim : Nat} {v : Value} {L0 : List UInt8} {ns : Nat → ByteArray} {vs : Nat → Array Value} {xs : Nat → TT} {G : Nat → List UInt8}
    (hns : Strs w lim A c ns) (hcm : m ≤ c) (hcx : c ≤ 9223372036854775807) (hc0 : 0 < c)
    (hB : 0 < m → ∃ g o, B = some ⟨g, o, none⟩ ∧ g < lim ∧ ∀ i, i < m → ThreeAt w g (o + i * 3) (vs i)) (hxs : ∀ i, i < m → TVal w lim (vs i) (xs i))
    (hitem : ∀ i, i < m → ∀ (W : World) (v : Value) (L : List UInt8), TVal W lim (vs i) (xs i) → Row5 W lim v L → lim ≤ W.heap.size → (L ++ G i).length ≤ 900000000 → Calls Try.prog 44 #[v, .agg (vs i)] W (AddsTo W lim (L ++ G i)))
    (hv : Row5 w lim v L0) (hl : lim ≤ w.heap.size) (hL : (L0 ++ itL true ns G m).length ≤ 900000000) :
    Calls Try.prog 78 #[v, .slice A c ca, .slice B m cb, .func (.func 44) #[] #[]] w (AddsTo w lim (L0 ++ itL true ns G m)) := by
  have HV := Lib.hid hv
  obtain ⟨gn, on, rfl, hgn, hnx⟩ := hns hc0
  clear hv hns
  go_enter Try.func78, Try.ntmps78
  go_wp2_with fail
  go_loopw [0, 13] (fun v iv wr => ∃ (i : Nat) (A' : Option Addr) (cap : Nat) (L : List UInt8), i ≤ m ∧ iv = .int .i64 i ∧ v = .slice A' L.length cap ∧ Hid (L = L0 ++ itL true ns G i) ∧ Hid (Row5 wr lim (.slice A' L.length cap) L) ∧ Hid (Keeps lim w wr)) (fun _ iv _ => m - (intOf iv).toNat)
  case atStart =>
    obtain ⟨A', cap, rfl⟩ := HV.out.slice
    exact ⟨0, A', cap, L0, Nat.zero_le _, rfl, rfl, Lib.hid (by simp [itL]), HV, Lib.hid (Keeps.refl _ _)⟩
  case round =>
    obtain ⟨i, A', cap, L, hi, rfl, rfl, hLe, hown, hk⟩ := hrel
    by_cases hlt : i < m
    · obtain ⟨g, o, rfl, hg, hx⟩ := hB (by omega)
      have hbW : Below lim w wr := hk.out.below hl
      have hsz := hk.out.size
      have hsix := (hx i hlt).keep (w' := wr) fun o => hbW.cell (p := ⟨g, o, none⟩) hg
      have hnm : ∀ x, (wr.alloc x).cell? ⟨gn, on + i, none⟩ = some (.string (ns i)) := fun x => ((hbW.alloc (by omega) x).cell (p := ⟨gn, on + i, none⟩) hgn).trans (hnx i (by omega)).1
      have hN : Hid ((L ++ strBL (ns i)) ++ G i = L0 ++ itL true ns G (i + 1)) := Lib.hid (by rw [hLe.out, itL, if_pos rfl]; simp)
      have hlen : ((L ++ strBL (ns i)) ++ G i).length ≤ 900000000 := by
        rw [hN.out]
        have := itL_mono (nm := true) (ns := ns) (G := G) (show i + 1 ≤ m by omega)
        rw [List.length_append] at hL ⊢
        omega
      have hlen1 : L.length ≤ 900000000 ∧ (ns i).size ≤ 900000000 := by
        have := strBL_len (ns i)
        rw [List.length_append, List.length_append] at hlen
        omega
      obtain ⟨b0, b4, b5, b6, b7, b8, b9, hv0⟩ := (hxs i hlt).four
      have hstr := Lib.hid fun (x : Obj) => addStr_any (t := ns i) (by omega) (hown.out.alloc x) (show lim ≤ (wr.alloc x).heap.size by simp; omega) (show L.length ≤ 1000000000 by omega)
      have hcall := Lib.hid fun (W : World) (hW : Keeps lim wr W) (v : Value) (h : Row5 W lim v (L ++ strBL (ns i))) => hitem i hlt W v (L ++ strBL (ns i)) ((hxs i hlt).stay (hbW.trans (hW.below (by omega)))) h (by have := hW.size; omega) hlen
      rw [hv0] at hsix hcall
      obtain ⟨e0, e1, e2⟩ := hsix.cells
      have HK := box3_keeps (w := wr) (a0 := .int .i64 b0) (a1 := .slice b4 b5 b6) (a2 := .slice b7 b8 b9) (B := lim)
      have HNM := Lib.hid hnm
      have hnm1 := hnm (.cells #[.int .i64 b0, .slice b4 b5 b6, .slice b7 b8 b9] 30)
      generalize hM : L ++ strBL (ns i) = M at *

      clear hv0 hsix hx hB hxs hitem hL hlen hbW hLe hlen1 hM hnm
      go_wp2_with (first | (go_at_call 73; refine (hstr.out _).mono ?_; rintro e w2 ⟨v2, rfl, hr2, hk2⟩; have HR2 := Lib.hid hr2; have HK2 := Lib.hid hk2; clear hr2 hk2; obtain ⟨q0, q1, q2⟩ := HK.out _ HK2.out; refine Hid.out ?_) )
      refine Lib.hid ?_
      obtain ⟨A2, cap2, rfl⟩ := HR2.out.slice
      have HC := Lib.hid (hcall.out _ (((Keeps.refl _ _).alloc _).trans HK2.out) _ HR2.out)
      go_wp2_with (go_at_call 44; refine HC.out.mono ?_; rintro e w3 ⟨v3, rfl, hr3, hk3⟩; have HR3 := Lib.hid hr3; have HK3 := Lib.hid hk3; clear hr3 hk3)
      obtain ⟨A3, cap3, rfl⟩ := HR3.out.slice
      go_roundw
      case rel => exact ⟨i + 1, A3, cap3, _, by omega, by go_num, rfl, hN, HR3, Lib.hid (hk.out.trans ((((Keeps.refl _ _).alloc _).trans HK2.out).trans HK3.out))⟩
      case measure => simp [intOf]; omega
    · obtain rfl : i = m := by omega
      clear hB hxs hitem
      go_wp2_with fail
      go_ret
      exact ⟨_, rfl, by rw [← hLe.out]; exact hown.out, hk.out⟩
set_option maxRecDepth 20000 in
set_option maxHeartbeats 2000000 in
theorem addT_no6 {k : Int} {A : Option Addr} {c ca : Nat} {B : Option Addr} {m cb : Nat} {w : World} {lim : Nat} {v : Value} {L0 I : List UInt8} (hk : 1 ≤ k ∧ k ≤ 7) (h6 : k ≠ 6)
    (hitems : ∀ (W : World) (v : Value), Keeps lim w W → Row5 W lim v (L0 ++ [UInt8.ofNat k.toNat]) → Calls Try.prog 78 #[v, .slice A c ca, .slice B m cb, .func (.func 44) #[] #[]] W (AddsTo W lim ((L0 ++ [UInt8.ofNat k.toNat]) ++ I)))
    (hv : Row5 w lim v L0) (hB : lim ≤ w.heap.size) (hL0 : L0.length ≤ 900000000) :
    Calls Try.prog 44 #[v, .agg (tfields k A c ca B m cb)] w (AddsTo w lim (L0 ++ ([UInt8.ofNat k.toNat] ++ I))) := by
  have HK := box3_keeps (w := w) (a0 := .int .i64 k) (a1 := .slice A c ca) (a2 := .slice B m cb) (B := lim)
  unfold tfields at *
  obtain ⟨W0, hW0⟩ : ∃ W0, W0 = w.alloc (.cells #[.int .i64 k, .slice A c ca, .slice B m cb] 30) := ⟨_, rfl⟩
  have HK0 := Lib.hid (show Keeps lim w W0 by rw [hW0]; exact (Keeps.refl _ _).alloc _)
  have R : Hid (((L0 ++ [UInt8.ofNat k.toNat]) ++ I) = L0 ++ ([UInt8.ofNat k.toNat] ++ I)) := Lib.hid (by simp)
  generalize L0 ++ ([UInt8.ofNat k.toNat] ++ I) = LF at *
  obtain ⟨b, hb⟩ : ∃ b, b = UInt8.ofNat k.toNat := ⟨_, rfl⟩
  have hkb : k = ((UInt8.ofNat k.toNat).toNat : Int) := by simp; omega
  rw [← hb] at hkb R hitems
  have E2 : IntKind.u8.wrap k = k := by rw [IntKind.wrap_u8]; omega
  have HKB := Lib.hid hkb
  obtain ⟨L1, hL1⟩ : ∃ L1, L1 = L0 ++ [b] := ⟨_, rfl⟩
  rw [← hL1] at hitems R
  have HL1 := Lib.hid hL1
  have HV := Lib.hid hv
  have HI := Lib.hid hitems
  have t6 : (k == 6) = false := by simpa using h6
  rw [← hW0] at HK
  clear hv hL1 hk hkb hb hitems h6
  go_enter Try.func44, Try.ntmps44
  go_wp2_with (at_builtin; refine wpList_byte (B := lim) rfl (.tmp 5) (.tmp 9) rfl v L0 k b rfl ((HV.out.alloc _).alloc _) (by simp; omega) (by omega) ⟨w.heap.size + 1, 0, none⟩ rfl byte_new1 HKB.out ?_; intro v1 w1 hr1 hk1; refine Hid.out ?_)
  refine Lib.hid ?_
  rw [← hW0] at hk1
  rw [← HL1.out] at hr1
  have HR1 := Lib.hid hr1
  have HK1 := Lib.hid (show Keeps lim W0 w1 from ((Keeps.refl _ _).alloc _).trans hk1)
  obtain ⟨q0, q1, q2⟩ := HK.out w1 HK1.out
  have HKA := Lib.hid (HK0.out.trans HK1.out)
  have HD := Lib.hid (HI.out w1 _ HKA.out HR1.out)
  obtain ⟨A1, cap1, rfl⟩ := hr1.slice
  clear hr1 hk1 hW0
  go_wp2_with (go_at_call 78; refine HD.out.mono ?_; rintro e w3 ⟨v3, rfl, hr3, hk3⟩; have HR3 := Lib.hid hr3; have HK3 := Lib.hid hk3; clear hr3 hk3)
  go_ret
  exact ⟨_, rfl, by rw [← R.out]; exact HR3.out, HKA.out.trans HK3.out⟩
set_option maxRecDepth 20000 in
set_option maxHeartbeats 2000000 in
theorem addT_6 {A : Option Addr} {c ca : Nat} {B : Option Addr} {m cb : Nat} {w : World} {lim : Nat} {v : Value} {L0 I : List UInt8} (hmx : m ≤ 9223372036854775807)
    (hitems : ∀ (W : World) (v : Value), Keeps lim w W → Row5 W lim v (L0 ++ ([UInt8.ofNat 6] ++ uintL m)) → Calls Try.prog 78 #[v, .slice A c ca, .slice B m cb, .func (.func 44) #[] #[]] W (AddsTo W lim ((L0 ++ ([UInt8.ofNat 6] ++ uintL m)) ++ I)))
    (hv : Row5 w lim v L0) (hB : lim ≤ w.heap.size) (hL0 : L0.length ≤ 900000000) :
    Calls Try.prog 44 #[v, .agg (tfields 6 A c ca B m cb)] w (AddsTo w lim (L0 ++ (([UInt8.ofNat 6] ++ uintL m) ++ I))) := by
  have HK := box3_keeps (w := w) (a0 := .int .i64 6) (a1 := .slice A c ca) (a2 := .slice B m cb) (B := lim)
  unfold tfields at *
  obtain ⟨W0, hW0⟩ : ∃ W0, W0 = w.alloc (.cells #[.int .i64 6, .slice A c ca, .slice B m cb] 30) := ⟨_, rfl⟩
  have HK0 := Lib.hid (show Keeps lim w W0 by rw [hW0]; exact (Keeps.refl _ _).alloc _)
  have R : Hid (((L0 ++ ([UInt8.ofNat 6] ++ uintL m)) ++ I) = L0 ++ (([UInt8.ofNat 6] ++ uintL m) ++ I)) := Lib.hid (by simp)
  generalize L0 ++ (([UInt8.ofNat 6] ++ uintL m) ++ I) = LF at *
  obtain ⟨L1, hL1⟩ : ∃ L1, L1 = L0 ++ [UInt8.ofNat 6] := ⟨_, rfl⟩
  have hlen : L1.length ≤ 1000000000 := by rw [hL1]; simp; omega
  have HE := Lib.hid (show L0 ++ ([UInt8.ofNat 6] ++ uintL m) = L1 ++ uintL m by rw [hL1]; simp)
  rw [HE.out] at hitems R
  obtain ⟨L2, hL2⟩ : ∃ L2, L2 = L1 ++ uintL m := ⟨_, rfl⟩
  rw [← hL2] at hitems R
  have HL2 := Lib.hid hL2
  have HL1 := Lib.hid hL1
  have HV := Lib.hid hv
  have HI := Lib.hid hitems
  rw [← hW0] at HK
  clear hv hL1 hL2 hitems
  go_enter Try.func44, Try.ntmps44
  go_wp2_with (at_builtin; refine wpList_byte (B := lim) rfl (.tmp 5) (.tmp 9) rfl v L0 6 (UInt8.ofNat 6) rfl ((HV.out.alloc _).alloc _) (by simp; omega) (by omega) ⟨w.heap.size + 1, 0, none⟩ rfl byte_new1 rfl ?_; intro v1 w1 hr1 hk1; refine Hid.out ?_)
  refine Lib.hid ?_
  rw [← hW0] at hk1
  rw [← HL1.out] at hr1
  have HR1 := Lib.hid hr1
  have HK1 := Lib.hid (show Keeps lim W0 w1 from ((Keeps.refl _ _).alloc _).trans hk1)
  obtain ⟨q0, q1, q2⟩ := HK.out w1 HK1.out
  have hB1 : lim ≤ w1.heap.size := Nat.le_trans hB (HK0.out.trans HK1.out).size
  have hC := addUint_any (n := m) (by omega) hr1 hB1 hlen
  rw [← HL2.out] at hC
  have HC := Lib.hid hC
  obtain ⟨A1, cap1, rfl⟩ := hr1.slice
  clear hr1 hk1 hW0 hC
  go_wp2_with (go_at_call 49; refine HC.out.mono ?_; rintro e w2 ⟨v2, rfl, hr2, hk2⟩; have HR2 := Lib.hid hr2; have HK2 := Lib.hid hk2; clear hr2 hk2; refine Hid.out ?_)
  refine Lib.hid ?_
  clear q0 q1 q2
  obtain ⟨q0, q1, q2⟩ := HK.out w2 (HK1.out.trans HK2.out)
  have HKA := Lib.hid (HK0.out.trans (HK1.out.trans HK2.out))
  have HD := Lib.hid (HI.out w2 _ HKA.out HR2.out)
  obtain ⟨A2, cap2, rfl⟩ := HR2.out.slice
  go_wp2_with (go_at_call 78; refine HD.out.mono ?_; rintro e w3 ⟨v3, rfl, hr3, hk3⟩; have HR3 := Lib.hid hr3; have HK3 := Lib.hid hk3; clear hr3 hk3)
  go_ret
  exact ⟨_, rfl, by rw [← R.out]; exact HR3.out, HKA.out.trans HK3.out⟩
/-- A type's bytes, as a list. -/
def typL (t : TT) : List UInt8 := (typeB t).data.toList
theorem typL_mk {k : Int} {c : Nat} {ns : Nat → ByteArray} {m : Nat} {xs : Nat → TT} : typL (.mk k c ns m xs) = (if k = 6 then [UInt8.ofNat k.toNat] ++ uintL m else [UInt8.ofNat k.toNat]) ++ itL (decide (k = 6)) (nz k ns) (fun i => typL (xs i)) m := by
  unfold typL
  rw [typeB, joinC_lst]
  by_cases h : k = 6
  · rw [if_pos h, if_pos h]; congr 1
  · rw [if_neg h, if_neg h]; congr 1
theorem addType_any : ∀ (t : TT) (v : Array Value) (w : World) (lim : Nat) (u : Value) (L0 : List UInt8), TVal w lim v t → (∃ a, trightV t a = true) → Row5 w lim u L0 → lim ≤ w.heap.size → (L0 ++ typL t).length ≤ 900000000 →
    Calls Try.prog 44 #[u, .agg v] w (AddsTo w lim (L0 ++ typL t)) := by
  intro t
  induction t with
  | bad => intro v w lim u L0 hv; cases hv
  | mk k c ns m xs ih =>
    intro v w lim u L0 hv hr hu hl hlen
    obtain ⟨a, hr⟩ := hr
    cases hv with
    | mk _ A _ ca B _ cb _ _ vs hk hc hm hns hB hxs =>
      have hmx : m ≤ 9223372036854775807 := by have := hm; unfold maxLen at this; omega
      have hcx : c ≤ 9223372036854775807 := by have := hc; unfold maxLen at this; omega
      have hL0 : L0.length ≤ 900000000 := by rw [List.length_append] at hlen; omega
      have ha : 1 ≤ a := by
        by_cases h : 1 ≤ a
        · exact h
        · rw [trightV] at hr
          simp [h] at hr
      rw [tright_mk _ _ _ _ _ ha, Bool.and_eq_true] at hr
      obtain ⟨hh, hall⟩ := hr
      have hitem : ∀ i, i < m → trightV (xs i) (a - 1) = true := fun i hi => List.all_eq_true.1 hall i (List.mem_range.2 hi)
      have ih' : ∀ i, i < m → ∀ (W : World) (v : Value) (L : List UInt8), TVal W lim (vs i) (xs i) → Row5 W lim v L → lim ≤ W.heap.size → (L ++ typL (xs i)).length ≤ 900000000 → Calls Try.prog 44 #[v, .agg (vs i)] W (AddsTo W lim (L ++ typL (xs i))) := fun i hi W v L hv hr hl hL => ih i (vs i) W lim v L hv ⟨_, hitem i hi⟩ hr hl hL
      rw [typL_mk] at hlen ⊢
      have common : ∀ W, Keeps lim w W → (0 < m → ∃ g o, B = some ⟨g, o, none⟩ ∧ g < lim ∧ ∀ i, i < m → ThreeAt W g (o + i * 3) (vs i)) ∧ (∀ i, i < m → TVal W lim (vs i) (xs i)) ∧ lim ≤ W.heap.size ∧ Strs W lim A c ns := fun W hW => by
        have hbW : Below lim w W := hW.below hl
        refine ⟨fun h0 => ?_, fun i hi => (hxs i hi).stay hbW, Nat.le_trans hl hW.size, strs_keep hns hbW⟩
        obtain ⟨g, o, e, hg, hx⟩ := hB h0
        exact ⟨g, o, e, hg, fun i hi => (hx i hi).keep fun o => hbW.cell (p := ⟨g, o, none⟩) hg⟩
      by_cases h6 : k = 6
      · subst h6
        rw [if_pos rfl] at hlen ⊢
        have hlen2 : ((L0 ++ ([UInt8.ofNat 6] ++ uintL m)) ++ itL (decide ((6 : Int) = 6)) (nz 6 ns) (fun i => typL (xs i)) m).length ≤ 900000000 := by
          rw [List.append_assoc]; exact hlen
        refine addT_6 hmx (fun W v hW hR => ?_) hu hl hL0
        obtain ⟨hBW, hxW, hlW, hnW⟩ := common W hW
        have hcm : c = m := by unfold taloneB at hh; simp at hh; omega
        subst hcm
        rw [nz_6] at hlen2 ⊢
        by_cases h0 : 0 < c
        · exact titems_named hnW (Nat.le_refl _) hcx h0 hBW hxW ih' hR hlW hlen2
        · obtain rfl : c = 0 := by omega
          exact titems_un (ns := ns) hBW hxW hmx ih' hR hlW hlen2
      · have hk7 : 1 ≤ k ∧ k ≤ 7 ∧ c = 0 := by
          unfold taloneB at hh
          rw [if_neg h6] at hh
          split at hh <;> (simp at hh; omega)
        rw [if_neg h6] at hlen ⊢
        have hf : decide (k = 6) = false := decide_eq_false h6
        rw [hf] at hlen ⊢
        have hlen2 : ((L0 ++ [UInt8.ofNat k.toNat]) ++ itL false (nz k ns) (fun i => typL (xs i)) m).length ≤ 900000000 := by
          rw [List.append_assoc]; exact hlen
        obtain ⟨_, _, rfl⟩ := hk7
        refine addT_no6 (by omega) h6 (fun W v hW hR => ?_) hu hl hL0
        obtain ⟨hBW, hxW, hlW, hnW⟩ := common W hW
        exact titems_un hBW hxW hmx ih' hR hlW hlen2
end Go.Proofs.Yteclpehbpicpaaa
namespace Go.Proofs.Yteclpehbpicpaaa
open Go.RowKit

def catT : List (ByteArray × TT) → List UInt8
  | [] => []
  | x :: xs => (strBL x.1 ++ typL x.2) ++ catT xs
theorem suf_tlist (d : ByteArray × TT) : ∀ xs : List (ByteArray × TT), sufL true (fun i => (xs.getD i d).1) (fun i => typL (xs.getD i d).2) xs.length 0 = catT xs := by
  intro xs
  induction xs with
  | nil => rfl
  | cons x xs ih =>
    rw [List.length_cons, sufL, suf_shift, catT, ← ih, if_pos rfl]
    rfl
theorem typL_leaf {k : Nat} (h6 : k ≠ 6) : typL (tleaf k) = [UInt8.ofNat k] := by
  unfold tleaf
  rw [typL_mk, if_neg (by omega), itL]
  simp
theorem typL_list (t : TT) : typL (tlist t) = [5] ++ typL t := by
  unfold tlist
  rw [typL_mk, if_neg (by decide), itL, itL]
  simp
theorem typL_rec (xs : List (ByteArray × TT)) : typL (trec xs) = ([6] ++ uintL xs.length) ++ catT xs := by
  unfold trec
  rw [typL_mk, if_pos rfl, nz_6, ← suf_all, ← suf_tlist (⟨#[]⟩, .bad) xs]
  rfl
theorem titems_one {F : Nat → List UInt8 → Except Nat (TT × Nat × List UInt8)} (hF : ∀ p l t p' r, F p l = .ok (t, p', r) → l = typL t ++ r) :
    ∀ n p l xs p' r, titemsP F n p l = .ok (xs, p', r) → xs.length = n ∧ l = catT xs ++ r := by
  intro n
  induction n with
  | zero =>
    intro p l xs p' r h
    rw [titemsP] at h
    cases h
    exact ⟨rfl, rfl⟩
  | succ n ih =>
    intro p l xs p' r h
    rw [titemsP] at h
    cases hz : sP 30 l with
    | error c => rw [hz] at h; cases h
    | ok q =>
      obtain ⟨nm, l1⟩ := q
      rw [hz] at h
      dsimp only at h
      cases hf : F p l1 with
      | error c => rw [hf] at h; cases h
      | ok q =>
        obtain ⟨t, p1, l2⟩ := q
        rw [hf] at h
        dsimp only at h
        cases hi : titemsP F n p1 l2 with
        | error c => rw [hi] at h; cases h
        | ok q =>
          obtain ⟨xs2, p2, l3⟩ := q
          rw [hi] at h
          cases h
          obtain ⟨g3, g4⟩ := ih _ _ _ _ _ hi
          refine ⟨by rw [List.length_cons, g3], ?_⟩
          rw [catT, (S_one hz).1, hF _ _ _ _ _ hf, g4]
          unfold strBL
          simp
theorem t_one : ∀ (q p : Nat) (l : List UInt8) (t : TT) (p' : Nat) (r : List UInt8), tP q p l = .ok (t, p', r) → l = typL t ++ r := by
  intro q
  induction q with
  | zero => intro p l t p' r h; rw [tP] at h; cases h
  | succ q ih =>
    intro p l t p' r h
    cases l with
    | nil =>
      rw [tP_nil] at h
      by_cases h1 : 200 < p + 1
      · rw [if_pos h1] at h; cases h
      · rw [if_neg h1] at h; cases h
    | cons b l =>
      rw [tP_cons] at h
      by_cases h1 : 200 < p + 1
      · rw [if_pos h1] at h; cases h
      · rw [if_neg h1] at h
        by_cases h2 : b.toNat < 1 ∨ 7 < b.toNat
        · rw [if_pos h2] at h; cases h
        · rw [if_neg h2] at h
          by_cases h5 : b.toNat = 5
          · rw [if_pos h5] at h
            cases hp : tP q (p + 1) l with
            | error c => rw [hp] at h; cases h
            | ok z =>
              obtain ⟨t1, p1, r1⟩ := z
              rw [hp] at h
              cases h
              have hb : b = 5 := by rw [← ofNat_toNat8 b, h5]; rfl
              rw [typL_list, ih _ _ _ _ _ hp, hb]; rfl
          · rw [if_neg h5] at h
            by_cases h6 : b.toNat = 6
            · rw [if_pos h6] at h
              cases hm : mP l with
              | error c => rw [hm] at h; cases h
              | ok z =>
                obtain ⟨n, r1⟩ := z
                rw [hm] at h
                dsimp only at h
                cases hi : titemsP (tP q) n (p + 1) r1 with
                | error c => rw [hi] at h; cases h
                | ok z =>
                  obtain ⟨xs, p2, r2⟩ := z
                  rw [hi] at h
                  cases h
                  have hb : b = 6 := by rw [← ofNat_toNat8 b, h6]; rfl
                  obtain ⟨g1, g2⟩ := titems_one ih _ _ _ _ _ _ hi
                  unfold mP at hm
                  cases hu : uP 0 0 l with
                  | error c => rw [hu] at hm; cases hm
                  | ok z =>
                    obtain ⟨m, r0⟩ := z
                    rw [hu] at hm
                    dsimp only at hm
                    by_cases h9 : 200 < m
                    · rw [if_pos h9] at hm; cases hm
                    · rw [if_neg h9] at hm
                      cases hm
                      rw [typL_rec, g1, U_one hu, g2, hb]; simp
            · rw [if_neg h6] at h
              cases h
              rw [typL_leaf h6, ofNat_toNat8]; rfl
end Go.Proofs.Yteclpehbpicpaaa

/-
  Contracts of the program's appendValue, of any right value, and of Value.
-/
import Derived.Test.YtdmbfajhcihfgaaKe
import Derived.Test.YtdmbfajhcihfgaaPw
namespace Go.Proofs.Ytdmbfajhcihfgaa
open Go.RowKit

set_option maxRecDepth 20000 in
set_option maxHeartbeats 2000000 in
theorem addV_56 {k n : Int} {f : Nat} {s : ByteArray} {A : Option Addr} {c ca : Nat} {B : Option Addr} {m cb : Nat} {w : World} {lim : Nat} {v : Value} {L0 I : List UInt8} (hk : k = 5 ∨ k = 6) (hmx : m ≤ 9223372036854775807)
    (hitems : ∀ (W : World) (v : Value), Keeps lim w W → Row5 W lim v (L0 ++ ([UInt8.ofNat k.toNat] ++ uintL m)) → Calls Try.prog 65 #[v, .slice A c ca, .slice B m cb, .func (.func 36) #[] #[]] W (AddsTo W lim ((L0 ++ ([UInt8.ofNat k.toNat] ++ uintL m)) ++ I)))
    (hv : Row5 w lim v L0) (hB : lim ≤ w.heap.size) (hL0 : L0.length ≤ 900000000) :
    Calls Try.prog 36 #[v, .agg (fields k n f s A c ca B m cb)] w (AddsTo w lim (L0 ++ (([UInt8.ofNat k.toNat] ++ uintL m) ++ I))) := by
  have HK := box_keeps (w := w) (a0 := .int .i64 k) (a1 := .int .i64 n) (a2 := .float .f64 f) (a3 := .string s) (a4 := .slice A c ca) (a5 := .slice B m cb) (B := lim)
  unfold fields at *
  obtain ⟨W0, hW0⟩ : ∃ W0, W0 = w.alloc (.cells #[.int .i64 k, .int .i64 n, .float .f64 f, .string s, .slice A c ca, .slice B m cb] 27) := ⟨_, rfl⟩
  have HK0 := Lib.hid (show Keeps lim w W0 by rw [hW0]; exact (Keeps.refl _ _).alloc _)
  have R : Hid (((L0 ++ ([UInt8.ofNat k.toNat] ++ uintL m)) ++ I) = L0 ++ (([UInt8.ofNat k.toNat] ++ uintL m) ++ I)) := Lib.hid (by simp)
  generalize L0 ++ (([UInt8.ofNat k.toNat] ++ uintL m) ++ I) = LF at *
  obtain ⟨b, hb⟩ : ∃ b, b = UInt8.ofNat k.toNat := ⟨_, rfl⟩
  have hkb : k = ((UInt8.ofNat k.toNat).toNat : Int) := by rcases hk with rfl | rfl <;> decide
  rw [← hb] at hkb R hitems
  have E2 : IntKind.u8.wrap k = k := by rw [IntKind.wrap_u8]; omega
  have HKB := Lib.hid hkb
  obtain ⟨L1, hL1⟩ : ∃ L1, L1 = L0 ++ [b] := ⟨_, rfl⟩
  have hlen : L1.length ≤ 1000000000 := by rw [hL1]; simp; omega
  have HE := Lib.hid (show L0 ++ ([b] ++ uintL m) = L1 ++ uintL m by rw [hL1]; simp)
  rw [HE.out] at hitems R
  obtain ⟨L2, hL2⟩ : ∃ L2, L2 = L1 ++ uintL m := ⟨_, rfl⟩
  rw [← hL2] at hitems R
  have HL2 := Lib.hid hL2
  have HL1 := Lib.hid hL1
  have HV := Lib.hid hv
  have HI := Lib.hid hitems
  have t1 : (k == 1) = false := by simp; omega
  have t2 : (k == 2) = false := by simp; omega
  have t3 : (k == 3) = false := by simp; omega
  have t4 : (k == 4) = false := by simp; omega
  rw [← hW0] at HK
  clear hv hL1 hL2 hk hkb hb hitems
  go_enter Try.func36, Try.ntmps36
  go_wp2_with (at_builtin; refine wpList_byte (B := lim) rfl (.tmp 5) (.tmp 9) rfl v L0 k b rfl ((HV.out.alloc _).alloc _) (by simp; omega) (by omega) ⟨w.heap.size + 1, 0, none⟩ rfl byte_new1 HKB.out ?_; intro v1 w1 hr1 hk1; refine Hid.out ?_)
  refine Lib.hid ?_
  rw [← hW0] at hk1
  rw [← HL1.out] at hr1
  have HR1 := Lib.hid hr1
  have HK1 := Lib.hid (show Keeps lim W0 w1 from ((Keeps.refl _ _).alloc _).trans hk1)
  obtain ⟨q0, q1, q2, q3, q4, q5⟩ := HK.out w1 HK1.out
  have hB1 : lim ≤ w1.heap.size := Nat.le_trans hB (HK0.out.trans HK1.out).size
  have hC := addUint_any (n := m) (by omega) hr1 hB1 hlen
  rw [← HL2.out] at hC
  have HC := Lib.hid hC
  obtain ⟨A1, cap1, rfl⟩ := hr1.slice
  clear hr1 hk1 hW0 hC
  go_wp2_with (go_at_call 43; refine HC.out.mono ?_; rintro e w2 ⟨v2, rfl, hr2, hk2⟩; have HR2 := Lib.hid hr2; have HK2 := Lib.hid hk2; clear hr2 hk2; refine Hid.out ?_)
  refine Lib.hid ?_
  clear q0 q1 q2 q3 q4 q5
  obtain ⟨q0, q1, q2, q3, q4, q5⟩ := HK.out w2 (HK1.out.trans HK2.out)
  have HKA := Lib.hid (HK0.out.trans (HK1.out.trans HK2.out))
  have HD := Lib.hid (HI.out w2 _ HKA.out HR2.out)
  obtain ⟨A2, cap2, rfl⟩ := HR2.out.slice
  go_wp2_with (go_at_call 65; refine HD.out.mono ?_; rintro e w3 ⟨v3, rfl, hr3, hk3⟩; have HR3 := Lib.hid hr3; have HK3 := Lib.hid hk3; clear hr3 hk3)
  go_ret
  exact ⟨_, rfl, by rw [← R.out]; exact HR3.out, HKA.out.trans HK3.out⟩
/-- A value's bytes, as a list. -/
def valL (t : VT) : List UInt8 := (valB t).data.toList
theorem valL_plain {k n : Int} {f : Nat} {s : ByteArray} {c : Nat} {ns : Nat → ByteArray} {m : Nat} {xs : Nat → VT} (h : k = 1 ∨ k = 2 ∨ k = 3 ∨ k = 4) : valL (.mk k n f s c ns m xs) = plainL k n f s := by
  unfold valL
  rw [valB, if_pos h, ← plainL_eq, lst_str]
theorem valL_items {k n : Int} {f : Nat} {s : ByteArray} {c : Nat} {ns : Nat → ByteArray} {m : Nat} {xs : Nat → VT} (h : ¬ (k = 1 ∨ k = 2 ∨ k = 3 ∨ k = 4)) : valL (.mk k n f s c ns m xs) = ([UInt8.ofNat k.toNat] ++ uintL m) ++ itL (decide (k = 6)) (nz k ns) (fun i => valL (xs i)) m := by
  unfold valL
  rw [valB, if_neg h, joinC_lst]
  congr 1
theorem itL_false {ns ns' : Nat → ByteArray} {G : Nat → List UInt8} : ∀ m, itL false ns G m = itL false ns' G m := by
  intro m
  induction m with
  | zero => rfl
  | succ m ih => rw [itL, itL, ih]; simp
theorem addValue_any : ∀ (t : VT) (v : Array Value) (w : World) (lim : Nat) (u : Value) (L0 : List UInt8), Val w lim v t → (∃ a, rightV t a = true) → Row5 w lim u L0 → lim ≤ w.heap.size → (L0 ++ valL t).length ≤ 900000000 →
    Calls Try.prog 36 #[u, .agg v] w (AddsTo w lim (L0 ++ valL t)) := by
  intro t
  induction t with
  | bad => intro v w lim u L0 hv; cases hv
  | mk k n f s c ns m xs ih =>
    intro v w lim u L0 hv hr hu hl hlen
    obtain ⟨a, hr⟩ := hr
    rw [rightV, Bool.and_eq_true] at hr
    obtain ⟨_, hr⟩ := hr
    cases hv with
    | mk _ _ _ _ A _ ca B _ cb _ _ vs hk hn hf hs hc hm hns hB hxs =>
      have hmx : m ≤ 9223372036854775807 := by have := hm; unfold maxLen at this; omega
      have hcx : c ≤ 9223372036854775807 := by have := hc; unfold maxLen at this; omega
      have hL0 : L0.length ≤ 900000000 := by rw [List.length_append] at hlen; omega
      by_cases h56 : k = 5 ∨ k = 6
      · rw [if_pos h56, Bool.and_eq_true] at hr
        obtain ⟨hh, hall⟩ := hr
        have hitem : ∀ i, i < m → rightV (xs i) (a - 1) = true := fun i hi => List.all_eq_true.1 hall i (List.mem_range.2 hi)
        have ih' : ∀ i, i < m → ∀ (W : World) (v : Value) (L : List UInt8), Val W lim (vs i) (xs i) → Row5 W lim v L → lim ≤ W.heap.size → (L ++ valL (xs i)).length ≤ 900000000 → Calls Try.prog 36 #[v, .agg (vs i)] W (AddsTo W lim (L ++ valL (xs i))) := fun i hi W v L hv hr hl hL => ih i (vs i) W lim v L hv ⟨_, hitem i hi⟩ hr hl hL
        rw [valL_items (by omega)] at hlen ⊢
        have hlen2 : ((L0 ++ ([UInt8.ofNat k.toNat] ++ uintL m)) ++ itL (decide (k = 6)) (nz k ns) (fun i => valL (xs i)) m).length ≤ 900000000 := by
          rw [List.append_assoc]; exact hlen
        refine addV_56 h56 hmx (fun W v hW hR => ?_) hu hl hL0
        have hbW : Below lim w W := hW.below hl
        have hBW : 0 < m → ∃ g o, B = some ⟨g, o, none⟩ ∧ g < lim ∧ ∀ i, i < m → SixAt W g (o + i * 6) (vs i) := fun h0 => by
          obtain ⟨g, o, e, hg, hx⟩ := hB h0
          exact ⟨g, o, e, hg, fun i hi => (hx i hi).keep fun o => hbW.cell (p := ⟨g, o, none⟩) hg⟩
        have hxW : ∀ i, i < m → Val W lim (vs i) (xs i) := fun i hi => (hxs i hi).stay hbW
        have hlW : lim ≤ W.heap.size := Nat.le_trans hl hW.size
        rcases h56 with rfl | rfl
        · have hc0 : c = 0 := by unfold headB at hh; simp at hh; omega
          subst hc0
          exact items_un hBW hxW hmx ih' hR hlW hlen2
        · have hcm : c = m := by unfold headB at hh; simp at hh; omega
          subst hcm
          rw [nz_6] at hlen2 ⊢
          by_cases h0 : 0 < c
          · exact items_named (strs_keep hns hbW) (Nat.le_refl _) hcx h0 hBW hxW ih' hR hlW hlen2
          · obtain rfl : c = 0 := by omega
            exact items_un (ns := ns) hBW hxW hmx ih' hR hlW hlen2
      · rw [if_neg h56] at hr
        unfold plainB at hr
        by_cases k1 : k = 1
        · subst k1
          rw [if_pos rfl] at hr
          rw [valL_plain (by omega)]
          exact addV_1 (by simp at hr; omega) hu hl hL0
        rw [if_neg k1] at hr
        by_cases k2 : k = 2
        · subst k2
          rw [valL_plain (by omega)]
          exact addV_2 hn hu hl hL0
        rw [if_neg k2] at hr
        by_cases k3 : k = 3
        · subst k3
          rw [valL_plain (by omega)]
          exact addV_3 hu hl hL0
        rw [if_neg k3] at hr
        by_cases k4 : k = 4
        · subst k4
          rw [valL_plain (by omega)]
          rw [if_pos rfl] at hr
          simp at hr
          exact addV_4 (by omega) hu hl hL0
        rw [if_neg k4] at hr
        exact absurd hr (by decide)
/-- A right value takes few bytes. -/
theorem valL_few {t : VT} {v : Array Value} {w : World} {lim : Nat} (hv : Val w lim v t) (hr : ∃ a, rightV t a = true) (ht : tot t ≤ 200) : (valL t).length ≤ 130000 := by
  obtain ⟨a, hr⟩ := hr
  have h1 := wt_right t a hr
  have h2 := valB_size t v w lim hv (by omega)
  have e : (valL t).length = (valB t).size := by unfold valL; rw [Array.length_toList]; rfl
  omega
theorem ok_tot {t : VT} {v : Array Value} {w : World} {lim : Nat} (hv : Val w lim v t) (h : okV t = true) : tot t ≤ 200 ∧ rightV t 12 = true := by
  have hcnt := cnt_tot hv 0 (by omega) (by omega)
  unfold okV at h
  rw [hcnt, Bool.and_eq_true] at h
  have := of_decide_eq_true h.1
  exact ⟨by omega, h.2⟩
theorem valL_pos (t : VT) (h : ∃ a, rightV t a = true) : 0 < (valL t).length := by
  cases t with
  | bad => obtain ⟨a, h⟩ := h; rw [rightV] at h; exact absurd h (by decide)
  | mk k n f s c ns m xs =>
    by_cases h : k = 1 ∨ k = 2 ∨ k = 3 ∨ k = 4
    · rw [valL_plain h]; simp [plainL]
    · rw [valL_items h]; simp
/-- What Value answers: the bytes of a right value; of others none, and an error. -/
def wrV (t : VT) : Value := if okV t = true then .tuple #[.string (valB t), .int .i64 0] else .tuple #[.string ⟨#[]⟩, .int .i64 5]
set_option maxRecDepth 20000 in
set_option maxHeartbeats 1000000 in
theorem Value_f {t : VT} {v : Array Value} {w : World} (hv : Val w w.heap.size v t) : Calls Try.prog 11 #[.agg v] w fun e w' => e = .returned (wrV t) ∧ Below w.heap.size w w' := by
  have hbW : Below w.heap.size w (w.alloc (.cells v 27)) := (Below.refl _ _).alloc (Nat.le_refl _) _
  have hvW := hv.stay hbW
  have P := right_f (hvW.mono hbW.size)
  have A0 := Lib.hid fun (hr : okV t = true) (W : World) (hW : Below (w.alloc (.cells v 27)).heap.size (w.alloc (.cells v 27)) W) => addValue_any t v W w.heap.size _ [] (hvW.stay (hW.mono hbW.size)) ⟨12, (ok_tot hv hr).2⟩ (Row5.nil W _) (Nat.le_trans hbW.size hW.size) (by have := valL_few hv ⟨12, (ok_tot hv hr).2⟩ (ok_tot hv hr).1; simp; omega)
  have HP := Lib.hid fun (hr : okV t = true) => valL_pos t ⟨12, (ok_tot hv hr).2⟩
  obtain ⟨a0, a1, a2, a3, a4, a5, rfl⟩ := hv.six
  have HK := box_stays (w := w) (a0 := a0) (a1 := a1) (a2 := a2) (a3 := a3) (a4 := a4) (a5 := a5) (t := 27)
  have HS : Hid (strL (valL t) = valB t) := Lib.hid (str_lst _)
  unfold wrV
  generalize valB t = bs at *
  generalize valL t = L at *
  cases ho : okV t with
  | false =>
    rw [ho] at P
    rw [if_neg (by decide)]
    clear hv hvW A0 HP ho
    go_enter Try.func11, Try.ntmps11
    go_wp2_with (go_at_call 35; refine P.mono ?_; rintro e w1 ⟨rfl, hb1⟩)
    go_ret2
    exact ⟨rfl, hbW.trans (hb1.mono hbW.size)⟩
  | true =>
    rw [ho] at P
    rw [if_pos rfl]
    have A1 := Lib.hid (A0.out ho)
    have HP1 := Lib.hid (HP.out ho)
    clear hv hvW A0 HP ho
    go_enter Try.func11, Try.ntmps11
    go_wp2_with (first | (go_at_call 35; refine P.mono ?_; rintro e w1 ⟨rfl, hb1⟩; obtain ⟨q0, q1, q2, q3, q4, q5⟩ := HK.out w1 hb1; have HC := Lib.hid (A1.out w1 hb1)) | (go_at_call 36; refine HC.out.mono ?_; rintro e w2 ⟨v2, rfl, hr2, hk2⟩; have hcv := conv_row hr2 HP1.out; have HK2 := Lib.hid (hk2.below (Nat.le_trans hbW.size hb1.size)); clear hr2 hk2))
    go_ret2
    exact ⟨by rw [← HS.out]; rfl, (hbW.trans (hb1.mono hbW.size)).trans HK2.out⟩
end Go.Proofs.Ytdmbfajhcihfgaa

/-
  Contracts of the program's appendValue, of any right value, and of Value.
  The document's reader: Value, amid an error and where it stops.
  The document's reader: Value, plainly; values that it made.
-/
import Derived.Test.YteclpehbpicpaaaM14
import Derived.Test.YteclpehbpicpaaaM13
import Derived.Test.YteclpehbpicpaaaM03
import Derived.Test.YteclpehbpicpaaaM09
namespace Go.Proofs.Yteclpehbpicpaaa
open Go.RowKit

set_option maxRecDepth 20000 in
set_option maxHeartbeats 2000000 in
theorem addV_56 {k n : Int} {f : Nat} {s : ByteArray} {A : Option Addr} {c ca : Nat} {B : Option Addr} {m cb : Nat} {w : World} {lim : Nat} {v : Value} {L0 I : List UInt8} (hk : k = 5 ∨ k = 6) (hmx : m ≤ 9223372036854775807)
    (hitems : ∀ (W : World) (v : Value), Keeps lim w W → Row5 W lim v (L0 ++ ([UInt8.ofNat k.toNat] ++ uintL m)) → Calls Try.prog 74 #[v, .slice A c ca, .slice B m cb, .func (.func 42) #[] #[]] W (AddsTo W lim ((L0 ++ ([UInt8.ofNat k.toNat] ++ uintL m)) ++ I)))
    (hv : Row5 w lim v L0) (hB : lim ≤ w.heap.size) (hL0 : L0.length ≤ 900000000) :
    Calls Try.prog 42 #[v, .agg (fields k n f s A c ca B m cb)] w (AddsTo w lim (L0 ++ (([UInt8.ofNat k.toNat] ++ uintL m) ++ I))) := by
  have HK := box_keeps (w := w) (a0 := .int .i64 k) (a1 := .int .i64 n) (a2 := .float .f64 f) (a3 := .string s) (a4 := .slice A c ca) (a5 := .slice B m cb) (B := lim)
  unfold fields at *
  obtain ⟨W0, hW0⟩ : ∃ W0, W0 = w.alloc (.cells #[.int .i64 k, .int .i64 n, .float .f64 f, .string s, .slice A c ca, .slice B m cb] 27) := ⟨_, rfl⟩
  have HK0 := Lib.hid (show Keeps lim w W0 by rw [hW0]; exact (Keeps.refl _ _).alloc _)
  have R : Hid (((L0 ++ ([UInt8.ofNat k.toNat] ++ uintL m)) ++ I) = L0 ++ (([UInt8.ofNat k.toNat] ++ uintL m) ++ I)) := Lib.hid (by simp)
  generalize L0 ++ (([UInt8.ofNat k.toNat] ++ uintL m) ++ I) = LF at *
  obtain ⟨b, hb⟩ : ∃ b, b = UInt8.ofNat k.toNat := ⟨_, rfl⟩
  have hkb : k = ((UInt8.ofNat k.toNat).toNat : Int) := by rcases hk with rfl | rfl <;> decide
  rw [← hb] at hkb R hitems
  have E2 : IntKind.u8.wrap k = k := by rw [IntKind.wrap_u8]; omega
  have HKB := Lib.hid hkb
  obtain ⟨L1, hL1⟩ : ∃ L1, L1 = L0 ++ [b] := ⟨_, rfl⟩
  have hlen : L1.length ≤ 1000000000 := by rw [hL1]; simp; omega
  have HE := Lib.hid (show L0 ++ ([b] ++ uintL m) = L1 ++ uintL m by rw [hL1]; simp)
  rw [HE.out] at hitems R
  obtain ⟨L2, hL2⟩ : ∃ L2, L2 = L1 ++ uintL m := ⟨_, rfl⟩
  rw [← hL2] at hitems R
  have HL2 := Lib.hid hL2
  have HL1 := Lib.hid hL1
  have HV := Lib.hid hv
  have HI := Lib.hid hitems
  have t1 : (k == 1) = false := by simp; omega
  have t2 : (k == 2) = false := by simp; omega
  have t3 : (k == 3) = false := by simp; omega
  have t4 : (k == 4) = false := by simp; omega
  rw [← hW0] at HK
  clear hv hL1 hL2 hk hkb hb hitems
  go_enter Try.func42, Try.ntmps42
  go_wp2_with (at_builtin; refine wpList_byte (B := lim) rfl (.tmp 5) (.tmp 9) rfl v L0 k b rfl ((HV.out.alloc _).alloc _) (by simp; omega) (by omega) ⟨w.heap.size + 1, 0, none⟩ rfl byte_new1 HKB.out ?_; intro v1 w1 hr1 hk1; refine Hid.out ?_)
  refine Lib.hid ?_
  rw [← hW0] at hk1
  rw [← HL1.out] at hr1
  have HR1 := Lib.hid hr1
  have HK1 := Lib.hid (show Keeps lim W0 w1 from ((Keeps.refl _ _).alloc _).trans hk1)
  obtain ⟨q0, q1, q2, q3, q4, q5⟩ := HK.out w1 HK1.out
  have hB1 : lim ≤ w1.heap.size := Nat.le_trans hB (HK0.out.trans HK1.out).size
  have hC := addUint_any (n := m) (by omega) hr1 hB1 hlen
  rw [← HL2.out] at hC
  have HC := Lib.hid hC
  obtain ⟨A1, cap1, rfl⟩ := hr1.slice
  clear hr1 hk1 hW0 hC
  go_wp2_with (go_at_call 49; refine HC.out.mono ?_; rintro e w2 ⟨v2, rfl, hr2, hk2⟩; have HR2 := Lib.hid hr2; have HK2 := Lib.hid hk2; clear hr2 hk2; refine Hid.out ?_)
  refine Lib.hid ?_
  clear q0 q1 q2 q3 q4 q5
  obtain ⟨q0, q1, q2, q3, q4, q5⟩ := HK.out w2 (HK1.out.trans HK2.out)
  have HKA := Lib.hid (HK0.out.trans (HK1.out.trans HK2.out))
  have HD := Lib.hid (HI.out w2 _ HKA.out HR2.out)
  obtain ⟨A2, cap2, rfl⟩ := HR2.out.slice
  go_wp2_with (go_at_call 74; refine HD.out.mono ?_; rintro e w3 ⟨v3, rfl, hr3, hk3⟩; have HR3 := Lib.hid hr3; have HK3 := Lib.hid hk3; clear hr3 hk3)
  go_ret
  exact ⟨_, rfl, by rw [← R.out]; exact HR3.out, HKA.out.trans HK3.out⟩
/-- A value's bytes, as a list. -/
def valL (t : VT) : List UInt8 := (valB t).data.toList
theorem valL_plain {k n : Int} {f : Nat} {s : ByteArray} {c : Nat} {ns : Nat → ByteArray} {m : Nat} {xs : Nat → VT} (h : k = 1 ∨ k = 2 ∨ k = 3 ∨ k = 4) : valL (.mk k n f s c ns m xs) = plainL k n f s := by
  unfold valL
  rw [valB, if_pos h, ← plainL_eq, lst_str]
theorem valL_items {k n : Int} {f : Nat} {s : ByteArray} {c : Nat} {ns : Nat → ByteArray} {m : Nat} {xs : Nat → VT} (h : ¬ (k = 1 ∨ k = 2 ∨ k = 3 ∨ k = 4)) : valL (.mk k n f s c ns m xs) = ([UInt8.ofNat k.toNat] ++ uintL m) ++ itL (decide (k = 6)) (nz k ns) (fun i => valL (xs i)) m := by
  unfold valL
  rw [valB, if_neg h, joinC_lst]
  congr 1
theorem itL_false {ns ns' : Nat → ByteArray} {G : Nat → List UInt8} : ∀ m, itL false ns G m = itL false ns' G m := by
  intro m
  induction m with
  | zero => rfl
  | succ m ih => rw [itL, itL, ih]; simp
theorem addValue_any : ∀ (t : VT) (v : Array Value) (w : World) (lim : Nat) (u : Value) (L0 : List UInt8), Val w lim v t → (∃ a, rightV t a = true) → Row5 w lim u L0 → lim ≤ w.heap.size → (L0 ++ valL t).length ≤ 900000000 →
    Calls Try.prog 42 #[u, .agg v] w (AddsTo w lim (L0 ++ valL t)) := by
  intro t
  induction t with
  | bad => intro v w lim u L0 hv; cases hv
  | mk k n f s c ns m xs ih =>
    intro v w lim u L0 hv hr hu hl hlen
    obtain ⟨a, hr⟩ := hr
    rw [rightV, Bool.and_eq_true] at hr
    obtain ⟨_, hr⟩ := hr
    cases hv with
    | mk _ _ _ _ A _ ca B _ cb _ _ vs hk hn hf hs hc hm hns hB hxs =>
      have hmx : m ≤ 9223372036854775807 := by have := hm; unfold maxLen at this; omega
      have hcx : c ≤ 9223372036854775807 := by have := hc; unfold maxLen at this; omega
      have hL0 : L0.length ≤ 900000000 := by rw [List.length_append] at hlen; omega
      by_cases h56 : k = 5 ∨ k = 6
      · rw [if_pos h56, Bool.and_eq_true] at hr
        obtain ⟨hh, hall⟩ := hr
        have hitem : ∀ i, i < m → rightV (xs i) (a - 1) = true := fun i hi => List.all_eq_true.1 hall i (List.mem_range.2 hi)
        have ih' : ∀ i, i < m → ∀ (W : World) (v : Value) (L : List UInt8), Val W lim (vs i) (xs i) → Row5 W lim v L → lim ≤ W.heap.size → (L ++ valL (xs i)).length ≤ 900000000 → Calls Try.prog 42 #[v, .agg (vs i)] W (AddsTo W lim (L ++ valL (xs i))) := fun i hi W v L hv hr hl hL => ih i (vs i) W lim v L hv ⟨_, hitem i hi⟩ hr hl hL
        rw [valL_items (by omega)] at hlen ⊢
        have hlen2 : ((L0 ++ ([UInt8.ofNat k.toNat] ++ uintL m)) ++ itL (decide (k = 6)) (nz k ns) (fun i => valL (xs i)) m).length ≤ 900000000 := by
          rw [List.append_assoc]; exact hlen
        refine addV_56 h56 hmx (fun W v hW hR => ?_) hu hl hL0
        have hbW : Below lim w W := hW.below hl
        have hBW : 0 < m → ∃ g o, B = some ⟨g, o, none⟩ ∧ g < lim ∧ ∀ i, i < m → SixAt W g (o + i * 6) (vs i) := fun h0 => by
          obtain ⟨g, o, e, hg, hx⟩ := hB h0
          exact ⟨g, o, e, hg, fun i hi => (hx i hi).keep fun o => hbW.cell (p := ⟨g, o, none⟩) hg⟩
        have hxW : ∀ i, i < m → Val W lim (vs i) (xs i) := fun i hi => (hxs i hi).stay hbW
        have hlW : lim ≤ W.heap.size := Nat.le_trans hl hW.size
        rcases h56 with rfl | rfl
        · have hc0 : c = 0 := by unfold headB at hh; simp at hh; omega
          subst hc0
          exact items_un hBW hxW hmx ih' hR hlW hlen2
        · have hcm : c = m := by unfold headB at hh; simp at hh; omega
          subst hcm
          rw [nz_6] at hlen2 ⊢
          by_cases h0 : 0 < c
          · exact items_named (strs_keep hns hbW) (Nat.le_refl _) hcx h0 hBW hxW ih' hR hlW hlen2
          · obtain rfl : c = 0 := by omega
            exact items_un (ns := ns) hBW hxW hmx ih' hR hlW hlen2
      · rw [if_neg h56] at hr
        unfold plainB at hr
        by_cases k1 : k = 1
        · subst k1
          rw [if_pos rfl] at hr
          rw [valL_plain (by omega)]
          exact addV_1 (by simp at hr; omega) hu hl hL0
        rw [if_neg k1] at hr
        by_cases k2 : k = 2
        · subst k2
          rw [valL_plain (by omega)]
          exact addV_2 hn hu hl hL0
        rw [if_neg k2] at hr
        by_cases k3 : k = 3
        · subst k3
          rw [valL_plain (by omega)]
          exact addV_3 hu hl hL0
        rw [if_neg k3] at hr
        by_cases k4 : k = 4
        · subst k4
          rw [valL_plain (by omega)]
          rw [if_pos rfl] at hr
          simp at hr
          exact addV_4 (by omega) hu hl hL0
        rw [if_neg k4] at hr
        exact absurd hr (by decide)
/-- A right value takes few bytes. -/
theorem valL_few {t : VT} {v : Array Value} {w : World} {lim : Nat} (hv : Val w lim v t) (hr : ∃ a, rightV t a = true) (ht : tot t ≤ 200) : (valL t).length ≤ 130000 := by
  obtain ⟨a, hr⟩ := hr
  have h1 := wt_right t a hr
  have h2 := valB_size t v w lim hv (by omega)
  have e : (valL t).length = (valB t).size := by unfold valL; rw [Array.length_toList]; rfl
  omega
theorem ok_tot {t : VT} {v : Array Value} {w : World} {lim : Nat} (hv : Val w lim v t) (h : okV t = true) : tot t ≤ 200 ∧ rightV t 12 = true := by
  have hcnt := cnt_tot hv 0 (by omega) (by omega)
  unfold okV at h
  rw [hcnt, Bool.and_eq_true] at h
  have := of_decide_eq_true h.1
  exact ⟨by omega, h.2⟩
theorem valL_pos (t : VT) (h : ∃ a, rightV t a = true) : 0 < (valL t).length := by
  cases t with
  | bad => obtain ⟨a, h⟩ := h; rw [rightV] at h; exact absurd h (by decide)
  | mk k n f s c ns m xs =>
    by_cases h : k = 1 ∨ k = 2 ∨ k = 3 ∨ k = 4
    · rw [valL_plain h]; simp [plainL]
    · rw [valL_items h]; simp
/-- What Value answers: the bytes of a right value; of others none, and an error. -/
def wrV (t : VT) : Value := if okV t = true then .tuple #[.string (valB t), .int .i64 0] else .tuple #[.string ⟨#[]⟩, .int .i64 5]
set_option maxRecDepth 20000 in
set_option maxHeartbeats 1000000 in
theorem Value_f {t : VT} {v : Array Value} {w : World} (hv : Val w w.heap.size v t) : Calls Try.prog 12 #[.agg v] w fun e w' => e = .returned (wrV t) ∧ Below w.heap.size w w' := by
  have hbW : Below w.heap.size w (w.alloc (.cells v 27)) := (Below.refl _ _).alloc (Nat.le_refl _) _
  have hvW := hv.stay hbW
  have P := right_f (hvW.mono hbW.size)
  have A0 := Lib.hid fun (hr : okV t = true) (W : World) (hW : Below (w.alloc (.cells v 27)).heap.size (w.alloc (.cells v 27)) W) => addValue_any t v W w.heap.size _ [] (hvW.stay (hW.mono hbW.size)) ⟨12, (ok_tot hv hr).2⟩ (Row5.nil W _) (Nat.le_trans hbW.size hW.size) (by have := valL_few hv ⟨12, (ok_tot hv hr).2⟩ (ok_tot hv hr).1; simp; omega)
  have HP := Lib.hid fun (hr : okV t = true) => valL_pos t ⟨12, (ok_tot hv hr).2⟩
  obtain ⟨a0, a1, a2, a3, a4, a5, rfl⟩ := hv.six
  have HK := box_stays (w := w) (a0 := a0) (a1 := a1) (a2 := a2) (a3 := a3) (a4 := a4) (a5 := a5) (t := 27)
  have HS : Hid (strL (valL t) = valB t) := Lib.hid (str_lst _)
  unfold wrV
  generalize valB t = bs at *
  generalize valL t = L at *
  cases ho : okV t with
  | false =>
    rw [ho] at P
    rw [if_neg (by decide)]
    clear hv hvW A0 HP ho
    go_enter Try.func12, Try.ntmps12
    go_wp2_with (go_at_call 41; refine P.mono ?_; rintro e w1 ⟨rfl, hb1⟩)
    go_ret2
    exact ⟨rfl, hbW.trans (hb1.mono hbW.size)⟩
  | true =>
    rw [ho] at P
    rw [if_pos rfl]
    have A1 := Lib.hid (A0.out ho)
    have HP1 := Lib.hid (HP.out ho)
    clear hv hvW A0 HP ho
    go_enter Try.func12, Try.ntmps12
    go_wp2_with (first | (go_at_call 41; refine P.mono ?_; rintro e w1 ⟨rfl, hb1⟩; obtain ⟨q0, q1, q2, q3, q4, q5⟩ := HK.out w1 hb1; have HC := Lib.hid (A1.out w1 hb1)) | (go_at_call 42; refine HC.out.mono ?_; rintro e w2 ⟨v2, rfl, hr2, hk2⟩; have hcv := conv_row hr2 HP1.out; have HK2 := Lib.hid (hk2.below (Nat.le_trans hbW.size hb1.size)); clear hr2 hk2))
    go_ret2
    exact ⟨by rw [← HS.out]; rfl, (hbW.trans (hb1.mono hbW.size)).trans HK2.out⟩
end Go.Proofs.Yteclpehbpicpaaa
namespace Go.Proofs.Yteclpehbpicpaaa
open Go.RowKit

theorem begin_err {w : World} {g : Nat} {s : ByteArray} {a e p d : Int} (h : Rdr w g s a e p) (he : e ≠ 0) (hp : 0 ≤ p ∧ p ≤ 1000000) :
    Calls Try.prog 92 #[.pointer (some ⟨g, 0, none⟩), .int .i64 d] w fun x w' => x = .returned (.tuple #[]) ∧ Past g w w' ∧ Rdr w' g s a e (p + 1) := by
  obtain ⟨c0, c1, c2, c3, cf⟩ := h.cells
  have h1 := h.set3 (p + 1)
  have hp1 : Past g w (w.setCell ⟨g, 3, none⟩ (.int .i64 (p + 1))) := (Past.refl _ _).set _ _
  have F := fail_any h1 5
  rw [if_neg he] at F
  have H1 := Lib.hid h1
  have HP1 := Lib.hid hp1
  clear h h1 hp1
  by_cases hd : 12 < d
  · go_enter Try.func92, Try.ntmps92
    go_wp2_with (go_at_call 59; refine F.mono ?_; rintro e w2 ⟨rfl, h2, hp2⟩)
    go_end0
    exact ⟨rfl, HP1.out.trans hp2, h2⟩
  · by_cases h200 : 200 < p + 1
    · go_enter Try.func92, Try.ntmps92
      go_wp2_with (go_at_call 59; refine F.mono ?_; rintro e w2 ⟨rfl, h2, hp2⟩)
      go_end0
      exact ⟨rfl, HP1.out.trans hp2, h2⟩
    · go_enter Try.func92, Try.ntmps92
      go_wp2_with fail
      go_end0
      exact ⟨rfl, HP1.out, H1.out⟩
theorem Past.setNew {g : Nat} {a w : World} (h : Past g a w) {R : Nat} (hR : a.heap.size ≤ R) (o : Nat) (v : Value) : Past g a (w.setCell ⟨R, o, none⟩ v) :=
  ⟨h.os, h.tape, h.output, by have := h.size; simpa [World.setCell] using this, fun k hk hn => (Below.heap_setCell _ _ _ _ (by simp; omega)).trans (h.block k hk hn)⟩
theorem Rdr.other {w : World} {g : Nat} {s : ByteArray} {a e p : Int} (h : Rdr w g s a e p) {R : Nat} (hR : R ≠ g) (o : Nat) (v : Value) : Rdr (w.setCell ⟨R, o, none⟩ v) g s a e p :=
  (Below.heap_setCell _ _ _ _ (by simp; omega)).trans h
theorem Rdr.alloc {w : World} {g : Nat} {s : ByteArray} {a e p : Int} (h : Rdr w g s a e p) (x : Obj) : Rdr (w.alloc x) g s a e p := h.past ((Below.refl _ _).alloc (Nat.le_refl _) x)
/-- A block that holds a value. -/
def Bx (w : World) (R : Nat) (cs : Array Value) : Prop := w.heap[R]? = some (.cells cs 27 (0, 0))
theorem Bx.new (w : World) (cs : Array Value) : Bx (w.alloc (.cells cs 27)) w.heap.size cs := heap_alloc_new w _
theorem Bx.lt {w : World} {R : Nat} {cs : Array Value} (h : Bx w R cs) : R < w.heap.size := (Array.getElem?_eq_some_iff.1 h).1
theorem Bx.alloc {w : World} {R : Nat} {cs : Array Value} (h : Bx w R cs) (x : Obj) : Bx (w.alloc x) R cs := (Below.heap_alloc _ _ _ h.lt).trans h
theorem Bx.past {g : Nat} {w w' : World} {R : Nat} {cs : Array Value} (h : Bx w R cs) (hp : Past g w w') (hR : R ≠ g) : Bx w' R cs := (hp.block R h.lt hR).trans h
theorem Bx.below {B : Nat} {w w' : World} {R : Nat} {cs : Array Value} (h : Bx w R cs) (hp : Below B w w') (hR : R < B) : Bx w' R cs := (hp.block R hR).trans h
theorem Bx.other {w : World} {R : Nat} {cs : Array Value} (h : Bx w R cs) {S : Nat} (hR : S ≠ R) (o : Nat) (v : Value) : Bx (w.setCell ⟨S, o, none⟩ v) R cs := (Below.heap_setCell _ _ _ _ (by simp; omega)).trans h
theorem Bx.set {w : World} {R : Nat} {cs : Array Value} (h : Bx w R cs) (o : Nat) (v : Value) : Bx (w.setCell ⟨R, o, none⟩ v) R (cs.setIfInBounds o v) := by
  unfold Bx at *
  simp [World.setCell, Array.getElem?_modify, h]
theorem Bx.cells {w : World} {R : Nat} {a0 a1 a2 a3 a4 a5 : Value} (h : Bx w R #[a0, a1, a2, a3, a4, a5]) :
    w.cell? ⟨R, 0, none⟩ = some a0 ∧ w.cell? ⟨R, 1, none⟩ = some a1 ∧ w.cell? ⟨R, 2, none⟩ = some a2 ∧ w.cell? ⟨R, 3, none⟩ = some a3 ∧ w.cell? ⟨R, 4, none⟩ = some a4 ∧ w.cell? ⟨R, 5, none⟩ = some a5 ∧ (∀ o, w.frozen? ⟨R, o, none⟩ = false) ∧ R < w.heap.size := by
  have hl := h.lt
  unfold Bx at h
  refine ⟨?_, ?_, ?_, ?_, ?_, ?_, fun o => ?_, hl⟩
  all_goals first | (simp [World.cell?, h]; done) | (simp [World.frozen?, h]; done)
/-- The result is laid into its box. -/
theorem Past.six {g : Nat} {a w : World} (h : Past g a w) {R : Nat} (hR : a.heap.size ≤ R) (v0 v1 v2 v3 v4 v5 : Value) :
    Past g a ((((((w.setCell ⟨R, 0, none⟩ v0).setCell ⟨R, 1, none⟩ v1).setCell ⟨R, 2, none⟩ v2).setCell ⟨R, 3, none⟩ v3).setCell ⟨R, 4, none⟩ v4).setCell ⟨R, 5, none⟩ v5) :=
  (((((h.setNew hR 0 v0).setNew hR 1 v1).setNew hR 2 v2).setNew hR 3 v3).setNew hR 4 v4).setNew hR 5 v5
theorem Rdr.six {w : World} {g : Nat} {s : ByteArray} {a e p : Int} (h : Rdr w g s a e p) {R : Nat} (hR : R ≠ g) (v0 v1 v2 v3 v4 v5 : Value) :
    Rdr ((((((w.setCell ⟨R, 0, none⟩ v0).setCell ⟨R, 1, none⟩ v1).setCell ⟨R, 2, none⟩ v2).setCell ⟨R, 3, none⟩ v3).setCell ⟨R, 4, none⟩ v4).setCell ⟨R, 5, none⟩ v5) g s a e p :=
  (((((h.other hR 0 v0).other hR 1 v1).other hR 2 v2).other hR 3 v3).other hR 4 v4).other hR 5 v5
theorem Bx.six {w : World} {R : Nat} {a0 a1 a2 a3 a4 a5 : Value} (h : Bx w R #[a0, a1, a2, a3, a4, a5]) (v0 v1 v2 v3 v4 v5 : Value) :
    Bx ((((((w.setCell ⟨R, 0, none⟩ v0).setCell ⟨R, 1, none⟩ v1).setCell ⟨R, 2, none⟩ v2).setCell ⟨R, 3, none⟩ v3).setCell ⟨R, 4, none⟩ v4).setCell ⟨R, 5, none⟩ v5) R #[v0, v1, v2, v3, v4, v5] :=
  (((((h.set 0 v0).set 1 v1).set 2 v2).set 3 v3).set 4 v4).set 5 v5
theorem info27 : (Try.prog.info? 27).map (·.size) = some 6 := by kernel_rfl
theorem results_six {fn : Func} (h : fn.results = #[.cell 4 27]) (tmps : Array Value) (w : World) (R : Nat) (a0 a1 a2 a3 a4 a5 : Value)
    (hp : tmps.getD 4 undef = .pointer (some ⟨R, 0, none⟩)) (hg : Bx w R #[a0, a1, a2, a3, a4, a5]) :
    (results fn tmps).run Try.prog w = .ok (.agg #[a0, a1, a2, a3, a4, a5]) w := by
  have hp' : tmps[4]?.getD undef = .pointer (some ⟨R, 0, none⟩) := by simpa using hp
  simp [results, h, hp', asAddr, run_loadVar_row w R 27 27 #[a0, a1, a2, a3, a4, a5] (0, 0) _ hg Try.underlying27 rfl (by rw [info27]; rfl)]
/-- The zero value, but for its kind. -/
def bare (k : Int) : Array Value := fields k 0 0 ⟨#[]⟩ none 0 0 none 0 0
def zero6 : Array Value := #[.int .i64 0, .int .i64 0, .float .f64 0, .string ⟨#[]⟩, .slice none 0 0, .slice none 0 0]
set_option maxHeartbeats 2000000 in
theorem RValue_err {w : World} {g : Nat} {s : ByteArray} {a e p d : Int} (h : Rdr w g s a e p) (he : e ≠ 0) (hp : 0 ≤ p ∧ p ≤ 1000000) :
    Calls Try.prog 62 #[.pointer (some ⟨g, 0, none⟩), .int .i64 d] w fun x w' => x = .returned (.agg (bare 0)) ∧ Past g w w' ∧ Rdr w' g s a e (p + 1) := by
  have hW : Past g w (w.alloc (.cells #[.int .i64 0, .int .i64 0, .float .f64 0, .string ⟨#[]⟩, .slice none 0 0, .slice none 0 0] 27)) := (Past.refl g w).alloc _
  have hR := Bx.new w #[.int .i64 0, .int .i64 0, .float .f64 0, .string ⟨#[]⟩, .slice none 0 0, .slice none 0 0]
  have hg := h.lt
  have B := begin_err (d := d) (h.alloc (.cells #[.int .i64 0, .int .i64 0, .float .f64 0, .string ⟨#[]⟩, .slice none 0 0, .slice none 0 0] 27)) he hp
  have te : (e == 0) = false := by simpa using he
  have te' : (e != 0) = true := by simpa using he
  have HR := Lib.hid hR
  have HW := Lib.hid hW
  have HG := Lib.hid hg
  have SF := float_store
  unfold bare fields
  clear h hR hW
  go_enter Try.func62, Try.ntmps62
  go_wp2_with (first | (go_at_call 92; refine B.mono ?_; rintro x w1 ⟨rfl, hp1, h1⟩; have Y := Byte_err h1 he) | (go_at_call 58; refine Y.mono ?_; rintro x w2 ⟨rfl, h2, hp2⟩; obtain ⟨d0, d1, d2, d3, df⟩ := h2.cells; have hg2 : g < w2.heap.size := h2.lt; have hR2 := HR.out.past (hp1.trans hp2) (by have := HG.out; omega); obtain ⟨r0, r1, r2, r3, r4, r5, rf, rl⟩ := hR2.cells))
  refine bodyPost_ret (results_six rfl _ _ w.heap.size (.int .i64 0) (.int .i64 0) (.float .f64 0) (.string ⟨#[]⟩) (.slice none 0 0) (.slice none 0 0) rfl ((hR2.six _ _ _ _ _ _).alloc _)) rfl ⟨rfl, ?_, ?_⟩
  · exact ((HW.out.trans (hp1.trans hp2)).six (Nat.le_refl _) _ _ _ _ _ _).alloc _
  · exact (h2.six (by have := HG.out; omega) _ _ _ _ _ _).alloc _
end Go.Proofs.Yteclpehbpicpaaa
namespace Go.Proofs.Yteclpehbpicpaaa
open Go.RowKit

/-- Strings in blocks of the reader's own. -/
def StrsOwn (w : World) (P : Nat → Prop) (A : Option Addr) (c : Nat) (ns : Nat → ByteArray) : Prop :=
  0 < c → ∃ g o, A = some ⟨g, o, none⟩ ∧ P g ∧ g < w.heap.size ∧ ∀ i, i < c → w.cell? ⟨g, o + i, none⟩ = some (.string (ns i)) ∧ (ns i).size ≤ maxLen
/-- A value by value is this tree, and lies in blocks that meet P. -/
inductive VOwn (w : World) (P : Nat → Prop) : Array Value → VT → Prop
  | mk (k n : Int) (f : Nat) (s : ByteArray) (A : Option Addr) (c ca : Nat) (B : Option Addr) (m cb : Nat) (ns : Nat → ByteArray) (xs : Nat → VT) (vs : Nat → Array Value)
      (hk : -9223372036854775808 ≤ k ∧ k ≤ 9223372036854775807) (hn : -9223372036854775808 ≤ n ∧ n ≤ 9223372036854775807) (hf : f < 18446744073709551616) (hs : s.size ≤ maxLen) (hc : c ≤ ca ∧ ca ≤ maxLen) (hm : m ≤ cb ∧ cb ≤ maxLen)
      (hns : StrsOwn w P A c ns)
      (hB : 0 < m → ∃ g o, B = some ⟨g, o, none⟩ ∧ P g ∧ g < w.heap.size ∧ ∀ i, i < m → SixAt w g (o + i * 6) (vs i))
      (hxs : ∀ i, i < m → VOwn w P (vs i) (xs i)) :
      VOwn w P (fields k n f s A c ca B m cb) (.mk k n f s c ns m xs)
theorem VOwn.val {w : World} {P : Nat → Prop} {v : Array Value} {t : VT} (h : VOwn w P v t) : Val w w.heap.size v t := by
  induction h with
  | mk k n f s A c ca B m cb ns xs vs hk hn hf hs hc hm hns hB hxs ih =>
    refine .mk k n f s A c ca B m cb ns xs vs hk hn hf hs hc hm (fun h0 => ?_) (fun h0 => ?_) ih
    · obtain ⟨g, o, e, _, hg, hx⟩ := hns h0
      exact ⟨g, o, e, hg, hx⟩
    · obtain ⟨g, o, e, _, hg, hx⟩ := hB h0
      exact ⟨g, o, e, hg, hx⟩
/-- What keeps all these blocks keeps the value. -/
theorem VOwn.keep {w w' : World} {P : Nat → Prop} {v : Array Value} {t : VT} (h : VOwn w P v t) (hs' : w.heap.size ≤ w'.heap.size) (hw : ∀ g, P g → g < w.heap.size → w'.heap[g]? = w.heap[g]?) : VOwn w' P v t := by
  have hc' : ∀ g o, P g → g < w.heap.size → w'.cell? ⟨g, o, none⟩ = w.cell? ⟨g, o, none⟩ := fun g o h1 h2 => World.cell?_of_block (w := w) (a := ⟨g, o, none⟩) (hw g h1 h2)
  induction h with
  | mk k n f s A c ca B m cb ns xs vs hk hn hf hs hc hm hns hB hxs ih =>
    refine .mk k n f s A c ca B m cb ns xs vs hk hn hf hs hc hm (fun h0 => ?_) (fun h0 => ?_) ih
    · obtain ⟨g, o, e, hl, hg, hx⟩ := hns h0
      exact ⟨g, o, e, hl, by omega, fun i hi => ⟨(hc' _ _ hl hg).trans (hx i hi).1, (hx i hi).2⟩⟩
    · obtain ⟨g, o, e, hl, hg, hx⟩ := hB h0
      exact ⟨g, o, e, hl, by omega, fun i hi j hj => (hc' _ _ hl hg).trans (hx i hi j hj)⟩
theorem VOwn.imp {w : World} {P Q : Nat → Prop} {v : Array Value} {t : VT} (h : VOwn w P v t) (hi : ∀ g, P g → g < w.heap.size → Q g) : VOwn w Q v t := by
  induction h with
  | mk k n f s A c ca B m cb ns xs vs hk hn hf hs hc hm hns hB hxs ih =>
    refine .mk k n f s A c ca B m cb ns xs vs hk hn hf hs hc hm (fun h0 => ?_) (fun h0 => ?_) ih
    · obtain ⟨g, o, e, hl, hg, hx⟩ := hns h0
      exact ⟨g, o, e, hi g hl hg, hg, hx⟩
    · obtain ⟨g, o, e, hl, hg, hx⟩ := hB h0
      exact ⟨g, o, e, hi g hl hg, hg, hx⟩
theorem VOwn.past {g : Nat} {w w' : World} {P : Nat → Prop} {v : Array Value} {t : VT} (h : VOwn w P v t) (hp : Past g w w') (hg : ¬ P g) : VOwn w' P v t :=
  h.keep hp.size fun k h1 h2 => hp.block k h2 (fun e => hg (e ▸ h1))
/-- A value without names and items. -/
def leaf (k n : Int) (f : Nat) (s : ByteArray) : VT := .mk k n f s 0 (fun _ => ⟨#[]⟩) 0 (fun _ => .bad)
theorem VOwn.leaf {w : World} {P : Nat → Prop} {k n : Int} {f : Nat} {s : ByteArray} (hk : -9223372036854775808 ≤ k ∧ k ≤ 9223372036854775807) (hn : -9223372036854775808 ≤ n ∧ n ≤ 9223372036854775807) (hf : f < 18446744073709551616) (hs : s.size ≤ maxLen) :
    VOwn w P (fields k n f s none 0 0 none 0 0) (leaf k n f s) :=
  .mk k n f s none 0 0 none 0 0 _ _ (fun _ => #[]) hk hn hf hs ⟨Nat.le_refl _, Nat.zero_le _⟩ ⟨Nat.le_refl _, Nat.zero_le _⟩ (fun h => absurd h (Nat.lt_irrefl 0)) (fun h => absurd h (Nat.lt_irrefl 0)) (fun i h => absurd h (Nat.not_lt_zero i))

/-! ### What is read -/
/-- The eight bytes of a word, the highest first. -/
def wP : Nat → Nat → List UInt8 → Except Nat (Nat × List UInt8)
  | 0, b, l => .ok (b, l)
  | _ + 1, _, [] => .error 14
  | j + 1, b, c :: r => wP j (b * 256 + c.toNat) r
/-- A plain value behind its kind. -/
def plainP (k : Nat) (l : List UInt8) : Except Nat (VT × List UInt8) :=
  if k = 1 then (match l with | [] => .error 14 | c :: r => if 1 < c.toNat then .error 5 else .ok (leaf 1 c.toNat 0 ⟨#[]⟩, r))
  else if k = 2 then (match iP l with | .error c => .error c | .ok (n, r) => .ok (leaf 2 n 0 ⟨#[]⟩, r))
  else if k = 3 then (match wP 8 0 l with | .error c => .error c | .ok (b, r) => if canonW b = b then .ok (leaf 3 0 b ⟨#[]⟩, r) else .error 5)
  else (match sP 200 l with | .error c => .error c | .ok (t, r) => .ok (leaf 4 0 0 t, r))
/-- So many items, each with its name in a record. -/
def itemsP (F : Nat → List UInt8 → Except Nat (VT × Nat × List UInt8)) (k : Nat) : Nat → Nat → List UInt8 → Except Nat (List (ByteArray × VT) × Nat × List UInt8)
  | 0, p, l => .ok ([], p, l)
  | n + 1, p, l =>
    match (if k = 6 then sP 30 l else .ok (⟨#[]⟩, l)) with
    | .error c => .error c
    | .ok (nm, l1) => match F p l1 with
      | .error c => .error c
      | .ok (t, p1, l2) => match itemsP F k n p1 l2 with
        | .error c => .error c
        | .ok (xs, p2, l3) => .ok ((nm, t) :: xs, p2, l3)
def treeOf (k : Nat) (xs : List (ByteArray × VT)) : VT :=
  .mk k 0 0 ⟨#[]⟩ (if k = 6 then xs.length else 0) (fun i => (xs.getD i (⟨#[]⟩, .bad)).1) xs.length (fun i => (xs.getD i (⟨#[]⟩, .bad)).2)
/-- A value, q levels deep at most, p parts ahead of it. -/
def vP : Nat → Nat → List UInt8 → Except Nat (VT × Nat × List UInt8)
  | 0, _, _ => .error 5
  | q + 1, p, l =>
    if 200 < p + 1 then .error 5 else
    match l with
    | [] => .error 14
    | b :: r =>
      if b.toNat < 1 ∨ 6 < b.toNat then .error 5
      else if b.toNat ≤ 4 then (match plainP b.toNat r with | .error c => .error c | .ok (t, r) => .ok (t, p + 1, r))
      else match mP r with
        | .error c => .error c
        | .ok (n, r) => match itemsP (vP q) b.toNat n (p + 1) r with
          | .error c => .error c
          | .ok (xs, p', r) => .ok (treeOf b.toNat xs, p', r)
/-- How the reading of a value ends. -/
def VEnds (s : ByteArray) (w : World) (g : Nat) (r : Except Nat (VT × Nat × List UInt8)) (x : Ending) (w' : World) : Prop :=
  Past g w w' ∧ match r with
  | .error c => (∃ k n f t A m ca B m' cb, x = .returned (.agg (fields k n f t A m ca B m' cb))) ∧ c ≠ 0 ∧ ∃ a p : Nat, p ≤ 1000000 ∧ Rdr w' g s a c p
  | .ok (t, p, l) => (∃ v, x = .returned (.agg v) ∧ VOwn w' (fun b => w.heap.size ≤ b) v t) ∧ ∃ a : Nat, a ≤ s.size ∧ l = left s a ∧ Rdr w' g s a 0 p
set_option maxHeartbeats 2000000 in
theorem RValue_begin {w : World} {g : Nat} {s : ByteArray} {a p : Nat} {d : Int} (h : Rdr w g s a 0 p) (hp : p ≤ 1000) (hd : 12 < d ∨ 200 < p + 1) :
    Calls Try.prog 62 #[.pointer (some ⟨g, 0, none⟩), .int .i64 d] w fun x w' => VEnds s w g (.error 5) x w' := by
  have hW : Past g w (w.alloc (.cells #[.int .i64 0, .int .i64 0, .float .f64 0, .string ⟨#[]⟩, .slice none 0 0, .slice none 0 0] 27)) := (Past.refl g w).alloc _
  have hR := Bx.new w #[.int .i64 0, .int .i64 0, .float .f64 0, .string ⟨#[]⟩, .slice none 0 0, .slice none 0 0]
  have hg := h.lt
  have B := begin_ok (d := d) (h.alloc (.cells #[.int .i64 0, .int .i64 0, .float .f64 0, .string ⟨#[]⟩, .slice none 0 0, .slice none 0 0] 27)) (by omega)
  rw [if_pos (by omega)] at B
  have HR := Lib.hid hR
  have HW := Lib.hid hW
  have HG := Lib.hid hg
  have SF := float_store
  clear h hR hW
  go_enter Try.func62, Try.ntmps62
  go_wp2_with (first | (go_at_call 92; refine B.mono ?_; rintro x w1 ⟨rfl, hp1, h1⟩; have Y := Byte_err h1 (by decide)) | (go_at_call 58; refine Y.mono ?_; rintro x w2 ⟨rfl, h2, hp2⟩; obtain ⟨d0, d1, d2, d3, df⟩ := h2.cells; have hg2 : g < w2.heap.size := h2.lt; have hR2 := HR.out.past (hp1.trans hp2) (by have := HG.out; omega); obtain ⟨r0, r1, r2, r3, r4, r5, rf, rl⟩ := hR2.cells))
  refine bodyPost_ret (results_six rfl _ _ w.heap.size (.int .i64 0) (.int .i64 0) (.float .f64 0) (.string ⟨#[]⟩) (.slice none 0 0) (.slice none 0 0) rfl ((hR2.six _ _ _ _ _ _).alloc _)) rfl ⟨?_, ⟨0, 0, 0, ⟨#[]⟩, none, 0, 0, none, 0, 0, rfl⟩, by decide, a, p + 1, by omega, ?_⟩
  · exact ((HW.out.trans (hp1.trans hp2)).six (Nat.le_refl _) _ _ _ _ _ _).alloc _
  · exact (h2.six (by have := HG.out; omega) _ _ _ _ _ _).alloc _
set_option maxHeartbeats 2000000 in
theorem RValue_end {w : World} {g : Nat} {s : ByteArray} {a p : Nat} {d : Int} (h : Rdr w g s a 0 p) (hp : ¬ (12 < d ∨ 200 < p + 1)) (ha : s.size ≤ a) :
    Calls Try.prog 62 #[.pointer (some ⟨g, 0, none⟩), .int .i64 d] w fun x w' => VEnds s w g (.error 14) x w' := by
  have hW : Past g w (w.alloc (.cells #[.int .i64 0, .int .i64 0, .float .f64 0, .string ⟨#[]⟩, .slice none 0 0, .slice none 0 0] 27)) := (Past.refl g w).alloc _
  have hR := Bx.new w #[.int .i64 0, .int .i64 0, .float .f64 0, .string ⟨#[]⟩, .slice none 0 0, .slice none 0 0]
  have hg := h.lt
  have B := begin_ok (d := d) (h.alloc (.cells #[.int .i64 0, .int .i64 0, .float .f64 0, .string ⟨#[]⟩, .slice none 0 0, .slice none 0 0] 27)) (by omega)
  rw [if_neg (by omega)] at B
  have HR := Lib.hid hR
  have HW := Lib.hid hW
  have HG := Lib.hid hg
  have SF := float_store
  clear h hR hW
  go_enter Try.func62, Try.ntmps62
  go_wp2_with (first | (go_at_call 92; refine B.mono ?_; rintro x w1 ⟨rfl, hp1, h1⟩; have Y := Byte_end h1 ha) | (go_at_call 58; refine Y.mono ?_; rintro x w2 ⟨rfl, h2, hp2⟩; obtain ⟨d0, d1, d2, d3, df⟩ := h2.cells; have hg2 : g < w2.heap.size := h2.lt; have hR2 := HR.out.past (hp1.trans hp2) (by have := HG.out; omega); obtain ⟨r0, r1, r2, r3, r4, r5, rf, rl⟩ := hR2.cells))
  refine bodyPost_ret (results_six rfl _ _ w.heap.size (.int .i64 0) (.int .i64 0) (.float .f64 0) (.string ⟨#[]⟩) (.slice none 0 0) (.slice none 0 0) rfl ((hR2.six _ _ _ _ _ _).alloc _)) rfl ⟨?_, ⟨0, 0, 0, ⟨#[]⟩, none, 0, 0, none, 0, 0, rfl⟩, by decide, a, p + 1, by omega, ?_⟩
  · exact ((HW.out.trans (hp1.trans hp2)).six (Nat.le_refl _) _ _ _ _ _ _).alloc _
  · exact (h2.six (by have := HG.out; omega) _ _ _ _ _ _).alloc _
end Go.Proofs.Yteclpehbpicpaaa

/-
  Contract of the program's face of a value's reader.
  Contract of the program's ReadValue.
  The document's ReadValue.
-/
import Derived.Test.YtekojglcbalhnaaGreatDoorM19
import Derived.Test.YtekojglcbalhnaaGreatDoorM15
import Derived.Test.YtekojglcbalhnaaGreatDoorM08
namespace Go.Proofs.YtekojglcbalhnaaGreatDoor
open Go.RowKit

theorem catchV_idle (q : Addr) (w : World) : CallsD Tryz.prog 166 #[.pointer (some q)] .returning w fun e u' w' => e = .returned (.tuple #[]) ∧ u' = .returning ∧ w' = w := by
  refine callsD_of_wpS Tryz.func166 rfl fun c₀ cs hu => ?_
  apply wpS_seq
  apply wpS_region
  simp [wpOpsS, go_sem, recoverD, hu, Tryz.ntmps166, Exit.thenS]
  refine wpS_of_wp ?_
  go_wp2_with fail
  cases c₀
  simp_all [bodyPostS, results, Tryz.results166]
set_option maxRecDepth 100000 in
theorem catchV_panics (q : Addr) (x c : Int) (older : List PanicEntry) (w : World) (hc : w.cell? q = some (.int .i64 x)) (hz : w.frozen? q = false) :
    CallsD Tryz.prog 166 #[.pointer (some q)] (.panicking ({ v := .iface 33 (.int .i64 c), recovered := false } :: older)) w fun e u' w' => e = .returned (.tuple #[]) ∧ u' = .panicking ({ v := .iface 33 (.int .i64 c), recovered := true } :: older) ∧ w' = w.setCell q (.int .i64 c) := by
  have TA := assert_errno c w
  refine callsD_of_wpS Tryz.func166 rfl fun c₀ cs hu => ?_
  apply wpS_seq
  apply wpS_region
  simp [wpOpsS, go_sem, recoverD, hu, Tryz.ntmps166, Exit.thenS]
  have hf : #[Value.pointer (some q)] ++ (Array.replicate 10 undef).setIfInBounds 3 (Value.iface 33 (Value.int IntKind.i64 c)) = #[.pointer (some q), undef, undef, undef, .iface 33 (.int .i64 c), undef, undef, undef, undef, undef, undef] := rfl
  rw [hf]
  refine wpS_of_wp ?_
  go_wp2_with fail
  simp [bodyPostS, results, Tryz.results166]

theorem VOwn.drew {w : World} {P : Nat → Prop} {v : Array Value} {t : VT} (h : VOwn w P v t) : VOwn w.drew P v t := h.keep (Nat.le_refl _) fun _ _ _ => rfl
theorem VOwn.set {w : World} {P : Nat → Prop} {v : Array Value} {t : VT} (h : VOwn w P v t) {R : Nat} (hR : ¬ P R) (o : Nat) (u : Value) : VOwn (w.setCell ⟨R, o, none⟩ u) P v t :=
  h.keep (by simp [World.setCell]) fun k hk _ => Below.heap_setCell _ _ _ _ (fun e => hR ((show k = R from e) ▸ hk))
theorem Bx.drew {w : World} {R : Nat} {cs : Array Value} (h : Bx w R cs) : Bx w.drew R cs := h
theorem readV_range {s : ByteArray} {a : Int} {f : Value} {w : World} (ha : a < 0 ∨ (s.size : Int) < a) :
    Calls Tryz.prog 142 #[.string s, .int .i64 a, f] w fun e w' => e = .returned (.tuple #[.agg zero6, .int .i64 0, .int .i64 3]) ∧ Below w.heap.size w w' := by
  have SF := float_store
  have hbW : Below w.heap.size w ((w.alloc (.cells #[.int .i64 0, .int .i64 0, .float .f64 0, .string ⟨#[]⟩, .slice none 0 0, .slice none 0 0] 28)).alloc (.cells #[.int .i64 3] 33)) := ((Below.refl _ _).alloc (Nat.le_refl _) _).alloc (by simp) _
  by_cases h : a < 0
  · go_enter_defers Tryz.func142, Tryz.ntmps142
    go_wp2_with fail
    simp [bodyPostD, Leaves, results, Tryz.results142, go_sem, hbW, zero6, asAddr]
  · have h2 : (s.size : Int) < a := by omega
    go_enter_defers Tryz.func142, Tryz.ntmps142
    go_wp2_with fail
    simp [bodyPostD, Leaves, results, Tryz.results142, go_sem, hbW, zero6, asAddr]
theorem faceV_world {w : World} {s : ByteArray} {a : Int} {W1 : World} (hW1 : W1 = ((w.alloc (.cells #[.int .i64 0, .int .i64 0, .float .f64 0, .string ⟨#[]⟩, .slice none 0 0, .slice none 0 0] 28)).alloc (.cells #[.int .i64 0] 33)).alloc (.cells #[.string s, .int .i64 a, .int .i64 0] 197)) :
    Dr W1 (w.heap.size + 2) s a 0 ∧ Below w.heap.size w W1 ∧ W1.heap[w.heap.size + 1]? = some (.cells #[.int .i64 0] 33 (0, 0)) ∧ w.heap.size + 1 < W1.heap.size ∧ Bx W1 w.heap.size #[.int .i64 0, .int .i64 0, .float .f64 0, .string ⟨#[]⟩, .slice none 0 0, .slice none 0 0] := by
  subst hW1
  refine ⟨?_, (((Below.refl _ _).alloc (Nat.le_refl _) _).alloc (by simp) _).alloc (by simp; omega) _, ?_, by simp, ((Bx.new w #[.int .i64 0, .int .i64 0, .float .f64 0, .string ⟨#[]⟩, .slice none 0 0, .slice none 0 0]).alloc _).alloc _⟩
  · have := heap_alloc_new ((w.alloc (.cells #[.int .i64 0, .int .i64 0, .float .f64 0, .string ⟨#[]⟩, .slice none 0 0, .slice none 0 0] 28)).alloc (.cells #[.int .i64 0] 33)) (.cells #[.string s, .int .i64 a, .int .i64 0] 197)
    rw [World.size_alloc, World.size_alloc] at this
    exact this
  · rw [Below.heap_alloc _ _ _ (by simp)]
    have := heap_alloc_new (w.alloc (.cells #[.int .i64 0, .int .i64 0, .float .f64 0, .string ⟨#[]⟩, .slice none 0 0, .slice none 0 0] 28)) (.cells #[.int .i64 0] 33)
    rw [World.size_alloc] at this
    exact this
set_option maxRecDepth 100000 in
set_option maxHeartbeats 1000000 in
theorem readV_err {s : ByteArray} {a c : Nat} {w : World} (hr : rrV (left s a) = .error c) (ha : a ≤ s.size) (hs : s.size ≤ 1000000000) :
    Calls Tryz.prog 142 #[.string s, .int .i64 a, .func (.func 143) #[] #[]] w fun e w' => e = .returned (.tuple #[.agg zero6, .int .i64 0, .int .i64 c]) ∧ Below w.heap.size w w' := by
  have SF := float_store
  obtain ⟨W1, hW1⟩ : ∃ W1, W1 = ((w.alloc (.cells #[.int .i64 0, .int .i64 0, .float .f64 0, .string ⟨#[]⟩, .slice none 0 0, .slice none 0 0] 28)).alloc (.cells #[.int .i64 0] 33)).alloc (.cells #[.string s, .int .i64 a, .int .i64 0] 197) := ⟨_, rfl⟩
  obtain ⟨hD, hbW, hE, hlt, hB⟩ := faceV_world hW1
  have R := rr_any hD ha hs
  rw [hr] at R
  have MF := makeFunc_run
  have t1 : decide ((s.size : Int) < (a : Int)) = false := by simp; omega
  have HB := Lib.hid hbW
  have HE := Lib.hid hE
  have HL := Lib.hid hlt
  have HBX := Lib.hid hB
  have R1 : Calls Tryz.prog 143 #[.pointer (some ⟨w.heap.size + 2, 0, none⟩)] W1 fun e w1 => e = .panicked (errL c) ∧ Past (w.heap.size + 2) W1 w1 := R.mono fun e w1 h => ⟨h.2, h.1⟩
  unfold errL at R1
  have HR := Lib.hid R1
  have HW := Lib.hid hW1
  clear R R1 hW1 hD hbW hE hlt hB hr
  go_enter_defers Tryz.func142, Tryz.ntmps142
  rw [HW.out] at HR
  go_wp2_with (go_at_call 143; refine HR.out.mono ?_; rintro e w1 ⟨rfl, hp1⟩; rw [← HW.out] at hp1)
  obtain ⟨q0, q1⟩ := face_cell HE.out HL.out hp1
  have hb1 : Below w.heap.size w w1 := HB.out.trans ⟨hp1.os, hp1.tape, hp1.output, hp1.size, fun i hi => hp1.block i (by have := HL.out; omega) (by omega)⟩
  obtain ⟨x0, x1, x2, x3, x4, x5, xf, xl⟩ := (HBX.out.past hp1 (by omega)).cells
  refine leaves_cons (f := 166) (args := #[.pointer (some ⟨w.heap.size + 1, 0, none⟩)]) (by simp) (by simp [go_sem]) ?_
  refine (catchV_panics ⟨w.heap.size + 1, 0, none⟩ 0 c [] _ q0 q1).mono ?_
  rintro e u' w2 ⟨rfl, rfl, rfl⟩
  have hfin : Below w.heap.size w (w1.setCell ⟨w.heap.size + 1, 0, none⟩ (.int .i64 c)) := hb1.setCell (by simp) _
  simp [Leaves, settle, results, Tryz.results142, go_sem, q0, hfin, zero6, asAddr, x0, x1, x2, x3, x4, x5]
set_option maxRecDepth 100000 in
set_option maxHeartbeats 1000000 in
theorem readV_ok {s : ByteArray} {a : Nat} {w : World} {t : VT} {l : List UInt8} (hr : rrV (left s a) = .ok (t, l)) (ha : a ≤ s.size) (hs : s.size ≤ 1000000000) :
    Calls Tryz.prog 142 #[.string s, .int .i64 a, .func (.func 143) #[] #[]] w fun e w' => (∃ v, e = .returned (.tuple #[.agg v, .int .i64 ((s.size - l.length : Nat) : Int), .int .i64 0]) ∧ VOwn w' (fun b => w.heap.size ≤ b) v t) ∧ Below w.heap.size w w' := by
  have SF := float_store
  obtain ⟨W1, hW1⟩ : ∃ W1, W1 = ((w.alloc (.cells #[.int .i64 0, .int .i64 0, .float .f64 0, .string ⟨#[]⟩, .slice none 0 0, .slice none 0 0] 28)).alloc (.cells #[.int .i64 0] 33)).alloc (.cells #[.string s, .int .i64 a, .int .i64 0] 197) := ⟨_, rfl⟩
  obtain ⟨hD, hbW, hE, hlt, hB⟩ := faceV_world hW1
  have R := rr_any hD ha hs
  rw [hr] at R
  have MF := makeFunc_run
  have t1 : decide ((s.size : Int) < (a : Int)) = false := by simp; omega
  have HB := Lib.hid hbW
  have HE := Lib.hid hE
  have HL := Lib.hid hlt
  have HBX := Lib.hid hB
  have R1 : Calls Tryz.prog 143 #[.pointer (some ⟨w.heap.size + 2, 0, none⟩)] W1 fun e w1 => ∃ (b0 b1 : Int) (b2 : Nat) (b3 : ByteArray) (b4 : Option Addr) (b5 b6 : Nat) (b7 : Option Addr) (b8 b9 : Nat), e = .returned (.agg #[.int .i64 b0, .int .i64 b1, .float .f64 b2, .string b3, .slice b4 b5 b6, .slice b7 b8 b9]) ∧ Past (w.heap.size + 2) W1 w1 ∧ VOwn w1 (fun b => W1.heap.size ≤ b) #[.int .i64 b0, .int .i64 b1, .float .f64 b2, .string b3, .slice b4 b5 b6, .slice b7 b8 b9] t ∧ ∃ p : Nat, Dr w1 (w.heap.size + 2) s ((s.size - l.length : Nat) : Int) p := R.mono fun e w1 h => by
    obtain ⟨hp, ⟨v, rfl, hv⟩, a', p', ha', hl, hr⟩ := h
    obtain ⟨b0, b1, b2, b3, b4, b5, b6, b7, b8, b9, rfl⟩ := hv.val.eight
    refine ⟨_, _, _, _, _, _, _, _, _, _, rfl, hp, hv, p', ?_⟩
    rw [hl, left_at ha']; exact hr
  have HR := Lib.hid R1
  have HW := Lib.hid hW1
  generalize s.size - l.length = nx at *
  clear R R1 hW1 hD hbW hE hlt hB hr
  go_enter_defers Tryz.func142, Tryz.ntmps142
  rw [HW.out] at HR
  go_wp2_with (go_at_call 143; refine HR.out.mono ?_; rintro e w1 ⟨b0, b1, b2, b3, b4, b5, b6, b7, b8, b9, rfl, hp1, hv1, p1, hr1⟩; rw [← HW.out] at hp1 hv1; have hx1 := HBX.out.past hp1 (by omega); obtain ⟨q0, q1⟩ := face_cell HE.out HL.out hp1; obtain ⟨x0, x1, x2, x3, x4, x5, xf, xl⟩ := hx1.cells; have HV1 := Lib.hid hv1; have HP1 := Lib.hid hp1; have HR1 := Lib.hid hr1; have HX1 := Lib.hid hx1; clear hv1 hp1 hr1 hx1)
  clear x0 x1 x2 x3 x4 x5 xf xl
  obtain ⟨W2, hW2⟩ : ∃ W2, W2 = ((((((w1.setCell ⟨w.heap.size, 0, none⟩ (.int .i64 b0)).setCell ⟨w.heap.size, 1, none⟩ (.int .i64 b1)).setCell ⟨w.heap.size, 2, none⟩ (.float .f64 b2)).setCell ⟨w.heap.size, 3, none⟩ (.string b3)).setCell ⟨w.heap.size, 4, none⟩ (.slice b4 b5 b6)).setCell ⟨w.heap.size, 5, none⟩ (.slice b7 b8 b9)) := ⟨_, rfl⟩
  rw [← hW2]
  have hx2 : Bx W2 w.heap.size #[.int .i64 b0, .int .i64 b1, .float .f64 b2, .string b3, .slice b4 b5 b6, .slice b7 b8 b9] := by rw [hW2]; exact HX1.out.six _ _ _ _ _ _
  have hr2 : Dr W2 (w.heap.size + 2) s (nx : Int) p1 := by rw [hW2]; exact HR1.out.six (by omega) _ _ _ _ _ _
  have he2 : W2.cell? ⟨w.heap.size + 1, 0, none⟩ = some (.int .i64 0) ∧ W2.frozen? ⟨w.heap.size + 1, 0, none⟩ = false := by
    have h := (HP1.out.block (w.heap.size + 1) HL.out (by omega)).trans HE.out
    have h2 : W2.heap[w.heap.size + 1]? = some (.cells #[.int .i64 0] 33 (0, 0)) := by
      rw [hW2]
      rw [Below.heap_setCell _ _ _ _ (by simp), Below.heap_setCell _ _ _ _ (by simp), Below.heap_setCell _ _ _ _ (by simp), Below.heap_setCell _ _ _ _ (by simp), Below.heap_setCell _ _ _ _ (by simp), Below.heap_setCell _ _ _ _ (by simp)]
      exact h
    exact ⟨by simp [World.cell?, h2], by simp [World.frozen?, h2]⟩
  have hb2 : Below w.heap.size w W2 := by
    rw [hW2]
    have hb1 : Below w.heap.size w w1 := HB.out.trans ⟨HP1.out.os, HP1.out.tape, HP1.out.output, HP1.out.size, fun i hi => HP1.out.block i (by have := HL.out; omega) (by omega)⟩
    exact (((((hb1.setCell (Nat.le_refl _) _).setCell (Nat.le_refl _) _).setCell (Nat.le_refl _) _).setCell (Nat.le_refl _) _).setCell (Nat.le_refl _) _).setCell (Nat.le_refl _) _
  have hv2 : VOwn W2 (fun b => W1.heap.size ≤ b) #[.int .i64 b0, .int .i64 b1, .float .f64 b2, .string b3, .slice b4 b5 b6, .slice b7 b8 b9] t := by
    rw [hW2]; exact HV1.out.six (by have := HL.out; omega) _ _ _ _ _ _
  obtain ⟨e0, e1⟩ := he2
  obtain ⟨d0, d1, d2, df⟩ := hr2.cells
  obtain ⟨x0, x1, x2, x3, x4, x5, xf, xl⟩ := hx2.cells
  have HV2 := Lib.hid hv2
  have HB2 := Lib.hid hb2
  have HX2 := Lib.hid hx2
  clear hW2 HX1 HR1 HP1 HV1 hx2 hr2 hb2 hv2 q0 q1 d0 d2
  go_region
  go_wp2_with fail
  obtain ⟨w3, hw3⟩ : ∃ w3, w3 = (((((((W2.setCell ⟨w.heap.size, 0, none⟩ (.int .i64 b0)).setCell ⟨w.heap.size, 1, none⟩ (.int .i64 b1)).setCell ⟨w.heap.size, 2, none⟩ (.float .f64 b2)).setCell ⟨w.heap.size, 3, none⟩ (.string b3)).setCell ⟨w.heap.size, 4, none⟩ (.slice b4 b5 b6)).setCell ⟨w.heap.size, 5, none⟩ (.slice b7 b8 b9)).setCell ⟨w.heap.size + 1, 0, none⟩ (.int .i64 0)).drew := ⟨_, rfl⟩
  have hb3 : Below w.heap.size w w3 := by
    rw [hw3]
    exact (((((((HB2.out.setCell (Nat.le_refl _) _).setCell (Nat.le_refl _) _).setCell (Nat.le_refl _) _).setCell (Nat.le_refl _) _).setCell (Nat.le_refl _) _).setCell (Nat.le_refl _) _).setCell (Nat.le_succ _) _).drew
  have hx3 : Bx w3 w.heap.size #[.int .i64 b0, .int .i64 b1, .float .f64 b2, .string b3, .slice b4 b5 b6, .slice b7 b8 b9] := by
    rw [hw3]
    exact ((HX2.out.six (.int .i64 b0) (.int .i64 b1) (.float .f64 b2) (.string b3) (.slice b4 b5 b6) (.slice b7 b8 b9)).other (S := w.heap.size + 1) (by omega) 0 (.int .i64 0)).drew
  have hv3 : VOwn w3 (fun b => W1.heap.size ≤ b) #[.int .i64 b0, .int .i64 b1, .float .f64 b2, .string b3, .slice b4 b5 b6, .slice b7 b8 b9] t := by
    rw [hw3]
    have hl := HL.out
    exact ((HV2.out.six (R := w.heap.size) (by omega) (.int .i64 b0) (.int .i64 b1) (.float .f64 b2) (.string b3) (.slice b4 b5 b6) (.slice b7 b8 b9)).set (R := w.heap.size + 1) (by omega) 0 (.int .i64 0)).drew
  have e3 : w3.cell? ⟨w.heap.size + 1, 0, none⟩ = some (.int .i64 0) := by
    rw [hw3, World.cell?_drew]
    have : ((((((W2.setCell ⟨w.heap.size, 0, none⟩ (.int .i64 b0)).setCell ⟨w.heap.size, 1, none⟩ (.int .i64 b1)).setCell ⟨w.heap.size, 2, none⟩ (.float .f64 b2)).setCell ⟨w.heap.size, 3, none⟩ (.string b3)).setCell ⟨w.heap.size, 4, none⟩ (.slice b4 b5 b6)).setCell ⟨w.heap.size, 5, none⟩ (.slice b7 b8 b9)).cell? ⟨w.heap.size + 1, 0, none⟩ = some (.int .i64 0) := by simp [go_sem, e0]
    exact World.cell?_setCell_same _ _ _ this
  have hv4 := hv3.imp (Q := fun b => w.heap.size ≤ b) fun b hb _ => by have := HL.out; omega
  rw [← hw3]
  obtain ⟨y0, y1, y2, y3, y4, y5, yf, yl⟩ := hx3.cells
  clear hw3 hx3 hv3 x0 x1 x2 x3 x4 x5 xf xl e0 e1
  refine leaves_cons (f := 166) (args := #[.pointer (some ⟨w.heap.size + 1, 0, none⟩)]) (by simp) (by simp [go_sem]) ?_
  refine (catchV_idle ⟨w.heap.size + 1, 0, none⟩ _).mono ?_
  rintro e u' w4 ⟨rfl, rfl, rfl⟩
  simp [Leaves, settle, results, Tryz.results142, go_sem, e3, hb3, asAddr, y0, y1, y2, y3, y4, y5, hv4]
end Go.Proofs.YtekojglcbalhnaaGreatDoor
namespace Go.Proofs.YtekojglcbalhnaaGreatDoor
open Go.RowKit

/-- What ReadValue reads. -/
def rdV (s : ByteArray) (a : Int) : Except Nat (VT × List UInt8) := if a < 0 ∨ (s.size : Int) < a then .error 3 else rrV (left s a.toNat)
theorem Below.six {B : Nat} {a w : World} (h : Below B a w) {R : Nat} (hR : B ≤ R) (v0 v1 v2 v3 v4 v5 : Value) :
    Below B a ((((((w.setCell ⟨R, 0, none⟩ v0).setCell ⟨R, 1, none⟩ v1).setCell ⟨R, 2, none⟩ v2).setCell ⟨R, 3, none⟩ v3).setCell ⟨R, 4, none⟩ v4).setCell ⟨R, 5, none⟩ v5) :=
  (((((h.setCell hR v0).setCell hR v1).setCell hR v2).setCell hR v3).setCell hR v4).setCell hR v5
theorem ReadValue_err {s : ByteArray} {a : Int} {c : Nat} {w : World} (hr : rdV s a = .error c) (hs : s.size ≤ 1000000000) :
    Calls Tryz.prog 113 #[.string s, .int .i64 a] w fun e w' => e = .returned (.tuple #[.agg zero6, .int .i64 0, .int .i64 c]) ∧ Below w.heap.size w w' := by
  have F : ∀ w, Calls Tryz.prog 142 #[.string s, .int .i64 a, .func (.func 143) #[] #[]] w fun e w' => e = .returned (.tuple #[.agg zero6, .int .i64 0, .int .i64 c]) ∧ Below w.heap.size w w' := fun w => by
    unfold rdV at hr
    by_cases h : a < 0 ∨ (s.size : Int) < a
    · rw [if_pos h] at hr
      cases hr
      exact readV_range h
    · rw [if_neg h] at hr
      have := readV_err (w := w) hr (by omega) hs
      have e : ((a.toNat : Nat) : Int) = a := by omega
      rw [e] at this
      exact this
  unfold zero6 at *
  have SF := float_store
  have hW : Below w.heap.size w (w.alloc (.cells #[.int .i64 0, .int .i64 0, .float .f64 0, .string ⟨#[]⟩, .slice none 0 0, .slice none 0 0] 28)) := (Below.refl _ _).alloc (Nat.le_refl _) _
  have hB := Bx.new w #[.int .i64 0, .int .i64 0, .float .f64 0, .string ⟨#[]⟩, .slice none 0 0, .slice none 0 0]
  have HW := Lib.hid hW
  have HB := Lib.hid hB
  clear hr hW hB
  go_enter Tryz.func113, Tryz.ntmps113
  go_wp2_with (go_at_call 142; refine (F _).mono ?_; rintro e w1 ⟨rfl, hb1⟩; have hb2 := HW.out.trans (Below.mono hb1 (by simp)); have hx1 := HB.out.below hb1 (by simp); obtain ⟨x0, x1, x2, x3, x4, x5, xf, xl⟩ := hx1.cells; have HX1 := Lib.hid hx1; clear hx1)
  obtain ⟨y0, y1, y2, y3, y4, y5, yf, yl⟩ := (HX1.out.six (.int .i64 0) (.int .i64 0) (.float .f64 0) (.string ⟨#[]⟩) (.slice none 0 0) (.slice none 0 0)).cells
  have hfin := Below.six hb2 (Nat.le_refl _) (.int .i64 0) (.int .i64 0) (.float .f64 0) (.string ⟨#[]⟩) (.slice none 0 0) (.slice none 0 0)
  refine bodyPost_ret (v := .tuple #[.agg #[.int .i64 0, .int .i64 0, .float .f64 0, .string ⟨#[]⟩, .slice none 0 0, .slice none 0 0], .int .i64 0, .int .i64 c]) ?_ rfl ⟨rfl, hfin⟩
  simp [results, Tryz.results113, go_sem, asAddr, y0, y1, y2, y3, y4, y5]
theorem ReadValue_ok {s : ByteArray} {a : Int} {t : VT} {l : List UInt8} {w : World} (hr : rdV s a = .ok (t, l)) (hs : s.size ≤ 1000000000) :
    Calls Tryz.prog 113 #[.string s, .int .i64 a] w fun e w' => (∃ v, e = .returned (.tuple #[.agg v, .int .i64 ((s.size - l.length : Nat) : Int), .int .i64 0]) ∧ VOwn w' (fun b => w.heap.size ≤ b) v t) ∧ Below w.heap.size w w' := by
  have F : ∀ w, Calls Tryz.prog 142 #[.string s, .int .i64 a, .func (.func 143) #[] #[]] w fun e w' => ∃ (b0 b1 : Int) (b2 : Nat) (b3 : ByteArray) (b4 : Option Addr) (b5 b6 : Nat) (b7 : Option Addr) (b8 b9 : Nat), e = .returned (.tuple #[.agg #[.int .i64 b0, .int .i64 b1, .float .f64 b2, .string b3, .slice b4 b5 b6, .slice b7 b8 b9], .int .i64 ((s.size - l.length : Nat) : Int), .int .i64 0]) ∧ VOwn w' (fun b => w.heap.size ≤ b) #[.int .i64 b0, .int .i64 b1, .float .f64 b2, .string b3, .slice b4 b5 b6, .slice b7 b8 b9] t ∧ Below w.heap.size w w' := fun w => by
    unfold rdV at hr
    by_cases h : a < 0 ∨ (s.size : Int) < a
    · rw [if_pos h] at hr
      cases hr
    · rw [if_neg h] at hr
      have := readV_ok (w := w) hr (by omega) hs
      have e : ((a.toNat : Nat) : Int) = a := by omega
      rw [e] at this
      refine this.mono fun x w' hx => ?_
      obtain ⟨⟨v, rfl, hv⟩, hb⟩ := hx
      obtain ⟨b0, b1, b2, b3, b4, b5, b6, b7, b8, b9, rfl⟩ := hv.val.eight
      exact ⟨_, _, _, _, _, _, _, _, _, _, rfl, hv, hb⟩
  have SF := float_store
  have hW : Below w.heap.size w (w.alloc (.cells #[.int .i64 0, .int .i64 0, .float .f64 0, .string ⟨#[]⟩, .slice none 0 0, .slice none 0 0] 28)) := (Below.refl _ _).alloc (Nat.le_refl _) _
  have hB := Bx.new w #[.int .i64 0, .int .i64 0, .float .f64 0, .string ⟨#[]⟩, .slice none 0 0, .slice none 0 0]
  have HW := Lib.hid hW
  have HB := Lib.hid hB
  generalize s.size - l.length = nx at *
  clear hr hW hB
  go_enter Tryz.func113, Tryz.ntmps113
  go_wp2_with (go_at_call 142; refine (F _).mono ?_; rintro e w1 ⟨b0, b1, b2, b3, b4, b5, b6, b7, b8, b9, rfl, hv1, hb1⟩; have hb2 := HW.out.trans (Below.mono hb1 (by simp)); have hx1 := HB.out.below hb1 (by simp); obtain ⟨x0, x1, x2, x3, x4, x5, xf, xl⟩ := hx1.cells; have HX1 := Lib.hid hx1; have HV1 := Lib.hid hv1; clear hx1 hv1)
  obtain ⟨y0, y1, y2, y3, y4, y5, yf, yl⟩ := (HX1.out.six (.int .i64 b0) (.int .i64 b1) (.float .f64 b2) (.string b3) (.slice b4 b5 b6) (.slice b7 b8 b9)).cells
  have hfin := Below.six hb2 (Nat.le_refl _) (.int .i64 b0) (.int .i64 b1) (.float .f64 b2) (.string b3) (.slice b4 b5 b6) (.slice b7 b8 b9)
  refine bodyPost_ret (v := .tuple #[.agg #[.int .i64 b0, .int .i64 b1, .float .f64 b2, .string b3, .slice b4 b5 b6, .slice b7 b8 b9], .int .i64 nx, .int .i64 0]) ?_ rfl ⟨⟨_, rfl, ?_⟩, hfin⟩
  · simp [results, Tryz.results113, go_sem, asAddr, y0, y1, y2, y3, y4, y5]
  · have hv := HV1.out
    have hz : w.heap.size < (w.alloc (.cells #[.int .i64 0, .int .i64 0, .float .f64 0, .string ⟨#[]⟩, .slice none 0 0, .slice none 0 0] 28)).heap.size := by simp
    generalize (w.alloc (.cells #[.int .i64 0, .int .i64 0, .float .f64 0, .string ⟨#[]⟩, .slice none 0 0, .slice none 0 0] 28)).heap.size = B1 at hv hz
    exact (hv.six (by omega) _ _ _ _ _ _).imp fun b hb _ => by omega
end Go.Proofs.YtekojglcbalhnaaGreatDoor
namespace Go.Proofs.YtekojglcbalhnaaGreatDoor
open Go.RowKit

theorem RefV_place {s : ByteArray} {i : Int} (w : World) (h : i < 0 ∨ (s.size : Int) < i) :
    Calls Tryz.prog 85 #[.string s, .int .i64 i] w fun x w' => x = .returned (.tuple #[.agg zero6, .int .i64 0, .int .i64 3]) ∧ Below w.heap.size w w' := by
  have hW : Below w.heap.size w (w.alloc (.cells #[.int .i64 0, .int .i64 0, .float .f64 0, .string ⟨#[]⟩, .slice none 0 0, .slice none 0 0] 28)) := (Below.refl _ _).alloc (Nat.le_refl _) _
  have hB := Bx.new w #[.int .i64 0, .int .i64 0, .float .f64 0, .string ⟨#[]⟩, .slice none 0 0, .slice none 0 0]
  have B := Begin_any (s := s) (i := i) (w.alloc (.cells #[.int .i64 0, .int .i64 0, .float .f64 0, .string ⟨#[]⟩, .slice none 0 0, .slice none 0 0] 28))
  rw [if_pos h, World.size_alloc] at B
  have HW := Lib.hid hW
  have HB := Lib.hid hB
  have HBE := Lib.hid B
  have SF := float_store
  unfold zero6
  clear h hW hB B
  go_enter Tryz.func85, Tryz.ntmps85
  go_wp2_with (go_at_call 22; refine HBE.out.mono ?_; rintro x w1 ⟨rfl, h1, hb1⟩; obtain ⟨d0, d1, d2, d3, df⟩ := h1.cells; have hb2 := Lib.hid (HW.out.trans (Below.mono hb1 (by simp))); have hx1 := HB.out.below hb1 (by simp); obtain ⟨x0, x1, x2, x3, x4, x5, xf, xl⟩ := hx1.cells; have HX1 := Lib.hid hx1; have H1 := Lib.hid h1; have HL1 := Lib.hid (show w.heap.size + 1 < w1.heap.size from h1.lt); clear hx1 hb1 h1)
  go_region
  go_wp2_with fail
  obtain ⟨y0, y1, y2, y3, y4, y5, yf, yl⟩ := (Bx.drew (HX1.out.six (.int .i64 0) (.int .i64 0) (.float .f64 0) (.string ⟨#[]⟩) (.slice none 0 0) (.slice none 0 0))).cells
  have hfin := (Below.six hb2.out (Nat.le_refl _) (.int .i64 0) (.int .i64 0) (.float .f64 0) (.string ⟨#[]⟩) (.slice none 0 0) (.slice none 0 0)).drew
  refine bodyPost_ret (v := .tuple #[.agg #[.int .i64 0, .int .i64 0, .float .f64 0, .string ⟨#[]⟩, .slice none 0 0, .slice none 0 0], .int .i64 0, .int .i64 3]) ?_ rfl ⟨rfl, hfin⟩
  simp [results, Tryz.results85, go_sem, asAddr, y0, y1, y2, y3, y4, y5]
/-- What the document's reader answers of a value that can't be read. -/
theorem doc_err {s : ByteArray} {g a c : Nat} (hs : s.size ≤ 1000000000) (ha : a ≤ s.size) (hv : vP 12 0 (left s a) = .error c) (W : World) (h : Rdr W g s a 0 0) :
    Calls Tryz.prog 115 #[.pointer (some ⟨g, 0, none⟩), .int .i64 1] W fun x w' => ∃ (b0 b1 : Int) (b2 : Nat) (b3 : ByteArray) (b4 : Option Addr) (b5 b6 : Nat) (b7 : Option Addr) (b8 b9 : Nat), x = .returned (.agg #[.int .i64 b0, .int .i64 b1, .float .f64 b2, .string b3, .slice b4 b5 b6, .slice b7 b8 b9]) ∧ (∃ a' p' : Int, Rdr w' g s a' c p') ∧ Past g W w' := by
  have V := RValue_any (g := g) hs 12 W a 0 (by decide) h ha (by decide)
  rw [hv] at V
  refine V.mono fun x w' hx => ?_
  obtain ⟨hp, ⟨k, n, f, t, A, m, ca, B, m', cb, rfl⟩, hc, a', p', hp', h'⟩ := hx
  exact ⟨_, _, _, _, _, _, _, _, _, _, rfl, ⟨_, _, h'⟩, hp⟩
theorem doc_ok {s : ByteArray} {g a p : Nat} {t : VT} {l : List UInt8} (hs : s.size ≤ 1000000000) (ha : a ≤ s.size) (hv : vP 12 0 (left s a) = .ok (t, p, l)) (W : World) (h : Rdr W g s a 0 0) :
    Calls Tryz.prog 115 #[.pointer (some ⟨g, 0, none⟩), .int .i64 1] W fun x w' => ∃ (b0 b1 : Int) (b2 : Nat) (b3 : ByteArray) (b4 : Option Addr) (b5 b6 : Nat) (b7 : Option Addr) (b8 b9 : Nat), x = .returned (.agg #[.int .i64 b0, .int .i64 b1, .float .f64 b2, .string b3, .slice b4 b5 b6, .slice b7 b8 b9]) ∧ VOwn w' (fun b => W.heap.size ≤ b) #[.int .i64 b0, .int .i64 b1, .float .f64 b2, .string b3, .slice b4 b5 b6, .slice b7 b8 b9] t ∧ Rdr w' g s ((s.size - l.length : Nat) : Int) 0 p ∧ Past g W w' := by
  have V := RValue_any (g := g) hs 12 W a 0 (by decide) h ha (by decide)
  rw [hv] at V
  refine V.mono fun x w' hx => ?_
  obtain ⟨hp, ⟨v, rfl, ho⟩, a', ha', hl, h'⟩ := hx
  obtain ⟨b0, b1, b2, b3, b4, b5, b6, b7, b8, b9, rfl⟩ := ho.val.eight
  refine ⟨_, _, _, _, _, _, _, _, _, _, rfl, ho, ?_, hp⟩
  rw [hl, left_at ha']; exact h'
set_option maxRecDepth 20000 in
theorem RefV_err {s : ByteArray} {i c : Nat} (w : World) (hi : i ≤ s.size) (hs : s.size ≤ 1000000000) (hc : c ≠ 0) (hv : vP 12 0 (left s i) = .error c) :
    Calls Tryz.prog 85 #[.string s, .int .i64 i] w fun x w' => x = .returned (.tuple #[.agg zero6, .int .i64 0, .int .i64 c]) ∧ Below w.heap.size w w' := by
  have hW : Below w.heap.size w (w.alloc (.cells #[.int .i64 0, .int .i64 0, .float .f64 0, .string ⟨#[]⟩, .slice none 0 0, .slice none 0 0] 28)) := (Below.refl _ _).alloc (Nat.le_refl _) _
  have hB := Bx.new w #[.int .i64 0, .int .i64 0, .float .f64 0, .string ⟨#[]⟩, .slice none 0 0, .slice none 0 0]
  have B := Begin_any (s := s) (i := (i : Int)) (w.alloc (.cells #[.int .i64 0, .int .i64 0, .float .f64 0, .string ⟨#[]⟩, .slice none 0 0, .slice none 0 0] 28))
  rw [if_neg (by omega), World.size_alloc] at B
  have HW := Lib.hid hW
  have HB := Lib.hid hB
  have HBE := Lib.hid B
  have SF := float_store
  have HV := Lib.hid fun W => doc_err (g := w.heap.size + 1) hs hi hv W
  have c1 : ((c : Int) == 0) = false := by simp; omega
  have c2 : ((c : Int) != 0) = true := by simp; omega
  unfold zero6
  clear hi hs hc hv hW hB B
  go_enter Tryz.func85, Tryz.ntmps85
  go_wp2_with (first
    | (go_at_call 22; refine HBE.out.mono ?_; rintro x w1 ⟨rfl, h1, hb1⟩; obtain ⟨d0, d1, d2, d3, df⟩ := h1.cells; have hb2 := Lib.hid (HW.out.trans (Below.mono hb1 (by simp))); have hx1 := HB.out.below hb1 (by simp); obtain ⟨x0, x1, x2, x3, x4, x5, xf, xl⟩ := hx1.cells; have HX1 := Lib.hid hx1; have H1 := Lib.hid h1; have HL1 := Lib.hid (show w.heap.size + 1 < w1.heap.size from h1.lt); clear hx1 hb1 h1)
    | (go_at_call 115; refine (HV.out _ (by exact H1.out)).mono ?_; rintro x w2 ⟨b0, b1, b2, b3, b4, b5, b6, b7, b8, b9, rfl, ⟨pa, pp, h2⟩, hp2⟩; clear d0 d1 d2 d3 df x0 x1 x2 x3 x4 x5 xf xl; have h3 := h2.alloc (.cells #[.int .i64 b0, .int .i64 b1, .float .f64 b2, .string b3, .slice b4 b5 b6, .slice b7 b8 b9] 28); obtain ⟨d0, d1, d2, d3, df⟩ := h3.cells; have hx3 := (HX1.out.past hp2 (by omega)).alloc (.cells #[.int .i64 b0, .int .i64 b1, .float .f64 b2, .string b3, .slice b4 b5 b6, .slice b7 b8 b9] 28); obtain ⟨x0, x1, x2, x3, x4, x5, xf, xl⟩ := hx3.cells; have HX3 := Lib.hid hx3; have hb3 := Lib.hid ((hb2.out.trans (hp2.below (Nat.le_succ _) HL1.out)).alloc (Nat.le_trans hb2.out.size hp2.size) (.cells #[.int .i64 b0, .int .i64 b1, .float .f64 b2, .string b3, .slice b4 b5 b6, .slice b7 b8 b9] 28)); clear h2 h3 hx3 hp2))
  go_region
  go_wp2_with fail
  obtain ⟨y0, y1, y2, y3, y4, y5, yf, yl⟩ := (Bx.drew (HX3.out.six (.int .i64 0) (.int .i64 0) (.float .f64 0) (.string ⟨#[]⟩) (.slice none 0 0) (.slice none 0 0))).cells
  have hfin := (Below.six hb3.out (Nat.le_refl _) (.int .i64 0) (.int .i64 0) (.float .f64 0) (.string ⟨#[]⟩) (.slice none 0 0) (.slice none 0 0)).drew
  refine bodyPost_ret (v := .tuple #[.agg #[.int .i64 0, .int .i64 0, .float .f64 0, .string ⟨#[]⟩, .slice none 0 0, .slice none 0 0], .int .i64 0, .int .i64 c]) ?_ rfl ⟨rfl, hfin⟩
  simp [results, Tryz.results85, go_sem, asAddr, y0, y1, y2, y3, y4, y5]
set_option maxRecDepth 20000 in
theorem RefV_bad {s : ByteArray} {i p : Nat} {t : VT} {l : List UInt8} (w : World) (hi : i ≤ s.size) (hs : s.size ≤ 1000000000) (hv : vP 12 0 (left s i) = .ok (t, p, l)) (hok : okV t = false) :
    Calls Tryz.prog 85 #[.string s, .int .i64 i] w fun x w' => x = .returned (.tuple #[.agg zero6, .int .i64 0, .int .i64 5]) ∧ Below w.heap.size w w' := by
  have hW : Below w.heap.size w (w.alloc (.cells #[.int .i64 0, .int .i64 0, .float .f64 0, .string ⟨#[]⟩, .slice none 0 0, .slice none 0 0] 28)) := (Below.refl _ _).alloc (Nat.le_refl _) _
  have hB := Bx.new w #[.int .i64 0, .int .i64 0, .float .f64 0, .string ⟨#[]⟩, .slice none 0 0, .slice none 0 0]
  have B := Begin_any (s := s) (i := (i : Int)) (w.alloc (.cells #[.int .i64 0, .int .i64 0, .float .f64 0, .string ⟨#[]⟩, .slice none 0 0, .slice none 0 0] 28))
  rw [if_neg (by omega), World.size_alloc] at B
  have HW := Lib.hid hW
  have HB := Lib.hid hB
  have HBE := Lib.hid B
  have SF := float_store
  have HV := Lib.hid fun W => doc_ok (g := w.heap.size + 1) hs hi hv W
  have HR := Lib.hid fun (W : World) (v : Array Value) (h : Val W W.heap.size v t) => Right_any h
  rw [hok] at HR
  unfold zero6
  generalize s.size - l.length = nx at *
  clear hi hs hv hW hB B hok
  go_enter Tryz.func85, Tryz.ntmps85
  go_wp2_with (first
    | (go_at_call 22; refine HBE.out.mono ?_; rintro x w1 ⟨rfl, h1, hb1⟩; obtain ⟨d0, d1, d2, d3, df⟩ := h1.cells; have hb2 := Lib.hid (HW.out.trans (Below.mono hb1 (by simp))); have hx1 := HB.out.below hb1 (by simp); obtain ⟨x0, x1, x2, x3, x4, x5, xf, xl⟩ := hx1.cells; have HX1 := Lib.hid hx1; have H1 := Lib.hid h1; have HL1 := Lib.hid (show w.heap.size + 1 < w1.heap.size from h1.lt); clear hx1 hb1 h1)
    | (go_at_call 115; refine (HV.out _ (by exact H1.out)).mono ?_; rintro x w2 ⟨b0, b1, b2, b3, b4, b5, b6, b7, b8, b9, rfl, ho, h2, hp2⟩; clear d0 d1 d2 d3 df x0 x1 x2 x3 x4 x5 xf xl; have h3 := h2.alloc (.cells #[.int .i64 b0, .int .i64 b1, .float .f64 b2, .string b3, .slice b4 b5 b6, .slice b7 b8 b9] 28); obtain ⟨d0, d1, d2, d3, df⟩ := h3.cells; have hx3 := (HX1.out.past hp2 (by omega)).alloc (.cells #[.int .i64 b0, .int .i64 b1, .float .f64 b2, .string b3, .slice b4 b5 b6, .slice b7 b8 b9] 28); have HX3 := Lib.hid hx3; have H3 := Lib.hid h3; have HO := Lib.hid (ho.alloc (.cells #[.int .i64 b0, .int .i64 b1, .float .f64 b2, .string b3, .slice b4 b5 b6, .slice b7 b8 b9] 28)); have hb3 := Lib.hid ((hb2.out.trans (hp2.below (Nat.le_succ _) HL1.out)).alloc (Nat.le_trans hb2.out.size hp2.size) (.cells #[.int .i64 b0, .int .i64 b1, .float .f64 b2, .string b3, .slice b4 b5 b6, .slice b7 b8 b9] 28)); clear h2 h3 hx3 hp2 ho)
    | (go_at_call 74; refine (HR.out _ _ (by exact HO.out.val)).mono ?_; rintro x w3 ⟨rfl, hb4⟩; have h4 := H3.out.past hb4; have F := Lib.hid (fail_0 h4 5); have HX4 := Lib.hid (HX3.out.below hb4 HX3.out.lt); have hb5 := Lib.hid (hb3.out.trans (hb4.mono hb3.out.size)); have HL4 := Lib.hid (show w.heap.size + 1 < w3.heap.size from h4.lt); clear h4 hb4)
    | (go_at_call 84; refine F.out.mono ?_; rintro x w4 ⟨rfl, h5, hp5⟩; clear d0 d1 d2 d3 df; obtain ⟨d0, d1, d2, d3, df⟩ := h5.cells; have hx5 := HX4.out.past hp5 (by omega); obtain ⟨x0, x1, x2, x3, x4, x5, xf, xl⟩ := hx5.cells; have HX5 := Lib.hid hx5; have hb6 := Lib.hid (hb5.out.trans (hp5.below (Nat.le_succ _) HL4.out)); clear h5 hx5 hp5))
  go_region
  go_wp2_with fail
  obtain ⟨y0, y1, y2, y3, y4, y5, yf, yl⟩ := (Bx.drew (HX5.out.six (.int .i64 0) (.int .i64 0) (.float .f64 0) (.string ⟨#[]⟩) (.slice none 0 0) (.slice none 0 0))).cells
  have hfin := (Below.six hb6.out (Nat.le_refl _) (.int .i64 0) (.int .i64 0) (.float .f64 0) (.string ⟨#[]⟩) (.slice none 0 0) (.slice none 0 0)).drew
  refine bodyPost_ret (v := .tuple #[.agg #[.int .i64 0, .int .i64 0, .float .f64 0, .string ⟨#[]⟩, .slice none 0 0, .slice none 0 0], .int .i64 0, .int .i64 5]) ?_ rfl ⟨rfl, hfin⟩
  simp [results, Tryz.results85, go_sem, asAddr, y0, y1, y2, y3, y4, y5]
set_option maxRecDepth 20000 in
theorem RefV_ok {s : ByteArray} {i p : Nat} {t : VT} {l : List UInt8} (w : World) (hi : i ≤ s.size) (hs : s.size ≤ 1000000000) (hv : vP 12 0 (left s i) = .ok (t, p, l)) (hok : okV t = true) :
    Calls Tryz.prog 85 #[.string s, .int .i64 i] w fun x w' => (∃ v, x = .returned (.tuple #[.agg v, .int .i64 ((s.size - l.length : Nat) : Int), .int .i64 0]) ∧ VOwn w' (fun b => w.heap.size ≤ b) v t) ∧ Below w.heap.size w w' := by
  have hW : Below w.heap.size w (w.alloc (.cells #[.int .i64 0, .int .i64 0, .float .f64 0, .string ⟨#[]⟩, .slice none 0 0, .slice none 0 0] 28)) := (Below.refl _ _).alloc (Nat.le_refl _) _
  have hB := Bx.new w #[.int .i64 0, .int .i64 0, .float .f64 0, .string ⟨#[]⟩, .slice none 0 0, .slice none 0 0]
  have B := Begin_any (s := s) (i := (i : Int)) (w.alloc (.cells #[.int .i64 0, .int .i64 0, .float .f64 0, .string ⟨#[]⟩, .slice none 0 0, .slice none 0 0] 28))
  rw [if_neg (by omega), World.size_alloc] at B
  have HW := Lib.hid hW
  have HB := Lib.hid hB
  have HBE := Lib.hid B
  have SF := float_store
  have HV := Lib.hid fun W => doc_ok (g := w.heap.size + 1) hs hi hv W
  have HR := Lib.hid fun (W : World) (v : Array Value) (h : Val W W.heap.size v t) => Right_any h
  rw [hok] at HR
  generalize s.size - l.length = nx at *
  clear hi hs hv hW hB B hok
  go_enter Tryz.func85, Tryz.ntmps85
  go_wp2_with (first
    | (go_at_call 22; refine HBE.out.mono ?_; rintro x w1 ⟨rfl, h1, hb1⟩; obtain ⟨d0, d1, d2, d3, df⟩ := h1.cells; have hb2 := Lib.hid (HW.out.trans (Below.mono hb1 (by simp))); have hx1 := HB.out.below hb1 (by simp); obtain ⟨x0, x1, x2, x3, x4, x5, xf, xl⟩ := hx1.cells; have HX1 := Lib.hid hx1; have H1 := Lib.hid h1; have HL1 := Lib.hid (show w.heap.size + 1 < w1.heap.size from h1.lt); clear hx1 hb1 h1)
    | (go_at_call 115; refine (HV.out _ (by exact H1.out)).mono ?_; rintro x w2 ⟨b0, b1, b2, b3, b4, b5, b6, b7, b8, b9, rfl, ho, h2, hp2⟩; clear d0 d1 d2 d3 df x0 x1 x2 x3 x4 x5 xf xl; have h3 := h2.alloc (.cells #[.int .i64 b0, .int .i64 b1, .float .f64 b2, .string b3, .slice b4 b5 b6, .slice b7 b8 b9] 28); obtain ⟨d0, d1, d2, d3, df⟩ := h3.cells; have hx3 := (HX1.out.past hp2 (by omega)).alloc (.cells #[.int .i64 b0, .int .i64 b1, .float .f64 b2, .string b3, .slice b4 b5 b6, .slice b7 b8 b9] 28); have HX3 := Lib.hid hx3; have H3 := Lib.hid h3; have HO := Lib.hid (ho.alloc (.cells #[.int .i64 b0, .int .i64 b1, .float .f64 b2, .string b3, .slice b4 b5 b6, .slice b7 b8 b9] 28)); have HN3 := Lib.hid (Bx.new w2 #[.int .i64 b0, .int .i64 b1, .float .f64 b2, .string b3, .slice b4 b5 b6, .slice b7 b8 b9]); have hb3 := Lib.hid ((hb2.out.trans (hp2.below (Nat.le_succ _) HL1.out)).alloc (Nat.le_trans hb2.out.size hp2.size) (.cells #[.int .i64 b0, .int .i64 b1, .float .f64 b2, .string b3, .slice b4 b5 b6, .slice b7 b8 b9] 28)); clear h2 h3 hx3 hp2 ho)
    | (go_at_call 74; refine (HR.out _ _ (by exact HO.out.val)).mono ?_; rintro x w3 ⟨rfl, hb4⟩; clear d0 d1 d2 d3 df; obtain ⟨d0, d1, d2, d3, df⟩ := (H3.out.past hb4).cells; have hx4 := HX3.out.below hb4 HX3.out.lt; obtain ⟨x0, x1, x2, x3, x4, x5, xf, xl⟩ := hx4.cells; have HX4 := Lib.hid hx4; obtain ⟨z0, z1, z2, z3, z4, z5, zf, zl⟩ := (HN3.out.below hb4 HN3.out.lt).cells; have HO4 := Lib.hid (HO.out.keep hb4.size fun g _ hg => hb4.block g hg); have hb5 := Lib.hid (hb3.out.trans (hb4.mono hb3.out.size)); clear hx4 hb4))
  go_region
  go_wp2_with fail
  obtain ⟨y0, y1, y2, y3, y4, y5, yf, yl⟩ := (Bx.drew (HX4.out.six (.int .i64 b0) (.int .i64 b1) (.float .f64 b2) (.string b3) (.slice b4 b5 b6) (.slice b7 b8 b9))).cells
  have hfin := (Below.six hb5.out (Nat.le_refl _) (.int .i64 b0) (.int .i64 b1) (.float .f64 b2) (.string b3) (.slice b4 b5 b6) (.slice b7 b8 b9)).drew
  refine bodyPost_ret (v := .tuple #[.agg #[.int .i64 b0, .int .i64 b1, .float .f64 b2, .string b3, .slice b4 b5 b6, .slice b7 b8 b9], .int .i64 nx, .int .i64 0]) ?_ rfl ⟨⟨_, rfl, ?_⟩, hfin⟩
  · simp [results, Tryz.results85, go_sem, asAddr, y0, y1, y2, y3, y4, y5]
  · have hl := HL1.out
    have ho4 := HO4.out
    have hl4 : ¬ (w1.heap.size ≤ w.heap.size) := by omega
    generalize w1.heap.size = m1 at ho4 hl hl4
    exact ((ho4.six hl4 _ _ _ _ _ _).drew).imp fun b hb _ => by omega
end Go.Proofs.YtekojglcbalhnaaGreatDoor

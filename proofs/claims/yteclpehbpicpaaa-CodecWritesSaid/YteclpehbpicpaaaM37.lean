/-
  Contracts of the program's readRightType, of the face of a type's reader, and of ReadType.
  The face of the program's reader of an int, and ReadInt.
-/
import Derived.Test.YteclpehbpicpaaaM34
import Derived.Test.YteclpehbpicpaaaM30
import Derived.Test.YteclpehbpicpaaaM29
import Derived.Test.YteclpehbpicpaaaM25
namespace Go.Proofs.Yteclpehbpicpaaa
open Go.RowKit

def zero3 : Array Value := #[.int .i64 0, .slice none 0 0, .slice none 0 0]
/-- What readRightType answers. -/
def rrT (l : List UInt8) : Except Nat (TT × List UInt8) := match tP 12 0 l with | .error c => .error c | .ok (t, _, r) => if tokV t = true then .ok (t, r) else .error 5
def TREnds (s : ByteArray) (w : World) (g : Nat) (r : Except Nat (TT × List UInt8)) (x : Ending) (w' : World) : Prop :=
  Past g w w' ∧ match r with
  | .error c => x = .panicked (errL c)
  | .ok (t, l) => (∃ v, x = .returned (.agg v) ∧ TOwn w' (fun b => w.heap.size ≤ b) v t) ∧ ∃ a p : Nat, a ≤ s.size ∧ l = left s a ∧ Dr w' g s a p
set_option maxRecDepth 20000 in
theorem tr_any {w : World} {g : Nat} {s : ByteArray} {a : Nat} (h : Dr w g s a 0) (ha : a ≤ s.size) (hs : s.size ≤ 1000000000) :
    Calls Try.prog 64 #[.pointer (some ⟨g, 0, none⟩)] w fun x w' => TREnds s w g (rrT (left s a)) x w' := by
  have hW : Past g w (w.alloc (.cells #[.int .i64 0, .slice none 0 0, .slice none 0 0] 30)) := (Past.refl g w).alloc _
  have hR := Bt.new w #[.int .i64 0, .slice none 0 0, .slice none 0 0]
  have V := rt_any hs 12 _ a 0 (by omega) (h.alloc (.cells #[.int .i64 0, .slice none 0 0, .slice none 0 0] 30)) ha (by omega)
  have SF := float_store
  have HW := Lib.hid hW
  have HR := Lib.hid hR
  have e0 : (12 : Int) - ((12 : Nat) : Int) = 0 := by omega
  rw [e0] at V
  have hg := h.lt
  have hgw : g ≠ w.heap.size := by omega
  clear hW hR
  have Y := Lib.hid insist_yes
  have N := Lib.hid insist_no
  unfold rrT
  cases hv : tP 12 0 (left s a) with
  | error c =>
    rw [hv] at V
    have V' := V.mono fun e w1 h => DTEnds.error h
    clear V h hv
    go_enter Try.func64, Try.ntmps64
    go_wp2_with (go_at_call 95; refine V'.mono ?_; rintro x w1 ⟨rfl, hp1⟩)
    exact ⟨rfl, HW.out.trans hp1, rfl⟩
  | ok z =>
    obtain ⟨t, p, l⟩ := z
    rw [hv] at V
    clear hv
    have V' := V.mono fun e w1 h => DTEnds.okay h
    dsimp only
    cases hok : tokV t with
    | false =>
      rw [if_neg Bool.false_ne_true]
      have HOK := Lib.hid hok
      clear V h hok
      go_enter Try.func64, Try.ntmps64
      go_wp2_with (first
        | (go_at_call 95; refine V'.mono ?_; rintro x w1 ⟨b0, b1, b2, b3, b4, b5, b6, rfl, hp1, hv1, a1, ha1, hl1, hr1⟩; have hR1 := HR.out.past hp1 hgw.symm; obtain ⟨r0, r1, r2, rf, rl⟩ := hR1.cells; have hVb := Bt.new w1 #[.int .i64 b0, .slice b1 b2 b3, .slice b4 b5 b6]; have hv2 := hv1.alloc (.cells #[.int .i64 b0, .slice b1 b2 b3, .slice b4 b5 b6] 30); have R := typeright_f hv2.val; rw [HOK.out] at R; have hlt1 := hr1.lt; clear hv1 hr1 ha1 hl1)
        | (go_at_call 43; refine R.mono ?_; rintro x w2 ⟨rfl, hb2⟩)
        | (go_at_call 85; refine (N.out _).mono ?_; rintro x w3 ⟨rfl, rfl⟩))
      exact ⟨rfl, HW.out.trans (hp1.trans (((Past.refl g w1).alloc (.cells #[.int .i64 b0, .slice b1 b2 b3, .slice b4 b5 b6] 30)).trans (Past.of_below hb2))), rfl⟩
    | true =>
      rw [if_pos rfl]
      have HOK := Lib.hid hok
      clear V h hok
      go_enter Try.func64, Try.ntmps64
      go_wp2_with (first
        | (go_at_call 95; refine V'.mono ?_; rintro x w1 ⟨b0, b1, b2, b3, b4, b5, b6, rfl, hp1, hv1, a1, ha1, hl1, hr1⟩; have hR1 := HR.out.past hp1 hgw.symm; obtain ⟨r0, r1, r2, rf, rl⟩ := hR1.cells; have hVb := Bt.new w1 #[.int .i64 b0, .slice b1 b2 b3, .slice b4 b5 b6]; have hv2 := hv1.alloc (.cells #[.int .i64 b0, .slice b1 b2 b3, .slice b4 b5 b6] 30); have R := typeright_f hv2.val; rw [HOK.out] at R; have HV1 := Lib.hid hv2; have HR1 := Lib.hid hr1; have HA1 := Lib.hid ha1; have HL1 := Lib.hid hl1; clear hv1 hr1 ha1 hl1)
        | (go_at_call 43; refine R.mono ?_; rintro x w2 ⟨rfl, hb2⟩; have hV2 := hVb.below hb2 (by simp); obtain ⟨v0, v1, v2, vf, vl⟩ := hV2.cells; have hR2 := (hR1.alloc (.cells #[.int .i64 b0, .slice b1 b2 b3, .slice b4 b5 b6] 30)).below hb2 (by simp; omega); obtain ⟨q0, q1, q2, qf, ql⟩ := hR2.cells; have HR2 := Lib.hid hR2; clear hR2)
        | (go_at_call 85; refine (Y.out _).mono ?_; rintro x w3 ⟨rfl, rfl⟩))
      have hne : g ≠ w.heap.size := hgw
      refine bodyPost_ret (results_box3 rfl _ _ w.heap.size (.int .i64 b0) (.slice b1 b2 b3) (.slice b4 b5 b6) rfl (HR2.out.put3 _ _ _)) rfl ⟨?_, ⟨_, rfl, ?_⟩, a1, p, HA1.out, HL1.out, ?_⟩
      · exact (HW.out.trans (hp1.trans (((Past.refl g w1).alloc (.cells #[.int .i64 b0, .slice b1 b2 b3, .slice b4 b5 b6] 30)).trans (Past.of_below hb2)))).put3 (Nat.le_refl _) _ _ _
      · have hv := HV1.out.keep hb2.size (fun k _ hk => hb2.block k hk)
        have hz : w.heap.size < (w.alloc (.cells #[.int .i64 0, .slice none 0 0, .slice none 0 0] 30)).heap.size := by simp
        generalize (w.alloc (.cells #[.int .i64 0, .slice none 0 0, .slice none 0 0] 30)).heap.size = B1 at hv hz
        exact (hv.put3 (by omega) _ _ _).imp fun b hb _ => by omega
      · exact ((HR1.out.alloc _).past hb2).put3 (by omega) _ _ _


theorem catchT_idle (q : Addr) (w : World) : CallsD Try.prog 94 #[.pointer (some q)] .returning w fun e u' w' => e = .returned (.tuple #[]) ∧ u' = .returning ∧ w' = w := by
  refine callsD_of_wpS Try.func94 rfl fun c₀ cs hu => ?_
  apply wpS_seq
  apply wpS_region
  simp [wpOpsS, go_sem, recoverD, hu, Try.ntmps94, Exit.thenS]
  refine wpS_of_wp ?_
  go_wp2_with fail
  cases c₀
  simp_all [bodyPostS, results, Try.results94]
set_option maxRecDepth 100000 in
theorem catchT_panics (q : Addr) (x c : Int) (older : List PanicEntry) (w : World) (hc : w.cell? q = some (.int .i64 x)) (hz : w.frozen? q = false) :
    CallsD Try.prog 94 #[.pointer (some q)] (.panicking ({ v := .iface 34 (.int .i64 c), recovered := false } :: older)) w fun e u' w' => e = .returned (.tuple #[]) ∧ u' = .panicking ({ v := .iface 34 (.int .i64 c), recovered := true } :: older) ∧ w' = w.setCell q (.int .i64 c) := by
  have TA := assert_errno c w
  refine callsD_of_wpS Try.func94 rfl fun c₀ cs hu => ?_
  apply wpS_seq
  apply wpS_region
  simp [wpOpsS, go_sem, recoverD, hu, Try.ntmps94, Exit.thenS]
  have hf : #[Value.pointer (some q)] ++ (Array.replicate 10 undef).setIfInBounds 3 (Value.iface 34 (Value.int IntKind.i64 c)) = #[.pointer (some q), undef, undef, undef, .iface 34 (.int .i64 c), undef, undef, undef, undef, undef, undef] := rfl
  rw [hf]
  refine wpS_of_wp ?_
  go_wp2_with fail
  simp [bodyPostS, results, Try.results94]

theorem readT_range {s : ByteArray} {a : Int} {f : Value} {w : World} (ha : a < 0 ∨ (s.size : Int) < a) :
    Calls Try.prog 63 #[.string s, .int .i64 a, f] w fun e w' => e = .returned (.tuple #[.agg zero3, .int .i64 0, .int .i64 3]) ∧ Below w.heap.size w w' := by
  have SF := float_store
  have hbW : Below w.heap.size w ((w.alloc (.cells #[.int .i64 0, .slice none 0 0, .slice none 0 0] 30)).alloc (.cells #[.int .i64 3] 34)) := ((Below.refl _ _).alloc (Nat.le_refl _) _).alloc (by simp) _
  by_cases h : a < 0
  · go_enter_defers Try.func63, Try.ntmps63
    go_wp2_with fail
    simp [bodyPostD, Leaves, results, Try.results63, go_sem, hbW, zero3, asAddr]
  · have h2 : (s.size : Int) < a := by omega
    go_enter_defers Try.func63, Try.ntmps63
    go_wp2_with fail
    simp [bodyPostD, Leaves, results, Try.results63, go_sem, hbW, zero3, asAddr]
theorem faceT_world {w : World} {s : ByteArray} {a : Int} {W1 : World} (hW1 : W1 = ((w.alloc (.cells #[.int .i64 0, .slice none 0 0, .slice none 0 0] 30)).alloc (.cells #[.int .i64 0] 34)).alloc (.cells #[.string s, .int .i64 a, .int .i64 0] 116)) :
    Dr W1 (w.heap.size + 2) s a 0 ∧ Below w.heap.size w W1 ∧ W1.heap[w.heap.size + 1]? = some (.cells #[.int .i64 0] 34 (0, 0)) ∧ w.heap.size + 1 < W1.heap.size ∧ Bt W1 w.heap.size #[.int .i64 0, .slice none 0 0, .slice none 0 0] := by
  subst hW1
  refine ⟨?_, (((Below.refl _ _).alloc (Nat.le_refl _) _).alloc (by simp) _).alloc (by simp; omega) _, ?_, by simp, ((Bt.new w #[.int .i64 0, .slice none 0 0, .slice none 0 0]).alloc _).alloc _⟩
  · have := heap_alloc_new ((w.alloc (.cells #[.int .i64 0, .slice none 0 0, .slice none 0 0] 30)).alloc (.cells #[.int .i64 0] 34)) (.cells #[.string s, .int .i64 a, .int .i64 0] 116)
    rw [World.size_alloc, World.size_alloc] at this
    exact this
  · rw [Below.heap_alloc _ _ _ (by simp)]
    have := heap_alloc_new (w.alloc (.cells #[.int .i64 0, .slice none 0 0, .slice none 0 0] 30)) (.cells #[.int .i64 0] 34)
    rw [World.size_alloc] at this
    exact this
set_option maxRecDepth 100000 in
set_option maxHeartbeats 1000000 in
theorem readT_err {s : ByteArray} {a c : Nat} {w : World} (hr : rrT (left s a) = .error c) (ha : a ≤ s.size) (hs : s.size ≤ 1000000000) :
    Calls Try.prog 63 #[.string s, .int .i64 a, .func (.func 64) #[] #[]] w fun e w' => e = .returned (.tuple #[.agg zero3, .int .i64 0, .int .i64 c]) ∧ Below w.heap.size w w' := by
  have SF := float_store
  obtain ⟨W1, hW1⟩ : ∃ W1, W1 = ((w.alloc (.cells #[.int .i64 0, .slice none 0 0, .slice none 0 0] 30)).alloc (.cells #[.int .i64 0] 34)).alloc (.cells #[.string s, .int .i64 a, .int .i64 0] 116) := ⟨_, rfl⟩
  obtain ⟨hD, hbW, hE, hlt, hB⟩ := faceT_world hW1
  have R := tr_any hD ha hs
  rw [hr] at R
  have MF := makeFunc_run
  have t1 : decide ((s.size : Int) < (a : Int)) = false := by simp; omega
  have HB := Lib.hid hbW
  have HE := Lib.hid hE
  have HL := Lib.hid hlt
  have HBX := Lib.hid hB
  have R1 : Calls Try.prog 64 #[.pointer (some ⟨w.heap.size + 2, 0, none⟩)] W1 fun e w1 => e = .panicked (errL c) ∧ Past (w.heap.size + 2) W1 w1 := R.mono fun e w1 h => ⟨h.2, h.1⟩
  unfold errL at R1
  have HR := Lib.hid R1
  have HW := Lib.hid hW1
  clear R R1 hW1 hD hbW hE hlt hB hr
  go_enter_defers Try.func63, Try.ntmps63
  rw [HW.out] at HR
  go_wp2_with (go_at_call 64; refine HR.out.mono ?_; rintro e w1 ⟨rfl, hp1⟩; rw [← HW.out] at hp1)
  obtain ⟨q0, q1⟩ := face_cell HE.out HL.out hp1
  have hb1 : Below w.heap.size w w1 := HB.out.trans ⟨hp1.os, hp1.tape, hp1.output, hp1.size, fun i hi => hp1.block i (by have := HL.out; omega) (by omega)⟩
  obtain ⟨x0, x1, x2, xf, xl⟩ := (HBX.out.past hp1 (by omega)).cells
  refine leaves_cons (f := 94) (args := #[.pointer (some ⟨w.heap.size + 1, 0, none⟩)]) (by simp) (by simp [go_sem]) ?_
  refine (catchT_panics ⟨w.heap.size + 1, 0, none⟩ 0 c [] _ q0 q1).mono ?_
  rintro e u' w2 ⟨rfl, rfl, rfl⟩
  have hfin : Below w.heap.size w (w1.setCell ⟨w.heap.size + 1, 0, none⟩ (.int .i64 c)) := hb1.setCell (by simp) _
  simp [Leaves, settle, results, Try.results63, go_sem, q0, hfin, zero3, asAddr, x0, x1, x2]
set_option maxRecDepth 100000 in
set_option maxHeartbeats 1000000 in
theorem readT_ok {s : ByteArray} {a : Nat} {w : World} {t : TT} {l : List UInt8} (hr : rrT (left s a) = .ok (t, l)) (ha : a ≤ s.size) (hs : s.size ≤ 1000000000) :
    Calls Try.prog 63 #[.string s, .int .i64 a, .func (.func 64) #[] #[]] w fun e w' => (∃ v, e = .returned (.tuple #[.agg v, .int .i64 ((s.size - l.length : Nat) : Int), .int .i64 0]) ∧ TOwn w' (fun b => w.heap.size ≤ b) v t) ∧ Below w.heap.size w w' := by
  have SF := float_store
  obtain ⟨W1, hW1⟩ : ∃ W1, W1 = ((w.alloc (.cells #[.int .i64 0, .slice none 0 0, .slice none 0 0] 30)).alloc (.cells #[.int .i64 0] 34)).alloc (.cells #[.string s, .int .i64 a, .int .i64 0] 116) := ⟨_, rfl⟩
  obtain ⟨hD, hbW, hE, hlt, hB⟩ := faceT_world hW1
  have R := tr_any hD ha hs
  rw [hr] at R
  have MF := makeFunc_run
  have t1 : decide ((s.size : Int) < (a : Int)) = false := by simp; omega
  have HB := Lib.hid hbW
  have HE := Lib.hid hE
  have HL := Lib.hid hlt
  have HBX := Lib.hid hB
  have R1 : Calls Try.prog 64 #[.pointer (some ⟨w.heap.size + 2, 0, none⟩)] W1 fun e w1 => ∃ (b0 : Int) (b1 : Option Addr) (b2 b3 : Nat) (b4 : Option Addr) (b5 b6 : Nat), e = .returned (.agg #[.int .i64 b0, .slice b1 b2 b3, .slice b4 b5 b6]) ∧ Past (w.heap.size + 2) W1 w1 ∧ TOwn w1 (fun b => W1.heap.size ≤ b) #[.int .i64 b0, .slice b1 b2 b3, .slice b4 b5 b6] t ∧ ∃ p : Nat, Dr w1 (w.heap.size + 2) s ((s.size - l.length : Nat) : Int) p := R.mono fun e w1 h => by
    obtain ⟨hp, ⟨v, rfl, hv⟩, a', p', ha', hl, hr⟩ := h
    obtain ⟨b0, b1, b2, b3, b4, b5, b6, rfl⟩ := hv.val.four
    refine ⟨_, _, _, _, _, _, _, rfl, hp, hv, p', ?_⟩
    rw [hl, left_at ha']; exact hr
  have HR := Lib.hid R1
  have HW := Lib.hid hW1
  generalize s.size - l.length = nx at *
  clear R R1 hW1 hD hbW hE hlt hB hr
  go_enter_defers Try.func63, Try.ntmps63
  rw [HW.out] at HR
  go_wp2_with (go_at_call 64; refine HR.out.mono ?_; rintro e w1 ⟨b0, b1, b2, b3, b4, b5, b6, rfl, hp1, hv1, p1, hr1⟩; rw [← HW.out] at hp1 hv1; have hx1 := HBX.out.past hp1 (by omega); obtain ⟨q0, q1⟩ := face_cell HE.out HL.out hp1; obtain ⟨x0, x1, x2, xf, xl⟩ := hx1.cells; have HV1 := Lib.hid hv1; have HP1 := Lib.hid hp1; have HR1 := Lib.hid hr1; have HX1 := Lib.hid hx1; clear hv1 hp1 hr1 hx1)
  clear x0 x1 x2 xf xl
  obtain ⟨W2, hW2⟩ : ∃ W2, W2 = (((w1.setCell ⟨w.heap.size, 0, none⟩ (.int .i64 b0)).setCell ⟨w.heap.size, 1, none⟩ (.slice b1 b2 b3)).setCell ⟨w.heap.size, 2, none⟩ (.slice b4 b5 b6)) := ⟨_, rfl⟩
  rw [← hW2]
  have hx2 : Bt W2 w.heap.size #[.int .i64 b0, .slice b1 b2 b3, .slice b4 b5 b6] := by rw [hW2]; exact HX1.out.put3 _ _ _
  have hr2 : Dr W2 (w.heap.size + 2) s (nx : Int) p1 := by rw [hW2]; exact HR1.out.put3 (by omega) _ _ _
  have he2 : W2.cell? ⟨w.heap.size + 1, 0, none⟩ = some (.int .i64 0) ∧ W2.frozen? ⟨w.heap.size + 1, 0, none⟩ = false := by
    have h := (HP1.out.block (w.heap.size + 1) HL.out (by omega)).trans HE.out
    have h2 : W2.heap[w.heap.size + 1]? = some (.cells #[.int .i64 0] 34 (0, 0)) := by
      rw [hW2]
      rw [Below.heap_setCell _ _ _ _ (by simp), Below.heap_setCell _ _ _ _ (by simp), Below.heap_setCell _ _ _ _ (by simp)]
      exact h
    exact ⟨by simp [World.cell?, h2], by simp [World.frozen?, h2]⟩
  have hb2 : Below w.heap.size w W2 := by
    rw [hW2]
    have hb1 : Below w.heap.size w w1 := HB.out.trans ⟨HP1.out.os, HP1.out.tape, HP1.out.output, HP1.out.size, fun i hi => HP1.out.block i (by have := HL.out; omega) (by omega)⟩
    exact ((hb1.setCell (Nat.le_refl _) _).setCell (Nat.le_refl _) _).setCell (Nat.le_refl _) _
  have hv2 : TOwn W2 (fun b => W1.heap.size ≤ b) #[.int .i64 b0, .slice b1 b2 b3, .slice b4 b5 b6] t := by
    rw [hW2]; exact HV1.out.put3 (by have := HL.out; omega) _ _ _
  obtain ⟨e0, e1⟩ := he2
  obtain ⟨d0, d1, d2, df⟩ := hr2.cells
  obtain ⟨x0, x1, x2, xf, xl⟩ := hx2.cells
  have HV2 := Lib.hid hv2
  have HB2 := Lib.hid hb2
  have HX2 := Lib.hid hx2
  clear hW2 HX1 HR1 HP1 HV1 hx2 hr2 hb2 hv2 q0 q1 d0 d2
  go_region
  go_wp2_with fail
  obtain ⟨w3, hw3⟩ : ∃ w3, w3 = ((((W2.setCell ⟨w.heap.size, 0, none⟩ (.int .i64 b0)).setCell ⟨w.heap.size, 1, none⟩ (.slice b1 b2 b3)).setCell ⟨w.heap.size, 2, none⟩ (.slice b4 b5 b6)).setCell ⟨w.heap.size + 1, 0, none⟩ (.int .i64 0)).drew := ⟨_, rfl⟩
  have hb3 : Below w.heap.size w w3 := by
    rw [hw3]
    exact ((((HB2.out.setCell (Nat.le_refl _) _).setCell (Nat.le_refl _) _).setCell (Nat.le_refl _) _).setCell (Nat.le_succ _) _).drew
  have hx3 : Bt w3 w.heap.size #[.int .i64 b0, .slice b1 b2 b3, .slice b4 b5 b6] := by
    rw [hw3]
    exact ((HX2.out.put3 (.int .i64 b0) (.slice b1 b2 b3) (.slice b4 b5 b6)).other (S := w.heap.size + 1) (by omega) 0 (.int .i64 0)).drew
  have hv3 : TOwn w3 (fun b => W1.heap.size ≤ b) #[.int .i64 b0, .slice b1 b2 b3, .slice b4 b5 b6] t := by
    rw [hw3]
    have hl := HL.out
    exact ((HV2.out.put3 (R := w.heap.size) (by omega) (.int .i64 b0) (.slice b1 b2 b3) (.slice b4 b5 b6)).set (R := w.heap.size + 1) (by omega) 0 (.int .i64 0)).drew
  have e3 : w3.cell? ⟨w.heap.size + 1, 0, none⟩ = some (.int .i64 0) := by
    rw [hw3, World.cell?_drew]
    have : (((W2.setCell ⟨w.heap.size, 0, none⟩ (.int .i64 b0)).setCell ⟨w.heap.size, 1, none⟩ (.slice b1 b2 b3)).setCell ⟨w.heap.size, 2, none⟩ (.slice b4 b5 b6)).cell? ⟨w.heap.size + 1, 0, none⟩ = some (.int .i64 0) := by simp [go_sem, e0]
    exact World.cell?_setCell_same _ _ _ this
  have hv4 := hv3.imp (Q := fun b => w.heap.size ≤ b) fun b hb _ => by have := HL.out; omega
  rw [← hw3]
  obtain ⟨y0, y1, y2, yf, yl⟩ := hx3.cells
  clear hw3 hx3 hv3 x0 x1 x2 xf xl e0 e1
  refine leaves_cons (f := 94) (args := #[.pointer (some ⟨w.heap.size + 1, 0, none⟩)]) (by simp) (by simp [go_sem]) ?_
  refine (catchT_idle ⟨w.heap.size + 1, 0, none⟩ _).mono ?_
  rintro e u' w4 ⟨rfl, rfl, rfl⟩
  simp [Leaves, settle, results, Try.results63, go_sem, e3, hb3, asAddr, y0, y1, y2, hv4]


/-- What ReadType reads. -/
def rdT (s : ByteArray) (a : Int) : Except Nat (TT × List UInt8) := if a < 0 ∨ (s.size : Int) < a then .error 3 else rrT (left s a.toNat)
theorem ReadType_err {s : ByteArray} {a : Int} {c : Nat} {w : World} (hr : rdT s a = .error c) (hs : s.size ≤ 1000000000) :
    Calls Try.prog 33 #[.string s, .int .i64 a] w fun e w' => e = .returned (.tuple #[.agg zero3, .int .i64 0, .int .i64 c]) ∧ Below w.heap.size w w' := by
  have F : ∀ w, Calls Try.prog 63 #[.string s, .int .i64 a, .func (.func 64) #[] #[]] w fun e w' => e = .returned (.tuple #[.agg zero3, .int .i64 0, .int .i64 c]) ∧ Below w.heap.size w w' := fun w => by
    unfold rdT at hr
    by_cases h : a < 0 ∨ (s.size : Int) < a
    · rw [if_pos h] at hr
      cases hr
      exact readT_range h
    · rw [if_neg h] at hr
      have := readT_err (w := w) hr (by omega) hs
      have e : ((a.toNat : Nat) : Int) = a := by omega
      rw [e] at this
      exact this
  unfold zero3 at *
  have SF := float_store
  have hW : Below w.heap.size w (w.alloc (.cells #[.int .i64 0, .slice none 0 0, .slice none 0 0] 30)) := (Below.refl _ _).alloc (Nat.le_refl _) _
  have hB := Bt.new w #[.int .i64 0, .slice none 0 0, .slice none 0 0]
  have HW := Lib.hid hW
  have HB := Lib.hid hB
  clear hr hW hB
  go_enter Try.func33, Try.ntmps33
  go_wp2_with (go_at_call 63; refine (F _).mono ?_; rintro e w1 ⟨rfl, hb1⟩; have hb2 := HW.out.trans (Below.mono hb1 (by simp)); have hx1 := HB.out.below hb1 (by simp); obtain ⟨x0, x1, x2, xf, xl⟩ := hx1.cells; have HX1 := Lib.hid hx1; clear hx1)
  obtain ⟨y0, y1, y2, yf, yl⟩ := (HX1.out.put3 (.int .i64 0) (.slice none 0 0) (.slice none 0 0)).cells
  have hfin := Below.put3 hb2 (Nat.le_refl _) (.int .i64 0) (.slice none 0 0) (.slice none 0 0)
  refine bodyPost_ret (v := .tuple #[.agg #[.int .i64 0, .slice none 0 0, .slice none 0 0], .int .i64 0, .int .i64 c]) ?_ rfl ⟨rfl, hfin⟩
  simp [results, Try.results33, go_sem, asAddr, y0, y1, y2]
theorem ReadType_ok {s : ByteArray} {a : Int} {t : TT} {l : List UInt8} {w : World} (hr : rdT s a = .ok (t, l)) (hs : s.size ≤ 1000000000) :
    Calls Try.prog 33 #[.string s, .int .i64 a] w fun e w' => (∃ v, e = .returned (.tuple #[.agg v, .int .i64 ((s.size - l.length : Nat) : Int), .int .i64 0]) ∧ TOwn w' (fun b => w.heap.size ≤ b) v t) ∧ Below w.heap.size w w' := by
  have F : ∀ w, Calls Try.prog 63 #[.string s, .int .i64 a, .func (.func 64) #[] #[]] w fun e w' => ∃ (b0 : Int) (b1 : Option Addr) (b2 b3 : Nat) (b4 : Option Addr) (b5 b6 : Nat), e = .returned (.tuple #[.agg #[.int .i64 b0, .slice b1 b2 b3, .slice b4 b5 b6], .int .i64 ((s.size - l.length : Nat) : Int), .int .i64 0]) ∧ TOwn w' (fun b => w.heap.size ≤ b) #[.int .i64 b0, .slice b1 b2 b3, .slice b4 b5 b6] t ∧ Below w.heap.size w w' := fun w => by
    unfold rdT at hr
    by_cases h : a < 0 ∨ (s.size : Int) < a
    · rw [if_pos h] at hr
      cases hr
    · rw [if_neg h] at hr
      have := readT_ok (w := w) hr (by omega) hs
      have e : ((a.toNat : Nat) : Int) = a := by omega
      rw [e] at this
      refine this.mono fun x w' hx => ?_
      obtain ⟨⟨v, rfl, hv⟩, hb⟩ := hx
      obtain ⟨b0, b1, b2, b3, b4, b5, b6, rfl⟩ := hv.val.four
      exact ⟨_, _, _, _, _, _, _, rfl, hv, hb⟩
  have SF := float_store
  have hW : Below w.heap.size w (w.alloc (.cells #[.int .i64 0, .slice none 0 0, .slice none 0 0] 30)) := (Below.refl _ _).alloc (Nat.le_refl _) _
  have hB := Bt.new w #[.int .i64 0, .slice none 0 0, .slice none 0 0]
  have HW := Lib.hid hW
  have HB := Lib.hid hB
  generalize s.size - l.length = nx at *
  clear hr hW hB
  go_enter Try.func33, Try.ntmps33
  go_wp2_with (go_at_call 63; refine (F _).mono ?_; rintro e w1 ⟨b0, b1, b2, b3, b4, b5, b6, rfl, hv1, hb1⟩; have hb2 := HW.out.trans (Below.mono hb1 (by simp)); have hx1 := HB.out.below hb1 (by simp); obtain ⟨x0, x1, x2, xf, xl⟩ := hx1.cells; have HX1 := Lib.hid hx1; have HV1 := Lib.hid hv1; clear hx1 hv1)
  obtain ⟨y0, y1, y2, yf, yl⟩ := (HX1.out.put3 (.int .i64 b0) (.slice b1 b2 b3) (.slice b4 b5 b6)).cells
  have hfin := Below.put3 hb2 (Nat.le_refl _) (.int .i64 b0) (.slice b1 b2 b3) (.slice b4 b5 b6)
  refine bodyPost_ret (v := .tuple #[.agg #[.int .i64 b0, .slice b1 b2 b3, .slice b4 b5 b6], .int .i64 nx, .int .i64 0]) ?_ rfl ⟨⟨_, rfl, ?_⟩, hfin⟩
  · simp [results, Try.results33, go_sem, asAddr, y0, y1, y2]
  · have hv := HV1.out
    have hz : w.heap.size < (w.alloc (.cells #[.int .i64 0, .slice none 0 0, .slice none 0 0] 30)).heap.size := by simp
    generalize (w.alloc (.cells #[.int .i64 0, .slice none 0 0, .slice none 0 0] 30)).heap.size = B1 at hv hz
    exact (hv.put3 (by omega) _ _ _).imp fun b hb _ => by omega
end Go.Proofs.Yteclpehbpicpaaa
namespace Go.Proofs.Yteclpehbpicpaaa
open Go.RowKit

theorem catchI_idle (q : Addr) (w : World) : CallsD Try.prog 86 #[.pointer (some q)] .returning w fun e u' w' => e = .returned (.tuple #[]) ∧ u' = .returning ∧ w' = w := by
  refine callsD_of_wpS Try.func86 rfl fun c₀ cs hu => ?_
  apply wpS_seq
  apply wpS_region
  simp [wpOpsS, go_sem, recoverD, hu, Try.ntmps86, Exit.thenS]
  refine wpS_of_wp ?_
  go_wp2_with fail
  cases c₀
  simp_all [bodyPostS, results, Try.results86]
set_option maxRecDepth 100000 in
theorem catchI_panics (q : Addr) (x c : Int) (older : List PanicEntry) (w : World) (hc : w.cell? q = some (.int .i64 x)) (hz : w.frozen? q = false) :
    CallsD Try.prog 86 #[.pointer (some q)] (.panicking ({ v := .iface 34 (.int .i64 c), recovered := false } :: older)) w fun e u' w' => e = .returned (.tuple #[]) ∧ u' = .panicking ({ v := .iface 34 (.int .i64 c), recovered := true } :: older) ∧ w' = w.setCell q (.int .i64 c) := by
  have TA := assert_errno c w
  refine callsD_of_wpS Try.func86 rfl fun c₀ cs hu => ?_
  apply wpS_seq
  apply wpS_region
  simp [wpOpsS, go_sem, recoverD, hu, Try.ntmps86, Exit.thenS]
  have hf : #[Value.pointer (some q)] ++ (Array.replicate 10 undef).setIfInBounds 3 (Value.iface 34 (Value.int IntKind.i64 c)) = #[.pointer (some q), undef, undef, undef, .iface 34 (.int .i64 c), undef, undef, undef, undef, undef, undef] := rfl
  rw [hf]
  refine wpS_of_wp ?_
  go_wp2_with fail
  simp [bodyPostS, results, Try.results86]
theorem readI_range {s : ByteArray} {a : Int} {f : Value} {w : World} (ha : a < 0 ∨ (s.size : Int) < a) :
    Calls Try.prog 53 #[.string s, .int .i64 a, f] w fun e w' => e = .returned (.tuple #[.int .i64 0, .int .i64 0, .int .i64 3]) ∧ Below w.heap.size w w' := by
  have hbW : Below w.heap.size w (w.alloc (.cells #[.int .i64 3] 34)) := (Below.refl _ _).alloc (Nat.le_refl _) _
  by_cases h : a < 0
  · go_enter_defers Try.func53, Try.ntmps53
    go_wp2_with fail
    simp [bodyPostD, Leaves, results, Try.results53, go_sem, hbW]
  · have h2 : (s.size : Int) < a := by omega
    go_enter_defers Try.func53, Try.ntmps53
    go_wp2_with fail
    simp [bodyPostD, Leaves, results, Try.results53, go_sem, hbW]
set_option maxRecDepth 100000 in
set_option maxHeartbeats 1000000 in
theorem readI_ok {s : ByteArray} {a : Nat} {w : World} (ha : a ≤ s.size) (hs : s.size ≤ 1000000000) :
    Calls Try.prog 53 #[.string s, .int .i64 a, .func (.func 54) #[] #[]] w fun e w' => e = .returned (faceV s (fun n : Int => .int .i64 n) (.int .i64 0) (iP (left s a))) ∧ Below w.heap.size w w' := by
  obtain ⟨W1, hW1⟩ : ∃ W1, W1 = (w.alloc (.cells #[.int .i64 0] 34)).alloc (.cells #[.string s, .int .i64 a, .int .i64 0] 116) := ⟨_, rfl⟩
  obtain ⟨hD, hbW, hE, hlt⟩ := face_world hW1
  have R := readInt_ok hD ha hs
  have MF := makeFunc_run
  have t1 : decide ((s.size : Int) < (a : Int)) = false := by simp; omega
  generalize iP (left s a) = r at *
  have HB := Lib.hid hbW
  have HE := Lib.hid hE
  have HL := Lib.hid hlt
  clear hD hbW hE hlt
  cases r with
  | error c =>
    have R1 : Calls Try.prog 54 #[.pointer (some ⟨w.heap.size + 1, 0, none⟩)] W1 fun e w1 => e = .panicked (errL c) ∧ Past (w.heap.size + 1) W1 w1 := R.mono fun e w1 h => ⟨h.2, h.1⟩
    unfold errL at R1
    have HR := Lib.hid R1
    have HW := Lib.hid hW1
    clear R R1 hW1
    go_enter_defers Try.func53, Try.ntmps53
    rw [HW.out] at HR
    go_wp2_with (go_at_call 54; refine HR.out.mono ?_; rintro e w1 ⟨rfl, hp1⟩; rw [← HW.out] at hp1)
    obtain ⟨q0, q1⟩ := face_cell HE.out HL.out hp1
    have hb1 := face_below HB.out HL.out hp1
    refine leaves_cons (f := 86) (args := #[.pointer (some ⟨w.heap.size, 0, none⟩)]) (by simp) (by simp [go_sem]) ?_
    refine (catchI_panics ⟨w.heap.size, 0, none⟩ 0 c [] _ q0 q1).mono ?_
    rintro e u' w2 ⟨rfl, rfl, rfl⟩
    have hfin : Below w.heap.size w (w1.setCell ⟨w.heap.size, 0, none⟩ (.int .i64 c)) := hb1.setCell (Nat.le_refl _) _
    simp [Leaves, settle, results, Try.results53, go_sem, q0, faceV, hfin]
  | ok z =>
    obtain ⟨n, l⟩ := z
    have R1 : Calls Try.prog 54 #[.pointer (some ⟨w.heap.size + 1, 0, none⟩)] W1 fun e w1 => e = .returned (.int .i64 n) ∧ Past (w.heap.size + 1) W1 w1 ∧ Dr w1 (w.heap.size + 1) s ((s.size - l.length : Nat) : Int) 0 := R.mono fun e w1 h => by
      obtain ⟨hp, hx, a', ha', hl, hr⟩ := h
      refine ⟨hx, hp, ?_⟩
      rw [hl, left_at ha']; exact hr
    have e : faceV s (fun n : Int => .int .i64 n) (.int .i64 0) (.ok (n, l)) = .tuple #[.int .i64 n, .int .i64 ((s.size - l.length : Nat) : Int), .int .i64 0] := rfl
    rw [e]
    clear e
    have HR := Lib.hid R1
    have HW := Lib.hid hW1
    generalize s.size - l.length = nx at *
    clear R R1 hW1
    go_enter_defers Try.func53, Try.ntmps53
    rw [HW.out] at HR
    go_wp2_with (go_at_call 54; refine HR.out.mono ?_; rintro e w1 ⟨rfl, hp1, hr1⟩; rw [← HW.out] at hp1)
    obtain ⟨q0, q1⟩ := face_cell HE.out HL.out hp1
    obtain ⟨d0, d1, d2, df⟩ := hr1.cells
    have hb1 := Lib.hid (face_below HB.out HL.out hp1)
    clear hp1 hr1 d0 d2
    go_region
    go_wp2_with fail
    obtain ⟨w2, hw2⟩ : ∃ w2, w2 = (w1.setCell ⟨w.heap.size, 0, none⟩ (.int .i64 0)).drew := ⟨_, rfl⟩
    have hb2 : Below w.heap.size w w2 := by rw [hw2]; exact (hb1.out.setCell (Nat.le_refl _) _).drew
    have q2 : w2.cell? ⟨w.heap.size, 0, none⟩ = some (.int .i64 0) := by
      rw [hw2, World.cell?_drew]; exact World.cell?_setCell_same _ _ _ q0
    rw [← hw2]
    clear hw2 q0 q1
    refine leaves_cons (f := 86) (args := #[.pointer (some ⟨w.heap.size, 0, none⟩)]) (by simp) (by simp [go_sem]) ?_
    refine (catchI_idle ⟨w.heap.size, 0, none⟩ _).mono ?_
    rintro e u' w3 ⟨rfl, rfl, rfl⟩
    simp [Leaves, settle, results, Try.results53, go_sem, q2, hb2]
/-- What ReadInt answers. -/
def rdI (s : ByteArray) (a : Int) : Value := if a < 0 ∨ (s.size : Int) < a then .tuple #[.int .i64 0, .int .i64 0, .int .i64 3] else faceV s (fun n : Int => .int .i64 n) (.int .i64 0) (iP (left s a.toNat))
theorem ReadInt_f {s : ByteArray} {a : Int} {w : World} (hs : s.size ≤ 1000000000) :
    Calls Try.prog 25 #[.string s, .int .i64 a] w fun e w' => e = .returned (rdI s a) ∧ Below w.heap.size w w' := by
  by_cases h : a < 0 ∨ (s.size : Int) < a
  · have F := readI_range (f := .func (.func 54) #[] #[]) (w := w) h
    unfold rdI
    rw [if_pos h]
    clear h
    go_enter Try.func25, Try.ntmps25
    go_wp2_with (go_at_call 53; refine F.mono ?_; rintro e w1 ⟨rfl, hb1⟩)
    go_ret3
    exact ⟨rfl, hb1⟩
  · have F := readI_ok (a := a.toNat) (w := w) (show a.toNat ≤ s.size by omega) hs
    have e : ((a.toNat : Nat) : Int) = a := by omega
    rw [e] at F
    unfold rdI
    rw [if_neg h]
    obtain ⟨x, y, z, hv⟩ := face_three s (k := .i64) (fun n : Int => n) (iP (left s a.toNat))
    rw [hv] at F ⊢
    clear h e hv
    go_enter Try.func25, Try.ntmps25
    go_wp2_with (go_at_call 53; refine F.mono ?_; rintro e w1 ⟨rfl, hb1⟩)
    go_ret3
    exact ⟨rfl, hb1⟩
end Go.Proofs.Yteclpehbpicpaaa

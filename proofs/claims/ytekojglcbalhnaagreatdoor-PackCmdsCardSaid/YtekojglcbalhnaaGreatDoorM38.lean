/-
  The program's faces of its reader of models: the closure, caught.
  The program's read of a whole model.
  The program's Unpack, as the opening look asks it.
  Two models that are none are the same.
  The laws' opening look.
-/
import Derived.Test.YtekojglcbalhnaaGreatDoorM37
namespace Go.Proofs.YtekojglcbalhnaaGreatDoor
open Go.RowKit

theorem pcatchM_idle (q : Addr) (w : World) : CallsD Tryz.prog 92 #[.pointer (some q)] .returning w fun e u' w' => e = .returned (.tuple #[]) ∧ u' = .returning ∧ w' = w := by
  refine callsD_of_wpS Tryz.func92 rfl fun c₀ cs hu => ?_
  apply wpS_seq
  apply wpS_region
  simp [wpOpsS, go_sem, recoverD, hu, Tryz.ntmps92, Exit.thenS]
  refine wpS_of_wp ?_
  go_wp2_with fail
  cases c₀
  simp_all [bodyPostS, results, Tryz.results92]
set_option maxRecDepth 100000 in
theorem pcatchM_panics (q : Addr) (x c : Int) (older : List PanicEntry) (w : World) (hc : w.cell? q = some (.int .i64 x)) (hz : w.frozen? q = false) :
    CallsD Tryz.prog 92 #[.pointer (some q)] (.panicking ({ v := .iface 33 (.int .i64 c), recovered := false } :: older)) w fun e u' w' => e = .returned (.tuple #[]) ∧ u' = .panicking ({ v := .iface 33 (.int .i64 c), recovered := true } :: older) ∧ w' = w.setCell q (.int .i64 c) := by
  have TA := assert_errno c w
  refine callsD_of_wpS Tryz.func92 rfl fun c₀ cs hu => ?_
  apply wpS_seq
  apply wpS_region
  simp [wpOpsS, go_sem, recoverD, hu, Tryz.ntmps92, Exit.thenS]
  have hf : #[Value.pointer (some q)] ++ (Array.replicate 10 undef).setIfInBounds 3 (Value.iface 33 (Value.int IntKind.i64 c)) = #[.pointer (some q), undef, undef, undef, .iface 33 (.int .i64 c), undef, undef, undef, undef, undef, undef] := rfl
  rw [hf]
  refine wpS_of_wp ?_
  go_wp2_with fail
  simp [bodyPostS, results, Tryz.results92]

theorem cells6 {w : World} {R : Nat} {a0 a1 a2 a3 a4 a5 : Value} (h : w.heap[R]? = some (.cells #[a0, a1, a2, a3, a4, a5] 50 (0, 0))) :
    w.cell? ⟨R, 0, none⟩ = some a0 ∧ w.cell? ⟨R, 1, none⟩ = some a1 ∧ w.cell? ⟨R, 2, none⟩ = some a2 ∧ w.cell? ⟨R, 3, none⟩ = some a3 ∧ w.cell? ⟨R, 4, none⟩ = some a4 ∧ w.cell? ⟨R, 5, none⟩ = some a5 := by
  refine ⟨?_, ?_, ?_, ?_, ?_, ?_⟩ <;> simp [World.cell?, h]
/-- How a whole model's reading ends: it gives up, or it is the one that is none. -/
def WhEnds (ok : Bool) (s : ByteArray) (w : World) (g : Nat) (e : Ending) (w' : World) : Prop :=
  Past g w w' ∧ if ok then e = .returned (.agg #[.int .i64 0, .slice none 0 0, .slice none 0 0, .slice none 0 0, .slice none 0 0, .slice none 0 0]) ∧ Pr w' g s 10 else e = .panicked (errL 5)
def Whole (ok : Bool) (s : ByteArray) : Prop := ∀ {w : World} {g : Nat} {a : Int}, Pr w g s a →
    Calls Tryz.prog 29 #[.pointer (some ⟨g, 0, none⟩)] w fun e w' => WhEnds ok s w g e w'
set_option maxRecDepth 20000 in
set_option maxHeartbeats 2000000 in
theorem mclos_any {ok : Bool} {w : World} {g bw : Nat} {s : ByteArray} {a : Int} (HM : Whole ok s) (h : Pr w g s a) (hf : w.heap[bw]? = some (.cells #[.func (.func 29) #[] #[]] 82 (0, 0))) :
    Calls Tryz.prog 62 #[.pointer (some ⟨bw, 0, none⟩), .pointer (some ⟨g, 0, none⟩)] w fun e w' => WhEnds ok s w g e w' := by
  have hg := h.lt
  have hbw : bw < w.heap.size := (Array.getElem?_eq_some_iff.1 hf).1
  obtain ⟨W0, hW0⟩ : ∃ W0, W0 = w.alloc (.cells #[.int .i64 0, .slice none 0 0, .slice none 0 0, .slice none 0 0, .slice none 0 0, .slice none 0 0] 50) := ⟨_, rfl⟩
  have hb0 : Below w.heap.size w W0 := by rw [hW0]; exact (Below.refl _ _).alloc (Nat.le_refl _) _
  have hs0 : W0.heap.size = w.heap.size + 1 := by rw [hW0]; simp
  have hx0 : W0.heap[w.heap.size]? = some (.cells #[.int .i64 0, .slice none 0 0, .slice none 0 0, .slice none 0 0, .slice none 0 0, .slice none 0 0] 50 (0, 0)) := by rw [hW0]; exact heap_alloc_new w _
  have hf0 : W0.cell? ⟨bw, 0, none⟩ = some (.func (.func 29) #[] #[]) := by
    have := (hb0.block bw hbw).trans hf
    simp [World.cell?, this]
  have C := HM (h.past hb0)
  unfold WhEnds at C ⊢
  have HX0 := Lib.hid hx0
  have HB0 := Lib.hid hb0
  have HZ := Lib.hid hs0
  have HG := Lib.hid hg
  have e0 : w.alloc (.cells #[.int .i64 0, .slice none 0 0, .slice none 0 0, .slice none 0 0, .slice none 0 0, .slice none 0 0] 50) = W0 := hW0.symm
  have HE := Lib.hid e0
  rw [← e0] at hf0
  clear h hb0 hs0 hx0 hg hW0 hf hbw e0 HM
  cases ok with
  | false =>
    simp only [Bool.false_eq_true, if_false] at C ⊢
    have HC := Lib.hid C
    clear C
    go_enter Tryz.func62, Tryz.ntmps62
    go_wp2_with fail
    rw [HE.out]
    go_wp2_with (go_at_call 29; refine HC.out.mono ?_; rintro e w1 ⟨hp, rfl⟩)
    exact ⟨rfl, (Past.of_below HB0.out).trans hp, rfl⟩
  | true =>
    simp only [if_true] at C ⊢
    have HC := Lib.hid C
    clear C
    go_enter Tryz.func62, Tryz.ntmps62
    go_wp2_with fail
    rw [HE.out]
    go_wp2_with (first
      | (go_at_call 29; refine HC.out.mono ?_; rintro e w1 ⟨hp, rfl, h1⟩; have HX1 := Lib.hid ((hp.block w.heap.size (by have := HZ.out; omega) (by have := HG.out; omega)).trans HX0.out); have HP := Lib.hid ((Past.of_below HB0.out).trans hp); have HL := Lib.hid h1; clear hp h1)
      | (refine stM rfl (.tmp 2) (.tmp 4) rfl rfl w.heap.size #[.int .i64 0, .slice none 0 0, .slice none 0 0, .slice none 0 0, .slice none 0 0, .slice none 0 0] (by kernel_rfl) (by kernel_rfl) #[.int .i64 0, .slice none 0 0, .slice none 0 0, .slice none 0 0, .slice none 0 0, .slice none 0 0] HX1.out rfl rfl one6m ?_)
      | fail)
    refine bodyPost_ret (v := .agg #[.int .i64 0, .slice none 0 0, .slice none 0 0, .slice none 0 0, .slice none 0 0, .slice none 0 0]) ?_ rfl ⟨HP.out.setRowNew (Nat.le_refl _) #[.int .i64 0, .slice none 0 0, .slice none 0 0, .slice none 0 0, .slice none 0 0, .slice none 0 0], rfl, HL.out.setRow (by have := HG.out; omega) #[.int .i64 0, .slice none 0 0, .slice none 0 0, .slice none 0 0, .slice none 0 0, .slice none 0 0]⟩
    exact results_model rfl _ _ w.heap.size _ rfl (setRow_heap w1 w.heap.size #[.int .i64 0, .slice none 0 0, .slice none 0 0, .slice none 0 0, .slice none 0 0, .slice none 0 0] #[.int .i64 0, .slice none 0 0, .slice none 0 0, .slice none 0 0, .slice none 0 0, .slice none 0 0] _ (0, 0) HX1.out) rfl
def FwEnds (ok : Bool) (s : ByteArray) (w : World) (g : Nat) (e : Ending) (w' : World) : Prop :=
  Past g w w' ∧ if ok then e = .returned (.tuple #[.agg #[.int .i64 0, .slice none 0 0, .slice none 0 0, .slice none 0 0, .slice none 0 0, .slice none 0 0], .int .i64 0]) ∧ Pr w' g s 10 else e = .returned (.tuple #[.agg #[.int .i64 0, .slice none 0 0, .slice none 0 0, .slice none 0 0, .slice none 0 0, .slice none 0 0], .int .i64 5])
set_option maxRecDepth 100000 in
set_option maxHeartbeats 2000000 in
theorem mcaught_any {ok : Bool} {w : World} {g bw : Nat} {s : ByteArray} {a : Int} (HM : Whole ok s) (h : Pr w g s a) (hf : w.heap[bw]? = some (.cells #[.func (.func 29) #[] #[]] 82 (0, 0))) :
    Calls Tryz.prog 61 #[.func (.func 62) #[] #[.pointer (some ⟨bw, 0, none⟩), .pointer (some ⟨g, 0, none⟩)]] w fun e w' => FwEnds ok s w g e w' := by
  have hg := h.lt
  have hbw : bw < w.heap.size := (Array.getElem?_eq_some_iff.1 hf).1
  obtain ⟨W0, hW0⟩ : ∃ W0, W0 = (w.alloc (.cells #[.int .i64 0, .slice none 0 0, .slice none 0 0, .slice none 0 0, .slice none 0 0, .slice none 0 0] 50)).alloc (.cells #[.int .i64 0] 33) := ⟨_, rfl⟩
  have hb0 : Below w.heap.size w W0 := by rw [hW0]; exact ((Below.refl _ _).alloc (Nat.le_refl _) _).alloc (by simp) _
  have hs0 : W0.heap.size = w.heap.size + 2 := by rw [hW0]; simp
  have hx0 : W0.heap[w.heap.size]? = some (.cells #[.int .i64 0, .slice none 0 0, .slice none 0 0, .slice none 0 0, .slice none 0 0, .slice none 0 0] 50 (0, 0)) := by
    rw [hW0, Below.heap_alloc _ _ _ (by simp)]; exact heap_alloc_new w _
  have hy0 : W0.heap[w.heap.size + 1]? = some (.cells #[.int .i64 0] 33 (0, 0)) := by
    rw [hW0]
    have := heap_alloc_new (w.alloc (.cells #[.int .i64 0, .slice none 0 0, .slice none 0 0, .slice none 0 0, .slice none 0 0, .slice none 0 0] 50)) (.cells #[.int .i64 0] 33)
    rw [World.size_alloc] at this; exact this
  have C := mclos_any HM (h.past hb0) ((hb0.block bw hbw).trans hf)
  unfold WhEnds at C
  unfold FwEnds
  have MF := makeFunc_run
  have HX0 := Lib.hid hx0
  have HY0 := Lib.hid hy0
  have HB0 := Lib.hid hb0
  have HZ := Lib.hid hs0
  have HG := Lib.hid hg
  have e0 : (w.alloc (.cells #[.int .i64 0, .slice none 0 0, .slice none 0 0, .slice none 0 0, .slice none 0 0, .slice none 0 0] 50)).alloc (.cells #[.int .i64 0] 33) = W0 := hW0.symm
  have HE := Lib.hid e0
  clear h hb0 hs0 hx0 hy0 hg hW0 hf hbw e0 HM
  cases ok with
  | false =>
    simp only [Bool.false_eq_true, if_false] at C ⊢
    unfold errL at C
    have HC := Lib.hid C
    clear C
    go_enter_defers Tryz.func61, Tryz.ntmps61
    go_wp2_with fail
    rw [HE.out]
    go_wp2_with (go_at_call 62; refine HC.out.mono ?_; rintro e w1 ⟨hp, rfl⟩)
    have hx1 := (hp.block w.heap.size (by have := HZ.out; omega) (by have := HG.out; omega)).trans HX0.out
    have hy1 := (hp.block (w.heap.size + 1) (by have := HZ.out; omega) (by have := HG.out; omega)).trans HY0.out
    have q0 : w1.cell? ⟨w.heap.size + 1, 0, none⟩ = some (.int .i64 0) := by simp [World.cell?, hy1]
    have q1 : w1.frozen? ⟨w.heap.size + 1, 0, none⟩ = false := by simp [World.frozen?, hy1]
    have hfin : Past g w (w1.setCell ⟨w.heap.size + 1, 0, none⟩ (.int .i64 5)) := ((Past.of_below HB0.out).trans hp).setNew (Nat.le_succ _) 0 (.int .i64 5)
    obtain ⟨z0, z1, z2, z3, z4, z5⟩ := cells6 hx1
    refine leaves_cons (f := 92) (args := #[.pointer (some ⟨w.heap.size + 1, 0, none⟩)]) (by simp) (by simp [go_sem]) ?_
    refine (pcatchM_panics ⟨w.heap.size + 1, 0, none⟩ 0 5 [] _ q0 q1).mono ?_
    rintro e u' w2 ⟨rfl, rfl, rfl⟩
    simp [Leaves, settle, results, Tryz.results61, go_sem, q0, asAddr, z0, z1, z2, z3, z4, z5, hfin]
  | true =>
    simp only [if_true] at C ⊢
    have HC := Lib.hid C
    clear C
    go_enter_defers Tryz.func61, Tryz.ntmps61
    go_wp2_with fail
    rw [HE.out]
    go_wp2_with (first
      | (go_at_call 62; refine HC.out.mono ?_; rintro e w1 ⟨hp, rfl, h1⟩; have HX1 := Lib.hid ((hp.block w.heap.size (by have := HZ.out; omega) (by have := HG.out; omega)).trans HX0.out); have HY1 := Lib.hid ((hp.block (w.heap.size + 1) (by have := HZ.out; omega) (by have := HG.out; omega)).trans HY0.out); have HP := Lib.hid ((Past.of_below HB0.out).trans hp); have HL := Lib.hid h1; clear hp h1)
      | (refine stM rfl (.tmp 2) (.tmp 6) rfl rfl w.heap.size #[.int .i64 0, .slice none 0 0, .slice none 0 0, .slice none 0 0, .slice none 0 0, .slice none 0 0] (by kernel_rfl) (by kernel_rfl) #[.int .i64 0, .slice none 0 0, .slice none 0 0, .slice none 0 0, .slice none 0 0, .slice none 0 0] HX1.out rfl rfl one6m ?_; refine Hid.out ?_))
    refine Lib.hid ?_
    obtain ⟨W2, hW2⟩ : ∃ W2, W2 = w1.setRow w.heap.size #[.int .i64 0, .slice none 0 0, .slice none 0 0, .slice none 0 0, .slice none 0 0, .slice none 0 0] := ⟨_, rfl⟩
    rw [← hW2]
    have hx2 : W2.heap[w.heap.size]? = some (.cells #[.int .i64 0, .slice none 0 0, .slice none 0 0, .slice none 0 0, .slice none 0 0, .slice none 0 0] 50 (0, 0)) := by rw [hW2]; exact setRow_heap w1 w.heap.size #[.int .i64 0, .slice none 0 0, .slice none 0 0, .slice none 0 0, .slice none 0 0, .slice none 0 0] #[.int .i64 0, .slice none 0 0, .slice none 0 0, .slice none 0 0, .slice none 0 0, .slice none 0 0] _ (0, 0) HX1.out
    have hy2 : W2.heap[w.heap.size + 1]? = some (.cells #[.int .i64 0] 33 (0, 0)) := by rw [hW2]; exact (setRow_other w1 w.heap.size _ #[.int .i64 0, .slice none 0 0, .slice none 0 0, .slice none 0 0, .slice none 0 0, .slice none 0 0] (by omega)).trans HY1.out
    have hp2 : Past g w W2 := by rw [hW2]; exact HP.out.setRowNew (Nat.le_refl _) #[.int .i64 0, .slice none 0 0, .slice none 0 0, .slice none 0 0, .slice none 0 0, .slice none 0 0]
    have hr2 : Pr W2 g s 10 := by rw [hW2]; exact HL.out.setRow (by have := HG.out; omega) #[.int .i64 0, .slice none 0 0, .slice none 0 0, .slice none 0 0, .slice none 0 0, .slice none 0 0]
    have q0 : W2.cell? ⟨w.heap.size + 1, 0, none⟩ = some (.int .i64 0) := by simp [World.cell?, hy2]
    have q1 : W2.frozen? ⟨w.heap.size + 1, 0, none⟩ = false := by simp [World.frozen?, hy2]
    clear hW2
    go_wp2_with fail
    obtain ⟨w3, hw3⟩ : ∃ w3, w3 = W2.setCell ⟨w.heap.size + 1, 0, none⟩ (.int .i64 0) := ⟨_, rfl⟩
    have hp3 : Past g w w3 := by rw [hw3]; exact hp2.setNew (Nat.le_succ _) 0 (.int .i64 0)
    have hx3 : w3.heap[w.heap.size]? = some (.cells #[.int .i64 0, .slice none 0 0, .slice none 0 0, .slice none 0 0, .slice none 0 0, .slice none 0 0] 50 (0, 0)) := by rw [hw3]; exact (Below.heap_setCell _ _ _ _ (by simp)).trans hx2
    have q3 : w3.cell? ⟨w.heap.size + 1, 0, none⟩ = some (.int .i64 0) := by rw [hw3]; exact World.cell?_setCell_same _ _ _ q0
    have hr3 : Pr w3 g s 10 := by rw [hw3]; exact (Below.heap_setCell _ _ _ _ (by have := HG.out; simp; omega)).trans hr2
    rw [← hw3]
    clear hw3 q0 q1 hx2 hy2 hp2 hr2
    refine leaves_cons (f := 92) (args := #[.pointer (some ⟨w.heap.size + 1, 0, none⟩)]) (by simp) (by simp [go_sem]) ?_
    refine (pcatchM_idle ⟨w.heap.size + 1, 0, none⟩ _).mono ?_
    rintro e u' w4 ⟨rfl, rfl, rfl⟩
    obtain ⟨z0, z1, z2, z3, z4, z5⟩ := cells6 hx3
    have HF := Lib.hid (And.intro hp3 hr3)
    clear hp3 hr3 hx3
    simp [Leaves, settle, results, Tryz.results61, go_sem, q3, asAddr, z0, z1, z2, z3, z4, z5]
    exact ⟨HF.out.1, HF.out.2⟩
end Go.Proofs.YtekojglcbalhnaaGreatDoor
namespace Go.Proofs.YtekojglcbalhnaaGreatDoor
open Go.RowKit

theorem run_ldM {o : Oper} {a : Act} {w : World} (x : Operand) (hop : o.op = .load 50 x) (g : Nat) (hx : a.eval x = .pointer (some ⟨g, 0, none⟩)) (cs : Array Value) (hg : w.heap[g]? = some (.cells cs 50 (0, 0))) (hs : cs.size = 6) :
    (execOp a.eval o).run Tryz.prog w = .ok (.value (.agg cs)) w := by
  unfold execOp
  simp only [hop, hx, Instr.loadAt, Instr.sureAddr, Sem.run_bind, Sem.run_pure, Result.andThen_ok, run_loadVar_row w g 50 50 cs (0, 0) _ hg Tryz.underlying50 rfl (by rw [hs]; exact infoM)]
theorem results_model3 {fn : Func} {k i j : Nat} (h : fn.results = #[.cell k 50, .tmp i, .tmp j]) (tmps : Array Value) (w : World) (R : Nat) (cs : Array Value) (x y : Value)
    (hp : tmps.getD k undef = .pointer (some ⟨R, 0, none⟩)) (hx : tmps.getD i undef = x) (hy : tmps.getD j undef = y) (hg : w.heap[R]? = some (.cells cs 50 (0, 0))) (hs : cs.size = 6) :
    (results fn tmps).run Tryz.prog w = .ok (.tuple #[.agg cs, x, y]) w := by
  have hp' : tmps[k]?.getD undef = .pointer (some ⟨R, 0, none⟩) := by simpa using hp
  have hx' : tmps[i]?.getD undef = x := by simpa using hx
  have hy' : tmps[j]?.getD undef = y := by simpa using hy
  simp [results, h, hp', hx', hy', asAddr, run_loadVar_row w R 50 50 cs (0, 0) _ hg Tryz.underlying50 rfl (by rw [hs]; exact infoM)]
theorem results_model2 {fn : Func} {k i : Nat} (h : fn.results = #[.cell k 50, .tmp i]) (tmps : Array Value) (w : World) (R : Nat) (cs : Array Value) (x : Value)
    (hp : tmps.getD k undef = .pointer (some ⟨R, 0, none⟩)) (hx : tmps.getD i undef = x) (hg : w.heap[R]? = some (.cells cs 50 (0, 0))) (hs : cs.size = 6) :
    (results fn tmps).run Tryz.prog w = .ok (.tuple #[.agg cs, x]) w := by
  have hp' : tmps[k]?.getD undef = .pointer (some ⟨R, 0, none⟩) := by simpa using hp
  have hx' : tmps[i]?.getD undef = x := by simpa using hx
  simp [results, h, hp', hx', asAddr, run_loadVar_row w R 50 50 cs (0, 0) _ hg Tryz.underlying50 rfl (by rw [hs]; exact infoM)]
theorem storeMQ {md : Region.Mode} {ops : Array Oper} {Q : Exit → Act → World → Prop} {S : World → Prop} {fuel i : Nat} {o : Oper} {listed : Array Bool} {a : Act} {w : World} (x y : Operand) (ho : ops[i]? = some o) (hw : Region.wanted o (yielded ops a.tmps) = true) (hd : o.dst = none) (hr : Region.ready md ops listed = [i]) (hop : o.op = .store 50 x y)
    (R : Nat) (hx : a.eval x = .pointer (some ⟨R, 0, none⟩)) (cs : Array Value) (hy : a.eval y = .agg cs) (old : Array Value) (hg : w.heap[R]? = some (.cells old 50 (0, 0))) (hold : old.size = 6) (hcs : cs.size = 6) (hone : cs.all (·.oneCell') = true)
    (h1 : S (w.setRow R cs)) (h : wpAnyH Tryz.prog md ops Q S fuel (listed.setIfInBounds i true) (a.put none undef) (w.setRow R cs)) : wpAnyH Tryz.prog md ops Q S (fuel + 1) listed a w :=
  wpAnyH_ready hr (by simp) (AllReadyH.cons ho (fun K' hK => by
    rw [if_pos hw]
    refine wp_store_row 50 x y hop R cs hx hy 50 old hg (by rw [infoM, hcs]) (by rw [hold, hcs]) hone ?_
    rw [hd]
    exact hK.out _ _ h1 (fun _ => h)) AllReadyH.nil)
/-- What a whole model's reading from a place answers. -/
def ReEnds (ok : Bool) (w : World) (e : Ending) (w' : World) : Prop :=
  Below w.heap.size w w' ∧ if ok then e = .returned (.tuple #[.agg #[.int .i64 0, .slice none 0 0, .slice none 0 0, .slice none 0 0, .slice none 0 0, .slice none 0 0], .int .i64 10, .int .i64 0]) else e = .returned (.tuple #[.agg #[.int .i64 0, .slice none 0 0, .slice none 0 0, .slice none 0 0, .slice none 0 0, .slice none 0 0], .int .i64 0, .int .i64 5])
set_option maxRecDepth 20000 in
set_option maxHeartbeats 4000000 in
theorem mread_any {ok : Bool} {w : World} {s : ByteArray} (HM : Whole ok s) :
    Calls Tryz.prog 28 #[.string s, .int .i64 0, .func (.func 29) #[] #[]] w fun e w' => ReEnds ok w e w' := by
  obtain ⟨W0, hW0⟩ : ∃ W0, W0 = ((w.alloc (.cells #[.func (.func 29) #[] #[]] 82)).alloc (.cells #[.int .i64 0, .slice none 0 0, .slice none 0 0, .slice none 0 0, .slice none 0 0, .slice none 0 0] 50)).alloc (.cells #[.string s, .int .i64 0] 110) := ⟨_, rfl⟩
  have hb0 : Below w.heap.size w W0 := by rw [hW0]; exact (((Below.refl _ _).alloc (Nat.le_refl _) _).alloc (by simp) _).alloc (by simp; omega) _
  have hs0 : W0.heap.size = w.heap.size + 3 := by rw [hW0]; simp
  have hf0 : W0.heap[w.heap.size]? = some (.cells #[.func (.func 29) #[] #[]] 82 (0, 0)) := by
    rw [hW0, Below.heap_alloc _ _ _ (by simp; omega), Below.heap_alloc _ _ _ (by simp)]; exact heap_alloc_new w _
  have hx0 : W0.heap[w.heap.size + 1]? = some (.cells #[.int .i64 0, .slice none 0 0, .slice none 0 0, .slice none 0 0, .slice none 0 0, .slice none 0 0] 50 (0, 0)) := by
    rw [hW0, Below.heap_alloc _ _ _ (by simp)]
    have := heap_alloc_new (w.alloc (.cells #[.func (.func 29) #[] #[]] 82)) (.cells #[.int .i64 0, .slice none 0 0, .slice none 0 0, .slice none 0 0, .slice none 0 0, .slice none 0 0] 50)
    rw [World.size_alloc] at this; exact this
  have hg0 : Pr W0 (w.heap.size + 2) s 0 := by
    rw [hW0]
    have := heap_alloc_new ((w.alloc (.cells #[.func (.func 29) #[] #[]] 82)).alloc (.cells #[.int .i64 0, .slice none 0 0, .slice none 0 0, .slice none 0 0, .slice none 0 0, .slice none 0 0] 50)) (.cells #[.string s, .int .i64 0] 110)
    rw [World.size_alloc, World.size_alloc] at this; exact this
  have C := mcaught_any HM hg0 hf0
  unfold FwEnds at C
  unfold ReEnds
  have MF := makeFunc_run
  have HX0 := Lib.hid hx0
  have HB0 := Lib.hid hb0
  have HZ := Lib.hid hs0
  have e0 : ((w.alloc (.cells #[.func (.func 29) #[] #[]] 82)).alloc (.cells #[.int .i64 0, .slice none 0 0, .slice none 0 0, .slice none 0 0, .slice none 0 0, .slice none 0 0] 50)).alloc (.cells #[.string s, .int .i64 0] 110) = W0 := hW0.symm
  have HE := Lib.hid e0
  clear hb0 hs0 hx0 hf0 hg0 hW0 e0 HM
  cases ok with
  | false =>
    simp only [Bool.false_eq_true, if_false] at C ⊢
    have HC := Lib.hid C
    clear C
    go_enter Tryz.func28, Tryz.ntmps28
    go_wp2_with fail
    rw [HE.out]
    go_wp2_with (first
      | (go_at_call 61; refine HC.out.mono ?_; rintro e w1 ⟨hp, rfl⟩; have HX1 := Lib.hid ((hp.block (w.heap.size + 1) (by have := HZ.out; omega) (by omega)).trans HX0.out); have HP := Lib.hid ((Past.of_below (g := w.heap.size + 2) HB0.out).trans hp); have hsz := hp.size; rw [HZ.out] at hsz; have HS1 := Lib.hid hsz; clear hp hsz)
      | (refine stM rfl (.tmp 10) (.tmp 18) rfl rfl w1.heap.size #[.int .i64 0, .slice none 0 0, .slice none 0 0, .slice none 0 0, .slice none 0 0, .slice none 0 0] (by kernel_rfl) (by kernel_rfl) #[.int .i64 0, .slice none 0 0, .slice none 0 0, .slice none 0 0, .slice none 0 0, .slice none 0 0] (heap_alloc_new w1 _) rfl rfl one6m ?_; refine Hid.out ?_))
    refine Lib.hid ?_
    rw [alloc_setRow]
    obtain ⟨W2, hW2⟩ : ∃ W2, W2 = w1.alloc (.cells #[.int .i64 0, .slice none 0 0, .slice none 0 0, .slice none 0 0, .slice none 0 0, .slice none 0 0] 50) := ⟨_, rfl⟩
    rw [← hW2]
    have hx2 : W2.heap[w.heap.size + 1]? = some (.cells #[.int .i64 0, .slice none 0 0, .slice none 0 0, .slice none 0 0, .slice none 0 0, .slice none 0 0] 50 (0, 0)) := by rw [hW2, Below.heap_alloc _ _ _ (by have := HS1.out; omega)]; exact HX1.out
    have hp2 : Past (w.heap.size + 2) w W2 := by rw [hW2]; exact HP.out.alloc _
    obtain ⟨z0, z1, z2, z3, z4, z5⟩ := cells6 (w := W2) (R := w1.heap.size) (by rw [hW2]; exact heap_alloc_new w1 _)
    have HX2 := Lib.hid hx2
    have HP2 := Lib.hid hp2
    clear hW2 hx2 hp2 HX1 HP
    go_wp2_with (first
      | (refine stM rfl (.tmp 6) (.tmp 22) rfl rfl (w.heap.size + 1) #[.int .i64 0, .slice none 0 0, .slice none 0 0, .slice none 0 0, .slice none 0 0, .slice none 0 0] (by kernel_rfl) (by kernel_rfl) #[.int .i64 0, .slice none 0 0, .slice none 0 0, .slice none 0 0, .slice none 0 0, .slice none 0 0] HX2.out rfl rfl one6m ?_; refine Hid.out ?_))
    refine Lib.hid ?_
    have hx3 := setRow_heap W2 (w.heap.size + 1) #[.int .i64 0, .slice none 0 0, .slice none 0 0, .slice none 0 0, .slice none 0 0, .slice none 0 0] #[.int .i64 0, .slice none 0 0, .slice none 0 0, .slice none 0 0, .slice none 0 0, .slice none 0 0] 50 (0, 0) HX2.out
    have hp3 : Past (w.heap.size + 2) w (W2.setRow (w.heap.size + 1) #[.int .i64 0, .slice none 0 0, .slice none 0 0, .slice none 0 0, .slice none 0 0, .slice none 0 0]) := HP2.out.setRowNew (Nat.le_succ _) _
    have hb3 : Below w.heap.size w (W2.setRow (w.heap.size + 1) #[.int .i64 0, .slice none 0 0, .slice none 0 0, .slice none 0 0, .slice none 0 0, .slice none 0 0]) := ⟨hp3.os, hp3.tape, hp3.output, hp3.size, fun k hk => hp3.block k hk (by omega)⟩
    have HF := Lib.hid (And.intro hx3 hb3)
    clear hp3 hb3 hx3 z0 z1 z2 z3 z4 z5
    go_wp2_with fail
    exact bodyPost_ret (v := .tuple #[.agg #[.int .i64 0, .slice none 0 0, .slice none 0 0, .slice none 0 0, .slice none 0 0, .slice none 0 0], .int .i64 0, .int .i64 5]) (results_model3 rfl _ _ (w.heap.size + 1) _ _ _ rfl rfl rfl HF.out.1 rfl) rfl ⟨HF.out.2, rfl⟩
  | true =>
    simp only [if_true] at C ⊢
    have HC := Lib.hid C
    clear C
    go_enter Tryz.func28, Tryz.ntmps28
    go_wp2_with fail
    rw [HE.out]
    go_wp2_with (first
      | (go_at_call 61; refine HC.out.mono ?_; rintro e w1 ⟨hp, rfl, h1⟩; have HX1 := Lib.hid ((hp.block (w.heap.size + 1) (by have := HZ.out; omega) (by omega)).trans HX0.out); have HP := Lib.hid ((Past.of_below (g := w.heap.size + 2) HB0.out).trans hp); have hsz := hp.size; rw [HZ.out] at hsz; have HS1 := Lib.hid hsz; have H1 := Lib.hid h1; clear hp hsz h1)
      | (refine stM rfl (.tmp 10) (.tmp 18) rfl rfl w1.heap.size #[.int .i64 0, .slice none 0 0, .slice none 0 0, .slice none 0 0, .slice none 0 0, .slice none 0 0] (by kernel_rfl) (by kernel_rfl) #[.int .i64 0, .slice none 0 0, .slice none 0 0, .slice none 0 0, .slice none 0 0, .slice none 0 0] (heap_alloc_new w1 _) rfl rfl one6m ?_; refine Hid.out ?_))
    refine Lib.hid ?_
    rw [alloc_setRow]
    obtain ⟨W2, hW2⟩ : ∃ W2, W2 = w1.alloc (.cells #[.int .i64 0, .slice none 0 0, .slice none 0 0, .slice none 0 0, .slice none 0 0, .slice none 0 0] 50) := ⟨_, rfl⟩
    rw [← hW2]
    have hx2 : W2.heap[w.heap.size + 1]? = some (.cells #[.int .i64 0, .slice none 0 0, .slice none 0 0, .slice none 0 0, .slice none 0 0, .slice none 0 0] 50 (0, 0)) := by rw [hW2, Below.heap_alloc _ _ _ (by have := HS1.out; omega)]; exact HX1.out
    have hp2 : Past (w.heap.size + 2) w W2 := by rw [hW2]; exact HP.out.alloc _
    have hy2 : W2.heap[w1.heap.size]? = some (.cells #[.int .i64 0, .slice none 0 0, .slice none 0 0, .slice none 0 0, .slice none 0 0, .slice none 0 0] 50 (0, 0)) := by rw [hW2]; exact heap_alloc_new w1 _
    have hc2 : Pr W2 (w.heap.size + 2) s 10 := by rw [hW2]; exact H1.out.past ((Below.refl _ _).alloc (Nat.le_refl _) _)
    have HX2 := Lib.hid hx2
    have HP2 := Lib.hid hp2
    have HSS : Hid ((fun W => W.heap[w1.heap.size]? = some (.cells #[.int .i64 0, .slice none 0 0, .slice none 0 0, .slice none 0 0, .slice none 0 0, .slice none 0 0] 50 (0, 0)) ∧ W.cell? ⟨w.heap.size + 2, 1, none⟩ = some (.int .i64 10)) W2.drew) := Lib.hid ⟨hy2, hc2.cells.2.1⟩
    have HS3 : Hid ((fun W => W.heap[w1.heap.size]? = some (.cells #[.int .i64 0, .slice none 0 0, .slice none 0 0, .slice none 0 0, .slice none 0 0, .slice none 0 0] 50 (0, 0)) ∧ W.cell? ⟨w.heap.size + 2, 1, none⟩ = some (.int .i64 10)) (W2.drew.setRow (w.heap.size + 1) #[.int .i64 0, .slice none 0 0, .slice none 0 0, .slice none 0 0, .slice none 0 0, .slice none 0 0])) := Lib.hid ⟨(setRow_other W2.drew (w.heap.size + 1) w1.heap.size _ (by have := HS1.out; omega)).trans hy2, by rw [cell_setRow_other W2.drew (w.heap.size + 1) _ ⟨w.heap.size + 2, 1, none⟩ (by show w.heap.size + 2 ≠ w.heap.size + 1; omega)]; exact hc2.cells.2.1⟩
    clear hW2 hx2 hp2 hy2 hc2 HX1 HP H1
    go_upto_region 5 with (fail)
    refine wp_region_held_drew (S := (fun W => W.heap[w1.heap.size]? = some (.cells #[.int .i64 0, .slice none 0 0, .slice none 0 0, .slice none 0 0, .slice none 0 0, .slice none 0 0] 50 (0, 0)) ∧ W.cell? ⟨w.heap.size + 2, 1, none⟩ = some (.int .i64 10))) (by kernel_rfl) HSS.out (fun _ => ?_)
    have hfin := setRow_heap W2.drew (w.heap.size + 1) #[.int .i64 0, .slice none 0 0, .slice none 0 0, .slice none 0 0, .slice none 0 0, .slice none 0 0] #[.int .i64 0, .slice none 0 0, .slice none 0 0, .slice none 0 0, .slice none 0 0, .slice none 0 0] 50 (0, 0) HX2.out
    have hpn : Past (w.heap.size + 2) w (W2.drew.setRow (w.heap.size + 1) #[.int .i64 0, .slice none 0 0, .slice none 0 0, .slice none 0 0, .slice none 0 0, .slice none 0 0]) := HP2.out.drew.setRowNew (Nat.le_succ _) _
    have hbn : Below w.heap.size w (W2.drew.setRow (w.heap.size + 1) #[.int .i64 0, .slice none 0 0, .slice none 0 0, .slice none 0 0, .slice none 0 0, .slice none 0 0]) := ⟨hpn.os, hpn.tape, hpn.output, hpn.size, fun k hk => hpn.block k hk (by omega)⟩
    have HF := Lib.hid (And.intro hfin hbn)
    clear hfin hpn hbn
    refine takeQ (i := 0) (some 24) (.agg #[.int .i64 0, .slice none 0 0, .slice none 0 0, .slice none 0 0, .slice none 0 0, .slice none 0 0]) rfl rfl (by kernel_rfl) (by kernel_rfl) (by kernel_rfl) (fun _ _ _ h => h) HSS.out (by kernel_rfl) (fun W hW => run_ldM (.tmp 10) rfl w1.heap.size (by kernel_rfl) _ hW.1 rfl) ?_
    refine takeQ (i := 1) (some 25) (.pointer (some ⟨w.heap.size + 2, 1, none⟩)) rfl rfl (by kernel_rfl) (by kernel_rfl) (by kernel_rfl) (fun _ _ _ h => h) HSS.out (by kernel_rfl) (fun W hW => by kernel_rfl) ?_
    refine takeQ (i := 2) (some 26) (.int .i64 10) rfl rfl (by kernel_rfl) (by kernel_rfl) (by kernel_rfl) (fun _ _ _ h => h) HSS.out (by kernel_rfl) (fun W hW => run_ld 3 (.tmp 25) rfl (w.heap.size + 2) 1 (by kernel_rfl) _ hW.2 (fun W h => ld1 (Tryz.isAgg3 W) h)) ?_
    refine storeMQ (i := 3) (.tmp 6) (.tmp 24) rfl (by kernel_rfl) rfl (by kernel_rfl) rfl (w.heap.size + 1) (by kernel_rfl) #[.int .i64 0, .slice none 0 0, .slice none 0 0, .slice none 0 0, .slice none 0 0, .slice none 0 0] (by kernel_rfl) #[.int .i64 0, .slice none 0 0, .slice none 0 0, .slice none 0 0, .slice none 0 0, .slice none 0 0] HX2.out rfl rfl one6m HS3.out ?_
    refine takeQ (i := 4) (some 7) (.int .i64 10) rfl rfl (by kernel_rfl) (by kernel_rfl) (by kernel_rfl) (fun _ _ _ h => h) HS3.out (by kernel_rfl) (fun W hW => by kernel_rfl) ?_
    refine takeQ (i := 5) (some 8) (.int .i64 0) rfl rfl (by kernel_rfl) (by kernel_rfl) (by kernel_rfl) (fun _ _ _ h => h) HS3.out (by kernel_rfl) (fun W hW => by kernel_rfl) ?_
    refine wpAnyH_done (by kernel_rfl) ?_ _
    simp only [Act.put, List.setIfInBounds_toArray, List.set_cons_zero, List.set_cons_succ]
    go_wp2_with fail
    exact bodyPost_ret (v := .tuple #[.agg #[.int .i64 0, .slice none 0 0, .slice none 0 0, .slice none 0 0, .slice none 0 0, .slice none 0 0], .int .i64 10, .int .i64 0]) (results_model3 rfl _ _ (w.heap.size + 1) _ _ _ rfl rfl rfl HF.out.1 rfl) rfl ⟨HF.out.2, rfl⟩
end Go.Proofs.YtekojglcbalhnaaGreatDoor
namespace Go.Proofs.YtekojglcbalhnaaGreatDoor
open Go.RowKit

set_option maxRecDepth 20000 in
set_option maxHeartbeats 4000000 in
theorem Unpack_any {ok : Bool} {w : World} {s : ByteArray} (HM : Whole ok s) (hs : s.size ≤ 100) :
    Calls Tryz.prog 12 #[.string s] w fun e w' => e = .returned (.tuple #[.agg #[.int .i64 0, .slice none 0 0, .slice none 0 0, .slice none 0 0, .slice none 0 0, .slice none 0 0], .int .i64 (if ok then 0 else 5)]) ∧ Below w.heap.size w w' := by
  have hb0 : Below w.heap.size w (w.alloc (.cells #[.int .i64 0, .slice none 0 0, .slice none 0 0, .slice none 0 0, .slice none 0 0, .slice none 0 0] 50)) := (Below.refl _ _).alloc (Nat.le_refl _) _
  have HX := Lib.hid (heap_alloc_new w (.cells #[.int .i64 0, .slice none 0 0, .slice none 0 0, .slice none 0 0, .slice none 0 0, .slice none 0 0] 50))
  have HB := Lib.hid hb0
  have R : ∀ W, Calls Tryz.prog 28 #[.string s, .int .i64 0, .func (.func 29) #[] #[]] W fun e w' => Below W.heap.size W w' ∧ ∃ k : Int, e = .returned (.tuple #[.agg #[.int .i64 0, .slice none 0 0, .slice none 0 0, .slice none 0 0, .slice none 0 0, .slice none 0 0], .int .i64 k, .int .i64 (if ok then 0 else 5)]) := fun W => (mread_any HM).mono fun e w' h => by
    unfold ReEnds at h
    cases ok with
    | false => exact ⟨h.1, _, h.2⟩
    | true => exact ⟨h.1, _, h.2⟩
  generalize (if ok then (0 : Int) else 5) = c at *
  have HR := Lib.hid R
  have t1 : decide ((16384 : Int) < (s.size : Int)) = false := by simp; omega
  have t2 : decide (16384 < s.size) = false := by simp; omega
  clear hb0 R HM hs
  go_enter Tryz.func12, Tryz.ntmps12
  go_wp2_with (first
    | (go_at_call 28; refine (HR.out _).mono ?_; rintro e w1 ⟨hb, k, rfl⟩; have HX1 := Lib.hid ((hb.block w.heap.size (by simp)).trans HX.out); have HB1 := Lib.hid (HB.out.trans (hb.mono HB.out.size)); clear hb)
    | (have hx := HX1.out; refine stM rfl (.tmp 2) (.tmp 17) rfl rfl w.heap.size #[.int .i64 0, .slice none 0 0, .slice none 0 0, .slice none 0 0, .slice none 0 0, .slice none 0 0] (by kernel_rfl) (by kernel_rfl) #[.int .i64 0, .slice none 0 0, .slice none 0 0, .slice none 0 0, .slice none 0 0, .slice none 0 0] ((Below.heap_alloc w1 _ _ (Array.getElem?_eq_some_iff.1 hx).1).trans hx) rfl rfl one6m ?_; refine Hid.out ?_))
  refine Lib.hid ?_
  have hx2 : (w1.alloc (.cells #[.int .i64 0, .slice none 0 0, .slice none 0 0, .slice none 0 0, .slice none 0 0, .slice none 0 0] 50)).heap[w.heap.size]? = some (.cells #[.int .i64 0, .slice none 0 0, .slice none 0 0, .slice none 0 0, .slice none 0 0, .slice none 0 0] 50 (0, 0)) := (Below.heap_alloc w1 _ _ (Array.getElem?_eq_some_iff.1 HX1.out).1).trans HX1.out
  have HF := Lib.hid (And.intro (setRow_heap (w1.alloc (.cells #[.int .i64 0, .slice none 0 0, .slice none 0 0, .slice none 0 0, .slice none 0 0, .slice none 0 0] 50)) w.heap.size #[.int .i64 0, .slice none 0 0, .slice none 0 0, .slice none 0 0, .slice none 0 0, .slice none 0 0] #[.int .i64 0, .slice none 0 0, .slice none 0 0, .slice none 0 0, .slice none 0 0, .slice none 0 0] 50 (0, 0) hx2) (Below.setRowNew (HB1.out.alloc HB1.out.size (.cells #[.int .i64 0, .slice none 0 0, .slice none 0 0, .slice none 0 0, .slice none 0 0, .slice none 0 0] 50)) (Nat.le_refl _) #[.int .i64 0, .slice none 0 0, .slice none 0 0, .slice none 0 0, .slice none 0 0, .slice none 0 0]))
  clear hx2
  go_wp2_with fail
  exact bodyPost_ret (v := .tuple #[.agg #[.int .i64 0, .slice none 0 0, .slice none 0 0, .slice none 0 0, .slice none 0 0, .slice none 0 0], .int .i64 c]) (results_model2 rfl _ _ w.heap.size _ _ rfl rfl HF.out.1 rfl) rfl ⟨rfl, HF.out.2⟩
theorem whole_whole_bad {s : ByteArray} (hn : preB s ⟨#[66, 80, 77, 49]⟩ = false) : Whole false s := fun h => (whole_bad h hn).mono fun _ _ h => ⟨h.2, h.1⟩
theorem whole_whole_0 {s : ByteArray} (hn : preB s ⟨#[66, 80, 77, 49]⟩ = true) (h10 : s.size = 10) (hz : ∀ k, k < 6 → 4 + k < s.size ∧ left s (4 + k) = 0 :: left s (4 + k + 1)) : Whole true s := fun h => (whole_0 h hn h10 hz).mono fun _ _ h => ⟨h.2.2, h.1, h.2.1⟩
theorem Unpack_2 (w : World) : Calls Tryz.prog 12 #[.string ⟨#[66, 80, 77, 50]⟩] w fun e w' => e = .returned (.tuple #[.agg #[.int .i64 0, .slice none 0 0, .slice none 0 0, .slice none 0 0, .slice none 0 0, .slice none 0 0], .int .i64 5]) ∧ Below w.heap.size w w' :=
  Unpack_any (ok := false) (whole_whole_bad (by decide)) (by decide)
theorem Unpack_0 (w : World) : Calls Tryz.prog 12 #[.string ⟨#[66, 80, 77, 49, 0, 0, 0, 0, 0, 0]⟩] w fun e w' => e = .returned (.tuple #[.agg #[.int .i64 0, .slice none 0 0, .slice none 0 0, .slice none 0 0, .slice none 0 0, .slice none 0 0], .int .i64 0]) ∧ Below w.heap.size w w' :=
  Unpack_any (ok := true) (whole_whole_0 (by decide) (by decide) (by decide)) (by decide)
end Go.Proofs.YtekojglcbalhnaaGreatDoor
namespace Go.Proofs.YtekojglcbalhnaaGreatDoor
open Go.RowKit

set_option maxRecDepth 20000 in
set_option maxHeartbeats 2000000 in
theorem pairs_0 (w : World) : Calls Tryz.prog 30 #[.slice none 0 0, .slice none 0 0] w fun e w' => e = .returned (.bool true) ∧ w = w' := by
  go_enter Tryz.func30, Tryz.ntmps30
  go_wp2_with fail
  go_loopw [5] (fun iv wr => iv = .int .i64 0 ∧ wr = w) (fun _ _ => 0)
  case atStart => exact ⟨rfl, rfl⟩
  case round =>
    obtain ⟨rfl, rfl⟩ := hrel
    go_wp2_with fail
    go_ret
    exact ⟨rfl, rfl⟩
set_option maxRecDepth 20000 in
set_option maxHeartbeats 2000000 in
theorem Same_0 (w : World) : Calls Tryz.prog 13 #[.agg #[.int .i64 0, .slice none 0 0, .slice none 0 0, .slice none 0 0, .slice none 0 0, .slice none 0 0], .agg #[.int .i64 0, .slice none 0 0, .slice none 0 0, .slice none 0 0, .slice none 0 0, .slice none 0 0]] w fun e w' => e = .returned (.bool true) ∧ Below w.heap.size w w' := by
  obtain ⟨W0, hW0⟩ : ∃ W0, W0 = (w.alloc (.cells #[.int .i64 0, .slice none 0 0, .slice none 0 0, .slice none 0 0, .slice none 0 0, .slice none 0 0] 50)).alloc (.cells #[.int .i64 0, .slice none 0 0, .slice none 0 0, .slice none 0 0, .slice none 0 0, .slice none 0 0] 50) := ⟨_, rfl⟩
  have hb : Below w.heap.size w W0 := by rw [hW0]; exact ((Below.refl _ _).alloc (Nat.le_refl _) _).alloc (by simp) _
  obtain ⟨x0, x1, x2, x3, x4, x5⟩ := cells6 (w := W0) (R := w.heap.size) (by rw [hW0, Below.heap_alloc _ _ _ (by simp)]; exact heap_alloc_new w _)
  obtain ⟨y0, y1, y2, y3, y4, y5⟩ := cells6 (w := W0) (R := w.heap.size + 1) (by rw [hW0]; have := heap_alloc_new (w.alloc (.cells #[.int .i64 0, .slice none 0 0, .slice none 0 0, .slice none 0 0, .slice none 0 0, .slice none 0 0] 50)) (.cells #[.int .i64 0, .slice none 0 0, .slice none 0 0, .slice none 0 0, .slice none 0 0, .slice none 0 0] 50); rw [World.size_alloc] at this; exact this)
  have HB := Lib.hid hb
  have e0 := hW0.symm
  clear hW0 hb
  go_enter Tryz.func13, Tryz.ntmps13
  go_wp2_with (go_at_call 30; refine (pairs_0 _).mono ?_; rintro e w1 ⟨rfl, rfl⟩)
  go_loopw [5] (fun iv wr => iv = .int .i64 0 ∧ W0 = wr) (fun _ _ => 0)
  case atStart => exact ⟨rfl, rfl⟩
  case round =>
    obtain ⟨rfl, rfl⟩ := hrel
    go_wp2_with fail
    go_loopw [8] (fun iv wr => iv = .int .i64 0 ∧ W0 = wr) (fun _ _ => 0)
    case atStart => exact ⟨rfl, rfl⟩
    case round =>
      obtain ⟨rfl, rfl⟩ := hrel
      go_wp2_with fail
      go_loopw [11] (fun iv wr => iv = .int .i64 0 ∧ W0 = wr) (fun _ _ => 0)
      case atStart => exact ⟨rfl, rfl⟩
      case round =>
        obtain ⟨rfl, rfl⟩ := hrel
        go_wp2_with fail
        go_ret
        exact ⟨rfl, HB.out⟩
end Go.Proofs.YtekojglcbalhnaaGreatDoor
namespace Go.Proofs.YtekojglcbalhnaaGreatDoor
open Go.RowKit

theorem tick_at (w : World) : CmdAt w w.heap.size #[.int .i64 4, .int .i64 0, .int .i64 0, .int .i64 0, .int .i64 0, .int .i64 0, .int .i64 0, .float .f64 0, .string ⟨#[]⟩, .slice none 0 0, .slice none 0 0, .int .i64 0, .int .i64 0, .float .f64 0, .string ⟨#[]⟩, .slice none 0 0, .slice none 0 0] ⟨4, 0, 0, 0, 0, noneT, noneT⟩ := by
  have h := (own_none w (fun _ => True)).val
  exact ⟨_, _, _, _, _, _, _, _, _, _, _, _, rfl, h, h⟩
theorem Cmd_tick (w : World) : Calls Tryz.prog 6 #[.agg #[.int .i64 4, .int .i64 0, .int .i64 0, .int .i64 0, .int .i64 0, .int .i64 0, .int .i64 0, .float .f64 0, .string ⟨#[]⟩, .slice none 0 0, .slice none 0 0, .int .i64 0, .int .i64 0, .float .f64 0, .string ⟨#[]⟩, .slice none 0 0, .slice none 0 0]] w fun e w' => e = .returned (.tuple #[.string ⟨#[4, 0, 0, 0, 0, 0, 0]⟩, .int .i64 0]) ∧ Below w.heap.size w w' := by
  refine (Cmd_f (tick_at w)).mono ?_
  rintro e w' ⟨rfl, h⟩
  exact ⟨by rw [if_pos (by decide +kernel), show strL (cmdL ⟨4, 0, 0, 0, 0, noneT, noneT⟩) = ⟨#[4, 0, 0, 0, 0, 0, 0]⟩ by decide +kernel], h⟩
theorem Pack_0' (w : World) : Calls Tryz.prog 11 #[.agg #[.int .i64 0, .slice none 0 0, .slice none 0 0, .slice none 0 0, .slice none 0 0, .slice none 0 0]] w fun e w' => e = .returned (.tuple #[.string ⟨#[66, 80, 77, 49, 0, 0, 0, 0, 0, 0]⟩, .int .i64 0]) ∧ Below w.heap.size w w' := by
  refine (Pack_0 (w := w)).mono ?_
  rintro e w' ⟨rfl, h⟩
  exact ⟨rfl, h⟩
set_option maxRecDepth 20000 in
set_option maxHeartbeats 4000000 in
theorem awake_any (w : World) : Calls Tryz.prog 4 #[] w fun e w' => e = .returned (.bool true) ∧ Below w.heap.size w w' := by
  go_enter Tryz.func4, Tryz.ntmps4
  go_wp2_with (first
    | (go_at_call 6; refine (Cmd_tick _).mono ?_; rintro e w1 ⟨rfl, h1⟩; have H1 := Lib.hid h1; clear h1)
    | (go_at_call 11; refine (Pack_0' _).mono ?_; rintro e w2 ⟨rfl, h2⟩; have H2 := Lib.hid h2; clear h2)
    | (go_at_call 12; with_reducible refine (Unpack_2 _).mono ?_; rintro e w3 ⟨rfl, h3⟩; have H3 := Lib.hid h3; clear h3)
    | (go_at_call 12; with_reducible refine (Unpack_0 _).mono ?_; rintro e w4 ⟨rfl, h4⟩; have H4 := Lib.hid h4; clear h4)
    | (go_at_call 13; refine (Same_0 _).mono ?_; rintro e w5 ⟨rfl, h5⟩; have H5 := Lib.hid h5; clear h5))
  have b1 := H1.out
  have b2 := b1.trans (H2.out.mono b1.size)
  have b3 := b2.trans (H3.out.mono b2.size)
  have b3a := b3.alloc b3.size (.cells #[.int .i64 0, .slice none 0 0, .slice none 0 0, .slice none 0 0, .slice none 0 0, .slice none 0 0] 50)
  have b4 := b3a.trans (H4.out.mono b3a.size)
  have b4a := b4.alloc b4.size (.cells #[.int .i64 0, .slice none 0 0, .slice none 0 0, .slice none 0 0, .slice none 0 0, .slice none 0 0] 50)
  have b5 := b4a.trans (H5.out.mono b4a.size)
  go_ret
  exact ⟨rfl, b5⟩
end Go.Proofs.YtekojglcbalhnaaGreatDoor

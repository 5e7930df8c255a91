/-
  The document's reader of commands: a value; a value, or none.
-/
import Derived.Test.YtekojglcbalhnaaGreatDoorM29
import Derived.Test.YtekojglcbalhnaaGreatDoorM33
namespace Go.Proofs.YtekojglcbalhnaaGreatDoor
open Go.RowKit

theorem ival_e {w : World} {g : Nat} {s : ByteArray} (h : Rbad w g s) :
    Calls Tryz.prog 50 #[.agg #[.pointer (some ⟨g, 0, none⟩)]] w fun x w' => x = .returned (.agg #[.int .i64 0, .int .i64 0, .float .f64 0, .string ⟨#[]⟩, .slice none 0 0, .slice none 0 0]) ∧ Past g w w' ∧ Rbad w' g s := by
  obtain ⟨a, e, p, he, h⟩ := h
  have hg := h.lt
  obtain ⟨W1, hW1⟩ : ∃ W1, W1 = (w.alloc (.cells #[.pointer (some ⟨g, 0, none⟩)] 72)).alloc (.cells #[.int .i64 0, .int .i64 0, .float .f64 0, .string ⟨#[]⟩, .slice none 0 0, .slice none 0 0] 28) := ⟨_, rfl⟩
  have hb1 : Below w.heap.size w W1 := by rw [hW1]; exact ((Below.refl _ _).alloc (Nat.le_refl _) _).alloc (by simp) _
  have hx1 : Bx W1 (w.heap.size + 1) #[.int .i64 0, .int .i64 0, .float .f64 0, .string ⟨#[]⟩, .slice none 0 0, .slice none 0 0] := by
    rw [hW1]
    have := Bx.new (w.alloc (.cells #[.pointer (some ⟨g, 0, none⟩)] 72)) #[.int .i64 0, .int .i64 0, .float .f64 0, .string ⟨#[]⟩, .slice none 0 0, .slice none 0 0]
    rw [World.size_alloc] at this; exact this
  have K := iok_any (h.past hb1)
  rw [show (e == 0) = false by simpa using he] at K
  have SF := float_store
  have HR := Lib.hid (h.past hb1)
  have HB := Lib.hid hb1
  have HX := Lib.hid hx1
  have HW := Lib.hid hW1
  have HN := Lib.hid he
  have HG := Lib.hid hg
  rw [hW1] at K
  have HK := Lib.hid K
  clear h hb1 hx1 hW1 he K hg
  go_enter Tryz.func50, Tryz.ntmps50
  go_wp2_with (go_at_call 23; refine HK.out.mono ?_; rintro x w2 ⟨rfl, hb2⟩; rw [← HW.out] at hb2; have hx2 := HX.out.below hb2 HX.out.lt; obtain ⟨x0, x1, x2, x3, x4, x5, xf, xl⟩ := hx2.cells; have HX2 := Lib.hid hx2; have HB2 := Lib.hid (HB.out.trans (hb2.mono HB.out.size)); have HR2 := Lib.hid (HR.out.past hb2); clear hx2 hb2)
  obtain ⟨z0, z1, z2, z3, z4, z5, zf, zl⟩ := (HX2.out.six (.int .i64 0) (.int .i64 0) (.float .f64 0) (.string ⟨#[]⟩) (.slice none 0 0) (.slice none 0 0)).cells
  have hfin : Below w.heap.size w _ := Below.six HB2.out (Nat.le_succ _) (.int .i64 0) (.int .i64 0) (.float .f64 0) (.string ⟨#[]⟩) (.slice none 0 0) (.slice none 0 0)
  refine bodyPost_ret (v := .agg #[.int .i64 0, .int .i64 0, .float .f64 0, .string ⟨#[]⟩, .slice none 0 0, .slice none 0 0]) ?_ rfl ⟨rfl, Past.of_below hfin, _, _, _, HN.out, HR2.out.six (by have := HG.out; omega) _ _ _ _ _ _⟩
  simp [results, Tryz.results50, go_sem, asAddr, z0, z1, z2, z3, z4, z5]
section
variable {md : Region.Mode} {ops : Array Oper} {Q : Exit → Act → World → Prop} {S : World → Prop} {fuel i j : Nat} {o o' : Oper} {listed : Array Bool} {a : Act} {w : World}
theorem callH (f : FuncId) (args : Array Value) (d : Option Tmp) (ho : ops[i]? = some o) (hw : Region.wanted o (yielded ops a.tmps) = true) (hd : o.dst = d) (hr : Region.ready md ops listed = [i])
    (hrun : (execOp a.eval o).run Tryz.prog w = .ok (.enter f args) w)
    (hc : Calls Tryz.prog f args w fun e w' => ∃ v, e = .returned v ∧ S w' ∧ wpAnyH Tryz.prog md ops Q S fuel (listed.setIfInBounds i true) (a.put d v) w') : wpAnyH Tryz.prog md ops Q S (fuel + 1) listed a w :=
  wpAnyH_ready hr (by simp) (AllReadyH.cons ho (fun K' hK => by
    rw [if_pos hw]
    unfold Oper.wp
    rw [hrun, Oper.upon_enter]
    refine hc.mono ?_
    rintro e w' ⟨v, rfl, hS, h⟩
    rw [hd]
    exact hK.out _ _ hS (fun _ => h)) AllReadyH.nil)
theorem alloc28 (w : World) : (Instr.alloc 28 true (.tuple #[])).run Tryz.prog w = .ok (.pointer (some ⟨w.heap.size, 0, none⟩)) (w.alloc (.cells #[.int .i64 0, .int .i64 0, .float .f64 0, .string ⟨#[]⟩, .slice none 0 0, .slice none 0 0] 28)) := by kernel_rfl
/-- Two operations may come up: a call, and what makes a box. -/
theorem twoQ (f : FuncId) (args : Array Value) (d d' : Option Tmp) (ho : ops[i]? = some o) (hw : Region.wanted o (yielded ops a.tmps) = true) (hd : o.dst = d) (hr : Region.ready md ops listed = [i, j])
    (hrun : (execOp a.eval o).run Tryz.prog w = .ok (.enter f args) w)
    (hc : Calls Tryz.prog f args w fun e w' => ∃ v, e = .returned v ∧ S w' ∧ wpAnyH Tryz.prog md ops Q S fuel (listed.setIfInBounds i true) (a.put d v) w')
    (ho' : ops[j]? = some o') (hw' : Region.wanted o' (yielded ops a.tmps) = true) (hd' : o'.dst = d') (hop : o'.op = .alloc 28)
    (h1 : S (w.alloc (.cells #[.int .i64 0, .int .i64 0, .float .f64 0, .string ⟨#[]⟩, .slice none 0 0, .slice none 0 0] 28))) (h : wpAnyH Tryz.prog md ops Q S fuel (listed.setIfInBounds j true) (a.put d' (.pointer (some ⟨w.heap.size, 0, none⟩))) (w.alloc (.cells #[.int .i64 0, .int .i64 0, .float .f64 0, .string ⟨#[]⟩, .slice none 0 0, .slice none 0 0] 28))) : wpAnyH Tryz.prog md ops Q S (fuel + 1) listed a w :=
  wpAnyH_ready hr (by simp) (AllReadyH.cons ho (fun K' hK => by
    rw [if_pos hw]
    unfold Oper.wp
    rw [hrun, Oper.upon_enter]
    refine hc.mono ?_
    rintro e w' ⟨v, rfl, hS, h⟩
    rw [hd]
    exact hK.out _ _ hS (fun _ => h)) (AllReadyH.cons ho' (fun K' hK => by
    rw [if_pos hw']
    unfold Oper.wp
    have hrun : (execOp a.eval o').run Tryz.prog w = .ok (.value (.pointer (some ⟨w.heap.size, 0, none⟩))) (w.alloc (.cells #[.int .i64 0, .int .i64 0, .float .f64 0, .string ⟨#[]⟩, .slice none 0 0, .slice none 0 0] 28)) := by
      unfold execOp
      simp only [hop, Sem.run_bind, alloc28, Result.andThen_ok]
      rfl
    rw [hrun]
    show K' (a.put o'.dst _) _
    rw [hd']
    exact hK.out _ _ h1 (fun _ => h)) AllReadyH.nil))
theorem allocVQ (d : Option Tmp) (ho : ops[i]? = some o) (hw : Region.wanted o (yielded ops a.tmps) = true) (hd : o.dst = d) (hr : Region.ready md ops listed = [i]) (hop : o.op = .alloc 28)
    (h1 : S (w.alloc (.cells #[.int .i64 0, .int .i64 0, .float .f64 0, .string ⟨#[]⟩, .slice none 0 0, .slice none 0 0] 28))) (h : wpAnyH Tryz.prog md ops Q S fuel (listed.setIfInBounds i true) (a.put d (.pointer (some ⟨w.heap.size, 0, none⟩))) (w.alloc (.cells #[.int .i64 0, .int .i64 0, .float .f64 0, .string ⟨#[]⟩, .slice none 0 0, .slice none 0 0] 28))) : wpAnyH Tryz.prog md ops Q S (fuel + 1) listed a w :=
  wpAnyH_ready hr (by simp) (AllReadyH.cons ho (fun K' hK => by
    rw [if_pos hw]
    unfold Oper.wp
    have hrun : (execOp a.eval o).run Tryz.prog w = .ok (.value (.pointer (some ⟨w.heap.size, 0, none⟩))) (w.alloc (.cells #[.int .i64 0, .int .i64 0, .float .f64 0, .string ⟨#[]⟩, .slice none 0 0, .slice none 0 0] 28)) := by
      unfold execOp
      simp only [hop, Sem.run_bind, alloc28, Result.andThen_ok]
      rfl
    rw [hrun]
    show K' (a.put o.dst _) _
    rw [hd]
    exact hK.out _ _ h1 (fun _ => h)) AllReadyH.nil)
theorem infoV : (Tryz.prog.info? 28).map (·.size) = some 6 := by kernel_rfl
theorem storeVQ (x y : Operand) (ho : ops[i]? = some o) (hw : Region.wanted o (yielded ops a.tmps) = true) (hd : o.dst = none) (hr : Region.ready md ops listed = [i]) (hop : o.op = .store 28 x y)
    (R : Nat) (hx : a.eval x = .pointer (some ⟨R, 0, none⟩)) (cs : Array Value) (hy : a.eval y = .agg cs) (old : Array Value) (hg : w.heap[R]? = some (.cells old 28 (0, 0))) (hold : old.size = 6) (hcs : cs.size = 6) (hone : cs.all (·.oneCell') = true)
    (h1 : S (w.setRow R cs)) (h : wpAnyH Tryz.prog md ops Q S fuel (listed.setIfInBounds i true) (a.put none undef) (w.setRow R cs)) : wpAnyH Tryz.prog md ops Q S (fuel + 1) listed a w :=
  wpAnyH_ready hr (by simp) (AllReadyH.cons ho (fun K' hK => by
    rw [if_pos hw]
    refine wp_store_row 28 x y hop R cs hx hy 28 old hg (by rw [infoV, hcs]) (by rw [hold, hcs]) hone ?_
    rw [hd]
    exact hK.out _ _ h1 (fun _ => h)) AllReadyH.nil)
end
theorem one6 {b0 b1 : Int} {b2 : Nat} {b3 : ByteArray} {b4 : Option Addr} {b5 b6 : Nat} {b7 : Option Addr} {b8 b9 : Nat} : (#[.int .i64 b0, .int .i64 b1, .float .f64 b2, .string b3, .slice b4 b5 b6, .slice b7 b8 b9] : Array Value).all (·.oneCell') = true := by simp [Value.oneCell']
set_option maxRecDepth 20000 in
set_option maxHeartbeats 4000000 in
theorem ival_go {w : World} {g : Nat} {s : ByteArray} {a : Nat} {t : VT} {nx : Nat} {ee : Int} {b' : Nat} (h : Rdr w g s a 0 0) (hm : (a ≤ nx ∧ b' = nx) ∨ (nx = 0 ∧ b' = a))
    (F : ∀ W, Calls Tryz.prog 85 #[.string s, .int .i64 a] W fun e w' => ∃ (b0 b1 : Int) (b2 : Nat) (b3 : ByteArray) (b4 : Option Addr) (b5 b6 : Nat) (b7 : Option Addr) (b8 b9 : Nat), e = .returned (.tuple #[.agg #[.int .i64 b0, .int .i64 b1, .float .f64 b2, .string b3, .slice b4 b5 b6, .slice b7 b8 b9], .int .i64 (nx : Int), .int .i64 ee]) ∧ VOwn w' (fun b => W.heap.size ≤ b) #[.int .i64 b0, .int .i64 b1, .float .f64 b2, .string b3, .slice b4 b5 b6, .slice b7 b8 b9] t ∧ Below W.heap.size W w') :
    Calls Tryz.prog 50 #[.agg #[.pointer (some ⟨g, 0, none⟩)]] w fun x w' => Past g w w' ∧ (∃ v, x = .returned (.agg v) ∧ VOwn w' (fun b => w.heap.size ≤ b) v t) ∧ Rdr w' g s b' ee 0 := by
  have hg := h.lt
  obtain ⟨W0, hW0⟩ : ∃ W0, W0 = (w.alloc (.cells #[.pointer (some ⟨g, 0, none⟩)] 72)).alloc (.cells #[.int .i64 0, .int .i64 0, .float .f64 0, .string ⟨#[]⟩, .slice none 0 0, .slice none 0 0] 28) := ⟨_, rfl⟩
  have hb0 : Below w.heap.size w W0 := by rw [hW0]; exact ((Below.refl _ _).alloc (Nat.le_refl _) _).alloc (by simp) _
  have hs0 : W0.heap.size = w.heap.size + 2 := by rw [hW0]; simp
  have hi0 : W0.heap[w.heap.size]? = some (.cells #[.pointer (some ⟨g, 0, none⟩)] 72 (0, 0)) := by rw [hW0, Below.heap_alloc _ _ _ (by simp)]; exact heap_alloc_new w _
  have hx0 : Bx W0 (w.heap.size + 1) #[.int .i64 0, .int .i64 0, .float .f64 0, .string ⟨#[]⟩, .slice none 0 0, .slice none 0 0] := by
    rw [hW0]
    have := Bx.new (w.alloc (.cells #[.pointer (some ⟨g, 0, none⟩)] 72)) #[.int .i64 0, .int .i64 0, .float .f64 0, .string ⟨#[]⟩, .slice none 0 0, .slice none 0 0]
    rw [World.size_alloc] at this; exact this
  have K := iok_any (h.past hb0)
  rw [show ((0 : Int) == 0) = true by decide] at K
  have SF := float_store
  have HR := Lib.hid (h.past hb0)
  have HB := Lib.hid hb0
  have HX := Lib.hid hx0
  have HI := Lib.hid hi0
  have HW := Lib.hid hW0
  have HG := Lib.hid hg
  have HZ := Lib.hid hs0
  have HF := Lib.hid F
  have HM := Lib.hid hm
  rw [hW0] at K
  have HK := Lib.hid K
  clear h hb0 hx0 hi0 hW0 K hg hs0 F hm
  go_enter Tryz.func50, Tryz.ntmps50
  go_wp2_with (go_at_call 23; refine HK.out.mono ?_; rintro x W1 ⟨rfl, hb1⟩; rw [← HW.out] at hb1; refine Hid.out ?_)
  refine Lib.hid ?_
  have h1 := HR.out.past hb1
  have hi1 := (hb1.block w.heap.size (by have := HZ.out; omega)).trans HI.out
  have hz1 := hb1.size
  have HX1 := Lib.hid (HX.out.below hb1 HX.out.lt)
  have HB1 := Lib.hid (HB.out.trans (hb1.mono HB.out.size))
  have HZ1 : Hid (w.heap.size + 2 ≤ W1.heap.size) := Lib.hid (by have := HZ.out; omega)
  obtain ⟨c0, c1, c2, c3, cf⟩ := h1.cells
  have ci : W1.cell? ⟨w.heap.size, 0, none⟩ = some (.pointer (some ⟨g, 0, none⟩)) := by simp [World.cell?, hi1]
  have hS : ∀ W, Below W1.heap.size W1 W → Hid ((fun W => W.cell? ⟨w.heap.size, 0, none⟩ = some (.pointer (some ⟨g, 0, none⟩)) ∧ W.cell? ⟨g, 0, none⟩ = some (.string s) ∧ W.cell? ⟨g, 1, none⟩ = some (.int .i64 (a : Int))) W) := fun W hb => Lib.hid ⟨(hb.cell (p := ⟨w.heap.size, 0, none⟩) (by show w.heap.size < _; have := HZ1.out; omega)).trans ci, (hb.cell (p := ⟨g, 0, none⟩) h1.lt).trans c0, (hb.cell (p := ⟨g, 1, none⟩) h1.lt).trans c1⟩
  have HS := Lib.hid hS
  have HR1 := Lib.hid h1
  have HI1 := Lib.hid hi1
  have HFB := Lib.hid (HF.out W1.drew)
  have HFA := Lib.hid (HF.out (W1.drew.alloc (.cells #[.int .i64 0, .int .i64 0, .float .f64 0, .string ⟨#[]⟩, .slice none 0 0, .slice none 0 0] 28)))
  have hD : Below W1.heap.size W1 W1.drew := (Below.refl _ _).drew
  have HD := Lib.hid hD
  have HDA := Lib.hid (hD.alloc (Nat.le_refl _) (.cells #[.int .i64 0, .int .i64 0, .float .f64 0, .string ⟨#[]⟩, .slice none 0 0, .slice none 0 0] 28))
  clear h1 hi1 hz1 hb1 cf c2 c3 c0 c1 HF hS hD
  go_upto_region 3 with (fail)
  refine wp_region_held_drew (S := (fun W => W.cell? ⟨w.heap.size, 0, none⟩ = some (.pointer (some ⟨g, 0, none⟩)) ∧ W.cell? ⟨g, 0, none⟩ = some (.string s) ∧ W.cell? ⟨g, 1, none⟩ = some (.int .i64 (a : Int)))) (by kernel_rfl) (HS.out W1.drew HD.out).out (fun _ => ?_)
  refine takeQ (i := 0) (some 11) (.pointer (some ⟨w.heap.size, 0, none⟩)) rfl rfl (by kernel_rfl) (by kernel_rfl) (by kernel_rfl) (fun _ _ _ h => h) (HS.out W1.drew HD.out).out (by kernel_rfl) (fun W hW => by kernel_rfl) ?_
  refine takeQ (i := 1) (some 12) (.pointer (some ⟨g, 0, none⟩)) rfl rfl (by kernel_rfl) (by kernel_rfl) (by kernel_rfl) (fun _ _ _ h => h) (HS.out W1.drew HD.out).out (by kernel_rfl) (fun W hW => run_ld 69 (.tmp 11) rfl w.heap.size 0 (by kernel_rfl) _ hW.1 (fun W h => ld1 (Tryz.isAgg69 W) h)) ?_
  refine takeQ (i := 2) (some 13) (.pointer (some ⟨g, 0, none⟩)) rfl rfl (by kernel_rfl) (by kernel_rfl) (by kernel_rfl) (fun _ _ _ h => h) (HS.out W1.drew HD.out).out (by kernel_rfl) (fun W hW => by kernel_rfl) ?_
  refine takeQ (i := 3) (some 14) (.pointer (some ⟨g, 0, none⟩)) rfl rfl (by kernel_rfl) (by kernel_rfl) (by kernel_rfl) (fun _ _ _ h => h) (HS.out W1.drew HD.out).out (by kernel_rfl) (fun W hW => by kernel_rfl) ?_
  refine takeQ (i := 4) (some 15) (.string s) rfl rfl (by kernel_rfl) (by kernel_rfl) (by kernel_rfl) (fun _ _ _ h => h) (HS.out W1.drew HD.out).out (by kernel_rfl) (fun W hW => run_ld 9 (.tmp 14) rfl g 0 (by kernel_rfl) _ hW.2.1 (fun W h => ld1 (Tryz.isAgg9 W) h)) ?_
  refine takeQ (i := 5) (some 16) (.pointer (some ⟨w.heap.size, 0, none⟩)) rfl rfl (by kernel_rfl) (by kernel_rfl) (by kernel_rfl) (fun _ _ _ h => h) (HS.out W1.drew HD.out).out (by kernel_rfl) (fun W hW => by kernel_rfl) ?_
  refine takeQ (i := 6) (some 17) (.pointer (some ⟨g, 0, none⟩)) rfl rfl (by kernel_rfl) (by kernel_rfl) (by kernel_rfl) (fun _ _ _ h => h) (HS.out W1.drew HD.out).out (by kernel_rfl) (fun W hW => run_ld 69 (.tmp 16) rfl w.heap.size 0 (by kernel_rfl) _ hW.1 (fun W h => ld1 (Tryz.isAgg69 W) h)) ?_
  refine takeQ (i := 7) (some 18) (.pointer (some ⟨g, 0, none⟩)) rfl rfl (by kernel_rfl) (by kernel_rfl) (by kernel_rfl) (fun _ _ _ h => h) (HS.out W1.drew HD.out).out (by kernel_rfl) (fun W hW => by kernel_rfl) ?_
  refine takeQ (i := 8) (some 19) (.pointer (some ⟨g, 1, none⟩)) rfl rfl (by kernel_rfl) (by kernel_rfl) (by kernel_rfl) (fun _ _ _ h => h) (HS.out W1.drew HD.out).out (by kernel_rfl) (fun W hW => by kernel_rfl) ?_
  refine takeQ (i := 9) (some 20) (.int .i64 (a : Int)) rfl rfl (by kernel_rfl) (by kernel_rfl) (by kernel_rfl) (fun _ _ _ h => h) (HS.out W1.drew HD.out).out (by kernel_rfl) (fun W hW => run_ld 3 (.tmp 19) rfl g 1 (by kernel_rfl) _ hW.2.2 (fun W h => ld1 (Tryz.isAgg3 W) h)) ?_
  refine twoQ (i := 10) (j := 15) 85 #[.string s, .int .i64 (a : Int)] (some 21) (some 3) rfl (by kernel_rfl) rfl (by kernel_rfl) (by kernel_rfl) ?_ rfl (by kernel_rfl) rfl rfl (HS.out _ HDA.out).out ?_
  · refine HFB.out.mono ?_
    rintro e w5 ⟨b0, b1, b2, b3, b4, b5, b6, b7, b8, b9, rfl, hv5, hb5⟩
    have hb5' : Below W1.heap.size W1 w5 := HD.out.trans (Below.mono hb5 (Nat.le_refl _))
    refine ⟨_, rfl, (HS.out _ hb5').out, ?_⟩
    refine takeQ (i := 11) (some 10) (.tuple #[.agg #[.int .i64 b0, .int .i64 b1, .float .f64 b2, .string b3, .slice b4 b5 b6, .slice b7 b8 b9], .int .i64 (nx : Int), .int .i64 ee]) rfl rfl (by kernel_rfl) (by kernel_rfl) (by kernel_rfl) (fun _ _ _ h => h) (HS.out _ hb5').out (by kernel_rfl) (fun W hW => by kernel_rfl) ?_
    refine takeQ (i := 12) (some 22) (.agg #[.int .i64 b0, .int .i64 b1, .float .f64 b2, .string b3, .slice b4 b5 b6, .slice b7 b8 b9]) rfl rfl (by kernel_rfl) (by kernel_rfl) (by kernel_rfl) (fun _ _ _ h => h) (HS.out _ hb5').out (by kernel_rfl) (fun W hW => by kernel_rfl) ?_
    refine takeQ (i := 13) (some 23) (.int .i64 (nx : Int)) rfl rfl (by kernel_rfl) (by kernel_rfl) (by kernel_rfl) (fun _ _ _ h => h) (HS.out _ hb5').out (by kernel_rfl) (fun W hW => by kernel_rfl) ?_
    refine takeQ (i := 14) (some 24) (.int .i64 ee) rfl rfl (by kernel_rfl) (by kernel_rfl) (by kernel_rfl) (fun _ _ _ h => h) (HS.out _ hb5').out (by kernel_rfl) (fun W hW => by kernel_rfl) ?_
    have hb6 := hb5'.alloc hb5'.size (.cells #[.int .i64 0, .int .i64 0, .float .f64 0, .string ⟨#[]⟩, .slice none 0 0, .slice none 0 0] 28)
    have hb7 : Below W1.heap.size W1 (w5.alloc (.cells #[.int .i64 b0, .int .i64 b1, .float .f64 b2, .string b3, .slice b4 b5 b6, .slice b7 b8 b9] 28)) := hb5'.alloc hb5'.size _
    refine allocVQ (i := 15) (some 3) rfl (by kernel_rfl) rfl (by kernel_rfl) rfl (HS.out _ hb6).out ?_
    refine storeVQ (i := 16) (.tmp 3) (.tmp 22) rfl (by kernel_rfl) rfl (by kernel_rfl) rfl w5.heap.size (by kernel_rfl) #[.int .i64 b0, .int .i64 b1, .float .f64 b2, .string b3, .slice b4 b5 b6, .slice b7 b8 b9] (by kernel_rfl) #[.int .i64 0, .int .i64 0, .float .f64 0, .string ⟨#[]⟩, .slice none 0 0, .slice none 0 0] (heap_alloc_new w5 _) rfl rfl one6 (by rw [alloc_setRow]; exact (HS.out _ hb7).out) ?_
    rw [alloc_setRow]
    refine takeQ (i := 17) (some 4) (.int .i64 (nx : Int)) rfl rfl (by kernel_rfl) (by kernel_rfl) (by kernel_rfl) (fun _ _ _ h => h) (HS.out _ hb7).out (by kernel_rfl) (fun W hW => by kernel_rfl) ?_
    refine takeQ (i := 18) (some 5) (.int .i64 ee) rfl rfl (by kernel_rfl) (by kernel_rfl) (by kernel_rfl) (fun _ _ _ h => h) (HS.out _ hb7).out (by kernel_rfl) (fun W hW => by kernel_rfl) ?_
    refine wpAnyH_done (by kernel_rfl) ?_ _
    simp only [Act.put, List.setIfInBounds_toArray, List.set_cons_zero, List.set_cons_succ]
    obtain ⟨W6, hW6⟩ : ∃ W6, W6 = w5.alloc (.cells #[.int .i64 b0, .int .i64 b1, .float .f64 b2, .string b3, .slice b4 b5 b6, .slice b7 b8 b9] 28) := ⟨_, rfl⟩
    obtain ⟨R2, hR2⟩ : ∃ R2, R2 = w5.heap.size := ⟨_, rfl⟩
    have hx6 : Bx W6 R2 #[.int .i64 b0, .int .i64 b1, .float .f64 b2, .string b3, .slice b4 b5 b6, .slice b7 b8 b9] := by rw [hW6, hR2]; exact Bx.new w5 _
    have hb6 : Below W1.heap.size W1 W6 := by rw [hW6]; exact hb7
    have hv6 : VOwn W6 (fun b => W1.heap.size ≤ b) #[.int .i64 b0, .int .i64 b1, .float .f64 b2, .string b3, .slice b4 b5 b6, .slice b7 b8 b9] t := by rw [hW6]; exact hv5.alloc _
    have hr6 : W1.heap.size ≤ R2 := by rw [hR2]; exact hb5'.size
    rw [← hW6, ← hR2]
    clear hR2 hb5 hb5' hv5 hb7
    clear HS HFA HFB HD HDA
    have HB6 := Lib.hid hb6
    have HV6 := Lib.hid hv6
    have hr6' := HR1.out.past hb6
    have hi6 := (hb6.block w.heap.size (by have := HZ1.out; omega)).trans HI1.out
    have HR2 := Lib.hid hr6
    have HX6 := Lib.hid hx6
    have HX6r := Lib.hid (HX1.out.below hb6 (by have := HZ1.out; omega))
    obtain ⟨x0, x1, x2, x3, xf⟩ := hr6'.cells
    have xi : W6.cell? ⟨w.heap.size, 0, none⟩ = some (.pointer (some ⟨g, 0, none⟩)) := by simp [World.cell?, hi6]
    have h7 := hr6'.set2 ee
    obtain ⟨y0, y1, y2, y3, yf⟩ := h7.cells
    have hi7 : (W6.setCell ⟨g, 2, none⟩ (.int .i64 ee)).heap[w.heap.size]? = some (.cells #[.pointer (some ⟨g, 0, none⟩)] 72 (0, 0)) := (Below.heap_setCell _ _ _ _ (by have := HG.out; simp; omega)).trans hi6
    have yi : (W6.setCell ⟨g, 2, none⟩ (.int .i64 ee)).cell? ⟨w.heap.size, 0, none⟩ = some (.pointer (some ⟨g, 0, none⟩)) := by simp only [World.cell?, hi7]; rfl
    have H7 := Lib.hid h7
    have HP7 := Lib.hid (((Past.of_below (g := g) HB1.out).trans (Past.of_below (Below.mono HB6.out (Nat.le_refl _)))).set 2 (.int .i64 ee))
    clear hx6 hb6 hv6 hr6 hr6' hi6 h7 hi7 hW6
    go_upto_region 5 with (fail)
    rcases HM.out with ⟨hm, rfl⟩ | ⟨rfl, rfl⟩
    · have hm' : ¬ ((b' : Int) < (a : Int)) := by omega
      have hm2 : ((a : Int) ≤ (b' : Int)) := by omega
      go_region
      clear hm hm' hm2
      obtain ⟨W8, hW8⟩ : ∃ W8, W8 = ((W6.setCell ⟨g, 2, none⟩ (.int .i64 ee)).setCell ⟨g, 1, none⟩ (.int .i64 (b' : Int))).drew := ⟨_, rfl⟩
      rw [← hW8]
      have hne : g ≠ R2 := by have := HR2.out; have := HG.out; have := HZ1.out; omega
      have hne2 : g ≠ w.heap.size + 1 := by have := HG.out; omega
      have hr8 : Rdr W8 g s b' ee 0 := by rw [hW8]; exact H7.out.set1 b'
      have hx8 : Bx W8 R2 #[.int .i64 b0, .int .i64 b1, .float .f64 b2, .string b3, .slice b4 b5 b6, .slice b7 b8 b9] := by rw [hW8]; exact ((HX6.out.other hne 2 _).other hne 1 _).drew
      have hxr8 : Bx W8 (w.heap.size + 1) #[.int .i64 0, .int .i64 0, .float .f64 0, .string ⟨#[]⟩, .slice none 0 0, .slice none 0 0] := by rw [hW8]; exact ((HX6r.out.other hne2 2 _).other hne2 1 _).drew
      have hp8 : Past g w W8 := by rw [hW8]; exact (HP7.out.set 1 _).drew
      have hv8 : VOwn W8 (fun b => W1.heap.size ≤ b) #[.int .i64 b0, .int .i64 b1, .float .f64 b2, .string b3, .slice b4 b5 b6, .slice b7 b8 b9] t := by
        rw [hW8]
        exact ((HV6.out.set (R := g) (by have := HG.out; have := HZ1.out; omega) 2 _).set (R := g) (by have := HG.out; have := HZ1.out; omega) 1 _).drew
      obtain ⟨u0, u1, u2, u3, u4, u5, uf, ul⟩ := hx8.cells
      obtain ⟨v0, v1, v2, v3, v4, v5, vf, vl⟩ := hxr8.cells
      have HR8 := Lib.hid hr8
      have HXR8 := Lib.hid hxr8
      have HP8 := Lib.hid hp8
      have HV8 := Lib.hid hv8
      clear hW8 hr8 hx8 hxr8 hp8 hv8 x0 x1 x2 x3 xf xi y0 y1 y2 y3 yf yi hne
      go_wp2_with fail
      obtain ⟨z0, z1, z2, z3, z4, z5, zf, zl⟩ := (HXR8.out.six (.int .i64 b0) (.int .i64 b1) (.float .f64 b2) (.string b3) (.slice b4 b5 b6) (.slice b7 b8 b9)).cells
      have hfin : Past g w _ := HP8.out.six (Nat.le_succ _) (.int .i64 b0) (.int .i64 b1) (.float .f64 b2) (.string b3) (.slice b4 b5 b6) (.slice b7 b8 b9)
      refine bodyPost_ret (v := .agg #[.int .i64 b0, .int .i64 b1, .float .f64 b2, .string b3, .slice b4 b5 b6, .slice b7 b8 b9]) ?_ rfl ⟨hfin, ⟨_, rfl, ?_⟩, HR8.out.six (fun e => hne2 e.symm) _ _ _ _ _ _⟩
      · simp [results, Tryz.results50, go_sem, asAddr, z0, z1, z2, z3, z4, z5]
      · exact (HV8.out.six (by have := HZ1.out; omega) _ _ _ _ _ _).imp fun b hb _ => by have := HZ1.out; omega
    · have hm' : ¬ ((b' : Int) < ((0 : Nat) : Int)) := by omega
      have hm2 : (0 : Int) ≤ (b' : Int) := by omega
      go_region
      have hmx : (if 0 < b' then (b' : Int) else 0) = (b' : Int) := by split <;> omega
      rw [hmx]
      clear hm' hm2 hmx
      obtain ⟨W8, hW8⟩ : ∃ W8, W8 = ((W6.setCell ⟨g, 2, none⟩ (.int .i64 ee)).setCell ⟨g, 1, none⟩ (.int .i64 (b' : Int))).drew := ⟨_, rfl⟩
      rw [← hW8]
      have hne : g ≠ R2 := by have := HR2.out; have := HG.out; have := HZ1.out; omega
      have hne2 : g ≠ w.heap.size + 1 := by have := HG.out; omega
      have hr8 : Rdr W8 g s b' ee 0 := by rw [hW8]; exact H7.out.set1 b'
      have hx8 : Bx W8 R2 #[.int .i64 b0, .int .i64 b1, .float .f64 b2, .string b3, .slice b4 b5 b6, .slice b7 b8 b9] := by rw [hW8]; exact ((HX6.out.other hne 2 _).other hne 1 _).drew
      have hxr8 : Bx W8 (w.heap.size + 1) #[.int .i64 0, .int .i64 0, .float .f64 0, .string ⟨#[]⟩, .slice none 0 0, .slice none 0 0] := by rw [hW8]; exact ((HX6r.out.other hne2 2 _).other hne2 1 _).drew
      have hp8 : Past g w W8 := by rw [hW8]; exact (HP7.out.set 1 _).drew
      have hv8 : VOwn W8 (fun b => W1.heap.size ≤ b) #[.int .i64 b0, .int .i64 b1, .float .f64 b2, .string b3, .slice b4 b5 b6, .slice b7 b8 b9] t := by
        rw [hW8]
        exact ((HV6.out.set (R := g) (by have := HG.out; have := HZ1.out; omega) 2 _).set (R := g) (by have := HG.out; have := HZ1.out; omega) 1 _).drew
      obtain ⟨u0, u1, u2, u3, u4, u5, uf, ul⟩ := hx8.cells
      obtain ⟨v0, v1, v2, v3, v4, v5, vf, vl⟩ := hxr8.cells
      have HR8 := Lib.hid hr8
      have HXR8 := Lib.hid hxr8
      have HP8 := Lib.hid hp8
      have HV8 := Lib.hid hv8
      clear hW8 hr8 hx8 hxr8 hp8 hv8 x0 x1 x2 x3 xf xi y0 y1 y2 y3 yf yi hne
      go_wp2_with fail
      obtain ⟨z0, z1, z2, z3, z4, z5, zf, zl⟩ := (HXR8.out.six (.int .i64 b0) (.int .i64 b1) (.float .f64 b2) (.string b3) (.slice b4 b5 b6) (.slice b7 b8 b9)).cells
      have hfin : Past g w _ := HP8.out.six (Nat.le_succ _) (.int .i64 b0) (.int .i64 b1) (.float .f64 b2) (.string b3) (.slice b4 b5 b6) (.slice b7 b8 b9)
      refine bodyPost_ret (v := .agg #[.int .i64 b0, .int .i64 b1, .float .f64 b2, .string b3, .slice b4 b5 b6, .slice b7 b8 b9]) ?_ rfl ⟨hfin, ⟨_, rfl, ?_⟩, HR8.out.six (fun e => hne2 e.symm) _ _ _ _ _ _⟩
      · simp [results, Tryz.results50, go_sem, asAddr, z0, z1, z2, z3, z4, z5]
      · exact (HV8.out.six (by have := HZ1.out; omega) _ _ _ _ _ _).imp fun b hb _ => by have := HZ1.out; omega
  · refine callH (i := 10) 85 #[.string s, .int .i64 (a : Int)] (some 21) rfl (by kernel_rfl) rfl (by kernel_rfl) (by kernel_rfl) ?_
    refine HFA.out.mono ?_
    rintro e w5 ⟨b0, b1, b2, b3, b4, b5, b6, b7, b8, b9, rfl, hv5, hb5⟩
    have hb5' : Below W1.heap.size W1 w5 := HDA.out.trans (Below.mono hb5 (by simp))
    have hx5 : Bx w5 W1.heap.size #[.int .i64 0, .int .i64 0, .float .f64 0, .string ⟨#[]⟩, .slice none 0 0, .slice none 0 0] := (hb5.block W1.heap.size (by simp)).trans (heap_alloc_new W1.drew _)
    refine ⟨_, rfl, (HS.out _ hb5').out, ?_⟩
    refine takeQ (i := 11) (some 10) (.tuple #[.agg #[.int .i64 b0, .int .i64 b1, .float .f64 b2, .string b3, .slice b4 b5 b6, .slice b7 b8 b9], .int .i64 (nx : Int), .int .i64 ee]) rfl rfl (by kernel_rfl) (by kernel_rfl) (by kernel_rfl) (fun _ _ _ h => h) (HS.out _ hb5').out (by kernel_rfl) (fun W hW => by kernel_rfl) ?_
    refine takeQ (i := 12) (some 22) (.agg #[.int .i64 b0, .int .i64 b1, .float .f64 b2, .string b3, .slice b4 b5 b6, .slice b7 b8 b9]) rfl rfl (by kernel_rfl) (by kernel_rfl) (by kernel_rfl) (fun _ _ _ h => h) (HS.out _ hb5').out (by kernel_rfl) (fun W hW => by kernel_rfl) ?_
    refine takeQ (i := 13) (some 23) (.int .i64 (nx : Int)) rfl rfl (by kernel_rfl) (by kernel_rfl) (by kernel_rfl) (fun _ _ _ h => h) (HS.out _ hb5').out (by kernel_rfl) (fun W hW => by kernel_rfl) ?_
    refine takeQ (i := 14) (some 24) (.int .i64 ee) rfl rfl (by kernel_rfl) (by kernel_rfl) (by kernel_rfl) (fun _ _ _ h => h) (HS.out _ hb5').out (by kernel_rfl) (fun W hW => by kernel_rfl) ?_
    have hb7 : Below W1.heap.size W1 (w5.setRow W1.heap.size #[.int .i64 b0, .int .i64 b1, .float .f64 b2, .string b3, .slice b4 b5 b6, .slice b7 b8 b9]) := ⟨hb5'.os, hb5'.tape, hb5'.output, by rw [setRow_size]; exact hb5'.size, fun k hk => (setRow_other w5 W1.heap.size k _ (by omega)).trans (hb5'.block k hk)⟩
    refine storeVQ (i := 16) (.tmp 3) (.tmp 22) rfl (by kernel_rfl) rfl (by kernel_rfl) rfl W1.heap.size (by kernel_rfl) #[.int .i64 b0, .int .i64 b1, .float .f64 b2, .string b3, .slice b4 b5 b6, .slice b7 b8 b9] (by kernel_rfl) #[.int .i64 0, .int .i64 0, .float .f64 0, .string ⟨#[]⟩, .slice none 0 0, .slice none 0 0] hx5 rfl rfl one6 (HS.out _ hb7).out ?_
    refine takeQ (i := 17) (some 4) (.int .i64 (nx : Int)) rfl rfl (by kernel_rfl) (by kernel_rfl) (by kernel_rfl) (fun _ _ _ h => h) (HS.out _ hb7).out (by kernel_rfl) (fun W hW => by kernel_rfl) ?_
    refine takeQ (i := 18) (some 5) (.int .i64 ee) rfl rfl (by kernel_rfl) (by kernel_rfl) (by kernel_rfl) (fun _ _ _ h => h) (HS.out _ hb7).out (by kernel_rfl) (fun W hW => by kernel_rfl) ?_
    refine wpAnyH_done (by kernel_rfl) ?_ _
    simp only [Act.put, List.setIfInBounds_toArray, List.set_cons_zero, List.set_cons_succ]
    obtain ⟨W6, hW6⟩ : ∃ W6, W6 = w5.setRow W1.heap.size #[.int .i64 b0, .int .i64 b1, .float .f64 b2, .string b3, .slice b4 b5 b6, .slice b7 b8 b9] := ⟨_, rfl⟩
    obtain ⟨R2, hR2⟩ : ∃ R2, R2 = W1.drew.heap.size := ⟨_, rfl⟩
    have hR2' : R2 = W1.heap.size := hR2
    have hx6 : Bx W6 R2 #[.int .i64 b0, .int .i64 b1, .float .f64 b2, .string b3, .slice b4 b5 b6, .slice b7 b8 b9] := by rw [hW6, hR2']; exact setRow_heap _ _ _ _ _ _ hx5
    have hb6 : Below W1.heap.size W1 W6 := by rw [hW6]; exact hb7
    have hv6 : VOwn W6 (fun b => W1.heap.size ≤ b) #[.int .i64 b0, .int .i64 b1, .float .f64 b2, .string b3, .slice b4 b5 b6, .slice b7 b8 b9] t := by
      rw [hW6]
      refine (hv5.keep (by rw [setRow_size]; exact Nat.le_refl _) fun k hk _ => setRow_other w5 W1.heap.size k _ (by simp at hk; omega)).imp fun b hb _ => by simp at hb; omega
    have hr6 : W1.heap.size ≤ R2 := by rw [hR2']; exact Nat.le_refl _
    rw [← hW6, ← hR2]
    clear hR2 hR2' hb5 hb5' hv5 hb7 hx5
    clear HS HFA HFB HD HDA
    have HB6 := Lib.hid hb6
    have HV6 := Lib.hid hv6
    have hr6' := HR1.out.past hb6
    have hi6 := (hb6.block w.heap.size (by have := HZ1.out; omega)).trans HI1.out
    have HR2 := Lib.hid hr6
    have HX6 := Lib.hid hx6
    have HX6r := Lib.hid (HX1.out.below hb6 (by have := HZ1.out; omega))
    obtain ⟨x0, x1, x2, x3, xf⟩ := hr6'.cells
    have xi : W6.cell? ⟨w.heap.size, 0, none⟩ = some (.pointer (some ⟨g, 0, none⟩)) := by simp [World.cell?, hi6]
    have h7 := hr6'.set2 ee
    obtain ⟨y0, y1, y2, y3, yf⟩ := h7.cells
    have hi7 : (W6.setCell ⟨g, 2, none⟩ (.int .i64 ee)).heap[w.heap.size]? = some (.cells #[.pointer (some ⟨g, 0, none⟩)] 72 (0, 0)) := (Below.heap_setCell _ _ _ _ (by have := HG.out; simp; omega)).trans hi6
    have yi : (W6.setCell ⟨g, 2, none⟩ (.int .i64 ee)).cell? ⟨w.heap.size, 0, none⟩ = some (.pointer (some ⟨g, 0, none⟩)) := by simp only [World.cell?, hi7]; rfl
    have H7 := Lib.hid h7
    have HP7 := Lib.hid (((Past.of_below (g := g) HB1.out).trans (Past.of_below (Below.mono HB6.out (Nat.le_refl _)))).set 2 (.int .i64 ee))
    clear hx6 hb6 hv6 hr6 hr6' hi6 h7 hi7 hW6
    go_upto_region 5 with (fail)
    rcases HM.out with ⟨hm, rfl⟩ | ⟨rfl, rfl⟩
    · have hm' : ¬ ((b' : Int) < (a : Int)) := by omega
      have hm2 : ((a : Int) ≤ (b' : Int)) := by omega
      go_region
      clear hm hm' hm2
      obtain ⟨W8, hW8⟩ : ∃ W8, W8 = ((W6.setCell ⟨g, 2, none⟩ (.int .i64 ee)).setCell ⟨g, 1, none⟩ (.int .i64 (b' : Int))).drew := ⟨_, rfl⟩
      rw [← hW8]
      have hne : g ≠ R2 := by have := HR2.out; have := HG.out; have := HZ1.out; omega
      have hne2 : g ≠ w.heap.size + 1 := by have := HG.out; omega
      have hr8 : Rdr W8 g s b' ee 0 := by rw [hW8]; exact H7.out.set1 b'
      have hx8 : Bx W8 R2 #[.int .i64 b0, .int .i64 b1, .float .f64 b2, .string b3, .slice b4 b5 b6, .slice b7 b8 b9] := by rw [hW8]; exact ((HX6.out.other hne 2 _).other hne 1 _).drew
      have hxr8 : Bx W8 (w.heap.size + 1) #[.int .i64 0, .int .i64 0, .float .f64 0, .string ⟨#[]⟩, .slice none 0 0, .slice none 0 0] := by rw [hW8]; exact ((HX6r.out.other hne2 2 _).other hne2 1 _).drew
      have hp8 : Past g w W8 := by rw [hW8]; exact (HP7.out.set 1 _).drew
      have hv8 : VOwn W8 (fun b => W1.heap.size ≤ b) #[.int .i64 b0, .int .i64 b1, .float .f64 b2, .string b3, .slice b4 b5 b6, .slice b7 b8 b9] t := by
        rw [hW8]
        exact ((HV6.out.set (R := g) (by have := HG.out; have := HZ1.out; omega) 2 _).set (R := g) (by have := HG.out; have := HZ1.out; omega) 1 _).drew
      obtain ⟨u0, u1, u2, u3, u4, u5, uf, ul⟩ := hx8.cells
      obtain ⟨v0, v1, v2, v3, v4, v5, vf, vl⟩ := hxr8.cells
      have HR8 := Lib.hid hr8
      have HXR8 := Lib.hid hxr8
      have HP8 := Lib.hid hp8
      have HV8 := Lib.hid hv8
      clear hW8 hr8 hx8 hxr8 hp8 hv8 x0 x1 x2 x3 xf xi y0 y1 y2 y3 yf yi hne
      go_wp2_with fail
      obtain ⟨z0, z1, z2, z3, z4, z5, zf, zl⟩ := (HXR8.out.six (.int .i64 b0) (.int .i64 b1) (.float .f64 b2) (.string b3) (.slice b4 b5 b6) (.slice b7 b8 b9)).cells
      have hfin : Past g w _ := HP8.out.six (Nat.le_succ _) (.int .i64 b0) (.int .i64 b1) (.float .f64 b2) (.string b3) (.slice b4 b5 b6) (.slice b7 b8 b9)
      refine bodyPost_ret (v := .agg #[.int .i64 b0, .int .i64 b1, .float .f64 b2, .string b3, .slice b4 b5 b6, .slice b7 b8 b9]) ?_ rfl ⟨hfin, ⟨_, rfl, ?_⟩, HR8.out.six (fun e => hne2 e.symm) _ _ _ _ _ _⟩
      · simp [results, Tryz.results50, go_sem, asAddr, z0, z1, z2, z3, z4, z5]
      · exact (HV8.out.six (by have := HZ1.out; omega) _ _ _ _ _ _).imp fun b hb _ => by have := HZ1.out; omega
    · have hm' : ¬ ((b' : Int) < ((0 : Nat) : Int)) := by omega
      have hm2 : (0 : Int) ≤ (b' : Int) := by omega
      go_region
      have hmx : (if 0 < b' then (b' : Int) else 0) = (b' : Int) := by split <;> omega
      rw [hmx]
      clear hm' hm2 hmx
      obtain ⟨W8, hW8⟩ : ∃ W8, W8 = ((W6.setCell ⟨g, 2, none⟩ (.int .i64 ee)).setCell ⟨g, 1, none⟩ (.int .i64 (b' : Int))).drew := ⟨_, rfl⟩
      rw [← hW8]
      have hne : g ≠ R2 := by have := HR2.out; have := HG.out; have := HZ1.out; omega
      have hne2 : g ≠ w.heap.size + 1 := by have := HG.out; omega
      have hr8 : Rdr W8 g s b' ee 0 := by rw [hW8]; exact H7.out.set1 b'
      have hx8 : Bx W8 R2 #[.int .i64 b0, .int .i64 b1, .float .f64 b2, .string b3, .slice b4 b5 b6, .slice b7 b8 b9] := by rw [hW8]; exact ((HX6.out.other hne 2 _).other hne 1 _).drew
      have hxr8 : Bx W8 (w.heap.size + 1) #[.int .i64 0, .int .i64 0, .float .f64 0, .string ⟨#[]⟩, .slice none 0 0, .slice none 0 0] := by rw [hW8]; exact ((HX6r.out.other hne2 2 _).other hne2 1 _).drew
      have hp8 : Past g w W8 := by rw [hW8]; exact (HP7.out.set 1 _).drew
      have hv8 : VOwn W8 (fun b => W1.heap.size ≤ b) #[.int .i64 b0, .int .i64 b1, .float .f64 b2, .string b3, .slice b4 b5 b6, .slice b7 b8 b9] t := by
        rw [hW8]
        exact ((HV6.out.set (R := g) (by have := HG.out; have := HZ1.out; omega) 2 _).set (R := g) (by have := HG.out; have := HZ1.out; omega) 1 _).drew
      obtain ⟨u0, u1, u2, u3, u4, u5, uf, ul⟩ := hx8.cells
      obtain ⟨v0, v1, v2, v3, v4, v5, vf, vl⟩ := hxr8.cells
      have HR8 := Lib.hid hr8
      have HXR8 := Lib.hid hxr8
      have HP8 := Lib.hid hp8
      have HV8 := Lib.hid hv8
      clear hW8 hr8 hx8 hxr8 hp8 hv8 x0 x1 x2 x3 xf xi y0 y1 y2 y3 yf yi hne
      go_wp2_with fail
      obtain ⟨z0, z1, z2, z3, z4, z5, zf, zl⟩ := (HXR8.out.six (.int .i64 b0) (.int .i64 b1) (.float .f64 b2) (.string b3) (.slice b4 b5 b6) (.slice b7 b8 b9)).cells
      have hfin : Past g w _ := HP8.out.six (Nat.le_succ _) (.int .i64 b0) (.int .i64 b1) (.float .f64 b2) (.string b3) (.slice b4 b5 b6) (.slice b7 b8 b9)
      refine bodyPost_ret (v := .agg #[.int .i64 b0, .int .i64 b1, .float .f64 b2, .string b3, .slice b4 b5 b6, .slice b7 b8 b9]) ?_ rfl ⟨hfin, ⟨_, rfl, ?_⟩, HR8.out.six (fun e => hne2 e.symm) _ _ _ _ _ _⟩
      · simp [results, Tryz.results50, go_sem, asAddr, z0, z1, z2, z3, z4, z5]
      · exact (HV8.out.six (by have := HZ1.out; omega) _ _ _ _ _ _).imp fun b hb _ => by have := HZ1.out; omega
end Go.Proofs.YtekojglcbalhnaaGreatDoor

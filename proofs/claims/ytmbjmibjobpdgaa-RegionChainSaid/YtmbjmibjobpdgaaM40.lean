/-
  The landed Weights.
-/
import Derived.Test.YtmbjmibjobpdgaaM39
import Derived.Test.YtmbjmibjobpdgaaM28
namespace Go.Proofs.Ytmbjmibjobpdgaa
open Go.RowKit Go.Shelf
attribute [local go_sem] Oper.semAt_some

theorem results_ct {fn : Func} {p t : Tmp} (h : fn.results = #[.cell p 30, .tmp t]) (tmps : Array Value) (w : World) (g : Nat) (v u : Value) (hp : tmps.getD p undef = .pointer (some ⟨g, 0, none⟩)) (hc : w.cell? ⟨g, 0, none⟩ = some v) (ht : tmps.getD t undef = u) :
    (results fn tmps).run Try.prog w = .ok (.tuple #[v, u]) w := by
  have hp' : tmps[p]?.getD undef = .pointer (some ⟨g, 0, none⟩) := by simpa using hp
  have ht' : tmps[t]?.getD undef = u := by simpa using ht
  simp [results, h, hp', ht', asAddr]
  go_simp
/-- A model in its box, and one object behind it. -/
theorem model_boxed2 {w : World} {mv : Array Value} {G : GT} (h : ModelAt w w.heap.size mv G) (o : Obj) : ∃ (ml : Nat → Value) (W1 : World), mv = #[ml 0, ml 1, ml 2, ml 3, ml 4, ml 5] ∧ W1 = (w.alloc (.cells mv 27)).alloc o ∧ ModelAt W1 W1.heap.size mv G ∧ Below w.heap.size w W1 ∧ W1.heap[w.heap.size]? = some (.cells mv 27 (0, 0)) ∧ W1.heap[w.heap.size + 1]? = some o ∧ W1.heap.size = w.heap.size + 2 := by
  obtain ⟨ml, hmv, hM, hX, hbx⟩ := model_boxed h
  have hs : (w.alloc (.cells mv 27)).heap.size = w.heap.size + 1 := by simp
  have hb : Below (w.alloc (.cells mv 27)).heap.size (w.alloc (.cells mv 27)) ((w.alloc (.cells mv 27)).alloc o) := (Below.refl _ _).alloc (Nat.le_refl _) _
  refine ⟨ml, _, hmv, rfl, (hM.stay hb).mono hb.size, hX.trans (hb.mono (by omega)), (hb.block _ (by omega)).trans hbx, ?_, by simp⟩
  have := heap_alloc_new (w.alloc (.cells mv 27)) o
  rw [hs] at this
  exact this
set_option maxRecDepth 20000 in
set_option maxHeartbeats 4000000 in
theorem weights_no {mv : Array Value} {G : GT} (w : World) (h : ModelAt w w.heap.size mv G) (hf : fewB G) (ha : ¬ Acyc G) : Calls Try.prog 12 #[.agg mv] w fun e w' => e = .returned (.tuple #[.slice none 0 0, .bool false]) ∧ Below w.heap.size w w' := by
  obtain ⟨ml, W1, hmv, hW1, hM, hX, hbx, hb2, hs1⟩ := model_boxed2 h (.cells #[.slice none 0 0] 30)
  have hM := Lib.hid hM
  have hX := Lib.hid hX
  have hbx := Lib.hid hbx
  have hb2 := Lib.hid hb2
  have hF := Lib.hid hf
  have hA := Lib.hid ha
  clear h hf ha
  generalize ml 0 = m0 at *
  generalize ml 1 = m1 at *
  generalize ml 2 = m2 at *
  generalize ml 3 = m3 at *
  generalize ml 4 = m4 at *
  generalize ml 5 = m5 at *
  subst hmv
  go_enter Try.func12, Try.ntmps12
  go_wp2_with fail
  rw [← hW1]
  clear hW1
  go_wp2_with (first
    | (refine wpList_load_row rfl 27 _ rfl w.heap.size rfl 27 #[m0, m1, m2, m3, m4, m5] (0, 0) _ hbx.out Try.underlying27 rfl (by kernel_rfl) ?_)
    | (go_at_call 28; refine (graphOf_any _ hM.out hF.out).mono ?_; rintro e w5 ⟨gO, gI, rfl, _, _, _, _, hO, hI, hb5, _⟩; have hb6 : Below w5.heap.size w5 (w5.alloc (.cells #[.slice (some ⟨gO, 0, none⟩) G.n G.n, .slice (some ⟨gI, 0, none⟩) G.n G.n] 71)) := (Below.refl _ _).alloc (Nat.le_refl _) _; have HO := Lib.hid (hO.keep hb6); have HI := Lib.hid (hI.keep hb6); have HB6 := Lib.hid hb6.size; have HX6 := Lib.hid (hb5.trans (hb6.mono hb5.size)); clear hO hI hb5 hb6)
    | (go_at_call 29; refine (order_no hF.out hA.out HO.out HI.out HB6.out).mono ?_; rintro e w7 ⟨rfl, hb7⟩; have r7 := (hb7.block (w.heap.size + 1) (by have := HX6.out.size; omega)).trans ((HX6.out.block (w.heap.size + 1) (by omega)).trans hb2.out); have c2 : w7.cell? ⟨w.heap.size + 1, 0, none⟩ = some (.slice none 0 0) := (by rw [cell_of_row _ _ 0 _ _ (0, 0) r7]; rfl); have f2 : w7.frozen? ⟨w.heap.size + 1, 0, none⟩ = false := (by simp [World.frozen?, r7]); have HX7 := Lib.hid (HX6.out.trans (hb7.mono HX6.out.size)); clear hb7 r7)
    | fail)
  refine bodyPost_ret (results_ct rfl _ _ (w.heap.size + 1) (.slice none 0 0) (.bool false) rfl (World.cell?_setCell_same' _ _ _ (by rw [c2]; rfl)) rfl) rfl ⟨rfl, ?_⟩
  exact (hX.out.trans (HX7.out.mono hX.out.size)).setCell (p := ⟨w.heap.size + 1, 0, none⟩) (Nat.le_succ _) _
theorem cell_int_row {w : World} {g k : Nat} {v : Value} {T : Nat} (h : w.heap[g]? = some (.cells #[v] T (0, 0))) (hv : ∀ x, v ≠ .int .i64 x) {x : Int} : w.cell? ⟨g, k, none⟩ ≠ some (.int .i64 x) := by
  rw [cell_of_row w g k _ _ (0, 0) h]
  cases k with
  | zero => intro e; exact hv x (by simpa using e)
  | succ k => intro e; simp at e
/-- Rows lie apart from a box of something else. -/
theorem LieI.apart {w w' : World} {lim lb : Nat} {v : Value} {T : Nat} {A : Option Addr} {L : List Int} (h : LieI w lim A L) (hr : w.heap[lb]? = some (.cells #[v] T (0, 0))) (hv : ∀ x, v ≠ .int .i64 x) (hb : ∀ k, k < lim → k ≠ lb → w'.heap[k]? = w.heap[k]?) : LieI w' lim A L := fun h0 => by
  obtain ⟨g, o, e, hg, hx⟩ := h h0
  have hne : g ≠ lb := by
    rintro rfl
    exact cell_int_row hr hv (hx 0 h0)
  refine ⟨g, o, e, hg, fun i hi => ?_⟩
  rw [cell_of_same (hb g hg hne)]
  exact hx i hi
theorem LieC.apart {w w' : World} {lim lb n g : Nat} {v : Value} {T : Nat} {R : Nat → List Nat} (h : LieC w lim (some ⟨g, 0, none⟩) n R) (hg : g ≠ lb) (hr : w.heap[lb]? = some (.cells #[v] T (0, 0))) (hv : ∀ x, v ≠ .int .i64 x) (hb : ∀ k, k < lim → k ≠ lb → w'.heap[k]? = w.heap[k]?) : LieC w' lim (some ⟨g, 0, none⟩) n R := fun h0 => by
  obtain ⟨g', o, e, hgl, hx⟩ := h h0
  injection e with e
  injection e with e1 e2
  subst e1 e2
  refine ⟨g, 0, rfl, hgl, fun t ht => ?_⟩
  obtain ⟨B, c, h1, h2, h3⟩ := hx t ht
  exact ⟨B, c, by rw [cell_of_same (hb g hgl hg)]; exact h1, h2, h3.apart hr hv hb⟩
theorem ordK_in {G : GT} (h : 0 < G.n) (x : Nat) : ordK G.n (inE G) x < G.n := by
  unfold ordK
  cases hn : nextN G.n (inE G) (doneK G.n (inE G) x) with
  | none => exact h
  | some y => exact List.mem_range.1 (List.mem_of_find?_eq_some hn)
/-- Where the order lies. -/
theorem OwnI.place {w : World} {B n c lb : Nat} {A : Option Addr} {L : List Int} (h : OwnI w B (.slice A n c) L) (hs : lb < w.heap.size) : ∃ gs, gs < w.heap.size ∧ (gs = lb ∨ B ≤ gs) ∧ (0 < n → A = some ⟨gs, 0, none⟩) ∧ n = L.length ∧ ∀ j (hj : j < L.length), w.cell? ⟨gs, 0 + j, none⟩ = some (.int .i64 L[j]) := by
  obtain ⟨h0, hl⟩ := h.lieAt
  rcases id h.2 with ⟨h1, h2⟩ | ⟨g, cap, cur, e, hb, hh, _⟩
  · rw [h2] at h0
    have : L.length = 0 := by omega
    exact ⟨lb, hs, .inl rfl, fun h => by omega, by omega, fun j hj => by omega⟩
  · injection e with e1 e2 e3
    subst e1
    refine ⟨g, row_lt hh, .inr hb, fun _ => rfl, h0, fun j hj => ?_⟩
    obtain ⟨g', o', e, _, hx⟩ := hl (by omega)
    injection e with e
    injection e with e1 e2
    subst e1 e2
    exact hx j hj
set_option maxRecDepth 20000 in
set_option maxHeartbeats 4000000 in
theorem weights_yes {mv : Array Value} {G : GT} (w : World) (h : ModelAt w w.heap.size mv G) (hf : fewB G) (ha : Acyc G) : Calls Try.prog 12 #[.agg mv] w fun e w' => ∃ g, e = .returned (.tuple #[.slice (some ⟨g, 0, none⟩) G.n G.n, .bool true]) ∧ OAt w' g G.n (weightsF G) ∧ Below w.heap.size w w' := by
  obtain ⟨ml, W1, hmv, hW1, hM, hX, hbx, hb2, hs1⟩ := model_boxed2 h (.cells #[.slice none 0 0] 30)
  have hM := Lib.hid hM
  have hX := Lib.hid hX
  have hbx := Lib.hid hbx
  have hb2 := Lib.hid hb2
  have hF := Lib.hid hf
  have hA := Lib.hid ha
  have hn1 : G.n ≤ 100 := hf.1
  clear h hf ha
  generalize ml 0 = m0 at *
  generalize ml 1 = m1 at *
  generalize ml 2 = m2 at *
  generalize ml 3 = m3 at *
  generalize ml 4 = m4 at *
  generalize ml 5 = m5 at *
  subst hmv
  have hmk : ∀ w : World, (Instr.makeSlice 30 (.int .i64 (G.n : Int)) (.int .i64 (G.n : Int))).run Try.prog w = .ok (.slice (some ⟨w.heap.size, 0, none⟩) G.n G.n) (w.alloc (.cells (madeCells #[.int .i64 0] G.n) 3)) := run_mk Try.underlying30 info3' G.n (by omega) (by omega)
  refine (callsIn_wide (n := 4)).1 ?_
  refine callsIn_of_wp_marks Try.func12 rfl trivial ?_ rfl
  simp only [Try.ntmps12, List.size_toArray, List.length_cons, List.length_nil, Nat.reduceAdd, Nat.reduceSub, Array.replicate_succ, Array.replicate_zero, List.push_toArray, List.append_toArray, List.nil_append, List.cons_append]
  refine wpIn_wide.2 ?_
  go_wp2_with fail
  rw [← hW1]
  clear hW1
  go_wp2_with (first
    | (refine wpList_load_row rfl 27 _ rfl w.heap.size rfl 27 #[m0, m1, m2, m3, m4, m5] (0, 0) _ hbx.out Try.underlying27 rfl (by kernel_rfl) ?_)
    | (go_at_call 28; refine (graphOf_any _ hM.out hF.out).mono ?_; rintro e w5 ⟨gO, gI, rfl, hgO1, _, hgO2, _, hO, hI, hb5, _⟩; have hb6 : Below w5.heap.size w5 (w5.alloc (.cells #[.slice (some ⟨gO, 0, none⟩) G.n G.n, .slice (some ⟨gI, 0, none⟩) G.n G.n] 71)) := (Below.refl _ _).alloc (Nat.le_refl _) _; have HO := Lib.hid (hO.keep hb6); have HI := Lib.hid (hI.keep hb6); have HB6 := Lib.hid hb6.size; have HG6 := Lib.hid (heap_alloc_new w5 (.cells #[.slice (some ⟨gO, 0, none⟩) G.n G.n, .slice (some ⟨gI, 0, none⟩) G.n G.n] 71)); have HX6 := Lib.hid (hb5.trans (hb6.mono hb5.size)); clear hO hI hb5 hb6)
    | (go_at_call 29; refine (order_yes hF.out hA.out HO.out HI.out HB6.out).mono ?_; rintro e w7 ⟨AL, cL, rfl, ho7, hb7⟩; have r7 := (hb7.block (w.heap.size + 1) (by have := HX6.out.size; omega)).trans ((HX6.out.block (w.heap.size + 1) (by omega)).trans hb2.out); have c2 : w7.cell? ⟨w.heap.size + 1, 0, none⟩ = some (.slice none 0 0) := (by rw [cell_of_row _ _ 0 _ _ (0, 0) r7]; rfl); have f2 : w7.frozen? ⟨w.heap.size + 1, 0, none⟩ = false := (by simp [World.frozen?, r7]); have HX7 := Lib.hid (HX6.out.trans (hb7.mono HX6.out.size)); have HO7 := Lib.hid ho7; have HB7 := Lib.hid hb7; have hl7 : w.heap.size + 1 < w7.heap.size := row_lt r7; have r8 := (((Below.refl _ w7).alloc (Nat.le_refl _) (.cells (madeCells #[.int .i64 0] G.n) 3)).block _ hl7).trans r7; have c8 : (w7.alloc (.cells (madeCells #[.int .i64 0] G.n) 3)).cell? ⟨w.heap.size + 1, 0, none⟩ = some (.slice none 0 0) := (by rw [cell_of_row _ _ 0 _ _ (0, 0) r8]; rfl); have f8 : (w7.alloc (.cells (madeCells #[.int .i64 0] G.n) 3)).frozen? ⟨w.heap.size + 1, 0, none⟩ = false := (by simp [World.frozen?, r8]); have HR7 := Lib.hid r7; clear hb7 r7 r8 ho7 c2 f2)
    | (go_at_call 31; refine (callsIn_wide (n := 3)).1 ?_; refine (back_in Fence.wide 3 trivial rfl _ _ _ _).mono ?_; rintro e w8 ⟨rfl, rfl⟩)
    | fail)
  obtain ⟨gl, hgl⟩ : ∃ gl, gl = w7.heap.size := ⟨_, rfl⟩
  obtain ⟨lb, hlb⟩ : ∃ lb, lb = w.heap.size + 1 := ⟨_, rfl⟩
  obtain ⟨gb, hgb⟩ : ∃ gb, gb = w5.heap.size := ⟨_, rfl⟩
  obtain ⟨n, hnd⟩ : ∃ n, n = G.n := ⟨_, rfl⟩
  have hW1s := HX6.out.size
  have hs6 : (w5.alloc (.cells #[.slice (some ⟨gO, 0, none⟩) G.n G.n, .slice (some ⟨gI, 0, none⟩) G.n G.n] 71)).heap.size = w5.heap.size + 1 := by simp
  have hs7 := HB7.out.size
  rw [hs6] at hs7 hW1s
  have r7 := HR7.out
  rw [← hlb] at r7
  have hgb7 : w7.heap[gb]? = some (.cells #[.slice (some ⟨gO, 0, none⟩) G.n G.n, .slice (some ⟨gI, 0, none⟩) G.n G.n] 71 (0, 0)) := by
    rw [hgb]; exact (HB7.out.block _ (by rw [hs6]; omega)).trans HG6.out
  have hO7 := HO.out.keep (HB7.out.mono (by rw [hs6]; omega))
  obtain ⟨gs, hgs1, hgs2, hAL, hgn, hgs3⟩ := HO7.out.place (lb := w.heap.size) (by omega)
  rw [hs6] at hgs2
  rw [← hgl, ← hlb, ← hgb, ← hnd]
  obtain ⟨W2, hW2⟩ : ∃ W2, W2 = ((w7.setCell ⟨lb, 0, none⟩ (.slice (some ⟨gl, 0, none⟩) n n)).alloc (.cells (madeCells #[.int .i64 0] n) 3)).alloc (.cells #[.slice AL n cL] 30) := ⟨_, rfl⟩
  have s2 : W2.heap.size = gl + 2 := by rw [hW2, hgl]; simp
  have b2 : Below w7.heap.size (w7.setCell ⟨lb, 0, none⟩ (.slice (some ⟨gl, 0, none⟩) n n)) W2 := by
    rw [hW2]
    exact ((Below.refl _ _).alloc (by simp) _).alloc (by simp) _
  have k2 : ∀ k, k < w7.heap.size → k ≠ lb → W2.heap[k]? = w7.heap[k]? := fun k h1 h2 => (b2.block k h1).trans (Below.heap_setCell _ ⟨lb, 0, none⟩ _ _ h2)
  have rl2 : W2.heap[lb]? = some (.cells #[.slice (some ⟨gl, 0, none⟩) n n] 30 (0, 0)) := (b2.block lb (row_lt r7)).trans (heap_set r7 0 _)
  have rz2 : OAt W2 gl n (fun _ => 0) := by
    have e := heap_alloc_new (w7.setCell ⟨lb, 0, none⟩ (.slice (some ⟨gl, 0, none⟩) n n)) (.cells (madeCells #[.int .i64 0] n) 3)
    have hb := (Below.refl ((w7.setCell ⟨lb, 0, none⟩ (.slice (some ⟨gl, 0, none⟩) n n)).alloc (.cells (madeCells #[.int .i64 0] n) 3)).heap.size ((w7.setCell ⟨lb, 0, none⟩ (.slice (some ⟨gl, 0, none⟩) n n)).alloc (.cells (madeCells #[.int .i64 0] n) 3))).alloc (Nat.le_refl _) (.cells #[.slice AL n cL] 30)
    rw [← hW2] at hb
    have e2 := (hb.block _ (row_lt e)).trans e
    rw [World.size_setCell, ← hgl] at e2
    refine ⟨_, e2, by rw [size_madeCells]; exact Nat.le_refl _, fun i hi => ?_⟩
    have hlt : i < (madeCells #[Value.int .i64 0] n).size := by rw [size_madeCells]; exact hi
    rw [Array.getElem?_eq_getElem hlt]
    simp [madeCells, Nat.mod_one]
  have rb2 : W2.heap[gl + 1]? = some (.cells #[.slice AL n cL] 30 (0, 0)) := by
    have e := heap_alloc_new ((w7.setCell ⟨lb, 0, none⟩ (.slice (some ⟨gl, 0, none⟩) n n)).alloc (.cells (madeCells #[.int .i64 0] n) 3)) (.cells #[.slice AL n cL] 30)
    rw [← hW2] at e
    have : ((w7.setCell ⟨lb, 0, none⟩ (.slice (some ⟨gl, 0, none⟩) n n)).alloc (.cells (madeCells #[.int .i64 0] n) 3)).heap.size = gl + 1 := by rw [hgl]; simp
    rw [this] at e
    exact e
  have hX2 : Below w.heap.size w W2 := (((hX.out.trans (HX7.out.mono (by omega))).setCell (p := ⟨lb, 0, none⟩) (by show w.heap.size ≤ lb; omega) _)).trans (b2.mono (by omega))
  have hgb2 : W2.heap[gb]? = some (.cells #[.slice (some ⟨gO, 0, none⟩) n G.n, .slice (some ⟨gI, 0, none⟩) G.n G.n] 71 (0, 0)) := by rw [hnd]; exact (k2 gb (by omega) (by omega)).trans hgb7
  have HO2 := Lib.hid (hO7.apart (by omega) r7 (fun x e => by cases e) (fun k h1 h2 => k2 k (by omega) h2))
  have hord : ∀ j, j < n → W2.cell? ⟨gs, 0 + j, none⟩ = some (.int .i64 (ordK G.n (inE G) j : Int)) := fun j hj => by
    rw [cell_of_same (k2 gs hgs1 (by omega)), hgs3 j (by rw [← ordI_eq, ordI_len, ← hnd]; exact hj)]
    simp [orderL, ordL]
  rw [← hW2]
  rw [← hnd] at hAL
  have HAL := Lib.hid hAL
  have HORD := Lib.hid hord
  have HX2 := Lib.hid hX2
  have HGB2 := Lib.hid hgb2
  have HRL2 := Lib.hid rl2
  have HRB2 := Lib.hid rb2
  have HRZ2 := Lib.hid rz2
  have HND := Lib.hid hnd
  have h1 : gO ≠ lb := by omega
  have h2 : lb < gl := by omega
  have h3 : gO < gl := by omega
  have h4 : gb < gl := by omega
  have h5 : gs < gl := by omega
  have h6 : w.heap.size ≤ gl := by omega
  have h8 : w.heap.size ≤ lb := by omega
  have h7 : w5.heap.size ≤ gl := by omega
  have hnn : n ≤ 100 := by omega
  clear hnd hgn hW2 k2 b2 rl2 rz2 rb2 hX2 hgb2 hord hAL hgs1 hgs2 hgs3 hgb7 hO7 r7 hs7 hW1s hs6 hgl hlb hgb HB7 HO7 HR7 HX7 HX6 HG6 HB6 HO HI hX hb2 hbx hM hl7 c8 f8 hmk
  have hI : OwnFrom W2.heap.size (fun (pre : List Nat) W => OAt W gl n (pre.foldl (fun s x => wStep G s (ordK G.n (inE G) x)) (fun _ => 0)) ∧ Bow (gl + 2) gl W2 W) := by
    rintro pre A B row ⟨hO, hB⟩ hg hr
    have hne : some gl ≠ row := fun e => by
      have := (hr gl e.symm).1
      omega
    exact ⟨hO.block (hg.block gl hO.lt hne), hB.grown hg (by have := hB.size; omega) (fun k e => .inl (by have := (hr k e).1; omega))⟩
  refine wpIn_wide.1 (wpIn_rangeFunc_ownG (F := Fence.wide) (n := 4) rfl (by omega) (gf := 63) (lb := #[.pointer (some ⟨gl + 1, 0, none⟩)]) rfl trivial (enters_of Try.func63 (by kernel_rfl) rfl)
    (back_stops Fence.wide 3 trivial rfl (by omega) (gl + 1) gs 0 n cL AL (ordK G.n (inE G)) HAL.out (by omega) W2 (by omega) (by omega) (by rw [cell_of_row _ _ 0 _ _ (0, 0) HRB2.out]; rfl) HORD.out) (fun h k => KpB.trans h k) (kpB_b (by omega) (by omega)) (Below.refl _ _) (fun _ => rfl)
    (fun (pre : List Nat) W => OAt W gl n (pre.foldl (fun s x => wStep G s (ordK G.n (inE G) x)) (fun _ => 0)) ∧ Bow (gl + 2) gl W2 W)
    (fun _ _ _ => False) hI (fun _ _ _ _ _ hs _ _ => hs) ⟨HRZ2.out, Bow.refl _ _ _⟩
    (fun x => { tmps := #[.agg #[m0, m1, m2, m3, m4, m5], .pointer (some ⟨w.heap.size, 0, none⟩), .pointer (some ⟨lb, 0, none⟩), .bool true, .pointer (some ⟨gb, 0, none⟩), .slice AL n cL, undef, .int .i64 (ordK G.n (inE G) x : Int), undef, undef, .agg #[m0, m1, m2, m3, m4, m5], .agg #[.slice (some ⟨gO, 0, none⟩) n n, .slice (some ⟨gI, 0, none⟩) n n], .tuple #[.slice AL n cL, .bool true], .agg #[.slice (some ⟨gO, 0, none⟩) n n, .slice (some ⟨gI, 0, none⟩) n n], .tuple #[.slice AL n cL, .bool true], .slice AL n cL, .bool true, .bool true, .bool false, .slice AL n cL, .int .i64 (n : Int), .slice (some ⟨gl, 0, none⟩) n n, .slice AL n cL, .func (.func 63) #[] #[.pointer (some ⟨gl + 1, 0, none⟩)], .int .i64 (x : Int), .int .i64 (ordK G.n (inE G) x : Int), undef, undef, undef, undef, undef, undef, undef, undef, undef, undef, undef, undef, undef, undef, undef, undef, undef, undef, undef, undef, undef, undef, undef, undef, undef, undef, undef, undef], defers := [] }) ?assign ?body ?done ?stop)
  case assign =>
    intro l x W K hK
    unfold encB
    gi_wp2
    exact hK
  case stop =>
    rintro D c pre W _ _ h _
    exact h.elim
  case done =>
    rintro D ys W hD rfl ⟨hO, hB⟩ hK
    have rl : W.heap[lb]? = some (.cells #[.slice (some ⟨gl, 0, none⟩) n n] 30 (0, 0)) := (hB.block lb (by omega) (by omega)).trans HRL2.out
    have cl : W.cell? ⟨lb, 0, none⟩ = some (.slice (some ⟨gl, 0, none⟩) n n) := by rw [cell_of_row _ _ 0 _ _ (0, 0) rl]; rfl
    have fl : W.frozen? ⟨lb, 0, none⟩ = false := by simp [World.frozen?, rl]
    have HO9 := Lib.hid hO
    have HB9 := Lib.hid hB
    have HK9 := Lib.hid ((KeepsOthers.setCell W ⟨lb, 0, none⟩ (.slice (some ⟨gl, 0, none⟩) n n)).same D _ hK rfl)
    clear hO hB rl hK
    go_wp2_with fail
    have hWf : ∀ k, k ≠ D → k ≠ lb → ((W.setCell ⟨lb, 0, none⟩ (.slice (some ⟨gl, 0, none⟩) n n)).putObj D (.deferred none)).heap[k]? = W.heap[k]? := fun k h1 h2 => (World.putObj_heap_other h1).trans (Below.heap_setCell _ ⟨lb, 0, none⟩ _ _ h2)
    refine ⟨by simp, .inl ⟨_, _, rfl, run_takeDeferred HK9.out, ?_⟩⟩
    refine ⟨_, results_ct rfl _ _ lb (.slice (some ⟨gl, 0, none⟩) n n) (.bool true) rfl ?_ rfl, gl, by rw [HND.out], ?_, ?_⟩
    · rw [cell_of_same (World.putObj_heap_other (by omega)) 0]
      exact World.cell?_setCell_same' _ _ _ (by rw [cl]; rfl)
    · have e : (backL n n).foldl (fun s x => wStep G s (ordK G.n (inE G) x)) (fun _ => 0) = weightsF G := by
        rw [HND.out]; exact weights_fold hA.out G.n
      have h9 := HO9.out.block (hWf gl (by omega) (by omega))
      rw [e] at h9
      rw [← HND.out]
      exact h9
    · exact ((HX2.out.trans (HB9.out.below (by omega) h6)).setCell (p := ⟨lb, 0, none⟩) (by show w.heap.size ≤ lb; omega) _).grown (grownBy_putObj' _ D _) (by rw [World.size_setCell]; exact Nat.le_trans h6 (by have := HB9.out.size; omega)) (fun k e => by cases e; exact Nat.le_trans h6 (by omega))
  case body =>
    rintro l pre x W ⟨hO, hB⟩ hlen
    have hi0 : ordK G.n (inE G) x < n := by
      have := ordK_in (G := G) (by have := HND.out; omega) x
      have := HND.out
      omega
    have hok := okW.all okW.zero G (ordK G.n (inE G)) pre
    have HSN : Hid (∀ f0, f0 = pre.foldl (fun s x => wStep G s (ordK G.n (inE G) x)) (fun _ => 0) → wStep G f0 (ordK G.n (inE G) x) = (pre ++ [x]).foldl (fun s x => wStep G s (ordK G.n (inE G) x)) (fun _ => 0)) := Lib.hid fun f0 e => by rw [List.foldl_append, ← e]; rfl
    obtain ⟨f, hf⟩ : ∃ f, f = pre.foldl (fun s x => wStep G s (ordK G.n (inE G) x)) (fun _ => 0) := ⟨_, rfl⟩
    have HSN2 := Lib.hid (HSN.out f hf)
    rw [← hf] at hO hok
    clear hf HSN
    generalize ordK G.n (inE G) x = i at *
    have hl : W.heap[lb]? = some (.cells #[.slice (some ⟨gl, 0, none⟩) n n] 30 (0, 0)) := (hB.block lb (by omega) (by omega)).trans HRL2.out
    have hg := (hB.block gb (by omega) (by omega)).trans HGB2.out
    have cl : W.cell? ⟨lb, 0, none⟩ = some (.slice (some ⟨gl, 0, none⟩) n n) := by rw [cell_of_row _ _ 0 _ _ (0, 0) hl]; rfl
    have ci := hO.cell hi0
    have fr : ∀ k, W.frozen? ⟨gl, k, none⟩ = false := fun k => hO.free k
    -- behind the first store
    have hO1 := hO.set i 1
    have hB1 := hB.set i (.int .i64 1)
    have hb1 : ∀ k, k ≠ gl → (W.setCell ⟨gl, i, none⟩ (.int .i64 1)).heap[k]? = W.heap[k]? := fun k hk => Below.heap_setCell _ ⟨gl, i, none⟩ _ _ hk
    have cg : (W.setCell ⟨gl, i, none⟩ (.int .i64 1)).cell? ⟨gb, 0, none⟩ = some (.slice (some ⟨gO, 0, none⟩) n n) := by
      rw [cell_of_same (hb1 gb (by omega)), cell_of_row _ _ 0 _ _ (0, 0) hg, HND.out]; rfl
    obtain ⟨g', o', e', hgO, hrows⟩ := HO2.out (by have := HND.out; omega)
    injection e' with e'
    injection e' with e1 e2
    subst e1 e2
    obtain ⟨A2, c2, y0, _, hli⟩ := hrows i (by have := HND.out; omega)
    have y1 : (W.setCell ⟨gl, i, none⟩ (.int .i64 1)).cell? ⟨gO, i, none⟩ = some (.slice A2 (outN G i).length c2) := by
      rw [cell_of_same (hb1 gO (by omega)), hB.cell (by omega) (by omega)]
      rw [Nat.zero_add] at y0
      exact y0
    have HLI := Lib.hid hli
    obtain ⟨nO, hnO⟩ : ∃ nO, nO = (outN G i).length := ⟨_, rfl⟩
    have hnl : nO ≤ 4100 := by rw [hnO]; exact (rows_few hF.out i).2
    have HNO := Lib.hid hnO
    rw [← hnO] at y1
    have HK1 : KeepsFrom (gl + 2) W (W.setCell ⟨gl, i, none⟩ (.int .i64 1)) := (KeepsOthers.setCell _ _ _).from _
    have HBB : Bow (gl + 2) gl W (W.setCell ⟨gl, i, none⟩ (.int .i64 1)) := (Bow.refl _ _ _).set i _
    have S1 : Hid (OAt (W.setCell ⟨gl, i, none⟩ (.int .i64 1)) gl n (((outN G i).take 0).foldl (wOne i) (fup f i 1)) ∧ Bow (gl + 2) gl W (W.setCell ⟨gl, i, none⟩ (.int .i64 1)) ∧ KeepsFrom (gl + 2) W (W.setCell ⟨gl, i, none⟩ (.int .i64 1))) := Lib.hid ⟨hO1, HBB, HK1⟩
    have HBW := Lib.hid hB
    have HOK : Hid (okW (fup f i 1)) := Lib.hid (hok.set i (by omega) (by omega))
    have HHL := Lib.hid hl
    clear hO hB hO1 hB1 hb1 hl hg hrows y0 hli hnO HK1 HBB hok
    gi_wp2
    gi_loopw [35] (fun jv wr => ∃ j : Nat, j ≤ nO ∧ jv = .int .i64 j ∧ Hid (OAt wr gl n (((outN G i).take j).foldl (wOne i) (fup f i 1)) ∧ Bow (gl + 2) gl W wr ∧ KeepsFrom (gl + 2) W wr)) (fun jv _ => nO - (intOf jv).toNat)
    case atStart => exact ⟨0, Nat.zero_le _, rfl, S1⟩
    case round =>
      clear S1 cg y1 ci cl fr
      obtain ⟨j, hj, rfl, hr⟩ := hrel
      by_cases hjt : j < nO
      · have hjL : j < (outN G i).length := by have := HNO.out; omega
        obtain ⟨ga, oa, rfl, hga, hxx⟩ := HLI.out (by rw [ofN_len]; omega)
        obtain ⟨hO, hB, hK⟩ := hr.out
        have hton : (outN G i)[j] < n := by rw [HND.out]; exact (mem_outN.1 (List.getElem_mem hjL)).2.1
        have x0 : wr.cell? ⟨ga, oa + j, none⟩ = some (.int .i64 ((outN G i)[j] : Nat)) := by
          rw [hB.cell (by omega) (by omega), HBW.out.cell (by omega) (by omega), hxx j (by rw [ofN_len]; exact hjL)]
          simp [ofNs]
        have cl : wr.cell? ⟨lb, 0, none⟩ = some (.slice (some ⟨gl, 0, none⟩) n n) := by
          rw [hB.cell (by omega) (by omega), cell_of_row _ _ 0 _ _ (0, 0) HHL.out]; rfl
        have fr : ∀ k, wr.frozen? ⟨gl, k, none⟩ = false := fun k => hO.free k
        have e2 : ((outN G i).take (j + 1)).foldl (wOne i) (fup f i 1) = wOne i (((outN G i).take j).foldl (wOne i) (fup f i 1)) (outN G i)[j] := by
          rw [List.take_add_one, List.getElem?_eq_getElem hjL, Option.toList, List.foldl_append]; rfl
        have hokj := HOK.out.fold i ((outN G i).take j)
        generalize ((outN G i).take j).foldl (wOne i) (fup f i 1) = fj at *
        generalize (outN G i)[j] = to at *
        have ci := hO.cell hi0
        have ct := hO.cell hton
        obtain ⟨b1, b2⟩ := hokj i
        obtain ⟨b3, b4⟩ := hokj to
        have HR : Hid (∀ y, y = min (fj i + fj to) 1000000000 → OAt (wr.drew.setCell ⟨gl, i, none⟩ (.int .i64 y)) gl n (((outN G i).take (j + 1)).foldl (wOne i) (fup f i 1)) ∧ Bow (gl + 2) gl W (wr.drew.setCell ⟨gl, i, none⟩ (.int .i64 y)) ∧ KeepsFrom (gl + 2) W (wr.drew.setCell ⟨gl, i, none⟩ (.int .i64 y))) := Lib.hid fun y ey => by
          subst ey
          rw [e2]
          exact ⟨OAt.set (w := wr.drew) hO i _, Bow.set (w' := wr.drew) ⟨hB.os, hB.tape, hB.output, hB.size, hB.block⟩ i _, hK.trans (((KeepsOthers.drew _).trans (KeepsOthers.setCell _ _ _)).from _)⟩
        generalize fj i = vi at *
        generalize fj to = vt at *
        clear hr hO hB hK e2 hokj hxx
        gi_wp2
        have ci2 : wr.drew.cell? ⟨gl, i, none⟩ = some (.int .i64 vi) := ci
        have ct2 : wr.drew.cell? ⟨gl, to, none⟩ = some (.int .i64 vt) := ct
        have fr2 : wr.drew.frozen? ⟨gl, i, none⟩ = false := fr i
        have hwr : IntKind.i64.wrap (vi + vt) = vi + vt := by rw [IntKind.wrap_i64]; omega
        have HR2 := Lib.hid (HR.out _ rfl)
        have HS0 : Hid (wr.drew.cell? ⟨lb, 0, none⟩ = some (.slice (some ⟨gl, 0, none⟩) n n)) := Lib.hid cl
        have HS9 : Hid ((wr.drew.setCell ⟨gl, i, none⟩ (.int .i64 (min (vi + vt) 1000000000))).cell? ⟨lb, 0, none⟩ = some (.slice (some ⟨gl, 0, none⟩) n n)) := Lib.hid ((cell_of_same (Below.heap_setCell _ ⟨gl, i, none⟩ _ _ (show lb ≠ gl by omega)) 0).trans cl)
        clear HR ci ct cl x0 fr
        refine region_round (S := fun W => W.cell? ⟨lb, 0, none⟩ = some (.slice (some ⟨gl, 0, none⟩) n n)) (by kernel_rfl) (by kernel_rfl) (fun ⟨_, _, h⟩ => h) HS0.out (fun _ => ?_)
        refine takeG (i := 0) (some 39) (.slice (some ⟨gl, 0, none⟩) n n) rfl rfl (by kernel_rfl) (by kernel_rfl) (by kernel_rfl) (fun _ _ _ h => h) HS0.out (by kernel_rfl) (fun W hW => by go_simp) ?_
        simp only [Act.put, List.setIfInBounds_toArray, List.set_cons_zero, List.set_cons_succ]
        refine takeG (i := 1) (some 40) (.int .i64 (i : Int)) rfl rfl (by kernel_rfl) (by kernel_rfl) (by kernel_rfl) (fun _ _ _ h => h) HS0.out (by kernel_rfl) (fun W hW => by go_simp) ?_
        simp only [Act.put, List.setIfInBounds_toArray, List.set_cons_zero, List.set_cons_succ]
        refine takeG (i := 2) (some 41) (.slice (some ⟨gl, 0, none⟩) n n) rfl rfl (by kernel_rfl) (by kernel_rfl) (by kernel_rfl) (fun _ _ _ h => h) HS0.out (by kernel_rfl) (fun W hW => by go_simp) ?_
        simp only [Act.put, List.setIfInBounds_toArray, List.set_cons_zero, List.set_cons_succ]
        refine takeG (i := 3) (some 42) (.int .i64 (i : Int)) rfl rfl (by kernel_rfl) (by kernel_rfl) (by kernel_rfl) (fun _ _ _ h => h) HS0.out (by kernel_rfl) (fun W hW => by go_simp) ?_
        simp only [Act.put, List.setIfInBounds_toArray, List.set_cons_zero, List.set_cons_succ]
        refine takeG (i := 4) (some 43) (.pointer (some ⟨gl, i, none⟩)) rfl rfl (by kernel_rfl) (by kernel_rfl) (by kernel_rfl) (fun _ _ _ h => h) HS0.out (by kernel_rfl) (fun W hW => by go_simp) ?_
        simp only [Act.put, List.setIfInBounds_toArray, List.set_cons_zero, List.set_cons_succ]
        refine takeG (i := 6) (some 45) (.slice (some ⟨gl, 0, none⟩) n n) rfl rfl (by kernel_rfl) (by kernel_rfl) (by kernel_rfl) (fun _ _ _ h => h) HS0.out (by kernel_rfl) (fun W hW => by go_simp) ?_
        simp only [Act.put, List.setIfInBounds_toArray, List.set_cons_zero, List.set_cons_succ]
        refine takeG (i := 7) (some 46) (.int .i64 (to : Int)) rfl rfl (by kernel_rfl) (by kernel_rfl) (by kernel_rfl) (fun _ _ _ h => h) HS0.out (by kernel_rfl) (fun W hW => by go_simp) ?_
        simp only [Act.put, List.setIfInBounds_toArray, List.set_cons_zero, List.set_cons_succ]
        refine takeG (i := 8) (some 47) (.pointer (some ⟨gl, to, none⟩)) rfl rfl (by kernel_rfl) (by kernel_rfl) (by kernel_rfl) (fun _ _ _ h => h) HS0.out (by kernel_rfl) (fun W hW => by go_simp) ?_
        simp only [Act.put, List.setIfInBounds_toArray, List.set_cons_zero, List.set_cons_succ]
        refine wpAnyH_ready (rs := [5, 9]) (by kernel_rfl) (by simp) (AllReadyH.cons rfl (fun K1 hK1 => ?_) (AllReadyH.cons rfl (fun K2 hK2 => ?_) AllReadyH.nil))
        · refine branchG (some 44) (.int .i64 vi) wr.drew rfl (by kernel_rfl) (by go_simp) ?_
          refine hK1.out _ _ HS0.out (fun _ => ?_)
          simp only [Act.put, List.setIfInBounds_toArray, List.set_cons_zero, List.set_cons_succ]
          refine wpAnyH_ready (rs := [9]) (by kernel_rfl) (by simp) (AllReadyH.cons rfl (fun K2 hK2 => ?_) AllReadyH.nil)
          refine branchG (some 48) (.int .i64 vt) wr.drew rfl (by kernel_rfl) (by go_simp) ?_
          refine hK2.out _ _ HS0.out (fun _ => ?_)
          simp only [Act.put, List.setIfInBounds_toArray, List.set_cons_zero, List.set_cons_succ]
          refine takeG (i := 10) (some 49) (.int .i64 (vi + vt)) rfl rfl (by kernel_rfl) (by kernel_rfl) (by kernel_rfl) (fun _ _ _ h => h) HS0.out (by kernel_rfl) (fun W hW => by go_simp) ?_
          simp only [Act.put, List.setIfInBounds_toArray, List.set_cons_zero, List.set_cons_succ]
          refine takeG (i := 11) (some 50) (.int .i64 (min (vi + vt) 1000000000)) rfl rfl (by kernel_rfl) (by kernel_rfl) (by kernel_rfl) (fun _ _ _ h => h) HS0.out (by kernel_rfl) (fun W hW => by go_simp) ?_
          simp only [Act.put, List.setIfInBounds_toArray, List.set_cons_zero, List.set_cons_succ]
          refine takeG (i := 12) (some 51) (.pointer (some ⟨gl, i, none⟩)) rfl rfl (by kernel_rfl) (by kernel_rfl) (by kernel_rfl) (fun _ _ _ h => h) HS0.out (by kernel_rfl) (fun W hW => by go_simp) ?_
          simp only [Act.put, List.setIfInBounds_toArray, List.set_cons_zero, List.set_cons_succ]
          refine wpAnyH_ready (rs := [13]) (by kernel_rfl) (by simp) (AllReadyH.cons rfl (fun K3 hK3 => ?_) AllReadyH.nil)
          refine branchS (wr.drew.setCell ⟨gl, i, none⟩ (.int .i64 (min (vi + vt) 1000000000))) rfl (by kernel_rfl) (by go_simp) ?_
          refine hK3.out _ _ HS9.out (fun _ => ?_)
          refine wpAnyH_done (by kernel_rfl) ?_ _
          simp only [Act.put]
          generalize wr.drew.setCell ⟨gl, i, none⟩ (.int .i64 (min (vi + vt) 1000000000)) = wq at *
          gi_wp2
          go_roundw
          case rel => exact ⟨j + 1, by omega, by go_num, HR2⟩
          case measure => simp [intOf]; omega
        · refine branchG (some 48) (.int .i64 vt) wr.drew rfl (by kernel_rfl) (by go_simp) ?_
          refine hK2.out _ _ HS0.out (fun _ => ?_)
          simp only [Act.put, List.setIfInBounds_toArray, List.set_cons_zero, List.set_cons_succ]
          refine wpAnyH_ready (rs := [5]) (by kernel_rfl) (by simp) (AllReadyH.cons rfl (fun K1 hK1 => ?_) AllReadyH.nil)
          refine branchG (some 44) (.int .i64 vi) wr.drew rfl (by kernel_rfl) (by go_simp) ?_
          refine hK1.out _ _ HS0.out (fun _ => ?_)
          simp only [Act.put, List.setIfInBounds_toArray, List.set_cons_zero, List.set_cons_succ]
          refine takeG (i := 10) (some 49) (.int .i64 (vi + vt)) rfl rfl (by kernel_rfl) (by kernel_rfl) (by kernel_rfl) (fun _ _ _ h => h) HS0.out (by kernel_rfl) (fun W hW => by go_simp) ?_
          simp only [Act.put, List.setIfInBounds_toArray, List.set_cons_zero, List.set_cons_succ]
          refine takeG (i := 11) (some 50) (.int .i64 (min (vi + vt) 1000000000)) rfl rfl (by kernel_rfl) (by kernel_rfl) (by kernel_rfl) (fun _ _ _ h => h) HS0.out (by kernel_rfl) (fun W hW => by go_simp) ?_
          simp only [Act.put, List.setIfInBounds_toArray, List.set_cons_zero, List.set_cons_succ]
          refine takeG (i := 12) (some 51) (.pointer (some ⟨gl, i, none⟩)) rfl rfl (by kernel_rfl) (by kernel_rfl) (by kernel_rfl) (fun _ _ _ h => h) HS0.out (by kernel_rfl) (fun W hW => by go_simp) ?_
          simp only [Act.put, List.setIfInBounds_toArray, List.set_cons_zero, List.set_cons_succ]
          refine wpAnyH_ready (rs := [13]) (by kernel_rfl) (by simp) (AllReadyH.cons rfl (fun K3 hK3 => ?_) AllReadyH.nil)
          refine branchS (wr.drew.setCell ⟨gl, i, none⟩ (.int .i64 (min (vi + vt) 1000000000))) rfl (by kernel_rfl) (by go_simp) ?_
          refine hK3.out _ _ HS9.out (fun _ => ?_)
          refine wpAnyH_done (by kernel_rfl) ?_ _
          simp only [Act.put]
          generalize wr.drew.setCell ⟨gl, i, none⟩ (.int .i64 (min (vi + vt) 1000000000)) = wq at *
          gi_wp2
          go_roundw
          case rel => exact ⟨j + 1, by omega, by go_num, HR2⟩
          case measure => simp [intOf]; omega
      · obtain rfl : nO = j := by omega
        have HR : Hid (KeepsFrom (gl + 2) W wr ∧ KpB gs (gl + 1) W wr ∧ OAt wr gl n ((pre ++ [x]).foldl (fun s x => wStep G s (ordK G.n (inE G) x)) (fun _ => 0)) ∧ Bow (gl + 2) gl W2 wr) := Lib.hid (by
          obtain ⟨hO, hB, hK⟩ := hr.out
          rw [HNO.out, List.take_length] at hO
          have e := HSN2.out
          unfold wStep at e
          rw [e] at hO
          exact ⟨hK, ⟨hB.block gs (by omega) (by omega), hB.block (gl + 1) (by omega) (by omega), hB.size⟩, hO, HBW.out.trans hB⟩)
        clear hr
        gi_wp2
        exact ⟨by rw [show W2.heap.size = gl + 2 by omega]; exact HR.out.1, HR.out.2⟩
theorem LWeightsZ {mv : Array Value} {G : GT} (w : World) (h : ModelAt w w.heap.size mv G) (hf : fewB G) : Calls Try.prog 12 #[.agg mv] w (SaysT w (weightsA G) (okG G)) := by
  rcases loops_cases G with hl | ⟨_, hn⟩
  · refine (weights_yes w h hf (loops_nil.1 hl)).mono ?_
    rintro e w' ⟨g, rfl, hO, hb⟩
    unfold weightsA okG
    rw [if_pos hl, decide_eq_true hl]
    exact ⟨some ⟨g, 0, none⟩, G.n, by simp, CB.lieI hO, hb⟩
  · refine (weights_no w h hf (fun h => hn (loops_nil.2 h))).mono ?_
    rintro e w' ⟨rfl, hb⟩
    unfold weightsA okG
    rw [if_neg hn, decide_eq_false hn]
    exact ⟨none, 0, rfl, LieI.nil _ _ _, hb⟩
end Go.Proofs.Ytmbjmibjobpdgaa

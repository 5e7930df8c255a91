/-
  The landed Longest.
-/
import Derived.Test.YtmbjmibjobpdgaaM40
import Derived.Test.YtmbjmibjobpdgaaM41
namespace Go.Proofs.Ytmbjmibjobpdgaa
open Go.RowKit Go.Shelf
attribute [local go_sem] Oper.semAt_some

/-- A model's nodes, each by its cells. -/
theorem model_nodes_at {w : World} {lim : Nat} {mv : Array Value} {G : GT} (h : ModelAt w lim mv G) : ∃ N nn, mv[5]? = some (.slice N G.n nn) ∧ ∀ i, i < G.n → ∃ g o L, N = some ⟨g, o, none⟩ ∧ g < lim ∧ L.length = 29 ∧ L[27]? = some (.int .i64 (G.d i).t) ∧ w.rangeAt g (o + i * 29) L := by
  cases h with
  | mk lb A a aa B b bb V p pp S q qq N n nn vs ms ns d ha hb hp hq hn hV hvs hS hms hN hns =>
    refine ⟨N, nn, rfl, fun i hi => ?_⟩
    have hi : i < n := hi
    obtain ⟨g, o, e, hg, hx⟩ := hN (by omega)
    obtain ⟨L, _, _, _, _, _, _, _, _, _, _, _, ev, hL, _, _, _, _, h27, _⟩ := (hns i hi).list
    refine ⟨g, o, L, e, hg, hL, h27, fun j v hv => ?_⟩
    have hj : j < 29 := by have := (List.getElem?_eq_some_iff.1 hv).1; omega
    rw [hx i hi j hj, ev]
    simpa using hv
theorem run_load_node {o : Oper} {a : Act} {w : World} {b k : Nat} {cs : List Value} (x : Operand) (ho : o.op = .load 58 x) (hx : a.eval x = .pointer (some ⟨b, k, none⟩)) (hc : w.rangeAt b k cs) (hl : cs.length = 29) : (execOp a.eval o).run Try.prog w = .ok (.value (.agg cs.toArray)) w := by
  unfold execOp
  simp only [ho, hx, Instr.loadAt, Instr.sureAddr, Sem.run_bind, Sem.run_pure, Result.andThen_ok, run_loadVar_mid w b k 58 cs _ hc Try.underlying58 rfl (by rw [info58, hl])]
theorem results_ci {fn : Func} {p t : Tmp} (h : fn.results = #[.cell p 3, .tmp t]) (tmps : Array Value) (w : World) (g : Nat) (v u : Value) (hp : tmps.getD p undef = .pointer (some ⟨g, 0, none⟩)) (hc : w.cell? ⟨g, 0, none⟩ = some v) (ht : tmps.getD t undef = u) :
    (results fn tmps).run Try.prog w = .ok (.tuple #[v, u]) w := by
  have hp' : tmps[p]?.getD undef = .pointer (some ⟨g, 0, none⟩) := by simpa using hp
  have ht' : tmps[t]?.getD undef = u := by simpa using ht
  simp [results, h, hp', ht', asAddr]
  go_simp
theorem rangeAt_keep {w w' : World} {b k : Nat} {cs : List Value} (h : w.rangeAt b k cs) (hb : w'.heap[b]? = w.heap[b]?) : w'.rangeAt b k cs := fun j v hv => (cell_of_same hb _).trans (h j v hv)
theorem okL.all {b : Int} {s : (Nat → Int) × Int} (h : okL b s) (G : GT) (nd : Nat → Nat) (L : List Nat) : okL (b + 1000 * L.length) (L.foldl (fun s x => fStep G s (nd x)) s) := by
  induction L generalizing s b with
  | nil => simpa using h
  | cons a L ih =>
    have := ih (h.step G (nd a))
    rw [List.foldl_cons, List.length_cons]
    have e : b + 1000 * ((L.length + 1 : Nat) : Int) = b + 1000 + 1000 * (L.length : Int) := by omega
    rw [e]
    exact this
theorem okL.zero : okL 0 (fun _ => 0, 0) := ⟨fun _ => ⟨Int.le_refl _, Int.le_refl _⟩, Int.le_refl _, Int.le_refl _⟩
/-- Amid Longest: how far it is from each node, the most so far, and nothing else moved. -/
structure Lw (B gl lb n : Nat) (W wr : World) (f : Nat → Int) (best : Int) : Prop where
  at_ : OAt wr gl n f
  box : wr.heap[lb]? = some (.cells #[.int .i64 best] 3 (0, 0))
  bu : Bu B gl lb W wr
theorem Lw.set {B gl lb n : Nat} {W wr : World} {f : Nat → Int} {best : Int} (h : Lw B gl lb n W wr f best) (hne : lb ≠ gl) (i : Nat) (x : Int) : Lw B gl lb n W (wr.setCell ⟨gl, i, none⟩ (.int .i64 x)) (fup f i x) best :=
  ⟨h.at_.set i x, (Below.heap_setCell _ ⟨gl, i, none⟩ _ _ hne).trans h.box, h.bu.set1 i _⟩
theorem Lw.setB {B gl lb n : Nat} {W wr : World} {f : Nat → Int} {best : Int} (h : Lw B gl lb n W wr f best) (hne : lb ≠ gl) (x : Int) : Lw B gl lb n W (wr.setCell ⟨lb, 0, none⟩ (.int .i64 x)) f x :=
  ⟨CB.block h.at_ (Below.heap_setCell _ ⟨lb, 0, none⟩ _ _ (Ne.symm hne)), heap_set h.box 0 _, h.bu.set2 0 _⟩
theorem Lw.same {B gl lb n : Nat} {W wr wr' : World} {f : Nat → Int} {best : Int} (h : Lw B gl lb n W wr f best) (hs : Sm wr wr') : Lw B gl lb n W wr' f best :=
  ⟨CB.block h.at_ (by rw [hs.heap]), by rw [hs.heap]; exact h.box, h.bu.trans ⟨hs.os, hs.tape, hs.output, by rw [hs.heap]; exact Nat.le_refl _, fun k _ _ _ => by rw [hs.heap]⟩⟩
theorem Lw.alloc {B gl lb n : Nat} {W wr : World} {f : Nat → Int} {best : Int} (h : Lw B gl lb n W wr f best) (hB : B ≤ wr.heap.size) (o : Obj) : Lw B gl lb n W (wr.alloc o) f best := by
  have hb : Below wr.heap.size wr (wr.alloc o) := (Below.refl _ _).alloc (Nat.le_refl _) _
  exact ⟨h.at_.keep hb, (hb.block lb (row_lt h.box)).trans h.box, h.bu.step hb hB⟩
set_option maxRecDepth 20000 in
set_option maxHeartbeats 4000000 in
theorem longest_no {mv : Array Value} {G : GT} (w : World) (h : ModelAt w w.heap.size mv G) (hf : fewB G) (ha : ¬ Acyc G) : Calls Try.prog 14 #[.agg mv] w fun e w' => e = .returned (.tuple #[.int .i64 0, .bool false]) ∧ Below w.heap.size w w' := by
  obtain ⟨ml, W1, hmv, hW1, hM, hX, hbx, hb2, hs1⟩ := model_boxed2 h (.cells #[.int .i64 0] 3)
  have hM := Lib.hid hM
  have hX := Lib.hid hX
  have hbx := Lib.hid hbx
  have hb2 := Lib.hid hb2
  have hF := Lib.hid hf
  have hA := Lib.hid ha
  clear h hf ha
  generalize ml 0 = m0 at *
  generalize ml 1 = m1 at *
  generalize ml 2 = m2 at *
  generalize ml 3 = m3 at *
  generalize ml 4 = m4 at *
  generalize ml 5 = m5 at *
  subst hmv
  go_enter Try.func14, Try.ntmps14
  go_wp2_with fail
  rw [← hW1]
  clear hW1
  go_wp2_with (first
    | (refine wpList_load_row rfl 27 _ rfl w.heap.size rfl 27 #[m0, m1, m2, m3, m4, m5] (0, 0) _ hbx.out Try.underlying27 rfl (by kernel_rfl) ?_)
    | (go_at_call 28; refine (graphOf_any _ hM.out hF.out).mono ?_; rintro e w5 ⟨gO, gI, rfl, _, _, _, _, hO, hI, hb5, _⟩; have hb6 : Below w5.heap.size w5 (w5.alloc (.cells #[.slice (some ⟨gO, 0, none⟩) G.n G.n, .slice (some ⟨gI, 0, none⟩) G.n G.n] 71)) := (Below.refl _ _).alloc (Nat.le_refl _) _; have HO := Lib.hid (hO.keep hb6); have HI := Lib.hid (hI.keep hb6); have HB6 := Lib.hid hb6.size; have HX6 := Lib.hid (hb5.trans (hb6.mono hb5.size)); clear hO hI hb5 hb6)
    | (go_at_call 29; refine (order_no hF.out hA.out HO.out HI.out HB6.out).mono ?_; rintro e w7 ⟨rfl, hb7⟩; have r7 := (hb7.block (w.heap.size + 1) (by have := HX6.out.size; omega)).trans ((HX6.out.block (w.heap.size + 1) (by omega)).trans hb2.out); have c2 : w7.cell? ⟨w.heap.size + 1, 0, none⟩ = some (.int .i64 0) := (by rw [cell_of_row _ _ 0 _ _ (0, 0) r7]; rfl); have f2 : w7.frozen? ⟨w.heap.size + 1, 0, none⟩ = false := (by simp [World.frozen?, r7]); have HX7 := Lib.hid (HX6.out.trans (hb7.mono HX6.out.size)); clear hb7 r7)
    | fail)
  refine bodyPost_ret (results_ci rfl _ _ (w.heap.size + 1) (.int .i64 0) (.bool false) rfl (World.cell?_setCell_same' _ _ _ (by rw [c2]; rfl)) rfl) rfl ⟨rfl, ?_⟩
  exact (hX.out.trans (HX7.out.mono hX.out.size)).setCell (p := ⟨w.heap.size + 1, 0, none⟩) (Nat.le_succ _) _
set_option maxRecDepth 20000 in
set_option maxHeartbeats 4000000 in
theorem longest_yes {mv : Array Value} {G : GT} (w : World) (h : ModelAt w w.heap.size mv G) (hf : fewB G) (ha : Acyc G) : Calls Try.prog 14 #[.agg mv] w fun e w' => e = .returned (.tuple #[.int .i64 (longestI G), .bool true]) ∧ Below w.heap.size w w' := by
  obtain ⟨ml, W1, hmv, hW1, hM, hX, hbx, hb2, hs1⟩ := model_boxed2 h (.cells #[.int .i64 0] 3)
  obtain ⟨N, nn, hm5, hnodes⟩ := model_nodes_at h
  have hM := Lib.hid hM
  have hX := Lib.hid hX
  have hbx := Lib.hid hbx
  have hb2 := Lib.hid hb2
  have hF := Lib.hid hf
  have hA := Lib.hid ha
  have hn1 : G.n ≤ 100 := hf.1
  clear h hf ha
  generalize ml 0 = m0 at *
  generalize ml 1 = m1 at *
  generalize ml 2 = m2 at *
  generalize ml 3 = m3 at *
  generalize ml 4 = m4 at *
  generalize ml 5 = m5 at *
  subst hmv
  obtain rfl : m5 = .slice N G.n nn := by simpa using hm5
  have HNO := Lib.hid hnodes
  clear hm5 hnodes
  have hmk : ∀ w : World, (Instr.makeSlice 30 (.int .i64 (G.n : Int)) (.int .i64 (G.n : Int))).run Try.prog w = .ok (.slice (some ⟨w.heap.size, 0, none⟩) G.n G.n) (w.alloc (.cells (madeCells #[.int .i64 0] G.n) 3)) := run_mk Try.underlying30 info3' G.n (by omega) (by omega)
  refine (callsIn_wide (n := 4)).1 ?_
  refine callsIn_of_wp_marks Try.func14 rfl trivial ?_ rfl
  simp only [Try.ntmps14, List.size_toArray, List.length_cons, List.length_nil, Nat.reduceAdd, Nat.reduceSub, Array.replicate_succ, Array.replicate_zero, List.push_toArray, List.append_toArray, List.nil_append, List.cons_append]
  refine wpIn_wide.2 ?_
  go_wp2_with fail
  rw [← hW1]
  clear hW1
  go_wp2_with (first
    | (refine wpList_load_row rfl 27 _ rfl w.heap.size rfl 27 #[m0, m1, m2, m3, m4, .slice N G.n nn] (0, 0) _ hbx.out Try.underlying27 rfl (by kernel_rfl) ?_)
    | (go_at_call 28; refine (graphOf_any _ hM.out hF.out).mono ?_; rintro e w5 ⟨gO, gI, rfl, hgO1, _, hgO2, _, hO, hI, hb5, hfr⟩; have HFR := Lib.hid hfr; have hb6 : Below w5.heap.size w5 (w5.alloc (.cells #[.slice (some ⟨gO, 0, none⟩) G.n G.n, .slice (some ⟨gI, 0, none⟩) G.n G.n] 71)) := (Below.refl _ _).alloc (Nat.le_refl _) _; have HO := Lib.hid (hO.keep hb6); have HI := Lib.hid (hI.keep hb6); have HB6 := Lib.hid hb6.size; have HG6 := Lib.hid (heap_alloc_new w5 (.cells #[.slice (some ⟨gO, 0, none⟩) G.n G.n, .slice (some ⟨gI, 0, none⟩) G.n G.n] 71)); have HX6 := Lib.hid (hb5.trans (hb6.mono hb5.size)); clear hO hI hb5 hb6 hfr)
    | (go_at_call 29; refine (order_yes hF.out hA.out HO.out HI.out HB6.out).mono ?_; rintro e w7 ⟨AL, cL, rfl, ho7, hb7⟩; have r7 := (hb7.block (w.heap.size + 1) (by have := HX6.out.size; omega)).trans ((HX6.out.block (w.heap.size + 1) (by omega)).trans hb2.out); have HX7 := Lib.hid (HX6.out.trans (hb7.mono HX6.out.size)); have HO7 := Lib.hid ho7; have HB7 := Lib.hid hb7; have hl7 : w.heap.size + 1 < w7.heap.size := row_lt r7; have HR7 := Lib.hid r7; clear hb7 r7 ho7)
    | (go_at_call 31; refine (callsIn_wide (n := 3)).1 ?_; refine (back_in Fence.wide 3 trivial rfl _ _ _ _).mono ?_; rintro e w8 ⟨rfl, rfl⟩)
    | fail)
  obtain ⟨gl, hgl⟩ : ∃ gl, gl = w7.heap.size := ⟨_, rfl⟩
  obtain ⟨lb, hlb⟩ : ∃ lb, lb = w.heap.size + 1 := ⟨_, rfl⟩
  obtain ⟨mb, hmb⟩ : ∃ mb, mb = w.heap.size := ⟨_, rfl⟩
  obtain ⟨gb, hgb⟩ : ∃ gb, gb = w5.heap.size := ⟨_, rfl⟩
  obtain ⟨n, hnd⟩ : ∃ n, n = G.n := ⟨_, rfl⟩
  have hW1s := HX6.out.size
  have hs6 : (w5.alloc (.cells #[.slice (some ⟨gO, 0, none⟩) G.n G.n, .slice (some ⟨gI, 0, none⟩) G.n G.n] 71)).heap.size = w5.heap.size + 1 := by simp
  have hs7 := HB7.out.size
  rw [hs6] at hs7 hW1s
  have r7 := HR7.out
  rw [← hlb] at r7
  have hgb7 : w7.heap[gb]? = some (.cells #[.slice (some ⟨gO, 0, none⟩) G.n G.n, .slice (some ⟨gI, 0, none⟩) G.n G.n] 71 (0, 0)) := by
    rw [hgb]; exact (HB7.out.block _ (by rw [hs6]; omega)).trans HG6.out
  have hO7 := HO.out.keep (HB7.out.mono (by rw [hs6]; omega))
  have hfr7 : ∀ t, t < G.n → ∀ g o m c, w7.cell? ⟨gO, t, none⟩ = some (.slice (some ⟨g, o, none⟩) m c) → lb + 1 ≤ g := fun t ht g o m c e => by
    have e2 := (HB7.out.cell (p := ⟨gO, t, none⟩) (show gO < _ by rw [hs6]; omega))
    have e3 := (Below.refl w5.heap.size w5).alloc (Nat.le_refl _) (.cells #[.slice (some ⟨gO, 0, none⟩) G.n G.n, .slice (some ⟨gI, 0, none⟩) G.n G.n] 71)
    have e4 := e3.cell (p := ⟨gO, t, none⟩) (show gO < _ by omega)
    have := HFR.out t ht g o m c ((e4.symm.trans e2.symm).trans e)
    omega
  obtain ⟨gs, hgs1, hgs2, hAL, hgn, hgs3⟩ := HO7.out.place (lb := w.heap.size) (by omega)
  rw [hs6] at hgs2
  rw [← hgl, ← hlb, ← hgb, ← hnd, ← hmb]
  obtain ⟨W2, hW2⟩ : ∃ W2, W2 = ((w7.alloc (.cells (madeCells #[.int .i64 0] n) 3)).alloc (.cells #[.slice (some ⟨gl, 0, none⟩) n n] 30)).alloc (.cells #[.slice AL n cL] 30) := ⟨_, rfl⟩
  obtain ⟨⟨x1, x2, x3⟩, b2⟩ := threeA w7 (.cells (madeCells #[.int .i64 0] n) 3) (.cells #[.slice (some ⟨gl, 0, none⟩) n n] 30) (.cells #[.slice AL n cL] 30)
  rw [← hW2] at x1 x2 x3 b2
  rw [← hgl] at x1 x2 x3
  have s2 : W2.heap.size = gl + 3 := by rw [hW2, hgl]; simp
  have rl2 : W2.heap[lb]? = some (.cells #[.int .i64 0] 3 (0, 0)) := (b2.block lb (row_lt r7)).trans r7
  have rz2 : OAt W2 gl n (fun _ => 0) := by
    refine ⟨_, x1, by rw [size_madeCells]; exact Nat.le_refl _, fun i hi => ?_⟩
    have hlt : i < (madeCells #[Value.int .i64 0] n).size := by rw [size_madeCells]; exact hi
    rw [Array.getElem?_eq_getElem hlt]
    simp [madeCells, Nat.mod_one]
  have hX2 : Below w.heap.size w W2 := (hX.out.trans (HX7.out.mono (by omega))).trans (b2.mono (by omega))
  have hgb2 : W2.heap[gb]? = some (.cells #[.slice (some ⟨gO, 0, none⟩) n G.n, .slice (some ⟨gI, 0, none⟩) G.n G.n] 71 (0, 0)) := by rw [hnd]; exact (b2.block gb (by omega)).trans hgb7
  have hmb2 : W2.heap[mb]? = some (.cells #[m0, m1, m2, m3, m4, .slice N G.n nn] 27 (0, 0)) := by
    rw [b2.block mb (by omega), HX7.out.block mb (by omega), hmb]; exact hbx.out
  have HO2 := Lib.hid (hO7.keep (b2.mono (by omega)))
  have HFR2 : Hid (∀ t, t < n → ∀ g o m c, W2.cell? ⟨gO, t, none⟩ = some (.slice (some ⟨g, o, none⟩) m c) → lb + 1 ≤ g) := Lib.hid fun t ht g o m c e => hfr7 t (by omega) g o m c ((b2.cell (p := ⟨gO, t, none⟩) (show gO < _ by omega)).symm.trans e)
  have hord : ∀ j, j < n → W2.cell? ⟨gs, 0 + j, none⟩ = some (.int .i64 (ordK G.n (inE G) j : Int)) := fun j hj => by
    rw [cell_of_same (b2.block gs hgs1), hgs3 j (by rw [← ordI_eq, ordI_len, ← hnd]; exact hj)]
    simp [orderL, ordL]
  have HNO2 : Hid (∀ i, i < n → ∃ g o L, N = some ⟨g, o, none⟩ ∧ g < mb ∧ L.length = 29 ∧ L[27]? = some (.int .i64 (G.d i).t) ∧ W2.rangeAt g (o + i * 29) L) := Lib.hid fun i hi => by
    obtain ⟨g, o, L, e, hg, hL, h27, hr⟩ := HNO.out i (by omega)
    exact ⟨g, o, L, e, by omega, hL, h27, rangeAt_keep hr (hX2.block g hg)⟩
  rw [← hW2]
  rw [← hnd] at hAL
  have HAL := Lib.hid hAL
  have HORD := Lib.hid hord
  have HX2 := Lib.hid hX2
  have HGB2 := Lib.hid hgb2
  have HMB2 := Lib.hid hmb2
  have HRL2 := Lib.hid rl2
  have HRW2 := Lib.hid x2
  have HRB2 := Lib.hid x3
  have HRZ2 := Lib.hid rz2
  have HND := Lib.hid hnd
  have h1 : gO ≠ lb := by omega
  have h2 : lb < gl := by omega
  have h3 : gO < gl := by omega
  have h4 : gb < gl := by omega
  have h4b : gb ≠ lb := by omega
  have h5 : gs < gl := by omega
  have h5b : gs ≠ lb := by omega
  have h6 : w.heap.size ≤ gl := by omega
  have h7 : w5.heap.size ≤ gl := by omega
  have h8 : w.heap.size ≤ lb := by omega
  have h9 : mb < lb := by omega
  have hnn : n ≤ 100 := by omega
  clear hgn hnd hW2 b2 x1 x2 x3 rl2 rz2 hX2 hgb2 hmb2 hord hAL hgs1 hgs2 hgs3 hgb7 hO7 hfr7 r7 hs7 hW1s hs6 hgl hlb hgb hmb HB7 HO7 HR7 HX7 HX6 HG6 HB6 HO HI HFR HNO hX hb2 hbx hM hl7 hmk
  have hI : OwnFrom W2.heap.size (fun (pre : List Nat) W => Lw (gl + 3) gl lb n W2 W (pre.foldl (fun s x => fStep G s (ordK G.n (inE G) x)) (fun _ => 0, 0)).1 (pre.foldl (fun s x => fStep G s (ordK G.n (inE G) x)) (fun _ => 0, 0)).2) := by
    rintro pre A B row hL hg hr
    have hne : ∀ k, k < gl + 3 → some k ≠ row := fun k hk e => by
      have := (hr k e.symm).1
      omega
    exact ⟨hL.at_.block (hg.block gl hL.at_.lt (hne gl (by omega))), (hg.block lb (row_lt hL.box) (hne lb (by omega))).trans hL.box, hL.bu.grown hg (by have := hL.bu.size; omega) (fun k e => by have := (hr k e).1; omega)⟩
  refine wpIn_wide.1 (wpIn_rangeFunc_ownG (F := Fence.wide) (n := 4) rfl (by omega) (gf := 63) (lb := #[.pointer (some ⟨gl + 1 + 1, 0, none⟩)]) rfl trivial (enters_of Try.func63 (by kernel_rfl) rfl)
    (back_stops Fence.wide 3 trivial rfl (by omega) (gl + 1 + 1) gs 0 n cL AL (ordK G.n (inE G)) HAL.out (by omega) W2 (by omega) (by omega) (by rw [cell_of_row _ _ 0 _ _ (0, 0) HRB2.out]; rfl) HORD.out) (fun h k => KpB.trans h k) (kpB_b (by omega) (by omega)) (Below.refl _ _) (fun _ => rfl)
    (fun (pre : List Nat) W => Lw (gl + 3) gl lb n W2 W (pre.foldl (fun s x => fStep G s (ordK G.n (inE G) x)) (fun _ => 0, 0)).1 (pre.foldl (fun s x => fStep G s (ordK G.n (inE G) x)) (fun _ => 0, 0)).2)
    (fun _ _ _ => False) hI (fun _ _ _ _ _ hs _ _ => hs) ⟨HRZ2.out, HRL2.out, Bu.refl _ _ _ _⟩
    (fun x => { tmps := #[.agg #[m0, m1, m2, m3, m4, .slice N n nn], .pointer (some ⟨mb, 0, none⟩), .pointer (some ⟨lb, 0, none⟩), .bool true, .pointer (some ⟨gb, 0, none⟩), .slice AL n cL, .pointer (some ⟨gl + 1, 0, none⟩), undef, .int .i64 (ordK G.n (inE G) x : Int), undef, undef, .agg #[m0, m1, m2, m3, m4, .slice N n nn], .agg #[.slice (some ⟨gO, 0, none⟩) n n, .slice (some ⟨gI, 0, none⟩) n n], .tuple #[.slice AL n cL, .bool true], .agg #[.slice (some ⟨gO, 0, none⟩) n n, .slice (some ⟨gI, 0, none⟩) n n], .tuple #[.slice AL n cL, .bool true], .slice AL n cL, .bool true, .bool true, .bool false, .slice AL n cL, .int .i64 (n : Int), .slice (some ⟨gl, 0, none⟩) n n, .slice AL n cL, .func (.func 63) #[] #[.pointer (some ⟨gl + 1 + 1, 0, none⟩)], .int .i64 (x : Int), .int .i64 (ordK G.n (inE G) x : Int), undef, undef, undef, undef, undef, undef, undef, undef, undef, undef, undef, undef, undef, undef, undef, undef, undef, undef, undef, undef, undef, undef, undef, undef, undef, undef, undef, undef, undef, undef, undef, undef, undef, undef, undef, undef, undef, undef, undef, undef, undef, undef], defers := [] }) ?assign ?body ?done ?stop)
  case assign =>
    intro l x W K hK
    unfold encB
    gi_wp2
    exact hK
  case stop =>
    rintro D c pre W _ _ h _
    exact h.elim
  case done =>
    rintro D ys W hD rfl hL hK
    have rl := hL.box
    have e0 : (backL n n).foldl (fun s x => fStep G s (ordK G.n (inE G) x)) (fun _ => 0, 0) = farK G.n (inE G) (waitF G) G.n := by
      rw [HND.out]; exact longest_fold G G.n
    rw [e0] at rl
    have el : (farK G.n (inE G) (waitF G) G.n).2 = longestI G := rfl
    rw [el] at rl
    have cl : W.cell? ⟨lb, 0, none⟩ = some (.int .i64 (longestI G)) := by rw [cell_of_row _ _ 0 _ _ (0, 0) rl]; rfl
    have fl : W.frozen? ⟨lb, 0, none⟩ = false := by simp [World.frozen?, rl]
    have HB9 := Lib.hid hL.bu
    have HK9 := Lib.hid ((KeepsOthers.setCell W ⟨lb, 0, none⟩ (.int .i64 (longestI G))).same D _ hK rfl)
    clear hL rl hK e0 el
    go_wp2_with fail
    refine ⟨by simp, .inl ⟨_, _, rfl, run_takeDeferred HK9.out, ?_⟩⟩
    refine ⟨_, results_ci rfl _ _ lb (.int .i64 (longestI G)) (.bool true) rfl ?_ rfl, rfl, ?_⟩
    · rw [cell_of_same (World.putObj_heap_other (by omega)) 0]
      exact World.cell?_setCell_same' _ _ _ (by rw [cl]; rfl)
    · exact ((HX2.out.trans (HB9.out.below (by omega) h6 h8)).setCell (p := ⟨lb, 0, none⟩) (by show w.heap.size ≤ lb; omega) _).grown (grownBy_putObj' _ D _) (by rw [World.size_setCell]; exact Nat.le_trans h6 (by have := HB9.out.size; omega)) (fun k e => by cases e; exact Nat.le_trans h6 (by omega))
  case body =>
    rintro l pre x W hL hlen
    have hi0 : ordK G.n (inE G) x < n := by
      have := ordK_in (G := G) (by have := HND.out; omega) x
      have := HND.out
      omega
    have hok := okL.all okL.zero G (ordK G.n (inE G)) pre
    have HSN : Hid (∀ s0, s0 = (pre.foldl (fun s x => fStep G s (ordK G.n (inE G) x)) (fun _ => 0, 0)) → fStep G s0 (ordK G.n (inE G) x) = ((pre ++ [x]).foldl (fun s x => fStep G s (ordK G.n (inE G) x)) (fun _ => 0, 0))) := Lib.hid fun s0 e => by rw [List.foldl_append, ← e]; rfl
    obtain ⟨s0, hs0⟩ : ∃ s0, s0 = (pre.foldl (fun s x => fStep G s (ordK G.n (inE G) x)) (fun _ => 0, 0)) := ⟨_, rfl⟩
    have HSN2 := Lib.hid (HSN.out s0 hs0)
    rw [← hs0] at hL hok
    clear hs0 HSN
    generalize ordK G.n (inE G) x = i at *
    have hg := (hL.bu.block gb (by omega) (by omega) (by omega)).trans HGB2.out
    have cg : W.cell? ⟨gb, 0, none⟩ = some (.slice (some ⟨gO, 0, none⟩) n n) := by
      rw [cell_of_row _ _ 0 _ _ (0, 0) hg, HND.out]; rfl
    obtain ⟨g', o', e', hgO, hrows⟩ := HO2.out (by have := HND.out; omega)
    injection e' with e'
    injection e' with e1 e2
    subst e1 e2
    obtain ⟨A2, c2, y0, _, hli⟩ := hrows i (by have := HND.out; omega)
    rw [Nat.zero_add] at y0
    have hA2 : ∀ g o, A2 = some ⟨g, o, none⟩ → lb + 1 ≤ g := fun g o e => HFR2.out i hi0 g o _ c2 (by rw [y0, e])
    have HA2 := Lib.hid hA2
    have y1 : W.cell? ⟨gO, i, none⟩ = some (.slice A2 (outN G i).length c2) := (cell_of_same (hL.bu.block gO (by omega) (by omega) (by omega)) i).trans y0
    have HLI := Lib.hid hli
    obtain ⟨nO, hnO⟩ : ∃ nO, nO = (outN G i).length := ⟨_, rfl⟩
    have hnl : nO ≤ 4100 := by rw [hnO]; exact (rows_few hF.out i).2
    have HNL := Lib.hid hnO
    rw [← hnO] at y1
    have S1 : Hid (Lw (gl + 3) gl lb n W2 W (((outN G i).take 0).foldl (fOne i) s0.1) s0.2 ∧ Bu (gl + 3) gl lb W W ∧ KeepsFrom (gl + 3) W W) := Lib.hid ⟨hL, Bu.refl _ _ _ _, KeepsFrom.refl _ _⟩
    have HOK := Lib.hid hok
    have hpl : pre.length ≤ 100 := by omega
    clear hL hg hrows y0 hli hnO hok hA2
    gi_wp2
    gi_loopw [33] (fun jv wr => ∃ j : Nat, j ≤ nO ∧ jv = .int .i64 j ∧ Hid (Lw (gl + 3) gl lb n W2 wr (((outN G i).take j).foldl (fOne i) s0.1) s0.2 ∧ Bu (gl + 3) gl lb W wr ∧ KeepsFrom (gl + 3) W wr)) (fun jv _ => nO - (intOf jv).toNat)
    case atStart => exact ⟨0, Nat.zero_le _, rfl, S1⟩
    case round =>
      clear S1 cg y1
      obtain ⟨j, hj, rfl, hr⟩ := hrel
      by_cases hjt : j < nO
      · have hjL : j < (outN G i).length := by have := HNL.out; omega
        obtain ⟨ga, oa, rfl, hga, hxx⟩ := HLI.out (by rw [ofN_len]; omega)
        have hga2 := HA2.out ga oa rfl
        obtain ⟨hL, hB, hK⟩ := hr.out
        have hton : (outN G i)[j] < n := by rw [HND.out]; exact (mem_outN.1 (List.getElem_mem hjL)).2.1
        have x0 : wr.cell? ⟨ga, oa + j, none⟩ = some (.int .i64 ((outN G i)[j] : Nat)) := by
          rw [cell_of_same (hL.bu.block ga (by omega) (by omega) (by omega)), hxx j (by rw [ofN_len]; exact hjL)]
          simp [ofNs]
        have cl : wr.cell? ⟨gl + 1, 0, none⟩ = some (.slice (some ⟨gl, 0, none⟩) n n) := by
          rw [cell_of_same (hL.bu.block (gl + 1) (by omega) (by omega) (by omega)), cell_of_row _ _ 0 _ _ (0, 0) HRW2.out]; rfl
        have fr : ∀ k, wr.frozen? ⟨gl, k, none⟩ = false := fun k => hL.at_.free k
        have e2 : ((outN G i).take (j + 1)).foldl (fOne i) s0.1 = fOne i (((outN G i).take j).foldl (fOne i) s0.1) (outN G i)[j] := by
          rw [List.take_add_one, List.getElem?_eq_getElem hjL, Option.toList, List.foldl_append]; rfl
        generalize ((outN G i).take j).foldl (fOne i) s0.1 = fj at *
        generalize (outN G i)[j] = to at *
        have ci := hL.at_.cell hi0
        have ct := hL.at_.cell hton
        have HR : Hid (∀ y, y = max (fj i) (fj to) → Lw (gl + 3) gl lb n W2 (wr.drew.setCell ⟨gl, i, none⟩ (.int .i64 y)) (((outN G i).take (j + 1)).foldl (fOne i) s0.1) s0.2 ∧ Bu (gl + 3) gl lb W (wr.drew.setCell ⟨gl, i, none⟩ (.int .i64 y)) ∧ KeepsFrom (gl + 3) W (wr.drew.setCell ⟨gl, i, none⟩ (.int .i64 y))) := Lib.hid fun y ey => by
          subst ey
          rw [e2]
          exact ⟨(hL.same (Sm.drew _)).set (by omega) i _, hB.drew.set1 i _, hK.trans (((KeepsOthers.drew _).trans (KeepsOthers.setCell _ _ _)).from _)⟩
        generalize fj i = vi at *
        generalize fj to = vt at *
        clear hr hL hB hK e2 hxx
        gi_wp2
        have ci2 : wr.drew.cell? ⟨gl, i, none⟩ = some (.int .i64 vi) := ci
        have ct2 : wr.drew.cell? ⟨gl, to, none⟩ = some (.int .i64 vt) := ct
        have fr2 : wr.drew.frozen? ⟨gl, i, none⟩ = false := fr i
        have HR2 := Lib.hid (HR.out _ rfl)
        have HS0 : Hid (wr.drew.cell? ⟨gl + 1, 0, none⟩ = some (.slice (some ⟨gl, 0, none⟩) n n)) := Lib.hid cl
        have HS9 : Hid ((wr.drew.setCell ⟨gl, i, none⟩ (.int .i64 (max vi vt))).cell? ⟨gl + 1, 0, none⟩ = some (.slice (some ⟨gl, 0, none⟩) n n)) := Lib.hid ((cell_of_same (Below.heap_setCell _ ⟨gl, i, none⟩ _ _ (show gl + 1 ≠ gl by omega)) 0).trans cl)
        clear HR ci ct cl x0 fr
        refine region_round (S := fun W => W.cell? ⟨gl + 1, 0, none⟩ = some (.slice (some ⟨gl, 0, none⟩) n n)) (by kernel_rfl) (by kernel_rfl) (fun ⟨_, _, h⟩ => h) HS0.out (fun _ => ?_)
        refine takeG (i := 0) (some 37) (.slice (some ⟨gl, 0, none⟩) n n) rfl rfl (by kernel_rfl) (by kernel_rfl) (by kernel_rfl) (fun _ _ _ h => h) HS0.out (by kernel_rfl) (fun W hW => by go_simp) ?_
        simp only [Act.put, List.setIfInBounds_toArray, List.set_cons_zero, List.set_cons_succ]
        refine takeG (i := 1) (some 38) (.int .i64 (i : Int)) rfl rfl (by kernel_rfl) (by kernel_rfl) (by kernel_rfl) (fun _ _ _ h => h) HS0.out (by kernel_rfl) (fun W hW => by go_simp) ?_
        simp only [Act.put, List.setIfInBounds_toArray, List.set_cons_zero, List.set_cons_succ]
        refine takeG (i := 2) (some 39) (.slice (some ⟨gl, 0, none⟩) n n) rfl rfl (by kernel_rfl) (by kernel_rfl) (by kernel_rfl) (fun _ _ _ h => h) HS0.out (by kernel_rfl) (fun W hW => by go_simp) ?_
        simp only [Act.put, List.setIfInBounds_toArray, List.set_cons_zero, List.set_cons_succ]
        refine takeG (i := 3) (some 40) (.int .i64 (i : Int)) rfl rfl (by kernel_rfl) (by kernel_rfl) (by kernel_rfl) (fun _ _ _ h => h) HS0.out (by kernel_rfl) (fun W hW => by go_simp) ?_
        simp only [Act.put, List.setIfInBounds_toArray, List.set_cons_zero, List.set_cons_succ]
        refine takeG (i := 4) (some 41) (.pointer (some ⟨gl, i, none⟩)) rfl rfl (by kernel_rfl) (by kernel_rfl) (by kernel_rfl) (fun _ _ _ h => h) HS0.out (by kernel_rfl) (fun W hW => by go_simp) ?_
        simp only [Act.put, List.setIfInBounds_toArray, List.set_cons_zero, List.set_cons_succ]
        refine takeG (i := 6) (some 43) (.slice (some ⟨gl, 0, none⟩) n n) rfl rfl (by kernel_rfl) (by kernel_rfl) (by kernel_rfl) (fun _ _ _ h => h) HS0.out (by kernel_rfl) (fun W hW => by go_simp) ?_
        simp only [Act.put, List.setIfInBounds_toArray, List.set_cons_zero, List.set_cons_succ]
        refine takeG (i := 7) (some 44) (.int .i64 (to : Int)) rfl rfl (by kernel_rfl) (by kernel_rfl) (by kernel_rfl) (fun _ _ _ h => h) HS0.out (by kernel_rfl) (fun W hW => by go_simp) ?_
        simp only [Act.put, List.setIfInBounds_toArray, List.set_cons_zero, List.set_cons_succ]
        refine takeG (i := 8) (some 45) (.pointer (some ⟨gl, to, none⟩)) rfl rfl (by kernel_rfl) (by kernel_rfl) (by kernel_rfl) (fun _ _ _ h => h) HS0.out (by kernel_rfl) (fun W hW => by go_simp) ?_
        simp only [Act.put, List.setIfInBounds_toArray, List.set_cons_zero, List.set_cons_succ]
        refine wpAnyH_ready (rs := [5, 9]) (by kernel_rfl) (by simp) (AllReadyH.cons rfl (fun K1 hK1 => ?_) (AllReadyH.cons rfl (fun K2 hK2 => ?_) AllReadyH.nil))
        · refine branchG (some 42) (.int .i64 vi) wr.drew rfl (by kernel_rfl) (by go_simp) ?_
          refine hK1.out _ _ HS0.out (fun _ => ?_)
          simp only [Act.put, List.setIfInBounds_toArray, List.set_cons_zero, List.set_cons_succ]
          refine wpAnyH_ready (rs := [9]) (by kernel_rfl) (by simp) (AllReadyH.cons rfl (fun K2 hK2 => ?_) AllReadyH.nil)
          refine branchG (some 46) (.int .i64 vt) wr.drew rfl (by kernel_rfl) (by go_simp) ?_
          refine hK2.out _ _ HS0.out (fun _ => ?_)
          simp only [Act.put, List.setIfInBounds_toArray, List.set_cons_zero, List.set_cons_succ]
          refine takeG (i := 10) (some 47) (.int .i64 (max vi vt)) rfl rfl (by kernel_rfl) (by kernel_rfl) (by kernel_rfl) (fun _ _ _ h => h) HS0.out (by kernel_rfl) (fun W hW => by go_simp) ?_
          simp only [Act.put, List.setIfInBounds_toArray, List.set_cons_zero, List.set_cons_succ]
          refine takeG (i := 11) (some 48) (.pointer (some ⟨gl, i, none⟩)) rfl rfl (by kernel_rfl) (by kernel_rfl) (by kernel_rfl) (fun _ _ _ h => h) HS0.out (by kernel_rfl) (fun W hW => by go_simp) ?_
          simp only [Act.put, List.setIfInBounds_toArray, List.set_cons_zero, List.set_cons_succ]
          refine wpAnyH_ready (rs := [12]) (by kernel_rfl) (by simp) (AllReadyH.cons rfl (fun K3 hK3 => ?_) AllReadyH.nil)
          refine branchS (wr.drew.setCell ⟨gl, i, none⟩ (.int .i64 (max vi vt))) rfl (by kernel_rfl) (by go_simp) ?_
          refine hK3.out _ _ HS9.out (fun _ => ?_)
          refine wpAnyH_done (by kernel_rfl) ?_ _
          simp only [Act.put]
          generalize wr.drew.setCell ⟨gl, i, none⟩ (.int .i64 (max vi vt)) = wq at *
          gi_wp2
          go_roundw
          case rel => exact ⟨j + 1, by omega, by go_num, HR2⟩
          case measure => simp [intOf]; omega
        · refine branchG (some 46) (.int .i64 vt) wr.drew rfl (by kernel_rfl) (by go_simp) ?_
          refine hK2.out _ _ HS0.out (fun _ => ?_)
          simp only [Act.put, List.setIfInBounds_toArray, List.set_cons_zero, List.set_cons_succ]
          refine wpAnyH_ready (rs := [5]) (by kernel_rfl) (by simp) (AllReadyH.cons rfl (fun K1 hK1 => ?_) AllReadyH.nil)
          refine branchG (some 42) (.int .i64 vi) wr.drew rfl (by kernel_rfl) (by go_simp) ?_
          refine hK1.out _ _ HS0.out (fun _ => ?_)
          simp only [Act.put, List.setIfInBounds_toArray, List.set_cons_zero, List.set_cons_succ]
          refine takeG (i := 10) (some 47) (.int .i64 (max vi vt)) rfl rfl (by kernel_rfl) (by kernel_rfl) (by kernel_rfl) (fun _ _ _ h => h) HS0.out (by kernel_rfl) (fun W hW => by go_simp) ?_
          simp only [Act.put, List.setIfInBounds_toArray, List.set_cons_zero, List.set_cons_succ]
          refine takeG (i := 11) (some 48) (.pointer (some ⟨gl, i, none⟩)) rfl rfl (by kernel_rfl) (by kernel_rfl) (by kernel_rfl) (fun _ _ _ h => h) HS0.out (by kernel_rfl) (fun W hW => by go_simp) ?_
          simp only [Act.put, List.setIfInBounds_toArray, List.set_cons_zero, List.set_cons_succ]
          refine wpAnyH_ready (rs := [12]) (by kernel_rfl) (by simp) (AllReadyH.cons rfl (fun K3 hK3 => ?_) AllReadyH.nil)
          refine branchS (wr.drew.setCell ⟨gl, i, none⟩ (.int .i64 (max vi vt))) rfl (by kernel_rfl) (by go_simp) ?_
          refine hK3.out _ _ HS9.out (fun _ => ?_)
          refine wpAnyH_done (by kernel_rfl) ?_ _
          simp only [Act.put]
          generalize wr.drew.setCell ⟨gl, i, none⟩ (.int .i64 (max vi vt)) = wq at *
          gi_wp2
          go_roundw
          case rel => exact ⟨j + 1, by omega, by go_num, HR2⟩
          case measure => simp [intOf]; omega
      · obtain rfl : nO = j := by omega
        obtain ⟨hL, hB, hK⟩ := hr.out
        have hfr : ((outN G i).take nO).foldl (fOne i) s0.1 = fRow G s0.1 i := by
          rw [HNL.out, List.take_length]; rfl
        rw [hfr] at hL
        have hb1 : okF (1000 * (pre.length : Int)) (fRow G s0.1 i) := by
          have h := HOK.out.1.fold i (outN G i)
          rw [Int.zero_add] at h
          exact h
        have hb2 : 0 ≤ s0.2 ∧ s0.2 ≤ 1000 * (pre.length : Int) := by
          have := HOK.out.2
          simpa using this
        obtain ⟨hb3, hb4⟩ := hb1 i
        obtain ⟨hb5, hb6⟩ := wait_in G i
        have HSN3 := Lib.hid (show (fup (fRow G s0.1 i) i (fRow G s0.1 i i + waitF G i), max s0.2 (fRow G s0.1 i i + waitF G i)) = ((pre ++ [x]).foldl (fun s x => fStep G s (ordK G.n (inE G) x)) (fun _ => 0, 0)) from HSN2.out)
        obtain ⟨gN, oN, Ln, rfl, hgN, hLn, h27, hrg⟩ := HNO2.out i hi0
        have HLN := Lib.hid hLn
        have H27 := Lib.hid h27
        have HWT : Hid (waitF G i = if 0 ≤ (G.d i).t ∧ (G.d i).t ≤ 1000 then (G.d i).t else 0) := Lib.hid rfl
        have ci := hL.at_.cell hi0
        have fr := hL.at_.free i
        generalize fRow G s0.1 i = ff at *
        generalize waitF G i = wt at *
        have c1 : wr.cell? ⟨gl + 1, 0, none⟩ = some (.slice (some ⟨gl, 0, none⟩) n n) := by
          rw [cell_of_same (hL.bu.block (gl + 1) (by omega) (by omega) (by omega)), cell_of_row _ _ 0 _ _ (0, 0) HRW2.out]; rfl
        have c5 : wr.cell? ⟨mb, 5, none⟩ = some (.slice (some ⟨gN, oN, none⟩) n nn) := by
          rw [cell_of_same (hL.bu.block mb (by omega) (by omega) (by omega)), cell_of_row _ _ 5 _ _ (0, 0) HMB2.out, HND.out]; rfl
        have hrg1 := rangeAt_keep hrg (hL.bu.block gN (by omega) (by omega) (by omega))
        have hBs : gl + 3 ≤ wr.heap.size := by have := hL.bu.size; omega
        have hSA : Below wr.drew.heap.size wr.drew (wr.drew.alloc (.cells Ln.toArray 58)) := (Below.refl _ _).alloc (Nat.le_refl _) _
        have hlA := (hL.same (Sm.drew wr)).alloc hBs (.cells Ln.toArray 58)
        have hlS := hlA.set (by omega) i (ff i + wt)
        have hlF := (hlS.same (Sm.drew _)).setB (by omega) (max s0.2 (ff i + wt))
        have hbA : Bu (gl + 3) gl lb W (wr.drew.alloc (.cells Ln.toArray 58)) := hB.drew.step hSA hBs
        have hbF := (hbA.set1 i (.int .i64 (ff i + wt))).drew.set2 0 (.int .i64 (max s0.2 (ff i + wt)))
        have hkF : KeepsFrom (gl + 3) W ((((wr.drew.alloc (.cells Ln.toArray 58)).setCell ⟨gl, i, none⟩ (.int .i64 (ff i + wt))).drew).setCell ⟨lb, 0, none⟩ (.int .i64 (max s0.2 (ff i + wt)))) :=
          hK.trans (((((KeepsOthers.drew _).trans (KeepsOthers.alloc _ _)).trans (KeepsOthers.setCell _ _ _)).trans ((KeepsOthers.drew _).trans (KeepsOthers.setCell _ _ _))).from _)
        have hsm : ∀ k, k < gl + 3 → k ≠ gl → k ≠ lb → ((wr.drew.alloc (.cells Ln.toArray 58)).setCell ⟨gl, i, none⟩ (.int .i64 (ff i + wt))).heap[k]? = wr.heap[k]? := fun k a b c => (Below.heap_setCell _ ⟨gl, i, none⟩ _ _ b).trans (hSA.block k (show k < wr.heap.size by omega))
        have hsA : ∀ k, k < gl + 3 → (wr.drew.alloc (.cells Ln.toArray 58)).heap[k]? = wr.heap[k]? := fun k a => hSA.block k (show k < wr.heap.size by omega)
        have HT0 : Hid (wr.drew.cell? ⟨gl + 1, 0, none⟩ = some (.slice (some ⟨gl, 0, none⟩) n n) ∧ wr.drew.cell? ⟨mb, 5, none⟩ = some (.slice (some ⟨gN, oN, none⟩) n nn) ∧ wr.drew.rangeAt gN (oN + i * 29) Ln) := Lib.hid ⟨c1, c5, hrg1⟩
        have HTA : Hid ((wr.drew.alloc (.cells Ln.toArray 58)).cell? ⟨gl + 1, 0, none⟩ = some (.slice (some ⟨gl, 0, none⟩) n n) ∧ (wr.drew.alloc (.cells Ln.toArray 58)).cell? ⟨mb, 5, none⟩ = some (.slice (some ⟨gN, oN, none⟩) n nn) ∧ (wr.drew.alloc (.cells Ln.toArray 58)).rangeAt gN (oN + i * 29) Ln) := Lib.hid ⟨(cell_of_same (hsA (gl + 1) (by omega)) 0).trans c1, (cell_of_same (hsA mb (by omega)) 5).trans c5, rangeAt_keep hrg1 (hsA gN (by omega))⟩
        have HT9 : Hid (((wr.drew.alloc (.cells Ln.toArray 58)).setCell ⟨gl, i, none⟩ (.int .i64 (ff i + wt))).cell? ⟨gl + 1, 0, none⟩ = some (.slice (some ⟨gl, 0, none⟩) n n) ∧ ((wr.drew.alloc (.cells Ln.toArray 58)).setCell ⟨gl, i, none⟩ (.int .i64 (ff i + wt))).cell? ⟨mb, 5, none⟩ = some (.slice (some ⟨gN, oN, none⟩) n nn) ∧ ((wr.drew.alloc (.cells Ln.toArray 58)).setCell ⟨gl, i, none⟩ (.int .i64 (ff i + wt))).rangeAt gN (oN + i * 29) Ln) := Lib.hid ⟨(cell_of_same (hsm (gl + 1) (by omega) (by omega) (by omega)) 0).trans c1, (cell_of_same (hsm mb (by omega) (by omega) (by omega)) 5).trans c5, rangeAt_keep hrg1 (hsm gN (by omega) (by omega) (by omega))⟩
        have ci2 : wr.drew.cell? ⟨gl, i, none⟩ = some (.int .i64 (ff i)) := ci
        have ci3 : (wr.drew.alloc (.cells Ln.toArray 58)).cell? ⟨gl, i, none⟩ = some (.int .i64 (ff i)) := (cell_of_same (hsA gl (by omega)) i).trans ci
        have fi3 : (wr.drew.alloc (.cells Ln.toArray 58)).frozen? ⟨gl, i, none⟩ = false := hlA.at_.free i
        have ci4 : (wr.alloc (.cells Ln.toArray 58)).drew.cell? ⟨gl, i, none⟩ = some (.int .i64 (ff i)) := ci3
        have fi4 : (wr.alloc (.cells Ln.toArray 58)).drew.frozen? ⟨gl, i, none⟩ = false := fi3
        have cz : ((wr.drew.alloc (.cells Ln.toArray 58)).setCell ⟨gl, i, none⟩ (.int .i64 (ff i + wt))).cell? ⟨gl, i, none⟩ = some (.int .i64 (ff i + wt)) := by
          have h := hlS.at_.cell hi0
          rw [fup_same] at h
          exact h
        have HU0 : Hid (((wr.drew.alloc (.cells Ln.toArray 58)).setCell ⟨gl, i, none⟩ (.int .i64 (ff i + wt))).drew.cell? ⟨gl + 1, 0, none⟩ = some (.slice (some ⟨gl, 0, none⟩) n n) ∧ ((wr.drew.alloc (.cells Ln.toArray 58)).setCell ⟨gl, i, none⟩ (.int .i64 (ff i + wt))).drew.cell? ⟨gl, i, none⟩ = some (.int .i64 (ff i + wt))) := Lib.hid ⟨HT9.out.1, cz⟩
        have hbz : ∀ k, k ≠ lb → ((((wr.drew.alloc (.cells Ln.toArray 58)).setCell ⟨gl, i, none⟩ (.int .i64 (ff i + wt))).drew).setCell ⟨lb, 0, none⟩ (.int .i64 (max s0.2 (ff i + wt)))).heap[k]? = ((wr.drew.alloc (.cells Ln.toArray 58)).setCell ⟨gl, i, none⟩ (.int .i64 (ff i + wt))).heap[k]? := fun k hk => Below.heap_setCell _ ⟨lb, 0, none⟩ _ _ hk
        have HU9 : Hid (((((wr.drew.alloc (.cells Ln.toArray 58)).setCell ⟨gl, i, none⟩ (.int .i64 (ff i + wt))).drew).setCell ⟨lb, 0, none⟩ (.int .i64 (max s0.2 (ff i + wt)))).cell? ⟨gl + 1, 0, none⟩ = some (.slice (some ⟨gl, 0, none⟩) n n) ∧ ((((wr.drew.alloc (.cells Ln.toArray 58)).setCell ⟨gl, i, none⟩ (.int .i64 (ff i + wt))).drew).setCell ⟨lb, 0, none⟩ (.int .i64 (max s0.2 (ff i + wt)))).cell? ⟨gl, i, none⟩ = some (.int .i64 (ff i + wt))) := Lib.hid ⟨(cell_of_same (hbz (gl + 1) (by omega)) 0).trans HT9.out.1, (cell_of_same (hbz gl (by omega)) i).trans cz⟩
        have cbz : ((wr.drew.alloc (.cells Ln.toArray 58)).setCell ⟨gl, i, none⟩ (.int .i64 (ff i + wt))).drew.cell? ⟨lb, 0, none⟩ = some (.int .i64 s0.2) := by
          rw [cell_of_row _ _ 0 _ _ (0, 0) (hlS.same (Sm.drew _)).box]; rfl
        have fbz : ((wr.drew.alloc (.cells Ln.toArray 58)).setCell ⟨gl, i, none⟩ (.int .i64 (ff i + wt))).drew.frozen? ⟨lb, 0, none⟩ = false := by
          have h := (hlS.same (Sm.drew _)).box
          simp [World.frozen?, h]
        have HFIN : Hid (KeepsFrom W2.heap.size W ((((wr.drew.alloc (.cells Ln.toArray 58)).setCell ⟨gl, i, none⟩ (.int .i64 (ff i + wt))).drew).setCell ⟨lb, 0, none⟩ (.int .i64 (max s0.2 (ff i + wt)))) ∧ KpB gs (gl + 1 + 1) W ((((wr.drew.alloc (.cells Ln.toArray 58)).setCell ⟨gl, i, none⟩ (.int .i64 (ff i + wt))).drew).setCell ⟨lb, 0, none⟩ (.int .i64 (max s0.2 (ff i + wt)))) ∧ Lw (gl + 3) gl lb n W2 ((((wr.drew.alloc (.cells Ln.toArray 58)).setCell ⟨gl, i, none⟩ (.int .i64 (ff i + wt))).drew).setCell ⟨lb, 0, none⟩ (.int .i64 (max s0.2 (ff i + wt)))) ((pre ++ [x]).foldl (fun s x => fStep G s (ordK G.n (inE G) x)) (fun _ => 0, 0)).1 ((pre ++ [x]).foldl (fun s x => fStep G s (ordK G.n (inE G) x)) (fun _ => 0, 0)).2) := Lib.hid ⟨by rw [show W2.heap.size = gl + 3 by omega]; exact hkF, ⟨hbF.block gs (by omega) (by omega) (by omega), hbF.block (gl + 1 + 1) (by omega) (by omega) (by omega), hbF.size⟩, by rw [← HSN3.out]; exact hlF⟩
        have hwr : IntKind.i64.wrap (ff i + wt) = ff i + wt := by rw [IntKind.wrap_i64]; omega
        clear hr hL hB hK hlA hlS hlF hbA hbF hkF hsm hsA hSA hbz hrg hrg1 c1 c5 ci HSN2 HSN3 hb1 h27 hLn cz hfr
        generalize ff i = fi at *
        generalize s0.2 = best at *
        gi_wp2
        refine region_round (S := fun W => W.cell? ⟨gl + 1, 0, none⟩ = some (.slice (some ⟨gl, 0, none⟩) n n) ∧ W.cell? ⟨mb, 5, none⟩ = some (.slice (some ⟨gN, oN, none⟩) n nn) ∧ W.rangeAt gN (oN + i * 29) Ln) (by kernel_rfl) (by kernel_rfl) (fun ⟨_, _, h⟩ => h) HT0.out (fun _ => ?_)
        refine takeG (i := 0) (some 50) (.slice (some ⟨gl, 0, none⟩) n n) rfl rfl (by kernel_rfl) (by kernel_rfl) (by kernel_rfl) (fun _ _ _ h => h) HT0.out (by kernel_rfl) (fun W hW => by obtain ⟨k1, k2, k3⟩ := hW; go_simp) ?_
        simp only [Act.put, List.setIfInBounds_toArray, List.set_cons_zero, List.set_cons_succ]
        refine takeG (i := 1) (some 51) (.int .i64 (i : Int)) rfl rfl (by kernel_rfl) (by kernel_rfl) (by kernel_rfl) (fun _ _ _ h => h) HT0.out (by kernel_rfl) (fun W hW => by obtain ⟨k1, k2, k3⟩ := hW; go_simp) ?_
        simp only [Act.put, List.setIfInBounds_toArray, List.set_cons_zero, List.set_cons_succ]
        refine takeG (i := 2) (some 52) (.pointer (some ⟨gl, i, none⟩)) rfl rfl (by kernel_rfl) (by kernel_rfl) (by kernel_rfl) (fun _ _ _ h => h) HT0.out (by kernel_rfl) (fun W hW => by obtain ⟨k1, k2, k3⟩ := hW; go_simp) ?_
        simp only [Act.put, List.setIfInBounds_toArray, List.set_cons_zero, List.set_cons_succ]
        refine takeG (i := 4) (some 54) (.pointer (some ⟨mb, 5, none⟩)) rfl rfl (by kernel_rfl) (by kernel_rfl) (by kernel_rfl) (fun _ _ _ h => h) HT0.out (by kernel_rfl) (fun W hW => by obtain ⟨k1, k2, k3⟩ := hW; go_simp) ?_
        simp only [Act.put, List.setIfInBounds_toArray, List.set_cons_zero, List.set_cons_succ]
        refine takeG (i := 5) (some 55) (.slice (some ⟨gN, oN, none⟩) n nn) rfl rfl (by kernel_rfl) (by kernel_rfl) (by kernel_rfl) (fun _ _ _ h => h) HT0.out (by kernel_rfl) (fun W hW => by obtain ⟨k1, k2, k3⟩ := hW; go_simp) ?_
        simp only [Act.put, List.setIfInBounds_toArray, List.set_cons_zero, List.set_cons_succ]
        refine takeG (i := 6) (some 56) (.int .i64 (i : Int)) rfl rfl (by kernel_rfl) (by kernel_rfl) (by kernel_rfl) (fun _ _ _ h => h) HT0.out (by kernel_rfl) (fun W hW => by obtain ⟨k1, k2, k3⟩ := hW; go_simp) ?_
        simp only [Act.put, List.setIfInBounds_toArray, List.set_cons_zero, List.set_cons_succ]
        refine takeG (i := 7) (some 57) (.pointer (some ⟨gN, oN + i * 29, none⟩)) rfl rfl (by kernel_rfl) (by kernel_rfl) (by kernel_rfl) (fun _ _ _ h => h) HT0.out (by kernel_rfl) (fun W hW => by obtain ⟨k1, k2, k3⟩ := hW; go_simp) ?_
        simp only [Act.put, List.setIfInBounds_toArray, List.set_cons_zero, List.set_cons_succ]
        refine takeG (i := 8) (some 58) (.agg Ln.toArray) rfl rfl (by kernel_rfl) (by kernel_rfl) (by kernel_rfl) (fun _ _ _ h => h) HT0.out (by kernel_rfl) (fun W hW => by obtain ⟨k1, k2, k3⟩ := hW; exact run_load_node (.tmp 57) rfl rfl k3 HLN.out ) ?_
        simp only [Act.put, List.setIfInBounds_toArray, List.set_cons_zero, List.set_cons_succ]
        refine wpAnyH_ready (rs := [3, 9]) (by kernel_rfl) (by simp) (AllReadyH.cons rfl (fun K1 hK1 => ?_) (AllReadyH.cons rfl (fun K2 hK2 => ?_) AllReadyH.nil))
        · refine branchG (some 53) (.int .i64 fi) wr.drew rfl (by kernel_rfl) (by go_simp) ?_
          refine hK1.out _ _ HT0.out (fun _ => ?_)
          simp only [Act.put, List.setIfInBounds_toArray, List.set_cons_zero, List.set_cons_succ]
          refine wpAnyH_ready (rs := [9]) (by kernel_rfl) (by simp) (AllReadyH.cons rfl (fun K2 hK2 => ?_) AllReadyH.nil)
          rw [if_pos (by kernel_rfl)]
          go_simp
          go_at_call 32
          refine (wait_any _ HLN.out H27.out).mono ?_
          rintro e w9 ⟨rfl, rfl⟩
          rw [← HWT.out]
          refine hK2.out _ _ HTA.out (fun _ => ?_)
          refine takeG (i := 10) (some 60) (.int .i64 (fi + wt)) rfl rfl (by kernel_rfl) (by kernel_rfl) (by kernel_rfl) (fun _ _ _ h => h) HTA.out (by kernel_rfl) (fun W hW => by go_simp) ?_
          simp only [Act.put, List.setIfInBounds_toArray, List.set_cons_zero, List.set_cons_succ]
          refine takeG (i := 11) (some 61) (.pointer (some ⟨gl, i, none⟩)) rfl rfl (by kernel_rfl) (by kernel_rfl) (by kernel_rfl) (fun _ _ _ h => h) HTA.out (by kernel_rfl) (fun W hW => by go_simp) ?_
          simp only [Act.put, List.setIfInBounds_toArray, List.set_cons_zero, List.set_cons_succ]
          refine wpAnyH_ready (rs := [12]) (by kernel_rfl) (by simp) (AllReadyH.cons rfl (fun K3 hK3 => ?_) AllReadyH.nil)
          refine branchS ((wr.drew.alloc (.cells Ln.toArray 58)).setCell ⟨gl, i, none⟩ (.int .i64 (fi + wt))) rfl (by kernel_rfl) (by go_simp) ?_
          refine hK3.out _ _ HT9.out (fun _ => ?_)
          refine wpAnyH_done (by kernel_rfl) ?_ _
          simp only [Act.put]
          generalize ((wr.drew.alloc (.cells Ln.toArray 58)).setCell ⟨gl, i, none⟩ (.int .i64 (fi + wt))) = wz at *
          gi_wp2
          refine region_round (S := fun W => W.cell? ⟨gl + 1, 0, none⟩ = some (.slice (some ⟨gl, 0, none⟩) n n) ∧ W.cell? ⟨gl, i, none⟩ = some (.int .i64 (fi + wt))) (by kernel_rfl) (by kernel_rfl) (fun ⟨_, _, h⟩ => h) HU0.out (fun _ => ?_)
          refine takeG (i := 1) (some 63) (.slice (some ⟨gl, 0, none⟩) n n) rfl rfl (by kernel_rfl) (by kernel_rfl) (by kernel_rfl) (fun _ _ _ h => h) HU0.out (by kernel_rfl) (fun W hW => by obtain ⟨k1, k2⟩ := hW; go_simp) ?_
          simp only [Act.put, List.setIfInBounds_toArray, List.set_cons_zero, List.set_cons_succ]
          refine takeG (i := 2) (some 64) (.int .i64 (i : Int)) rfl rfl (by kernel_rfl) (by kernel_rfl) (by kernel_rfl) (fun _ _ _ h => h) HU0.out (by kernel_rfl) (fun W hW => by obtain ⟨k1, k2⟩ := hW; go_simp) ?_
          simp only [Act.put, List.setIfInBounds_toArray, List.set_cons_zero, List.set_cons_succ]
          refine takeG (i := 3) (some 65) (.pointer (some ⟨gl, i, none⟩)) rfl rfl (by kernel_rfl) (by kernel_rfl) (by kernel_rfl) (fun _ _ _ h => h) HU0.out (by kernel_rfl) (fun W hW => by obtain ⟨k1, k2⟩ := hW; go_simp) ?_
          simp only [Act.put, List.setIfInBounds_toArray, List.set_cons_zero, List.set_cons_succ]
          refine takeG (i := 4) (some 66) (.int .i64 (fi + wt)) rfl rfl (by kernel_rfl) (by kernel_rfl) (by kernel_rfl) (fun _ _ _ h => h) HU0.out (by kernel_rfl) (fun W hW => by obtain ⟨k1, k2⟩ := hW; go_simp) ?_
          simp only [Act.put, List.setIfInBounds_toArray, List.set_cons_zero, List.set_cons_succ]
          refine wpAnyH_ready (rs := [0]) (by kernel_rfl) (by simp) (AllReadyH.cons rfl (fun K5 hK5 => ?_) AllReadyH.nil)
          refine branchG (some 62) (.int .i64 best) wz.drew rfl (by kernel_rfl) (by go_simp) ?_
          refine hK5.out _ _ HU0.out (fun _ => ?_)
          simp only [Act.put, List.setIfInBounds_toArray, List.set_cons_zero, List.set_cons_succ]
          refine takeG (i := 5) (some 67) (.int .i64 (max best (fi + wt))) rfl rfl (by kernel_rfl) (by kernel_rfl) (by kernel_rfl) (fun _ _ _ h => h) HU0.out (by kernel_rfl) (fun W hW => by go_simp) ?_
          simp only [Act.put, List.setIfInBounds_toArray, List.set_cons_zero, List.set_cons_succ]
          refine wpAnyH_ready (rs := [6]) (by kernel_rfl) (by simp) (AllReadyH.cons rfl (fun K6 hK6 => ?_) AllReadyH.nil)
          refine branchS (wz.drew.setCell ⟨lb, 0, none⟩ (.int .i64 (max best (fi + wt)))) rfl (by kernel_rfl) (by go_simp) ?_
          refine hK6.out _ _ HU9.out (fun _ => ?_)
          refine wpAnyH_done (by kernel_rfl) ?_ _
          simp only [Act.put]
          generalize (wz.drew.setCell ⟨lb, 0, none⟩ (.int .i64 (max best (fi + wt)))) = wf at *
          gi_wp2
          exact HFIN.out
        · rw [if_pos (by kernel_rfl)]
          go_simp
          go_at_call 32
          refine (wait_any _ HLN.out H27.out).mono ?_
          rintro e w9 ⟨rfl, rfl⟩
          rw [← HWT.out]
          refine hK2.out _ _ HTA.out (fun _ => ?_)
          refine wpAnyH_ready (rs := [3]) (by kernel_rfl) (by simp) (AllReadyH.cons rfl (fun K1 hK1 => ?_) AllReadyH.nil)
          refine branchG (some 53) (.int .i64 fi) (wr.drew.alloc (.cells Ln.toArray 58)) rfl (by kernel_rfl) (by go_simp) ?_
          refine hK1.out _ _ HTA.out (fun _ => ?_)
          simp only [Act.put, List.setIfInBounds_toArray, List.set_cons_zero, List.set_cons_succ]
          refine takeG (i := 10) (some 60) (.int .i64 (fi + wt)) rfl rfl (by kernel_rfl) (by kernel_rfl) (by kernel_rfl) (fun _ _ _ h => h) HTA.out (by kernel_rfl) (fun W hW => by go_simp) ?_
          simp only [Act.put, List.setIfInBounds_toArray, List.set_cons_zero, List.set_cons_succ]
          refine takeG (i := 11) (some 61) (.pointer (some ⟨gl, i, none⟩)) rfl rfl (by kernel_rfl) (by kernel_rfl) (by kernel_rfl) (fun _ _ _ h => h) HTA.out (by kernel_rfl) (fun W hW => by go_simp) ?_
          simp only [Act.put, List.setIfInBounds_toArray, List.set_cons_zero, List.set_cons_succ]
          refine wpAnyH_ready (rs := [12]) (by kernel_rfl) (by simp) (AllReadyH.cons rfl (fun K3 hK3 => ?_) AllReadyH.nil)
          refine branchS ((wr.drew.alloc (.cells Ln.toArray 58)).setCell ⟨gl, i, none⟩ (.int .i64 (fi + wt))) rfl (by kernel_rfl) (by go_simp) ?_
          refine hK3.out _ _ HT9.out (fun _ => ?_)
          refine wpAnyH_done (by kernel_rfl) ?_ _
          simp only [Act.put]
          generalize ((wr.drew.alloc (.cells Ln.toArray 58)).setCell ⟨gl, i, none⟩ (.int .i64 (fi + wt))) = wz at *
          gi_wp2
          refine region_round (S := fun W => W.cell? ⟨gl + 1, 0, none⟩ = some (.slice (some ⟨gl, 0, none⟩) n n) ∧ W.cell? ⟨gl, i, none⟩ = some (.int .i64 (fi + wt))) (by kernel_rfl) (by kernel_rfl) (fun ⟨_, _, h⟩ => h) HU0.out (fun _ => ?_)
          refine takeG (i := 1) (some 63) (.slice (some ⟨gl, 0, none⟩) n n) rfl rfl (by kernel_rfl) (by kernel_rfl) (by kernel_rfl) (fun _ _ _ h => h) HU0.out (by kernel_rfl) (fun W hW => by obtain ⟨k1, k2⟩ := hW; go_simp) ?_
          simp only [Act.put, List.setIfInBounds_toArray, List.set_cons_zero, List.set_cons_succ]
          refine takeG (i := 2) (some 64) (.int .i64 (i : Int)) rfl rfl (by kernel_rfl) (by kernel_rfl) (by kernel_rfl) (fun _ _ _ h => h) HU0.out (by kernel_rfl) (fun W hW => by obtain ⟨k1, k2⟩ := hW; go_simp) ?_
          simp only [Act.put, List.setIfInBounds_toArray, List.set_cons_zero, List.set_cons_succ]
          refine takeG (i := 3) (some 65) (.pointer (some ⟨gl, i, none⟩)) rfl rfl (by kernel_rfl) (by kernel_rfl) (by kernel_rfl) (fun _ _ _ h => h) HU0.out (by kernel_rfl) (fun W hW => by obtain ⟨k1, k2⟩ := hW; go_simp) ?_
          simp only [Act.put, List.setIfInBounds_toArray, List.set_cons_zero, List.set_cons_succ]
          refine takeG (i := 4) (some 66) (.int .i64 (fi + wt)) rfl rfl (by kernel_rfl) (by kernel_rfl) (by kernel_rfl) (fun _ _ _ h => h) HU0.out (by kernel_rfl) (fun W hW => by obtain ⟨k1, k2⟩ := hW; go_simp) ?_
          simp only [Act.put, List.setIfInBounds_toArray, List.set_cons_zero, List.set_cons_succ]
          refine wpAnyH_ready (rs := [0]) (by kernel_rfl) (by simp) (AllReadyH.cons rfl (fun K5 hK5 => ?_) AllReadyH.nil)
          refine branchG (some 62) (.int .i64 best) wz.drew rfl (by kernel_rfl) (by go_simp) ?_
          refine hK5.out _ _ HU0.out (fun _ => ?_)
          simp only [Act.put, List.setIfInBounds_toArray, List.set_cons_zero, List.set_cons_succ]
          refine takeG (i := 5) (some 67) (.int .i64 (max best (fi + wt))) rfl rfl (by kernel_rfl) (by kernel_rfl) (by kernel_rfl) (fun _ _ _ h => h) HU0.out (by kernel_rfl) (fun W hW => by go_simp) ?_
          simp only [Act.put, List.setIfInBounds_toArray, List.set_cons_zero, List.set_cons_succ]
          refine wpAnyH_ready (rs := [6]) (by kernel_rfl) (by simp) (AllReadyH.cons rfl (fun K6 hK6 => ?_) AllReadyH.nil)
          refine branchS (wz.drew.setCell ⟨lb, 0, none⟩ (.int .i64 (max best (fi + wt)))) rfl (by kernel_rfl) (by go_simp) ?_
          refine hK6.out _ _ HU9.out (fun _ => ?_)
          refine wpAnyH_done (by kernel_rfl) ?_ _
          simp only [Act.put]
          generalize (wz.drew.setCell ⟨lb, 0, none⟩ (.int .i64 (max best (fi + wt)))) = wf at *
          gi_wp2
          exact HFIN.out
end Go.Proofs.Ytmbjmibjobpdgaa

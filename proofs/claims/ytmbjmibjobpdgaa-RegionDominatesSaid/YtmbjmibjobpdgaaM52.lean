/-
  The landed region: what it answers.
  Law 15's awake.
  Steps through a region that draws its order, under a condition that all of its operations keep.
  What the laws' proofs share.
  Plain facts for the laws on weights and dominators.
-/
import Derived.Test.YtmbjmibjobpdgaaM23
import Derived.Test.YtmbjmibjobpdgaaM47
import Derived.Test.YtmbjmibjobpdgaaM51
import Derived.Test.YtmbjmibjobpdgaaRows
import Derived.ProofKit
import Derived.OpenShut
namespace Go.Proofs.Ytmbjmibjobpdgaa
open Go.RowKit

theorem LOrder {mv : Array Value} {G : GT} (w : World) (h : ModelAt w w.heap.size mv G) (hf : fewB G) : Calls Try.prog 10 #[.agg mv] w (SaysT w (orderA G) (okG G)) := LOrderZ w h hf
theorem LWeights {mv : Array Value} {G : GT} (w : World) (h : ModelAt w w.heap.size mv G) (hf : fewB G) : Calls Try.prog 12 #[.agg mv] w (SaysT w (weightsA G) (okG G)) := LWeightsZ w h hf
theorem LLongest {mv : Array Value} {G : GT} (w : World) (h : ModelAt w w.heap.size mv G) (hf : fewB G) : Calls Try.prog 14 #[.agg mv] w (SaysN w (longestA G) (okG G)) := LLongestZ w h hf
theorem LLoops {mv : Array Value} {G : GT} (w : World) (h : ModelAt w w.heap.size mv G) (hf : fewB G) : Calls Try.prog 17 #[.agg mv] w (SaysI w (loopsL G)) := LLoopsZ w h hf
theorem LDominators {mv : Array Value} {G : GT} (w : World) (a : Int) (h : ModelAt w w.heap.size mv G) (hf : fewB G) : Calls Try.prog 20 #[.agg mv, .int .i64 a] w (SaysR w G.n (domL G a)) := LDominatorsZ w a h hf
end Go.Proofs.Ytmbjmibjobpdgaa
namespace Go.Proofs.Ytmbjmibjobpdgaa
open Go.RowKit

/-- The document's two examples. -/
def ex1 (t : Nat) : List Int := if t = 0 then [1, 2] else if t = 1 then [3] else if t = 2 then [3] else []
def ex2 (_t : Nat) : List Int := [0]
theorem ex1_order : orderA (shapeG 4 ex1) = [0, 1, 2, 3] := by decide +kernel
theorem ex1_ok : okG (shapeG 4 ex1) = true := by decide +kernel
theorem ex1_weights : weightsA (shapeG 4 ex1) = [5, 2, 2, 1] := by decide +kernel
theorem ex1_dom : domL (shapeG 4 ex1) 0 3 = [0, 3] := by decide +kernel
theorem ex2_ok : okG (shapeG 1 ex2) = false := by decide +kernel
theorem ex2_loops : loopsL (shapeG 1 ex2) = [0] := by decide +kernel
theorem ex2_order : orderA (shapeG 1 ex2) = [] := by decide +kernel
theorem ex1_few : fewB (shapeG 4 ex1) := by
  refine ⟨by show 4 ≤ 100; omega, fun i hi => ?_⟩
  show (ex1 i).length + (if 0 ≤ (-1 : Int) then 1 else 0) ≤ 41
  rw [if_neg (by omega)]
  unfold ex1
  repeat' split
  all_goals simp
theorem ex2_few : fewB (shapeG 1 ex2) := by
  refine ⟨by show 1 ≤ 100; omega, fun i hi => ?_⟩
  show (ex2 i).length + (if 0 ≤ (-1 : Int) then 1 else 0) ≤ 41
  rw [if_neg (by omega)]
  simp [ex2]
theorem lie_row {w : World} {b : Nat} {cs : Array Value} {L : List Int} (h : w.heap[b]? = some (.cells cs 3 (0, 0))) (he : cs = (L.map (Value.int .i64)).toArray) : LieI w w.heap.size (some ⟨b, 0, none⟩) L := fun _ =>
  ⟨b, 0, rfl, row_lt h, fun i hi => by
    rw [Nat.zero_add, cell_of_row w b i cs 3 (0, 0) h, he]
    simp [List.getElem?_eq_getElem hi]⟩
theorem alloc_old (w : World) (o : Obj) {b : Nat} {x : Obj} (h : w.heap[b]? = some x) : (w.alloc o).heap[b]? = some x :=
  (Below.heap_alloc w o b (by
    refine Nat.lt_of_not_le fun hle => ?_
    simp [Array.getElem?_eq_none hle] at h)).trans h
theorem alloc_size (w : World) (o : Obj) : (w.alloc o).heap.size = w.heap.size + 1 := by simp
theorem shape1 (w : World) : Calls Try.prog 24 #[.slice (some ⟨w.heap.size + 1 + 1 + 1, 0, none⟩) 4 4] ((((w.alloc (.cells #[.int .i64 1, .int .i64 2] 3)).alloc (.cells #[.int .i64 3] 3)).alloc (.cells #[.int .i64 3] 3)).alloc (.cells #[.slice (some ⟨w.heap.size, 0, none⟩) 2 2, .slice (some ⟨w.heap.size + 1, 0, none⟩) 1 1, .slice (some ⟨w.heap.size + 1 + 1, 0, none⟩) 1 1, .slice none 0 0] 30)) fun e w' => ∃ Av cv, e = .returned (.agg #[.int .i64 0, .slice none 0 0, .slice none 0 0, .slice none 0 0, .slice none 0 0, .slice Av 4 cv]) ∧ ModelAt w' w'.heap.size #[.int .i64 0, .slice none 0 0, .slice none 0 0, .slice none 0 0, .slice none 0 0, .slice Av 4 cv] (shapeG 4 ex1) ∧ Below w.heap.size w w' := by
  obtain ⟨u1, hu1⟩ : ∃ u1, u1 = w.alloc (.cells #[.int .i64 1, .int .i64 2] 3) := ⟨_, rfl⟩
  obtain ⟨u2, hu2⟩ : ∃ u2, u2 = u1.alloc (.cells #[.int .i64 3] 3) := ⟨_, rfl⟩
  obtain ⟨u3, hu3⟩ : ∃ u3, u3 = u2.alloc (.cells #[.int .i64 3] 3) := ⟨_, rfl⟩
  obtain ⟨u4, hu4⟩ : ∃ u4, u4 = u3.alloc (.cells #[.slice (some ⟨w.heap.size, 0, none⟩) 2 2, .slice (some ⟨w.heap.size + 1, 0, none⟩) 1 1, .slice (some ⟨w.heap.size + 1 + 1, 0, none⟩) 1 1, .slice none 0 0] 30) := ⟨_, rfl⟩
  have s1 : u1.heap.size = w.heap.size + 1 := by rw [hu1, alloc_size]
  have s2 : u2.heap.size = w.heap.size + 1 + 1 := by rw [hu2, alloc_size, s1]
  have s3 : u3.heap.size = w.heap.size + 1 + 1 + 1 := by rw [hu3, alloc_size, s2]
  have s4 : u4.heap.size = w.heap.size + 1 + 1 + 1 + 1 := by rw [hu4, alloc_size, s3]
  have r1 : u4.heap[w.heap.size]? = some (.cells #[.int .i64 1, .int .i64 2] 3 (0, 0)) := by
    rw [hu4]; apply alloc_old; rw [hu3]; apply alloc_old; rw [hu2]; apply alloc_old; rw [hu1]; exact heap_alloc_new w _
  have r2 : u4.heap[w.heap.size + 1]? = some (.cells #[.int .i64 3] 3 (0, 0)) := by
    rw [hu4]; apply alloc_old; rw [hu3]; apply alloc_old; rw [hu2, ← s1]; exact heap_alloc_new u1 _
  have r3 : u4.heap[w.heap.size + 1 + 1]? = some (.cells #[.int .i64 3] 3 (0, 0)) := by
    rw [hu4]; apply alloc_old; rw [hu3, ← s2]; exact heap_alloc_new u2 _
  have r4 : u4.heap[w.heap.size + 1 + 1 + 1]? = some (.cells #[.slice (some ⟨w.heap.size, 0, none⟩) 2 2, .slice (some ⟨w.heap.size + 1, 0, none⟩) 1 1, .slice (some ⟨w.heap.size + 1 + 1, 0, none⟩) 1 1, .slice none 0 0] 30 (0, 0)) := by
    rw [hu4, ← s3]; exact heap_alloc_new u3 _
  have hb : Below w.heap.size w u4 := by
    rw [hu4, hu3, hu2, hu1]
    exact ((((Below.refl _ _).alloc (Nat.le_refl _) _).alloc (by simp) _).alloc (by simp; omega) _).alloc (by simp; omega) _
  have hs : ShapeAt u4 u4.heap.size (some ⟨w.heap.size + 1 + 1 + 1, 0, none⟩) 4 (fun t => if t = 0 then some ⟨w.heap.size, 0, none⟩ else if t = 1 then some ⟨w.heap.size + 1, 0, none⟩ else if t = 2 then some ⟨w.heap.size + 1 + 1, 0, none⟩ else none) (fun t => if t = 0 then 2 else if t = 1 then 1 else if t = 2 then 1 else 0) ex1 := by
    intro _
    refine ⟨_, 0, rfl, row_lt r4, fun t ht => ?_⟩
    rw [Nat.zero_add, cell_of_row u4 _ t _ 30 (0, 0) r4]
    match t, ht with
    | 0, _ => exact ⟨rfl, by show 2 ≤ 2 ∧ 2 ≤ maxLen; unfold maxLen; omega, lie_row r1 rfl, fun z hz => by
        rcases List.mem_cons.1 hz with rfl | hz
        · unfold Num; omega
        · rw [List.mem_singleton.1 hz]; unfold Num; omega⟩
    | 1, _ => exact ⟨rfl, by show 1 ≤ 1 ∧ 1 ≤ maxLen; unfold maxLen; omega, lie_row r2 rfl, fun z hz => by rw [List.mem_singleton.1 hz]; unfold Num; omega⟩
    | 2, _ => exact ⟨rfl, by show 1 ≤ 1 ∧ 1 ≤ maxLen; unfold maxLen; omega, lie_row r3 rfl, fun z hz => by rw [List.mem_singleton.1 hz]; unfold Num; omega⟩
    | 3, _ => exact ⟨rfl, by show 0 ≤ 0 ∧ 0 ≤ maxLen; unfold maxLen; omega, LieI.nil _ _ _, fun z hz => by cases hz⟩
  have hc := shape_any (c := 4) u4 hs (Nat.le_refl _) (by omega)
  rw [hu4, hu3, hu2, hu1] at hc hb
  exact hc.mono fun e w' ⟨Av, cv, he, hM, hb'⟩ => ⟨Av, cv, he, hM, hb.trans (hb'.mono hb.size)⟩
theorem shape2 (w : World) : Calls Try.prog 24 #[.slice (some ⟨w.heap.size + 1, 0, none⟩) 1 1] ((w.alloc (.cells #[.int .i64 0] 3)).alloc (.cells #[.slice (some ⟨w.heap.size, 0, none⟩) 1 1] 30)) fun e w' => ∃ Au cu, e = .returned (.agg #[.int .i64 0, .slice none 0 0, .slice none 0 0, .slice none 0 0, .slice none 0 0, .slice Au 1 cu]) ∧ ModelAt w' w'.heap.size #[.int .i64 0, .slice none 0 0, .slice none 0 0, .slice none 0 0, .slice none 0 0, .slice Au 1 cu] (shapeG 1 ex2) ∧ Below w.heap.size w w' := by
  obtain ⟨u1, hu1⟩ : ∃ u1, u1 = w.alloc (.cells #[.int .i64 0] 3) := ⟨_, rfl⟩
  obtain ⟨u2, hu2⟩ : ∃ u2, u2 = u1.alloc (.cells #[.slice (some ⟨w.heap.size, 0, none⟩) 1 1] 30) := ⟨_, rfl⟩
  have s1 : u1.heap.size = w.heap.size + 1 := by rw [hu1, alloc_size]
  have s2 : u2.heap.size = w.heap.size + 1 + 1 := by rw [hu2, alloc_size, s1]
  have r1 : u2.heap[w.heap.size]? = some (.cells #[.int .i64 0] 3 (0, 0)) := by
    rw [hu2]; apply alloc_old; rw [hu1]; exact heap_alloc_new w _
  have r2 : u2.heap[w.heap.size + 1]? = some (.cells #[.slice (some ⟨w.heap.size, 0, none⟩) 1 1] 30 (0, 0)) := by
    rw [hu2, ← s1]; exact heap_alloc_new u1 _
  have hb : Below w.heap.size w u2 := by
    rw [hu2, hu1]
    exact ((Below.refl _ _).alloc (Nat.le_refl _) _).alloc (by simp) _
  have hs : ShapeAt u2 u2.heap.size (some ⟨w.heap.size + 1, 0, none⟩) 1 (fun _ => some ⟨w.heap.size, 0, none⟩) (fun _ => 1) ex2 := by
    intro _
    refine ⟨_, 0, rfl, row_lt r2, fun t ht => ?_⟩
    rw [Nat.zero_add, cell_of_row u2 _ t _ 30 (0, 0) r2]
    match t, ht with
    | 0, _ => exact ⟨rfl, by show 1 ≤ 1 ∧ 1 ≤ maxLen; unfold maxLen; omega, lie_row r1 rfl, fun z hz => by rw [List.mem_singleton.1 hz]; unfold Num; omega⟩
  have hc := shape_any (c := 1) u2 hs (Nat.le_refl _) (by omega)
  rw [hu2, hu1] at hc hb
  exact hc.mono fun e w' ⟨Av, cv, he, hM, hb'⟩ => ⟨Av, cv, he, hM, hb.trans (hb'.mono hb.size)⟩
theorem onto {a b c : World} (h : Below a.heap.size a b) (k : Below b.heap.size b c) : Below a.heap.size a c := h.trans (k.mono h.size)
/-- Same of a list and one that is written out. -/
theorem same_lit {W : World} {A : Option Addr} {c lim n : Nat} {L : List Int} {cs : Array Value} (h : LieI W lim A L) (hlim : lim ≤ W.heap.size) (hn : L.length = n) (hl : n ≤ 10000) (he : cs = (L.map (Value.int .i64)).toArray) :
    Calls Try.prog 16 #[.slice A n c, .slice (some ⟨W.heap.size, 0, none⟩) n n] (W.alloc (.cells cs 3)) fun e w' => e = .returned (.bool true) ∧ Below W.heap.size W w' := by
  have hb : Below W.heap.size W (W.alloc (.cells cs 3)) := (Below.refl _ _).alloc (Nat.le_refl _) _
  subst hn
  refine (SameI_eq (W.alloc (.cells cs 3)) (h.keep fun g o hg => hb.cell (p := ⟨g, o, none⟩) (Nat.lt_of_lt_of_le hg hlim)) (lie_row (heap_alloc_new W _) he) (Nat.le_trans hlim hb.size) (Nat.le_refl _) hl).mono ?_
  rintro e w' ⟨rfl, h'⟩
  exact ⟨rfl, hb.trans (h'.mono hb.size)⟩
set_option maxRecDepth 20000 in
set_option maxHeartbeats 4000000 in
theorem awake_any (w : World) : Calls Try.prog 8 #[] w fun e w' => e = .returned (.bool true) ∧ Below w.heap.size w w' := by
  have hC := Lib.hid (shape1 w)
  go_enter Try.func8, Try.ntmps8
  go_wp2_with (first | (go_at_call 24; refine hC.out.mono ?_; rintro e w5 ⟨Av, cv, rfl, hM, hb⟩; refine Hid.out ?_) | fail)
  refine Lib.hid ?_
  -- the model's box
  obtain ⟨bM, hbM⟩ : ∃ bM, bM = w5.heap.size := ⟨_, rfl⟩
  have hbx := heap_alloc_new w5 (.cells #[.int .i64 0, .slice none 0 0, .slice none 0 0, .slice none 0 0, .slice none 0 0, .slice Av 4 cv] 27)
  have hb6 : Below w5.heap.size w5 (w5.alloc (.cells #[.int .i64 0, .slice none 0 0, .slice none 0 0, .slice none 0 0, .slice none 0 0, .slice Av 4 cv] 27)) := (Below.refl _ _).alloc (Nat.le_refl _) _
  rw [← hbM] at hbx
  have hM6 := Lib.hid ((hM.stay hb6).mono hb6.size)
  have hB6 := Lib.hid (hb.trans (hb6.mono hb.size))
  have hbx := Lib.hid hbx
  clear hC hM hb hb6
  go_upto_region 2 with (fail)
  rw [← hbM]
  clear hbM
  generalize w5.alloc (.cells #[.int .i64 0, .slice none 0 0, .slice none 0 0, .slice none 0 0, .slice none 0 0, .slice Av 4 cv] 27) = w6 at *
  have hC3 : Hid (∀ wj, Below w6.heap.size w6 wj → wj.heap[bM]? = some (.cells #[.int .i64 0, .slice none 0 0, .slice none 0 0, .slice none 0 0, .slice none 0 0, .slice Av 4 cv] 27 (0, 0)) ∧ ModelAt wj wj.heap.size #[.int .i64 0, .slice none 0 0, .slice none 0 0, .slice none 0 0, .slice none 0 0, .slice Av 4 cv] (shapeG 4 ex1)) := Lib.hid (fun wj h => ⟨(h.block bM (row_lt hbx.out)).trans hbx.out, (hM6.out.stay h).mono h.size⟩)
  -- Order
  go_wp2_with (first
    | (refine wpList_load_row rfl 27 _ rfl bM rfl 27 #[.int .i64 0, .slice none 0 0, .slice none 0 0, .slice none 0 0, .slice none 0 0, .slice Av 4 cv] (0, 0) _ hbx.out Try.underlying27 rfl (by kernel_rfl) ?_)
    | (go_at_call 10; refine (LOrder _ hM6.out ex1_few).mono ?_; rw [ex1_order, ex1_ok]; rintro e w7 ⟨A1, c1, rfl, hl1, hb7⟩; refine Hid.out ?_)
    | fail)
  refine Lib.hid ?_
  have p67 := Lib.hid hb7
  have hb7 := Lib.hid hb7
  have hl1 := Lib.hid hl1
  obtain ⟨hx7, hM7⟩ := hC3.out _ hb7.out
  have hx7 := Lib.hid hx7
  have hM7 := Lib.hid hM7
  -- Weights
  go_wp2_with (first
    | (refine wpList_load_row rfl 27 _ rfl bM rfl 27 #[.int .i64 0, .slice none 0 0, .slice none 0 0, .slice none 0 0, .slice none 0 0, .slice Av 4 cv] (0, 0) _ hx7.out Try.underlying27 rfl (by kernel_rfl) ?_)
    | (go_at_call 12; refine (LWeights _ hM7.out ex1_few).mono ?_; rw [ex1_weights, ex1_ok]; rintro e w8 ⟨A2, c2, rfl, hl2, hb8⟩; refine Hid.out ?_)
    | fail)
  refine Lib.hid ?_
  have p78 := Lib.hid hb8
  have hb8 := Lib.hid (onto hb7.out hb8)
  have hl2 := Lib.hid hl2
  have hB8 := Lib.hid (hB6.out.trans (hb8.out.mono hB6.out.size))
  have hsh := Lib.hid (shape2 w8)
  -- a loop
  go_wp2_with (first
    | (go_at_call 24; refine hsh.out.mono ?_; rintro e w9 ⟨Au, cu, rfl, hM9, hb9⟩)
    | (go_at_call 10; refine (LOrder _ hM9 ex2_few).mono ?_; rw [ex2_order, ex2_ok]; rintro e w10 ⟨A3, c3, rfl, _, hb10⟩; refine Hid.out ?_)
    | fail)
  refine Lib.hid ?_
  have p8a := Lib.hid (onto hb9 hb10)
  have hb10 := Lib.hid (onto hb8.out p8a.out)
  obtain ⟨hx10, hM10⟩ := hC3.out _ hb10.out
  have hx10 := Lib.hid hx10
  have hM10 := Lib.hid hM10
  clear hsh hM9 hb9
  -- Dominators
  go_wp2_with (first
    | (refine wpList_load_row rfl 27 _ rfl bM rfl 27 #[.int .i64 0, .slice none 0 0, .slice none 0 0, .slice none 0 0, .slice none 0 0, .slice Av 4 cv] (0, 0) _ hx10.out Try.underlying27 rfl (by kernel_rfl) ?_)
    | (go_at_call 20; refine (LDominators _ 0 hM10.out ex1_few).mono ?_; rw [show (shapeG 4 ex1).n = 4 from rfl]; rintro e w11 ⟨Ad, cd, rfl, hl4, hb11⟩; refine Hid.out ?_)
    | fail)
  refine Lib.hid ?_
  have pab := Lib.hid hb11
  have hb11 := Lib.hid (onto hb10.out hb11)
  have hB11 := Lib.hid (hB6.out.trans (hb11.out.mono hB6.out.size))
  obtain ⟨gd, od, rfl, hgd, hxd⟩ := hl4 (by omega)
  obtain ⟨Bd, ce, hxd3, hld⟩ := hxd 3 (by omega)
  rw [ex1_dom] at hxd3 hld
  have hxd3 := Lib.hid hxd3
  have hld := Lib.hid hld
  have hgd := Lib.hid hgd
  have p7b := onto p78.out (onto p8a.out pab.out)
  have p8b := onto p8a.out pab.out
  have hl1 := Lib.hid (hl1.out.keep (w' := w11) fun g o hg => p7b.cell (p := ⟨g, o, none⟩) hg)
  have hl2 := Lib.hid (hl2.out.keep (w' := w11) fun g o hg => p8b.cell (p := ⟨g, o, none⟩) hg)
  have s7 := Lib.hid p7b.size
  have s8 := Lib.hid p8b.size
  have hk3 : Hid (∀ wj, Below w11.heap.size w11 wj → wj.cell? ⟨gd, od + 3, none⟩ = some (.slice Bd 2 ce)) := Lib.hid (fun wj h => (h.cell (p := ⟨gd, od + 3, none⟩) hgd.out).trans hxd3.out)
  have hS1 : Hid (∀ wj, Below w11.heap.size w11 wj → Calls Try.prog 16 #[.slice A1 4 c1, .slice (some ⟨wj.heap.size, 0, none⟩) 4 4] (wj.alloc (.cells #[.int .i64 0, .int .i64 1, .int .i64 2, .int .i64 3] 3)) fun e w' => e = .returned (.bool true) ∧ Below wj.heap.size wj w') := Lib.hid (fun wj h =>
    same_lit (hl1.out.keep fun g o hg => h.cell (p := ⟨g, o, none⟩) (Nat.lt_of_lt_of_le hg s7.out)) (Nat.le_trans s7.out h.size) rfl (by omega) rfl)
  have hS2 : Hid (∀ wj, Below w11.heap.size w11 wj → Calls Try.prog 16 #[.slice A2 4 c2, .slice (some ⟨wj.heap.size, 0, none⟩) 4 4] (wj.alloc (.cells #[.int .i64 5, .int .i64 2, .int .i64 2, .int .i64 1] 3)) fun e w' => e = .returned (.bool true) ∧ Below wj.heap.size wj w') := Lib.hid (fun wj h =>
    same_lit (hl2.out.keep fun g o hg => h.cell (p := ⟨g, o, none⟩) (Nat.lt_of_lt_of_le hg s8.out)) (Nat.le_trans s8.out h.size) rfl (by omega) rfl)
  have hS3 : Hid (∀ wj, Below w11.heap.size w11 wj → Calls Try.prog 16 #[.slice Bd 2 ce, .slice (some ⟨wj.heap.size, 0, none⟩) 2 2] (wj.alloc (.cells #[.int .i64 0, .int .i64 3] 3)) fun e w' => e = .returned (.bool true) ∧ Below wj.heap.size wj w') := Lib.hid (fun wj h =>
    same_lit (hld.out.keep fun g o hg => h.cell (p := ⟨g, o, none⟩) hg) h.size rfl (by omega) rfl)
  clear hl4 hxd hxd3 hld hl1 hl2 hC3 hM6 hM7 hM10 hbx hx7 hx10 hb7 hb8 hb10 p67 p78 p8a pab p7b p8b hB6 hB8 hb11 hgd
  have hb0 := Lib.hid (Below.refl w11.heap.size w11)
  go_wp2_with (first
    | (go_at_call 16; with_reducible refine (hS1.out w11 hb0.out).mono ?_; rintro e w12 ⟨rfl, q12⟩; have hb12 := Lib.hid q12; clear q12)
    | (go_at_call 16; with_reducible refine (hS2.out w12 hb12.out).mono ?_; rintro e w13 ⟨rfl, q13⟩; have hb13 := Lib.hid (onto hb12.out q13); have cd := hk3.out _ hb13.out; clear q13)
    | (go_at_call 16; with_reducible refine (hS3.out w13 hb13.out).mono ?_; rintro e w14 ⟨rfl, q14⟩; have hb14 := Lib.hid (onto hb13.out q14); clear q14)
    | (go_at_call 24; refine (shape2 w14).mono ?_; rintro e w15 ⟨Aw, cw, rfl, hM15, hb15⟩)
    | (go_at_call 17; refine (LLoops _ hM15 ex2_few).mono ?_; rw [ex2_loops]; rintro e w16 ⟨A5, c5, rfl, hl5, hb16⟩)
    | (go_at_call 16; refine (same_lit (c := c5) (n := 1) (L := [0]) hl5 (Nat.le_refl _) rfl (by omega) rfl).mono ?_; rintro e w17 ⟨rfl, hb17⟩)
    | fail)
  go_ret
  exact ⟨rfl, onto hB11.out (onto hb14.out (onto hb15 (onto hb16 hb17)))⟩
end Go.Proofs.Ytmbjmibjobpdgaa
namespace Go.Proofs.Ytmbjmibjobpdgaa
open Go.RowKit

section
variable {md : Region.Mode} {ops : Array Oper} {Q : Exit → Act → World → Prop} {S : World → Prop} {fuel i : Nat} {o : Oper} {listed : Array Bool} {a : Act} {w : World}
/-- An operation that yields a value in whatever world meets the condition, taken first; guarded or not. -/
theorem takeH (d : Option Tmp) (v : Value) (ho : ops[i]? = some o) (hd : o.dst = d) (hs : Region.noSelect ops = true) (hf : Region.free md ops listed i = true) (hr : (Region.ready md ops listed).contains i = true)
    (hQ : ∀ c a w, Q (.panic c) (a.put d v) w → Q (.panic c) a w) (hS : S w) (hw : Region.wanted o (yielded ops a.tmps) = true) (hy : ∀ w, S w → (execOp a.eval o).run Try.prog w = .ok (.value v) w)
    (h : wpAnyH Try.prog md ops Q S fuel (listed.setIfInBounds i true) (a.put d v) w) : wpAnyH Try.prog md ops Q S (fuel + 1) listed a w :=
  wpAnyH_take ho hs hf hr (by rw [hd]; exact hQ) (Or.inl ⟨hw, hy⟩) hS (by rw [hd]; exact h)
/-- An operation whose guard has not struck. -/
theorem skipH (d : Option Tmp) (ho : ops[i]? = some o) (hd : o.dst = d) (hs : Region.noSelect ops = true) (hf : Region.free md ops listed i = true) (hr : (Region.ready md ops listed).contains i = true)
    (hQ : ∀ c a w, Q (.panic c) (a.put d undef) w → Q (.panic c) a w) (hS : S w) (hw : Region.wanted o (yielded ops a.tmps) = false)
    (h : wpAnyH Try.prog md ops Q S fuel (listed.setIfInBounds i true) (a.put d undef) w) : wpAnyH Try.prog md ops Q S (fuel + 1) listed a w :=
  wpAnyH_take ho hs hf hr (by rw [hd]; exact hQ) (Or.inr ⟨hw, rfl⟩) hS (by rw [hd]; exact h)
/-- The one operation that may come up is a call. -/
theorem callH (f : FuncId) (args : Array Value) (d : Option Tmp) (ho : ops[i]? = some o) (hw : Region.wanted o (yielded ops a.tmps) = true) (hd : o.dst = d) (hr : Region.ready md ops listed = [i])
    (hrun : (execOp a.eval o).run Try.prog w = .ok (.enter f args) w)
    (hc : Calls Try.prog f args w fun e w' => ∃ v, e = .returned v ∧ S w' ∧ wpAnyH Try.prog md ops Q S fuel (listed.setIfInBounds i true) (a.put d v) w') : wpAnyH Try.prog md ops Q S (fuel + 1) listed a w :=
  wpAnyH_ready hr (by simp) (AllReadyH.cons ho (fun K' hK => by
    rw [if_pos hw]
    unfold Oper.wp
    rw [hrun, Oper.upon_enter]
    refine hc.mono ?_
    rintro e w' ⟨v, rfl, hS, h⟩
    rw [hd]
    exact hK.out _ _ hS (fun _ => h)) AllReadyH.nil)
theorem run_ldM (x : Operand) (hop : o.op = .load 27 x) (g : Nat) (hx : a.eval x = .pointer (some ⟨g, 0, none⟩)) (cs : Array Value) (hg : w.heap[g]? = some (.cells cs 27 (0, 0))) (hs : cs.size = 6) :
    (execOp a.eval o).run Try.prog w = .ok (.value (.agg cs)) w := by
  unfold execOp
  simp only [hop, hx, Instr.loadAt, Instr.sureAddr, Sem.run_bind, Sem.run_pure, Result.andThen_ok, run_loadVar_row w g 27 27 cs (0, 0) _ hg Try.underlying27 rfl (by rw [hs]; kernel_rfl)]
/-- A whole load of a model out of a block that stays. -/
theorem loadH (x : Operand) (d : Option Tmp) (g : Nat) (cs : Array Value) (ho : ops[i]? = some o) (hd : o.dst = d) (hs : Region.noSelect ops = true) (hf : Region.free md ops listed i = true) (hr : (Region.ready md ops listed).contains i = true)
    (hQ : ∀ c a w, Q (.panic c) (a.put d (.agg cs)) w → Q (.panic c) a w) (hS : S w) (hw : Region.wanted o (yielded ops a.tmps) = true) (hop : o.op = .load 27 x) (hx : a.eval x = .pointer (some ⟨g, 0, none⟩)) (hsz : cs.size = 6)
    (hk : ∀ w, S w → w.heap[g]? = some (.cells cs 27 (0, 0)))
    (h : wpAnyH Try.prog md ops Q S fuel (listed.setIfInBounds i true) (a.put d (.agg cs)) w) : wpAnyH Try.prog md ops Q S (fuel + 1) listed a w :=
  takeH d (.agg cs) ho hd hs hf hr hQ hS hw (fun w hw' => run_ldM x hop g hx cs (hk w hw') hsz) h
end
/-- Same of two that read alike, their length under a name of its own. -/
theorem same_n {W : World} {A A' : Option Addr} {c c' lim lim' n : Nat} {L : List Int} (h : LieI W lim A L) (h' : LieI W lim' A' L) (hz : lim ≤ W.heap.size) (hz' : lim' ≤ W.heap.size) (hn : L.length = n) (hl : n ≤ 10000) :
    Calls Try.prog 16 #[.slice A n c, .slice A' n c'] W fun e w' => e = .returned (.bool true) ∧ Below W.heap.size W w' := by
  subst hn
  exact SameI_eq W h h' hz hz' hl
theorem info27 : (Try.prog.info? 27).map (·.size) = some 6 := by kernel_rfl
/-- The law's answer. -/
def Yes (w : World) (e : Ending) (w' : World) : Prop := e = .returned (.bool true) ∧ Below w.heap.size w w'
/-- The box of a model and the model itself, in each world behind. -/
structure Bx (w1 wj : World) (b : Nat) (mv : Array Value) (G : GT) : Prop where
  below : Below w1.heap.size w1 wj
  row : wj.heap[b]? = some (.cells mv 27 (0, 0))
  at_ : ModelAt wj wj.heap.size mv G
theorem Bx.step {w1 wj wk : World} {b : Nat} {mv : Array Value} {G : GT} (h : Bx w1 wj b mv G) (hb : Below wj.heap.size wj wk) : Bx w1 wk b mv G :=
  ⟨onto h.below hb, (hb.block b (row_lt h.row)).trans h.row, (h.at_.stay hb).mono hb.size⟩
theorem Bx.range {w1 wj : World} {b : Nat} {L : List Value} {G : GT} (h : Bx w1 wj b L.toArray G) : wj.rangeAt b 0 L := fun j v e => by
  rw [cell_of_row wj b _ L.toArray 27 (0, 0) h.row]
  simpa using e
theorem Bx.drew {w1 wj : World} {b : Nat} {mv : Array Value} {G : GT} (h : Bx w1 wj b mv G) : Bx w1 wj.drew b mv G :=
  h.step ⟨rfl, rfl, rfl, Nat.le_refl _, fun _ _ => rfl⟩
end Go.Proofs.Ytmbjmibjobpdgaa
namespace Go.Proofs.Ytmbjmibjobpdgaa
end Go.Proofs.Ytmbjmibjobpdgaa
namespace Go.Proofs.Ytmbjmibjobpdgaa
open Go.RowKit

theorem model_nodes {w : World} {lim : Nat} {m0 m1 m2 m3 m4 m5 : Value} {G : GT} (h : ModelAt w lim #[m0, m1, m2, m3, m4, m5] G) : ∃ N nn, m5 = .slice N G.n nn ∧ ∃ ns, RowAt w lim 29 N G.n ns ∧ ∀ i, i < G.n → NodeAt w lim (ns i) (G.d i) := by
  generalize hv : #[m0, m1, m2, m3, m4, m5] = v at h
  cases h with
  | mk lb A a aa B b bb V p pp S q qq N n nn vs ms ns d ha hb hp hq hn hV hvs hS hms hN hns =>
    simp only [modelV, Array.mk.injEq, List.cons.injEq, and_true] at hv
    obtain ⟨_, _, _, _, _, rfl⟩ := hv
    exact ⟨N, nn, rfl, ns, hN, hns⟩
theorem edge_from {G : GT} {e : Edge} (he : e ∈ edgesL G G.n) : ∃ i : Nat, i < G.n ∧ e.1 = (i : Int) ∧ e ∈ outE (G.d i) i := by
  unfold edgesL at he
  obtain ⟨i, hi, he⟩ := List.mem_flatMap.1 he
  exact ⟨i, List.mem_range.1 hi, outE_from he, he⟩
theorem edge_stp {G : GT} {e : Edge} (he : e ∈ edgesL G G.n) {i j : Nat} (h1 : e.1 = (i : Int)) (h2 : e.2.2 = (j : Int)) (hj : j < G.n) : Stp G i j := by
  obtain ⟨i', hi, h3, _⟩ := edge_from he
  have : i' = i := by omega
  subst this
  exact ⟨hi, hj, e, he, h1, h2⟩
theorem domL_mem {G : GT} {r : Int} {t : Nat} {z : Int} : z ∈ domL G r t ↔ ∃ d : Nat, d < G.n ∧ z = (d : Int) ∧ domB G r d t = true := by
  unfold domL domK
  constructor
  · intro h
    obtain ⟨d, hd, rfl⟩ := List.mem_map.1 h
    obtain ⟨h1, h2⟩ := List.mem_filter.1 hd
    exact ⟨d, List.mem_range.1 h1, rfl, h2⟩
  · rintro ⟨d, hd, rfl, h⟩
    exact List.mem_map.2 ⟨d, List.mem_filter.2 ⟨List.mem_range.2 hd, h⟩, rfl⟩
theorem domB_dom {G : GT} {r d t : Nat} (hr : r < G.n) : domB G (r : Int) d t = true ↔ Dom G r d t := by
  have hw : r < (withoutG G (d : Int)).n := hr
  unfold domB Dom
  simp only [Bool.and_eq_true, Bool.or_eq_true, decide_eq_true_eq, beq_iff_eq, Bool.not_eq_true', decide_eq_false_iff_not, comeL_iff hr, comeL_iff hw]
  constructor
  · rintro ⟨a, b, c⟩
    exact ⟨a, b, c.imp (fun h => by omega) (fun c => c.imp (fun h => by omega) id)⟩
  · rintro ⟨a, b, c⟩
    exact ⟨a, b, c.imp (fun h => by omega) (fun c => c.imp (fun h => by omega) id)⟩
theorem domB_out {G : GT} {r : Int} {d t : Nat} (hr : ¬ (0 ≤ r ∧ r < G.n)) : domB G r d t = false := by
  unfold domB comeL
  rw [if_neg hr]
  simp
/-- In a model without loops nobody dominates one that leads to it. -/
theorem dom_no {G : GT} (ha : Acyc G) {r : Int} {i t : Nat} (hs : Stp G i t) : (t : Int) ∉ domL G r i := by
  intro h
  obtain ⟨d, hd, e, hb⟩ := domL_mem.1 h
  have : d = t := by omega
  subst this
  by_cases hr : 0 ≤ r ∧ r < G.n
  · obtain ⟨s, rfl⟩ : ∃ s : Nat, r = (s : Int) := ⟨r.toNat, by omega⟩
    exact dom_back ha hs ((domB_dom (by omega)).1 hb)
  · rw [domB_out hr] at hb
    cases hb
theorem sum_none {out : Nat → Int} {i : Nat} : ∀ (E : List Edge) (x : Int), (∀ e ∈ E, e.1 ≠ (i : Int)) → E.foldl (addE out i) x = x
  | [], _, _ => rfl
  | e :: E, x, h => by
    rw [List.foldl_cons]
    unfold addE
    rw [if_neg (h e (List.mem_cons_self ..))]
    exact sum_none E x fun e' he => h e' (List.mem_cons_of_mem _ he)
/-- A node that nothing leads out of weighs one. -/
theorem weight_one {G : GT} (ha : Acyc G) {i : Nat} (hi : i < G.n) (hc : (G.d i).c = 0) (hk : (G.d i).k < 0) : weightsF G i = 1 := by
  rw [weight_sum ha hi]
  refine sum_none _ _ fun e he h1 => ?_
  obtain ⟨j, hj, h2, h3⟩ := edge_from (List.mem_filter.1 he).1
  have : j = i := by omega
  subst this
  unfold outE at h3
  rw [hc, if_neg (by omega)] at h3
  simp at h3
theorem weight_in (G : GT) (t : Nat) : 0 ≤ weightsF G t ∧ weightsF G t ≤ 1000000000 := outsK_in _ _ _ t
theorem weightsA_yes {G : GT} (h : loopsL G = []) : weightsA G = (List.range G.n).map (weightsF G) := if_pos h
theorem okG_true {G : GT} : okG G = true ↔ loopsL G = [] := by simp [okG]
end Go.Proofs.Ytmbjmibjobpdgaa

/-
  Same of two equal rows of rows of ints.
  The laws' shape: a model of edges alone, out of rows of ints.
  What the document's region answers, in the form in which the landed one's answers are told.
-/
import Derived.Test.YtmbjmibjobpdgaaM19
import Derived.Deep.RegionHeld3
namespace Go.Proofs.Ytmbjmibjobpdgaa
open Go.RowKit

/-- Rows of ints that may be read at a slice. -/
def LieR (w : World) (lim : Nat) (A : Option Addr) (n : Nat) (Ls : Nat → List Int) : Prop :=
  0 < n → ∃ g o, A = some ⟨g, o, none⟩ ∧ g < lim ∧ ∀ t, t < n → ∃ B c, w.cell? ⟨g, o + t, none⟩ = some (.slice B (Ls t).length c) ∧ LieI w lim B (Ls t)
theorem Fam.lie {w : World} {gO n B : Nat} {us : Nat → Value} {Ls : Nat → List Int} (h : Fam w B us Ls n) (hc : CB w 30 gO n us) : LieR w w.heap.size (some ⟨gO, 0, none⟩) n Ls := fun _ =>
  ⟨gO, 0, rfl, hc.lt, fun t ht => by
    obtain ⟨A, c, e, hl⟩ := (h.1 t ht).lie
    refine ⟨A, c, ?_, hl⟩
    rw [Nat.zero_add, hc.cell ht, e]⟩
theorem LieR.keep {w w' : World} {lim : Nat} {A : Option Addr} {n : Nat} {Ls : Nat → List Int} (h : LieR w lim A n Ls) (hw : ∀ g o, g < lim → w'.cell? ⟨g, o, none⟩ = w.cell? ⟨g, o, none⟩) : LieR w' lim A n Ls := fun h0 => by
  obtain ⟨g, o, e, hg, hx⟩ := h h0
  refine ⟨g, o, e, hg, fun t ht => ?_⟩
  obtain ⟨B, c, hc, hl⟩ := hx t ht
  exact ⟨B, c, (hw _ _ hg).trans hc, hl.keep hw⟩
set_option maxHeartbeats 1000000 in
theorem SameR_eq {A A' : Option Addr} {n c c' lim lim' : Nat} {Ls : Nat → List Int} (w : World) (h : LieR w lim A n Ls) (h' : LieR w lim' A' n Ls) (hlm : lim ≤ w.heap.size) (hlm' : lim' ≤ w.heap.size) (hn : n ≤ 1000) (hl : ∀ t, t < n → (Ls t).length ≤ 10000) :
    Calls Try.prog 19 #[.slice A n c, .slice A' n c'] w fun e w' => e = .returned (.bool true) ∧ Below w.heap.size w w' := by
  have HA := Lib.hid h
  have HA' := Lib.hid h'
  have HL := Lib.hid hl
  clear h h' hl
  have hne : ((n : Int) != (n : Int)) = false := by simp
  go_enter Try.func19, Try.ntmps19
  go_wp2_with fail
  go_loopw [5] (fun i wr => ∃ k : Nat, k ≤ n ∧ i = .int .i64 k ∧ Hid (Below w.heap.size w wr)) (fun i _ => n - (intOf i).toNat)
  case atStart => exact ⟨0, Nat.zero_le _, rfl, Lib.hid (Below.refl _ _)⟩
  case round =>
    obtain ⟨k, hk, rfl, hb⟩ := hrel
    by_cases hlt : k < n
    · obtain ⟨g1, o1, rfl, hg1, hc1⟩ := HA.out (by omega)
      obtain ⟨g2, o2, rfl, hg2, hc2⟩ := HA'.out (by omega)
      obtain ⟨B1, e1, x1, l1⟩ := hc1 k hlt
      obtain ⟨B2, e2, x2, l2⟩ := hc2 k hlt
      have d1 := (hb.out.cell (p := ⟨g1, o1 + k, none⟩) (Nat.lt_of_lt_of_le hg1 hlm)).trans x1
      have d2 := (hb.out.cell (p := ⟨g2, o2 + k, none⟩) (Nat.lt_of_lt_of_le hg2 hlm')).trans x2
      have hkp : ∀ wj, Below w.heap.size w wj → Calls Try.prog 16 #[.slice B1 (Ls k).length e1, .slice B2 (Ls k).length e2] wj fun e w' => e = .returned (.bool true) ∧ Below wj.heap.size wj w' := fun wj hj =>
        SameI_eq wj (l1.keep fun g o hg => hj.cell (p := ⟨g, o, none⟩) (Nat.lt_of_lt_of_le hg hlm)) (l2.keep fun g o hg => hj.cell (p := ⟨g, o, none⟩) (Nat.lt_of_lt_of_le hg hlm')) (Nat.le_trans hlm hj.size) (Nat.le_trans hlm' hj.size) (HL.out k hlt)
      have hC := Lib.hid hkp
      clear hc1 hc2 x1 x2 l1 l2 hkp
      have hk0 : (0 : Int) ≤ k := by omega
      have hk1 : (k : Int) < n := by omega
      generalize (Ls k).length = lk at *
      go_wp2_with fail
      go_region_held3 (fun W => W.cell? ⟨g1, o1 + k, none⟩ = some (.slice B1 lk e1) ∧ W.cell? ⟨g2, o2 + k, none⟩ = some (.slice B2 lk e2))
        (first
          | go_keep
          | exact ⟨by rw [hx1.out.cell (p := ⟨g1, o1 + k, none⟩) (Nat.lt_of_lt_of_le (Nat.lt_of_lt_of_le hg1 hlm) hb.out.size)]; assumption, by rw [hx1.out.cell (p := ⟨g2, o2 + k, none⟩) (Nat.lt_of_lt_of_le (Nat.lt_of_lt_of_le hg2 hlm') hb.out.size)]; assumption⟩)
        (first
          | (go_simp; go_at_call 16; (with_reducible refine (hC.out wr.drew (hb.out.trans ⟨rfl, rfl, rfl, Nat.le_refl _, fun _ _ => rfl⟩)).mono ?_); rintro e w6 ⟨rfl, hx⟩; have hx1 := Lib.hid hx; clear hx))
      have hb6 : Hid (Below w.heap.size w w6) := Lib.hid ((hb.out.trans (show Below w.heap.size wr wr.drew from ⟨rfl, rfl, rfl, Nat.le_refl _, fun _ _ => rfl⟩)).trans (hx1.out.mono hb.out.size))
      clear hb hx1 hC d1 d2
      go_wp2_with fail
      go_roundw
      case rel => exact ⟨k + 1, by omega, by go_num, hb6⟩
      case measure => simp [intOf]; omega
    · obtain rfl : k = n := by omega
      go_wp2_with fail
      go_ret
      exact ⟨rfl, hb.out⟩
end Go.Proofs.Ytmbjmibjobpdgaa
namespace Go.Proofs.Ytmbjmibjobpdgaa
open Go.RowKit

/-- Rows of ints of which a model is made. -/
def ShapeAt (w : World) (lim : Nat) (A : Option Addr) (n : Nat) (Bs : Nat → Option Addr) (cs : Nat → Nat) (Ls : Nat → List Int) : Prop :=
  0 < n → ∃ g o, A = some ⟨g, o, none⟩ ∧ g < lim ∧ ∀ t, t < n → w.cell? ⟨g, o + t, none⟩ = some (.slice (Bs t) (Ls t).length (cs t)) ∧ ((Ls t).length ≤ cs t ∧ cs t ≤ maxLen) ∧ LieI w lim (Bs t) (Ls t) ∧ ∀ z ∈ Ls t, Num z
def shapeG (n : Nat) (Ls : Nat → List Int) : GT := ⟨n, fun i => ⟨(Ls i).length, fun j => (Ls i).getD j 0, -1, 0⟩⟩
theorem node_shape {w : World} {lim : Nat} {B : Option Addr} {c : Nat} {L : List Int} (hc : L.length ≤ c ∧ c ≤ maxLen) (hl : LieI w lim B L) (hn : ∀ z ∈ L, Num z) : NodeAt w lim (nodeZ (.slice B L.length c)).toArray ⟨L.length, fun j => L.getD j 0, -1, 0⟩ := by
  refine .mk 0 0 B L.length c none 0 0 _ _ _ _ _ _ _ _ _ _ _ _ _ _ _ _ _ _ _ _ 0 0 (-1) 0 0 (fun j => L.getD j 0) (fun _ => #[]) (fun _ => .bad) _ _ hc (fun h0 => ?_) (fun j hj => ?_) (by unfold maxLen; omega) (fun h => absurd h (by omega)) (fun i h => absurd h (by omega)) (eval_zero w _) (eval_zero w _) (by unfold Num; omega) (by unfold Num; omega)
  · obtain ⟨g, o, ea, hg, hx⟩ := hl h0
    refine ⟨g, o, ea, hg, fun j hj => ?_⟩
    rw [hx j hj]
    simp [List.getD_eq_getElem?_getD, List.getElem?_eq_getElem hj]
  · have : L.getD j 0 ∈ L := by
      simp [List.getD_eq_getElem?_getD, List.getElem?_eq_getElem hj]
    exact hn _ this
theorem model_shape {w : World} {B n : Nat} {v : Value} {Bs : Nat → Option Addr} {cs : Nat → Nat} {Ls : Nat → List Int} {lim : Nat} (hO : w.ownsRow B 58 29 v n ((List.range n).flatMap fun j => nodeZ (.slice (Bs j) (Ls j).length (cs j))))
    (hl : ∀ t, t < n → ((Ls t).length ≤ cs t ∧ cs t ≤ maxLen) ∧ LieI w lim (Bs t) (Ls t) ∧ ∀ z ∈ Ls t, Num z) (hlim : lim ≤ w.heap.size) : ∃ Av cv, v = .slice Av n cv ∧ ModelAt w w.heap.size (modelV 0 none 0 0 none 0 0 none 0 0 none 0 0 Av n cv) (shapeG n Ls) := by
  have hca : ∃ A ca, v = .slice A n ca ∧ (n ≤ ca ∧ ca ≤ maxLen) ∧ RowAt w w.heap.size 29 A n (fun i => (nodeZ (.slice (Bs i) (Ls i).length (cs i))).toArray) := by
    rcases hO.2 with ⟨e, e0⟩ | ⟨g, cap, cur, e, _, hh, k1, k2, k3, k4⟩
    · exact ⟨none, 0, by rw [e, e0], by unfold maxLen; omega, fun h => by omega⟩
    · refine ⟨_, cap, e, ⟨k1, k2⟩, fun _ => ⟨g, 0, rfl, row_lt hh, fun i hi j hj => ?_⟩⟩
      rw [Nat.zero_add, cell_of_row w g _ cur 58 (0, 0) hh, ← Array.getElem?_toList]
      have e : (cur.toList.take (n * 29))[i * 29 + j]? = (nodeZ (.slice (Bs i) (Ls i).length (cs i)))[j]? := by
        rw [k4]
        exact flat_at (fun _ => rfl) hi hj
      have hlt : i * 29 + j < n * 29 := by omega
      rw [List.getElem?_take, if_pos hlt] at e
      rw [e]
      simp
  obtain ⟨A, ca, rfl, hca, hrow⟩ := hca
  refine ⟨A, ca, rfl, .mk 0 none 0 0 none 0 0 none 0 0 none 0 0 A n ca (fun _ => #[]) (fun _ => #[]) _ _ (by unfold maxLen; omega) (by unfold maxLen; omega) (by unfold maxLen; omega) (by unfold maxLen; omega) hca (fun h => absurd h (by omega)) (fun i h => absurd h (by omega)) (fun h => absurd h (by omega)) (fun i h => absurd h (by omega)) hrow (fun i hi => ?_)⟩
  obtain ⟨h1, h2, h3⟩ := hl i hi
  exact (node_shape h1 h2 h3).mono hlim
theorem results_modelAt {fn : Func} {t : Nat} (h : fn.results = #[.cell t 27]) (tmps : Array Value) (w : World) (R : Nat) (cs : Array Value)
    (hp : tmps.getD t undef = .pointer (some ⟨R, 0, none⟩)) (hg : w.heap[R]? = some (.cells cs 27 (0, 0))) (hs : cs.size = 6) :
    (results fn tmps).run Try.prog w = .ok (.agg cs) w := by
  have hp' : tmps[t]?.getD undef = .pointer (some ⟨R, 0, none⟩) := by simpa using hp
  simp [results, h, hp', asAddr, run_loadVar_row w R 27 27 cs (0, 0) _ hg Try.underlying27 rfl (by rw [hs]; kernel_rfl)]
set_option maxRecDepth 20000 in
set_option maxHeartbeats 4000000 in
theorem shape_any {A : Option Addr} {n c lim : Nat} {Bs : Nat → Option Addr} {cs : Nat → Nat} {Ls : Nat → List Int} (w : World) (h : ShapeAt w lim A n Bs cs Ls) (hlm : lim ≤ w.heap.size) (hn : n ≤ 100) :
    Calls Try.prog 24 #[.slice A n c] w fun e w' => ∃ Av cv, e = .returned (.agg #[.int .i64 0, .slice none 0 0, .slice none 0 0, .slice none 0 0, .slice none 0 0, .slice Av n cv]) ∧ ModelAt w' w'.heap.size #[.int .i64 0, .slice none 0 0, .slice none 0 0, .slice none 0 0, .slice none 0 0, .slice Av n cv] (shapeG n Ls) ∧ Below w.heap.size w w' := by
  have HA := Lib.hid h
  clear h
  obtain ⟨b0, hb0⟩ : ∃ b0, b0 = w.heap.size := ⟨_, rfl⟩
  have HB0 := Lib.hid hb0
  have hX : Hid (Below w.heap.size w ((w.alloc (.cells #[.int .i64 0, .slice none 0 0, .slice none 0 0, .slice none 0 0, .slice none 0 0, .slice none 0 0] 27)).alloc (.cells #[.int .i64 0, .slice none 0 0, .slice none 0 0, .slice none 0 0, .slice none 0 0, .slice none 0 0] 27))) := Lib.hid (((Below.refl _ _).alloc (Nat.le_refl _) _).alloc (by simp) _)
  have hby : Hid (((w.alloc (.cells #[.int .i64 0, .slice none 0 0, .slice none 0 0, .slice none 0 0, .slice none 0 0, .slice none 0 0] 27)).alloc (.cells #[.int .i64 0, .slice none 0 0, .slice none 0 0, .slice none 0 0, .slice none 0 0, .slice none 0 0] 27)).heap[w.heap.size]? = some (.cells #[.int .i64 0, .slice none 0 0, .slice none 0 0, .slice none 0 0, .slice none 0 0, .slice none 0 0] 27 (0, 0))) := Lib.hid (by
    rw [Below.heap_alloc _ _ _ (by simp)]
    exact heap_alloc_new w _)
  have hbz : Hid (((w.alloc (.cells #[.int .i64 0, .slice none 0 0, .slice none 0 0, .slice none 0 0, .slice none 0 0, .slice none 0 0] 27)).alloc (.cells #[.int .i64 0, .slice none 0 0, .slice none 0 0, .slice none 0 0, .slice none 0 0, .slice none 0 0] 27)).heap[w.heap.size + 1]? = some (.cells #[.int .i64 0, .slice none 0 0, .slice none 0 0, .slice none 0 0, .slice none 0 0, .slice none 0 0] 27 (0, 0))) := Lib.hid (by
    have := heap_alloc_new (w.alloc (.cells #[.int .i64 0, .slice none 0 0, .slice none 0 0, .slice none 0 0, .slice none 0 0, .slice none 0 0] 27)) (.cells #[.int .i64 0, .slice none 0 0, .slice none 0 0, .slice none 0 0, .slice none 0 0, .slice none 0 0] 27)
    simpa using this)
  go_enter Try.func24, Try.ntmps24
  go_wp2_with fail
  generalize (w.alloc (.cells #[.int .i64 0, .slice none 0 0, .slice none 0 0, .slice none 0 0, .slice none 0 0, .slice none 0 0] 27)).alloc (.cells #[.int .i64 0, .slice none 0 0, .slice none 0 0, .slice none 0 0, .slice none 0 0, .slice none 0 0] 27) = W2 at *
  rw [← hb0] at hby hbz ⊢
  clear hb0
  go_loopw [8] (fun iv wr => ∃ (i : Nat) (v : Value), i ≤ n ∧ iv = .int .i64 i ∧ Hid (Below w.heap.size w wr) ∧ Hid (wr.heap[b0]? = some (.cells #[.int .i64 0, .slice none 0 0, .slice none 0 0, .slice none 0 0, .slice none 0 0, .slice none 0 0] 27 (0, 0))) ∧ Hid (wr.heap[b0 + 1]? = some (.cells #[.int .i64 0, .slice none 0 0, .slice none 0 0, .slice none 0 0, .slice none 0 0, v] 27 (0, 0))) ∧
      Hid (wr.ownsRow (b0 + 2) 58 29 v i ((List.range i).flatMap fun j => nodeZ (.slice (Bs j) (Ls j).length (cs j))))) (fun iv _ => n - (intOf iv).toNat)
  case atStart => exact ⟨0, .slice none 0 0, Nat.zero_le _, rfl, hX, hby, hbz, Lib.hid (World.ownsRow_nil _ _ 58 29)⟩
  case round =>
    clear hX hby hbz
    obtain ⟨i, v, hi, rfl, hB, hby, hbz, hO⟩ := hrel
    by_cases hin : i < n
    · obtain ⟨g, o, rfl, hg, hx⟩ := HA.out (by omega)
      obtain ⟨c1, _, _, _⟩ := hx i hin
      have cg := (hB.out.cell (p := ⟨g, o + i, none⟩) (Nat.lt_of_lt_of_le hg hlm)).trans c1
      clear hx c1
      have hfl : Hid (((List.range (i + 1)).flatMap fun j => nodeZ (.slice (Bs j) (Ls j).length (cs j))) = ((List.range i).flatMap fun j => nodeZ (.slice (Bs j) (Ls j).length (cs j))) ++ nodeZ (.slice (Bs i) (Ls i).length (cs i))) := Lib.hid (by
        rw [List.range_succ, List.flatMap_append]; simp)
      generalize (List.range i).flatMap (fun j => nodeZ (.slice (Bs j) (Ls j).length (cs j))) = P at *
      generalize (Ls i).length = ll at *
      obtain ⟨L, hL⟩ : ∃ L, L = nodeZ (.slice (Bs i) ll (cs i)) := ⟨_, rfl⟩
      have hbt : Hid (Try.prog.built 58 [(2, .slice (Bs i) ll (cs i)), (8, .int .i64 (-1))] = some L.toArray) := Lib.hid (by rw [hL]; kernel_rfl)
      have hL29 : Hid (L.length = 29) := Lib.hid (by rw [hL]; rfl)
      have hnz : Hid (∀ v ∈ L, v.oneCell' = true) := Lib.hid (by rw [hL]; exact nodeZ_one rfl)
      rw [← hL] at hfl
      clear hL
      have cz : wr.cell? ⟨b0 + 1, 5, none⟩ = some v := by rw [cell_of_row wr _ 5 _ 27 (0, 0) hbz.out]; rfl
      obtain ⟨i0, hii, hz00, hz01, hz02⟩ := info_parts info58'
      go_wp2_with (first | (refine wpList_buildTo rfl 58 #[(2, .tmp 14), (8, .const (.int .i64 (-1)))] rfl (some 15) rfl L.toArray (by simpa [Act.eval] using hbt.out) ?_; refine Hid.out ?_) | fail)
      refine Lib.hid ?_
      refine bs58 rfl (.tmp 15) rfl L rfl hL29.out ?_
      have hOa : Hid ((wr.alloc (.cells L.toArray 58)).ownsRow (b0 + 2) 58 29 v i P) := Lib.hid (World.ownsRow.alloc hO.out _)
      have hnew := Lib.hid (World.news_of_block (heap_alloc_new wr (.cells L.toArray 58)))
      have hszb : Hid (b0 + 2 ≤ (wr.alloc (.cells L.toArray 58)).heap.size) := Lib.hid (by have := row_lt hbz.out; simp; omega)
      refine wpList_append_own _ rfl (.tmp 13) (.tmp 16) 25 rfl (b0 + 2) 58 i0 _ 29 424 Try.underlying25 hii hz00 hz01 hz02 rfl (by omega) v i _ rfl hOa.out ⟨wr.heap.size, 0, none⟩ 1 1 L rfl (by rw [hL29.out]) ?_ hnz.out (by unfold maxLen; omega) (by omega) hszb.out ?_
      · exact hnew.out
      intro v' w9 ho9 hg9 _
      obtain ⟨A9, c9, rfl⟩ : ∃ A9 c9, v' = .slice A9 (i + 1) c9 := by
        rcases ho9.2 with ⟨e, e0⟩ | ⟨g9, cap, cur, e, _⟩
        · exact ⟨none, 0, by rw [e, e0]⟩
        · exact ⟨_, cap, e⟩
      have hal := fun (b : Nat) (hb : b < wr.heap.size) => Below.heap_alloc wr (.cells L.toArray 58) b hb
      have k2 : (wr.alloc (.cells L.toArray 58)).heap[b0 + 1]? = some (.cells #[.int .i64 0, .slice none 0 0, .slice none 0 0, .slice none 0 0, .slice none 0 0, v] 27 (0, 0)) := (hal _ (row_lt hbz.out)).trans hbz.out
      have k1 : (wr.alloc (.cells L.toArray 58)).heap[b0]? = some (.cells #[.int .i64 0, .slice none 0 0, .slice none 0 0, .slice none 0 0, .slice none 0 0, .slice none 0 0] 27 (0, 0)) := (hal _ (row_lt hby.out)).trans hby.out
      have m2 := (hg9.block _ (row_lt k2) (own_ne hOa.out k2 (by decide))).trans k2
      have m1 := (hg9.block _ (row_lt k1) (own_ne hOa.out k1 (by decide))).trans k1
      have q5 : w9.cell? ⟨b0 + 1, 5, none⟩ = some v := by rw [cell_of_row w9 _ 5 _ 27 (0, 0) m2]; rfl
      have q6 : w9.frozen? ⟨b0 + 1, 5, none⟩ = false := frozen_of_heap m2 5
      have hF2 : Hid ((w9.setCell ⟨b0 + 1, 5, none⟩ (.slice A9 (i + 1) c9)).heap[b0 + 1]? = some (.cells #[.int .i64 0, .slice none 0 0, .slice none 0 0, .slice none 0 0, .slice none 0 0, .slice A9 (i + 1) c9] 27 (0, 0))) := Lib.hid (heap_set m2 5 _)
      have hF1 : Hid ((w9.setCell ⟨b0 + 1, 5, none⟩ (.slice A9 (i + 1) c9)).heap[b0]? = some (.cells #[.int .i64 0, .slice none 0 0, .slice none 0 0, .slice none 0 0, .slice none 0 0, .slice none 0 0] 27 (0, 0))) := Lib.hid ((Below.heap_setCell _ _ _ _ (by show b0 ≠ b0 + 1; omega)).trans m1)
      have hFO : Hid ((w9.setCell ⟨b0 + 1, 5, none⟩ (.slice A9 (i + 1) c9)).ownsRow (b0 + 2) 58 29 (.slice A9 (i + 1) c9) (i + 1) ((List.range (i + 1)).flatMap fun j => nodeZ (.slice (Bs j) (Ls j).length (cs j)))) := Lib.hid (by
        rw [hfl.out]
        exact own_kept ho9 m2 (by decide) (grown_set w9 _ 5 _))
      have hFB : Hid (Below w.heap.size w (w9.setCell ⟨b0 + 1, 5, none⟩ (.slice A9 (i + 1) c9))) := Lib.hid (by
        have h1 := (hB.out.alloc hB.out.size (.cells L.toArray 58)).grown hg9 (by have := hB.out.size; simp; omega) (fun k e => by have := (World.ownsRow.lt hOa.out k e).1; have := HB0.out; omega)
        exact h1.grown (grown_set w9 _ 5 _) (by have := h1.size; exact this) (fun k e => by cases e; have := HB0.out; omega))
      clear ho9 hg9 hOa hal k1 k2 m1 m2 cz hnew hnz hszb hL29 hB hby hbz hO hfl hbt cg
      go_wp2_with fail
      go_roundw
      case rel => exact ⟨i + 1, .slice A9 (i + 1) c9, by omega, by go_num, hFB, hF1, hF2, hFO⟩
      case measure => simp [intOf]; omega
    · have hie : Hid (i = n) := Lib.hid (by omega)
      obtain ⟨fs, hfs⟩ : ∃ fs : Value → Array Value, fs = fun u => #[.int .i64 0, .slice none 0 0, .slice none 0 0, .slice none 0 0, .slice none 0 0, u] := ⟨_, rfl⟩
      have HFS := Lib.hid hfs
      have hci : Hid (∀ u, (Try.prog.info? 27).map (·.size) = some (fs u).size) := Lib.hid (fun u => by rw [hfs]; kernel_rfl)
      have hco : Hid (∀ A9 n9 c9, (fs (.slice A9 n9 c9)).all (·.oneCell') = true) := Lib.hid (fun A9 n9 c9 => by rw [hfs]; kernel_rfl)
      have hcz : Hid (∀ u, (6 : Nat) = (fs u).size) := Lib.hid (fun u => by rw [hfs]; rfl)
      have hcv : Hid (∀ u, Value.agg #[.int .i64 0, .slice none 0 0, .slice none 0 0, .slice none 0 0, .slice none 0 0, u] = .agg (fs u)) := Lib.hid (fun u => by rw [hfs])
      have hgs : Hid (wr.grownBy (wr.setRow b0 (fs v)) (some b0)) := Lib.hid ⟨rfl, rfl, rfl, by simp, fun k _ hne => setRow_other wr _ k _ (by intro e; exact hne (by rw [e]))⟩
      have hBF : Hid (Below w.heap.size w (wr.setRow b0 (fs v))) := Lib.hid (hB.out.grown hgs.out hB.out.size (fun k e => by cases e; have := HB0.out; omega))
      have hmade := Lib.hid (model_shape (own_kept hO.out hby.out (by decide) hgs.out) (fun t ht => by
        obtain ⟨g, o, _, hg, hx⟩ := HA.out (by have := hie.out; omega)
        obtain ⟨_, h1, h2, h3⟩ := hx t (by have := hie.out; omega)
        exact ⟨h1, h2.keep fun g o hg => hBF.out.cell (p := ⟨g, o, none⟩) (Nat.lt_of_lt_of_le hg hlm), h3⟩) (Nat.le_trans hlm hBF.out.size))
      have hfin : Hid ((wr.setRow b0 (fs v)).heap[b0]? = some (.cells (fs v) 27 (0, 0))) := Lib.hid (setRow_heap wr _ _ _ _ _ hby.out)
      obtain ⟨Av, cv, hvv, hMM⟩ := hmade.out
      subst hvv
      have hMH : Hid (ModelAt (wr.setRow b0 (fs (.slice Av i cv))) (wr.setRow b0 (fs (.slice Av i cv))).heap.size (modelV 0 none 0 0 none 0 0 none 0 0 none 0 0 Av i cv) (shapeG n Ls)) := Lib.hid (by rw [← hie.out]; exact hMM)
      clear hMM hmade hO hfs hgs
      have z0 : wr.cell? ⟨b0 + 1, 0, none⟩ = some (.int .i64 0) := by rw [cell_of_row wr _ 0 _ 27 (0, 0) hbz.out]; rfl
      have z1 : wr.cell? ⟨b0 + 1, 1, none⟩ = some (.slice none 0 0) := by rw [cell_of_row wr _ 1 _ 27 (0, 0) hbz.out]; rfl
      have z2 : wr.cell? ⟨b0 + 1, 2, none⟩ = some (.slice none 0 0) := by rw [cell_of_row wr _ 2 _ 27 (0, 0) hbz.out]; rfl
      have z3 : wr.cell? ⟨b0 + 1, 3, none⟩ = some (.slice none 0 0) := by rw [cell_of_row wr _ 3 _ 27 (0, 0) hbz.out]; rfl
      have z4 : wr.cell? ⟨b0 + 1, 4, none⟩ = some (.slice none 0 0) := by rw [cell_of_row wr _ 4 _ 27 (0, 0) hbz.out]; rfl
      have z5 : wr.cell? ⟨b0 + 1, 5, none⟩ = some (.slice Av i cv) := by rw [cell_of_row wr _ 5 _ 27 (0, 0) hbz.out]; rfl
      go_wp2_with (first | (refine wpList_store_row rfl 27 (.tmp 2) (.tmp 20) rfl b0 (fs (.slice Av i cv)) rfl (hcv.out _) 27 _ hby.out (hci.out _) (hcz.out _) (hco.out _ _ _) ?_; refine Hid.out ?_) | fail)
      refine Lib.hid ?_
      generalize wr.setRow b0 (fs (.slice Av i cv)) = wF at *
      go_wp2_with fail
      exact bodyPost_ret (results_modelAt rfl _ _ b0 (fs (.slice Av i cv)) rfl hfin.out (by rw [HFS.out]; rfl)) rfl ⟨Av, cv, by rw [HFS.out, hie.out], by have h := hMH.out; rw [hie.out] at h; exact h, hBF.out⟩
end Go.Proofs.Ytmbjmibjobpdgaa
namespace Go.Proofs.Ytmbjmibjobpdgaa
open Go.RowKit

/-- It answered a list that reads so. -/
def SaysI (w : World) (L : List Int) (e : Ending) (w' : World) : Prop := ∃ A c, e = .returned (.slice A L.length c) ∧ LieI w' w'.heap.size A L ∧ Below w.heap.size w w'
/-- It answered a list that reads so, in new memory. -/
def SaysF (w : World) (L : List Int) (e : Ending) (w' : World) : Prop := ∃ A c, e = .returned (.slice A L.length c) ∧ LieI w' w'.heap.size A L ∧ Below w.heap.size w w' ∧ (0 < L.length → ∃ g o, A = some ⟨g, o, none⟩ ∧ w.heap.size ≤ g)
/-- It answered a list that reads so, and whether it is one. -/
def SaysT (w : World) (L : List Int) (b : Bool) (e : Ending) (w' : World) : Prop := ∃ A c, e = .returned (.tuple #[.slice A L.length c, .bool b]) ∧ LieI w' w'.heap.size A L ∧ Below w.heap.size w w'
def SaysN (w : World) (x : Int) (b : Bool) (e : Ending) (w' : World) : Prop := e = .returned (.tuple #[.int .i64 x, .bool b]) ∧ Below w.heap.size w w'
def SaysE (w : World) (L : List Edge) (e : Ending) (w' : World) : Prop := ∃ A c, e = .returned (.slice A L.length c) ∧ LieE w' w'.heap.size A L ∧ Below w.heap.size w w'
def SaysR (w : World) (n : Nat) (Ls : Nat → List Int) (e : Ending) (w' : World) : Prop := ∃ A c, e = .returned (.slice A n c) ∧ LieR w' w'.heap.size A n Ls ∧ Below w.heap.size w w'
def okG (G : GT) : Bool := decide (loopsL G = [])
def orderA (G : GT) : List Int := if loopsL G = [] then orderL G else []
def weightsA (G : GT) : List Int := if loopsL G = [] then (List.range G.n).map (weightsF G) else []
def longestA (G : GT) : Int := if loopsL G = [] then longestI G else 0
theorem LieI.nil (w : World) (lim : Nat) (A : Option Addr) : LieI w lim A [] := fun h => absurd h (by simp)
theorem CB.lieI {w : World} {g n : Nat} {f : Nat → Int} (h : CB w 3 g n (fun i => .int .i64 (f i))) : LieI w w.heap.size (some ⟨g, 0, none⟩) ((List.range n).map f) := fun _ =>
  ⟨g, 0, rfl, h.lt, fun i hi => by
    rw [Nat.zero_add, h.cell (by simpa using hi)]
    simp⟩
section
variable {mv : Array Value} {G : GT}
theorem loops_cases (G : GT) : loopsL G = [] ∨ (0 < (loopsL G).length ∧ loopsL G ≠ []) := by
  cases h : loopsL G with
  | nil => exact .inl rfl
  | cons a l => exact .inr ⟨by simp, by simp⟩
theorem DOrder (w : World) (h : ModelAt w w.heap.size mv G) (hf : fewB G) : Calls Try.prog 11 #[.agg mv] w (SaysT w (orderA G) (okG G)) := by
  rcases loops_cases G with hl | ⟨hl, hn⟩
  · refine (ROrder_yes w h hf hl).mono ?_
    rintro e w' ⟨v, rfl, ho, hb⟩
    obtain ⟨A, c, e, hlie⟩ := ho.lie
    unfold orderA okG
    rw [if_pos hl, decide_eq_true hl]
    exact ⟨A, c, by rw [e], hlie, hb⟩
  · refine (ROrder_no w h hf hl).mono ?_
    rintro e w' ⟨rfl, hb⟩
    unfold orderA okG
    rw [if_neg hn, decide_eq_false hn]
    exact ⟨none, 0, rfl, LieI.nil _ _ _, hb⟩
theorem DWeights (w : World) (h : ModelAt w w.heap.size mv G) (hf : fewB G) : Calls Try.prog 13 #[.agg mv] w (SaysT w (weightsA G) (okG G)) := by
  rcases loops_cases G with hl | ⟨hl, hn⟩
  · refine (RWeights_yes w h hf hl).mono ?_
    rintro e w' ⟨g, rfl, hg, hc, hb⟩
    unfold weightsA okG
    rw [if_pos hl, decide_eq_true hl]
    exact ⟨some ⟨g, 0, none⟩, G.n, by simp, hc.lieI, hb⟩
  · refine (RWeights_no w h hf hl).mono ?_
    rintro e w' ⟨rfl, hb⟩
    unfold weightsA okG
    rw [if_neg hn, decide_eq_false hn]
    exact ⟨none, 0, rfl, LieI.nil _ _ _, hb⟩
theorem DLongest (w : World) (h : ModelAt w w.heap.size mv G) (hf : fewB G) : Calls Try.prog 15 #[.agg mv] w (SaysN w (longestA G) (okG G)) := by
  rcases loops_cases G with hl | ⟨hl, hn⟩
  · refine (RLongest_yes w h hf hl).mono ?_
    rintro e w' ⟨rfl, hb⟩
    unfold longestA okG
    rw [if_pos hl, decide_eq_true hl]
    exact ⟨rfl, hb⟩
  · refine (RLongest_no w h hf hl).mono ?_
    rintro e w' ⟨rfl, hb⟩
    unfold longestA okG
    rw [if_neg hn, decide_eq_false hn]
    exact ⟨rfl, hb⟩
theorem OwnI.says {w w' : World} {v : Value} {B : Nat} {L : List Int} (ho : OwnI w' B v L) (hb : Below w.heap.size w w') : SaysI w L (.returned v) w' := by
  obtain ⟨A, c, e, hl⟩ := ho.lie
  exact ⟨A, c, by rw [e], hl, hb⟩
theorem DLoops (w : World) (h : ModelAt w w.heap.size mv G) (hf : fewB G) : Calls Try.prog 18 #[.agg mv] w (SaysI w (loopsL G)) :=
  (RLoops_any w h hf).mono fun _ _ ⟨_, he, ho, hb⟩ => by rw [he]; exact ho.says hb
theorem DReach (w : World) (a : Int) (h : ModelAt w w.heap.size mv G) (hf : fewB G) : Calls Try.prog 36 #[.agg mv, .int .i64 a] w (SaysF w (reachL G a)) :=
  (RReach_any w a h hf).mono fun _ _ ⟨_, he, ho, hb⟩ => by
    obtain ⟨A, c, e, hl, hb⟩ := ho.says hb
    rw [he, e]
    injection e with e
    refine ⟨A, c, rfl, hl, hb, fun h0 => ?_⟩
    rcases ho.2 with ⟨_, h1⟩ | ⟨g, cap, _, e1, hg, _⟩
    · omega
    · rw [e] at e1
      injection e1 with e1
      exact ⟨g, 0, e1, hg⟩
theorem DEdges (w : World) (h : ModelAt w w.heap.size mv G) (hf : fewB G) : Calls Try.prog 62 #[.agg mv] w (SaysE w (edgesL G G.n)) :=
  (REdges_any w h hf).mono fun _ _ ⟨_, he, ho, hb⟩ => by
    obtain ⟨A, c, e, hl⟩ := ho.lie
    rw [he]
    exact ⟨A, c, by rw [e], hl, hb⟩
theorem DDominators (w : World) (r : Int) (h : ModelAt w w.heap.size mv G) (hf : fewB G) : Calls Try.prog 21 #[.agg mv, .int .i64 r] w (SaysR w G.n (domL G r)) :=
  (RDominators_any w r h hf).mono fun _ _ ⟨_, _, he, _, hc, ho, hb⟩ => by
    rw [he]
    exact ⟨_, _, rfl, ho.lie hc, hb⟩
theorem model_boxed {w : World} (h : ModelAt w w.heap.size mv G) : ∃ ml : Nat → Value, mv = #[ml 0, ml 1, ml 2, ml 3, ml 4, ml 5] ∧ ModelAt (w.alloc (.cells mv 27)) (w.alloc (.cells mv 27)).heap.size mv G ∧ Below w.heap.size w (w.alloc (.cells mv 27)) ∧ (w.alloc (.cells mv 27)).heap[w.heap.size]? = some (.cells mv 27 (0, 0)) := by
  have hb : Below w.heap.size w (w.alloc (.cells mv 27)) := (Below.refl _ _).alloc (Nat.le_refl _) _
  refine ⟨fun j => mv.getD j undef, ?_, (h.stay hb).mono hb.size, hb, heap_alloc_new w _⟩
  cases h
  rfl
end
end Go.Proofs.Ytmbjmibjobpdgaa

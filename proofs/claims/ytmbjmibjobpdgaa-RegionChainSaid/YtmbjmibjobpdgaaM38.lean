/-
  The landed graphOf.
-/
import Derived.Test.YtmbjmibjobpdgaaM37
import Derived.Test.YtmbjmibjobpdgaaM21
import Derived.Test.YtmbjmibjobpdgaaM20
import Derived.Deep.RegionHeld3
namespace Go.Proofs.Ytmbjmibjobpdgaa
open Go.RowKit

/-- Three blocks, one behind the other. -/
theorem three (W : World) (P Q R : Obj) : ((((W.alloc P).alloc Q).alloc R).heap[W.heap.size]? = some P ∧ (((W.alloc P).alloc Q).alloc R).heap[W.heap.size + 1]? = some Q ∧ (((W.alloc P).alloc Q).alloc R).heap[W.heap.size + 2]? = some R) ∧ Below W.heap.size W (((W.alloc P).alloc Q).alloc R) := by
  have s1 : (W.alloc P).heap.size = W.heap.size + 1 := by simp
  have s2 : ((W.alloc P).alloc Q).heap.size = W.heap.size + 2 := by simp
  have b1 : Below (W.alloc P).heap.size (W.alloc P) ((W.alloc P).alloc Q) := (Below.refl _ _).alloc (Nat.le_refl _) _
  have b2 : Below ((W.alloc P).alloc Q).heap.size ((W.alloc P).alloc Q) (((W.alloc P).alloc Q).alloc R) := (Below.refl _ _).alloc (Nat.le_refl _) _
  refine ⟨⟨?_, ?_, ?_⟩, ?_⟩
  · rw [b2.block _ (by omega), b1.block _ (by omega)]; exact heap_alloc_new W P
  · rw [b2.block _ (by omega), ← s1]; exact heap_alloc_new _ Q
  · rw [← s2]; exact heap_alloc_new _ R
  · exact (((Below.refl _ W).alloc (Nat.le_refl _) P).trans (b1.mono (by omega))).trans (b2.mono (by omega))
/-- Both blocks of rows and the box over them, as they are made. -/
structure In0 (w1 W : World) (gO gI b3 n : Nat) : Prop where
  o : CB W 30 gO n (fun _ => .slice none 0 0)
  i : CB W 30 gI n (fun _ => .slice none 0 0)
  b : W.heap[b3]? = some (.cells #[.slice (some ⟨gO, 0, none⟩) n n, .slice (some ⟨gI, 0, none⟩) n n] 71 (0, 0))
  ne : gO ≠ gI
  le : w1.heap.size ≤ gO ∧ w1.heap.size ≤ gI ∧ w1.heap.size ≤ b3
  bl : Below w1.heap.size w1 W
/-- What the making region keeps. -/
def Kp1 (L b1 : Nat) (v : Value) (W1 W : World) : Prop := W.cell? ⟨b1, 5, none⟩ = some v ∧ Below L W1 W
section
variable {L b1 : Nat} {v : Value} {W1 W : World}
theorem Kp1.alloc (hb : b1 < L) (hL : L ≤ W1.heap.size) (h : W.drew.cell? ⟨b1, 5, none⟩ = some v ∧ Below L W1 W.drew) (o : Obj) : (W.alloc o).drew.cell? ⟨b1, 5, none⟩ = some v ∧ Below L W1 (W.alloc o).drew := by
  have hs : L ≤ W.heap.size := Nat.le_trans hL h.2.size
  have hb2 : Below L W.drew (W.alloc o).drew := ⟨rfl, rfl, rfl, by show W.heap.size ≤ (W.alloc o).heap.size; simp, fun k hk => ((Below.refl L W).alloc hs o).block k hk⟩
  exact ⟨(hb2.cell (p := ⟨b1, 5, none⟩) hb).trans h.1, h.2.trans hb2⟩
theorem Kp1.set (hb : b1 < L) {b3 : Nat} (hL : L ≤ b3) (h : W.cell? ⟨b1, 5, none⟩ = some v ∧ Below L W1 W) (x y : Value) : ((W.setCell ⟨b3, 0, none⟩ x).setCell ⟨b3, 1, none⟩ y).cell? ⟨b1, 5, none⟩ = some v ∧ Below L W1 ((W.setCell ⟨b3, 0, none⟩ x).setCell ⟨b3, 1, none⟩ y) := by
  have hb2 : Below L W ((W.setCell ⟨b3, 0, none⟩ x).setCell ⟨b3, 1, none⟩ y) := below_set2 (Below.refl _ _) hL _ _
  exact ⟨(hb2.cell (p := ⟨b1, 5, none⟩) hb).trans h.1, h.2.trans hb2⟩
end
theorem OwnE.lieB {w : World} {B : Nat} {v : Value} {E : List Edge} (h : OwnE w B v E) : ∃ A c, v = .slice A E.length c ∧ (0 < E.length → ∃ g, A = some ⟨g, 0, none⟩ ∧ B ≤ g ∧ g < w.heap.size ∧ ∀ i (h : i < E.length), w.cell? ⟨g, i * 3, none⟩ = some (.int .i64 E[i].1) ∧ w.cell? ⟨g, i * 3 + 1, none⟩ = some (.int .i64 E[i].2.1) ∧ w.cell? ⟨g, i * 3 + 2, none⟩ = some (.int .i64 E[i].2.2)) := by
  obtain ⟨A, c, e, hl⟩ := h.lie
  refine ⟨A, c, e, fun h0 => ?_⟩
  obtain ⟨g, o, e1, hg, hx⟩ := hl h0
  rcases id h.2 with ⟨_, h1⟩ | ⟨g', cap, cur, e2, hb, _⟩
  · omega
  · rw [e] at e2
    injection e2 with e2
    rw [e1] at e2
    injection e2 with e2
    injection e2 with e2 e3
    subst e2
    subst e3
    refine ⟨g, e1, hb, hg, fun i hi => ?_⟩
    have := hx i hi
    rwa [Nat.zero_add] at this
theorem cb_of {W : World} {g n : Nat} (h : W.heap[g]? = some (.cells (madeCells #[.slice none 0 0] n) 30 (0, 0))) : CB W 30 g n (fun _ => .slice none 0 0) := by
  refine ⟨_, h, by rw [size_madeCells]; exact Nat.le_refl _, fun i hi => ?_⟩
  have hlt : i < (madeCells #[.slice none 0 0] n).size := by rw [size_madeCells]; exact hi
  rw [Array.getElem?_eq_getElem hlt]
  simp [madeCells, Nat.mod_one]
theorem in0_1 {W1 : World} {h n : Nat} (hs : W1.heap.size = h) : In0 W1 (((W1.alloc (.cells (madeCells #[.slice none 0 0] n) 30)).alloc (.cells (madeCells #[.slice none 0 0] n) 30)).alloc (.cells #[.slice (some ⟨h, 0, none⟩) n n, .slice (some ⟨h + 1, 0, none⟩) n n] 71)).drew (h) (h + 1) (h + 1 + 1) n := by
  obtain ⟨⟨a, b, c⟩, d⟩ := three W1 (.cells (madeCells #[.slice none 0 0] n) 30) (.cells (madeCells #[.slice none 0 0] n) 30) (.cells #[.slice (some ⟨h, 0, none⟩) n n, .slice (some ⟨h + 1, 0, none⟩) n n] 71)
  rw [hs] at a b c
  exact ⟨cb_of a, cb_of b, c, by omega, by omega, d.drew⟩
theorem in0_2 {W1 : World} {h n : Nat} (hs : W1.heap.size = h) : In0 W1 (((W1.alloc (.cells (madeCells #[.slice none 0 0] n) 30)).alloc (.cells #[.slice (some ⟨h, 0, none⟩) n n, .slice (some ⟨h + 1 + 1, 0, none⟩) n n] 71)).alloc (.cells (madeCells #[.slice none 0 0] n) 30)).drew (h) (h + 1 + 1) (h + 1) n := by
  obtain ⟨⟨a, b, c⟩, d⟩ := three W1 (.cells (madeCells #[.slice none 0 0] n) 30) (.cells #[.slice (some ⟨h, 0, none⟩) n n, .slice (some ⟨h + 1 + 1, 0, none⟩) n n] 71) (.cells (madeCells #[.slice none 0 0] n) 30)
  rw [hs] at a b c
  exact ⟨cb_of a, cb_of c, b, by omega, by omega, d.drew⟩
theorem in0_3 {W1 : World} {h n : Nat} (hs : W1.heap.size = h) : In0 W1 (((W1.alloc (.cells (madeCells #[.slice none 0 0] n) 30)).alloc (.cells (madeCells #[.slice none 0 0] n) 30)).alloc (.cells #[.slice (some ⟨h + 1, 0, none⟩) n n, .slice (some ⟨h, 0, none⟩) n n] 71)).drew (h + 1) (h) (h + 1 + 1) n := by
  obtain ⟨⟨a, b, c⟩, d⟩ := three W1 (.cells (madeCells #[.slice none 0 0] n) 30) (.cells (madeCells #[.slice none 0 0] n) 30) (.cells #[.slice (some ⟨h + 1, 0, none⟩) n n, .slice (some ⟨h, 0, none⟩) n n] 71)
  rw [hs] at a b c
  exact ⟨cb_of b, cb_of a, c, by omega, by omega, d.drew⟩
theorem in0_4 {W1 : World} {h n : Nat} (hs : W1.heap.size = h) : In0 W1 (((W1.alloc (.cells (madeCells #[.slice none 0 0] n) 30)).alloc (.cells #[.slice (some ⟨h + 1 + 1, 0, none⟩) n n, .slice (some ⟨h, 0, none⟩) n n] 71)).alloc (.cells (madeCells #[.slice none 0 0] n) 30)).drew (h + 1 + 1) (h) (h + 1) n := by
  obtain ⟨⟨a, b, c⟩, d⟩ := three W1 (.cells (madeCells #[.slice none 0 0] n) 30) (.cells #[.slice (some ⟨h + 1 + 1, 0, none⟩) n n, .slice (some ⟨h, 0, none⟩) n n] 71) (.cells (madeCells #[.slice none 0 0] n) 30)
  rw [hs] at a b c
  exact ⟨cb_of c, cb_of a, b, by omega, by omega, d.drew⟩
theorem in0_5 {W1 : World} {h n : Nat} (hs : W1.heap.size = h) : In0 W1 (((W1.alloc (.cells #[.slice (some ⟨h + 1, 0, none⟩) n n, .slice (some ⟨h + 1 + 1, 0, none⟩) n n] 71)).alloc (.cells (madeCells #[.slice none 0 0] n) 30)).alloc (.cells (madeCells #[.slice none 0 0] n) 30)).drew (h + 1) (h + 1 + 1) (h) n := by
  obtain ⟨⟨a, b, c⟩, d⟩ := three W1 (.cells #[.slice (some ⟨h + 1, 0, none⟩) n n, .slice (some ⟨h + 1 + 1, 0, none⟩) n n] 71) (.cells (madeCells #[.slice none 0 0] n) 30) (.cells (madeCells #[.slice none 0 0] n) 30)
  rw [hs] at a b c
  exact ⟨cb_of b, cb_of c, a, by omega, by omega, d.drew⟩
theorem in0_6 {W1 : World} {h n : Nat} (hs : W1.heap.size = h) : In0 W1 (((W1.alloc (.cells #[.slice (some ⟨h + 1 + 1, 0, none⟩) n n, .slice (some ⟨h + 1, 0, none⟩) n n] 71)).alloc (.cells (madeCells #[.slice none 0 0] n) 30)).alloc (.cells (madeCells #[.slice none 0 0] n) 30)).drew (h + 1 + 1) (h + 1) (h) n := by
  obtain ⟨⟨a, b, c⟩, d⟩ := three W1 (.cells #[.slice (some ⟨h + 1 + 1, 0, none⟩) n n, .slice (some ⟨h + 1, 0, none⟩) n n] 71) (.cells (madeCells #[.slice none 0 0] n) 30) (.cells (madeCells #[.slice none 0 0] n) 30)
  rw [hs] at a b c
  exact ⟨cb_of c, cb_of b, a, by omega, by omega, d.drew⟩
set_option maxRecDepth 20000 in
set_option maxHeartbeats 4000000 in
theorem graphOf_any {mv : Array Value} {G : GT} (w : World) (h : ModelAt w w.heap.size mv G) (hf : fewB G) : Calls Try.prog 28 #[.agg mv] w (GraphEnds w G) := by
  have h0 := h
  cases h with
  | mk lb A a aa B b bb V p0 pp S q0 qq N n nn vs ms ns d ha hb hp hq hn hV hvs hS hms hN hns =>
  clear ha hb hp hq hn hV hvs hS hms hN hns
  have hn1 : n ≤ 1000 := Nat.le_trans hf.1 (by omega)
  have hF := Lib.hid hf
  have hM0 := Lib.hid h0
  clear hf h0
  have hmk : ∀ w : World, (Instr.makeSlice 38 (.int .i64 (n : Int)) (.int .i64 (n : Int))).run Try.prog w = .ok (.slice (some ⟨w.heap.size, 0, none⟩) n n) (w.alloc (.cells (madeCells #[.slice none 0 0] n) 30)) := run_mk Try.underlying38 info30' n hn1 (by omega)
  have c5 : (w.alloc (.cells (modelV lb A a aa B b bb V p0 pp S q0 qq N n nn) 27)).cell? ⟨w.heap.size, 5, none⟩ = some (.slice N n nn) := by rw [cell_of_row _ _ 5 _ _ (0, 0) (heap_alloc_new w _)]; rfl
  unfold modelV at *
  go_enter Try.func28, Try.ntmps28
  go_wp2_with fail
  obtain ⟨W1, hW1⟩ : ∃ W1, W1 = (w.alloc (.cells #[.int .i64 lb, .slice A a aa, .slice B b bb, .slice V p0 pp, .slice S q0 qq, .slice N n nn] 27)).alloc (.cells #[.slice none 0 0, .slice none 0 0] 71) := ⟨_, rfl⟩
  have hs1 : W1.heap.size = w.heap.size + 2 := by rw [hW1]; simp
  have hbw : Below (w.alloc (.cells #[.int .i64 lb, .slice A a aa, .slice B b bb, .slice V p0 pp, .slice S q0 qq, .slice N n nn] 27)).heap.size (w.alloc (.cells #[.int .i64 lb, .slice A a aa, .slice B b bb, .slice V p0 pp, .slice S q0 qq, .slice N n nn] 27)) W1 := by rw [hW1]; exact (Below.refl _ _).alloc (Nat.le_refl _) _
  have d5 : W1.cell? ⟨w.heap.size, 5, none⟩ = some (.slice N n nn) := by
    rw [hbw.cell (p := ⟨w.heap.size, 5, none⟩) (by show w.heap.size < _; simp)]
    exact c5
  have HBM : Hid (W1.heap[w.heap.size]? = some (.cells #[.int .i64 lb, .slice A a aa, .slice B b bb, .slice V p0 pp, .slice S q0 qq, .slice N n nn] 27 (0, 0))) := Lib.hid (by
    rw [hbw.block _ (by simp)]; exact heap_alloc_new w _)
  have HW0 : Hid (Below w.heap.size w W1) := Lib.hid (((Below.refl _ w).alloc (Nat.le_refl _) _).trans (hbw.mono (by simp)))
  have HR1 : Hid (W1.heap[w.heap.size + 1]? = some (.cells #[.slice none 0 0, .slice none 0 0] 71 (0, 0))) := Lib.hid (by
    rw [hW1]
    have := heap_alloc_new (w.alloc (.cells #[.int .i64 lb, .slice A a aa, .slice B b bb, .slice V p0 pp, .slice S q0 qq, .slice N n nn] 27)) (.cells #[.slice none 0 0, .slice none 0 0] 71)
    rwa [World.size_alloc] at this)
  rw [← hW1]
  have HB1 : Hid (Below (w.heap.size + 2) W1 W1.drew) := Lib.hid (Below.drew (Below.refl _ _))
  clear hW1 c5 hbw
  rename_i K hK
  have REST : ∀ (gO gI b3 : Nat) (W : World), Hid (In0 W1 W gO gI b3 n) → Exit.then K (bodyPost Try.prog Try.f28 (GraphEnds w ⟨n, d⟩)) Exit.normal { tmps := #[.agg #[.int .i64 lb, .slice A a aa, .slice B b bb, .slice V p0 pp, .slice S q0 qq, .slice N n nn], .pointer (some ⟨w.heap.size, 0, none⟩), .pointer (some ⟨w.heap.size + 1, 0, none⟩), .pointer (some ⟨b3, 0, none⟩), undef, undef, .pointer (some ⟨w.heap.size, 5, none⟩), .slice N n nn, .int .i64 (n : Int), .slice (some ⟨gO, 0, none⟩) n n, .pointer (some ⟨w.heap.size, 5, none⟩), .slice N n nn, .int .i64 (n : Int), .slice (some ⟨gI, 0, none⟩) n n, .agg #[.slice (some ⟨gO, 0, none⟩) n n, .slice (some ⟨gI, 0, none⟩) n n], undef, undef, undef, undef, undef, undef, undef, undef, undef, undef, undef, undef, undef, undef, undef, undef, undef, undef, undef, undef, undef, undef, undef, undef, undef, undef, undef, undef, undef, undef, undef, undef, undef, undef, undef, undef, undef, undef, undef, undef, undef, undef, undef], defers := [] } W := by
    intro gO gI b3 W HI
    clear hmk d5 HB1
    have hl := HI.out.le
    have hbW := HI.out.bl
    have hoW := HI.out.o.lt
    have hiW := HI.out.i.lt
    have h3W := row_lt HI.out.b
    have HWB : Hid (Below w.heap.size w W) := Lib.hid (HW0.out.trans (hbW.mono (by omega)))
    have hM := Lib.hid ((hM0.out.stay HWB.out).mono HWB.out.size)
    have hbm : Hid (W.heap[w.heap.size]? = some (.cells #[.int .i64 lb, .slice A a aa, .slice B b bb, .slice V p0 pp, .slice S q0 qq, .slice N n nn] 27 (0, 0))) := Lib.hid ((hbW.block _ (by omega)).trans HBM.out)
    have HR2 : Hid (W.heap[w.heap.size + 1]? = some (.cells #[.slice none 0 0, .slice none 0 0] 71 (0, 0))) := Lib.hid ((hbW.block _ (by omega)).trans HR1.out)
    clear hbW HBM HR1 HW0 hM0
    have hNE : Hid (gO ≠ gI) := Lib.hid HI.out.ne
    go_wp2_with (first
      | (refine wpList_load_row rfl 27 _ rfl w.heap.size rfl 27 #[.int .i64 lb, .slice A a aa, .slice B b bb, .slice V p0 pp, .slice S q0 qq, .slice N n nn] (0, 0) _ hbm.out Try.underlying27 rfl (by kernel_rfl) ?_)
      | (go_at_call 22; refine (LEdges_own _ hM.out hF.out).mono ?_; rintro e w2 ⟨v, rfl, hOE, hb2⟩; obtain ⟨AE, cE, rfl, hLE⟩ := hOE.lieB; have hLE := Lib.hid hLE; have hb2 := Lib.hid hb2; clear hOE)
      | fail)
    obtain ⟨Bz, hBz⟩ : ∃ Bz, Bz = w2.heap.size := ⟨_, rfl⟩
    obtain ⟨m, hm⟩ : ∃ m, m = (edgesL ⟨n, d⟩ n).length := ⟨_, rfl⟩
    have HMD := Lib.hid hm
    have hm4 : m ≤ 4100 := by
      have := edgesL_len hF.out (Nat.le_refl _)
      have := hF.out.1
      simp only at *
      omega
    have hszW := hb2.out.size
    have HBM : Hid (w2.heap[w.heap.size]? = some (.cells #[.int .i64 lb, .slice A a aa, .slice B b bb, .slice V p0 pp, .slice S q0 qq, .slice N n nn] 27 (0, 0))) := Lib.hid ((hb2.out.block _ (row_lt hbm.out)).trans hbm.out)
    have HR3 : Hid (w2.heap[w.heap.size + 1]? = some (.cells #[.slice none 0 0, .slice none 0 0] 71 (0, 0))) := Lib.hid ((hb2.out.block _ (row_lt HR2.out)).trans HR2.out)
    have HB3 : Hid (w2.heap[b3]? = some (.cells #[.slice (some ⟨gO, 0, none⟩) n n, .slice (some ⟨gI, 0, none⟩) n n] 71 (0, 0))) := Lib.hid ((hb2.out.block _ h3W).trans HI.out.b)
    have S0 : Hid (∃ us, Sg w2 w2 gO gI n Bz us (rowsK ⟨n, d⟩ 0)) := Lib.hid ⟨fun _ => .slice none 0 0, HI.out.o.keep hb2.out, HI.out.i.keep hb2.out, ⟨fun t _ => by rw [rowsK_zero]; exact OwnI.nil _ _, fun s t _ _ _ => .inl rfl⟩, Bu.refl _ _ _ _, hNE.out⟩
    have HW2 : Hid (Below w.heap.size w w2) := Lib.hid (HWB.out.trans (hb2.out.mono HWB.out.size))
    have hd3O : b3 ≠ gO := by
      rintro rfl
      obtain ⟨cs, hcs, _⟩ := HI.out.o
      rw [HI.out.b] at hcs
      injection hcs with hcs
      injection hcs with _ hcs _
      exact absurd hcs (by decide)
    have hd3I : b3 ≠ gI := by
      rintro rfl
      obtain ⟨cs, hcs, _⟩ := HI.out.i
      rw [HI.out.b] at hcs
      injection hcs with hcs
      injection hcs with _ hcs _
      exact absurd hcs (by decide)
    rw [← hm]
    have HBZ := Lib.hid hBz
    have hgoB : gO < Bz := by omega
    have hgiB : gI < Bz := by omega
    have hb3B : b3 < Bz := by omega
    have hwB : w.heap.size + 2 ≤ Bz := by omega
    have HWS := Lib.hid hoW
    have HWI := Lib.hid hiW
    clear hm hBz HI hM hbm HR2 HWB hb2 hszW h3W hNE hoW hiW
    go_loopw [18] (fun kv wr => ∃ k : Nat, k ≤ m ∧ kv = .int .i64 k ∧ Hid (∃ us, Sg w2 wr gO gI n Bz us (rowsK ⟨n, d⟩ k))) (fun kv _ => m - (intOf kv).toNat)
    case atStart => exact ⟨0, Nat.zero_le _, rfl, S0⟩
    case round =>
      clear S0
      obtain ⟨k, hk, rfl, hr⟩ := hrel
      by_cases hlt : k < m
      · have hkl : k < (edgesL ⟨n, d⟩ n).length := by have := HMD.out; omega
        obtain ⟨g, rfl, hgW, hg2, hx⟩ := hLE.out (by omega)
        have HRW : Hid (∀ us, Sg w2 wr gO gI n Bz us (rowsK ⟨n, d⟩ k) → True) := Lib.hid fun _ _ => trivial
        obtain ⟨us, hSr⟩ := hr.out
        obtain ⟨x0, x1, x2⟩ := hx k hkl
        have hgB : g < Bz := by have := HBZ.out; omega
        have hgO : g ≠ gO := by have := HWS.out; omega
        have hgI : g ≠ gI := by have := HWI.out; omega
        have y0 : wr.cell? ⟨g, k * 3, none⟩ = some (.int .i64 (edgesL ⟨n, d⟩ n)[k].1) := (by simp only [World.cell?, hSr.bu.block g hgB hgO hgI] : wr.cell? ⟨g, k * 3, none⟩ = w2.cell? ⟨g, k * 3, none⟩).trans x0
        have y1 : wr.cell? ⟨g, k * 3 + 1, none⟩ = some (.int .i64 (edgesL ⟨n, d⟩ n)[k].2.1) := (by simp only [World.cell?, hSr.bu.block g hgB hgO hgI] : wr.cell? ⟨g, k * 3 + 1, none⟩ = w2.cell? ⟨g, k * 3 + 1, none⟩).trans x1
        have y2 : wr.cell? ⟨g, k * 3 + 2, none⟩ = some (.int .i64 (edgesL ⟨n, d⟩ n)[k].2.2) := (by simp only [World.cell?, hSr.bu.block g hgB hgO hgI] : wr.cell? ⟨g, k * 3 + 2, none⟩ = w2.cell? ⟨g, k * 3 + 2, none⟩).trans x2
        obtain ⟨hf0, hf1⟩ := edgesL_from (G := ⟨n, d⟩) (k := n) _ (List.getElem_mem hkl)
        have hstep := rowsK_step (G := ⟨n, d⟩) hkl
        have hskip := rowsK_skip (G := ⟨n, d⟩) hkl
        have HSTEP := Lib.hid hstep
        have HSKIP := Lib.hid hskip
        have HSR := Lib.hid hSr
        have hrl : Hid (∀ t, (rowsK ⟨n, d⟩ k t).length ≤ 4100) := Lib.hid fun t => Nat.le_trans (rowsK_len ⟨n, d⟩ k t) (by have := HMD.out; show (edgesL ⟨n, d⟩ n).length ≤ 4100; omega)
        have hBr : Bz ≤ wr.heap.size := by have := HBZ.out; have := hSr.bu.size; omega
        have hbmr : Hid (wr.heap[w.heap.size]? = some (.cells #[.int .i64 lb, .slice A a aa, .slice B b bb, .slice V p0 pp, .slice S q0 qq, .slice N n nn] 27 (0, 0))) := Lib.hid ((hSr.bu.block _ (by omega) (by omega) (by omega)).trans HBM.out)
        have hb3r : Hid (wr.heap[b3]? = some (.cells #[.slice (some ⟨gO, 0, none⟩) n n, .slice (some ⟨gI, 0, none⟩) n n] 71 (0, 0))) := Lib.hid ((hSr.bu.block _ hb3B hd3O hd3I).trans HB3.out)
        clear hx x0 x1 x2 hr HRW hstep hskip hSr
        generalize (edgesL ⟨n, d⟩ n)[k].2.1 = ej at *
        have hTN : Hid (toN n (edgesL ⟨n, d⟩ n)[k] = (decide (0 ≤ (edgesL ⟨n, d⟩ n)[k].2.2) && decide ((edgesL ⟨n, d⟩ n)[k].2.2 < n))) := Lib.hid rfl
        obtain ⟨p, hp⟩ : ∃ p : Nat, (edgesL ⟨n, d⟩ n)[k].1 = (p : Int) := ⟨(edgesL ⟨n, d⟩ n)[k].1.toNat, by omega⟩
        have hpn : p < n := by omega
        have HP := Lib.hid hp
        rw [hp] at y0
        clear hp hf0 hf1
        obtain ⟨tv, htv⟩ : ∃ tv, tv = (edgesL ⟨n, d⟩ n)[k].2.2 := ⟨_, rfl⟩
        have HTV := Lib.hid htv
        rw [← htv] at y2
        clear htv
        have hbm5 : Hid ((wr.alloc (.cells #[.int .i64 (p : Int), .int .i64 ej, .int .i64 tv] 44)).heap[w.heap.size]? = some (.cells #[.int .i64 lb, .slice A a aa, .slice B b bb, .slice V p0 pp, .slice S q0 qq, .slice N n nn] 27 (0, 0))) := Lib.hid (row_alloc hbmr.out _)
        by_cases htn : 0 ≤ tv ∧ tv < (n : Int)
        · obtain ⟨q, rfl⟩ : ∃ q : Nat, tv = (q : Int) := ⟨tv.toNat, by omega⟩
          have hqn : q < n := by omega
          have hto : toN n (edgesL ⟨n, d⟩ n)[k] = true := by
            rw [hTN.out, ← HTV.out]
            simp; omega
          have HFIN := Lib.hid (HSTEP.out hto HP.out HTV.out.symm hpn)
          clear htn hto
          go_wp2_with (first
            | (refine wpList_load_row rfl 27 _ rfl w.heap.size rfl 27 #[.int .i64 lb, .slice A a aa, .slice B b bb, .slice V p0 pp, .slice S q0 qq, .slice N n nn] (0, 0) _ hbm5.out Try.underlying27 rfl (by kernel_rfl) ?_)
            | (go_at_call 37; refine (rNode_any _ _ _ _ _ _ _ n nn (q : Int) true (by simp; omega)).mono ?_; rintro e w6 ⟨rfl, hb6⟩; have hb6 := Lib.hid hb6)
            | fail)
          have hS6 := (HSR.out.alloc hBr (.cells #[.int .i64 (p : Int), .int .i64 ej, .int .i64 (q : Int)] 44)).step (by simp; omega) hb6.out
          have hB6 : Bz ≤ w6.heap.size := by have := hb6.out.size; rw [World.size_alloc] at this; omega
          have h36 : w6.heap[b3]? = some (.cells #[.slice (some ⟨gO, 0, none⟩) n n, .slice (some ⟨gI, 0, none⟩) n n] 71 (0, 0)) := (hb6.out.block _ (by simp; omega)).trans (row_alloc hb3r.out _)
          have h56 : w6.heap[wr.heap.size]? = some (.cells #[.int .i64 (p : Int), .int .i64 ej, .int .i64 (q : Int)] 44 (0, 0)) := (hb6.out.block _ (by simp)).trans (heap_alloc_new wr _)
          obtain ⟨r1, r2, r3, ⟨r4, r5⟩, r6⟩ := regO (x := (q : Int)) hS6 hB6 hpn
          have HS0 : Hid (w6.drew.cell? ⟨b3, 0, none⟩ = some (.slice (some ⟨gO, 0, none⟩) n n) ∧ w6.drew.cell? ⟨b3, 1, none⟩ = some (.slice (some ⟨gI, 0, none⟩) n n) ∧ w6.drew.cell? ⟨wr.heap.size, 0, none⟩ = some (.int .i64 (p : Int)) ∧ w6.drew.cell? ⟨wr.heap.size, 2, none⟩ = some (.int .i64 (q : Int))) := Lib.hid (boxS (W := w6.drew) h36 h56)
          have HSA : Hid ((w6.alloc (.cells #[.int .i64 (q : Int)] 3)).drew.cell? ⟨b3, 0, none⟩ = some (.slice (some ⟨gO, 0, none⟩) n n) ∧ (w6.alloc (.cells #[.int .i64 (q : Int)] 3)).drew.cell? ⟨b3, 1, none⟩ = some (.slice (some ⟨gI, 0, none⟩) n n) ∧ (w6.alloc (.cells #[.int .i64 (q : Int)] 3)).drew.cell? ⟨wr.heap.size, 0, none⟩ = some (.int .i64 (p : Int)) ∧ (w6.alloc (.cells #[.int .i64 (q : Int)] 3)).drew.cell? ⟨wr.heap.size, 2, none⟩ = some (.int .i64 (q : Int))) := Lib.hid (boxS (alloc_drew_keeps _ h36) (alloc_drew_keeps _ h56))
          have HL0 : Hid ((rowsK ⟨n, d⟩ k p).length ≤ 10000) := Lib.hid (Nat.le_trans (hrl.out p) (by omega))
          have HLI : Hid ((upd (rowsK ⟨n, d⟩ k) p (rowsK ⟨n, d⟩ k p ++ [(q : Int)]) (n + q)).length ≤ 10000) := Lib.hid (by rw [upd_far (by omega)]; exact Nat.le_trans (hrl.out _) (by omega))
          obtain ⟨uk, huk⟩ : ∃ uk, uk = us p := ⟨_, rfl⟩
          have HG : Hid (∀ v' w8, OwnI w8 Bz v' (rowsK ⟨n, d⟩ k p ++ [(q : Int)]) → (w6.alloc (.cells #[.int .i64 (q : Int)] 3)).drew.grownBy w8 uk.ownBlock → (v'.ownBlock = uk.ownBlock ∨ v'.ownBlock = some (w6.alloc (.cells #[.int .i64 (q : Int)] 3)).drew.heap.size) → (∃ A8 n8 c8, v' = .slice A8 n8 c8) ∧ (w8.cell? ⟨gO, p, none⟩ = some uk ∧ w8.frozen? ⟨gO, p, none⟩ = false) ∧ (w8.cell? ⟨b3, 0, none⟩ = some (.slice (some ⟨gO, 0, none⟩) n n) ∧ w8.cell? ⟨b3, 1, none⟩ = some (.slice (some ⟨gI, 0, none⟩) n n) ∧ w8.cell? ⟨wr.heap.size, 0, none⟩ = some (.int .i64 (p : Int)) ∧ w8.cell? ⟨wr.heap.size, 2, none⟩ = some (.int .i64 (q : Int))) ∧ ((w8.setCell ⟨gO, p, none⟩ v').cell? ⟨b3, 0, none⟩ = some (.slice (some ⟨gO, 0, none⟩) n n) ∧ (w8.setCell ⟨gO, p, none⟩ v').cell? ⟨b3, 1, none⟩ = some (.slice (some ⟨gI, 0, none⟩) n n) ∧ (w8.setCell ⟨gO, p, none⟩ v').cell? ⟨wr.heap.size, 0, none⟩ = some (.int .i64 (p : Int)) ∧ (w8.setCell ⟨gO, p, none⟩ v').cell? ⟨wr.heap.size, 2, none⟩ = some (.int .i64 (q : Int))) ∧ ((w8.setCell ⟨gO, p, none⟩ v').heap[b3]? = some (.cells #[.slice (some ⟨gO, 0, none⟩) n n, .slice (some ⟨gI, 0, none⟩) n n] 71 (0, 0)) ∧ (w8.setCell ⟨gO, p, none⟩ v').heap[wr.heap.size]? = some (.cells #[.int .i64 (p : Int), .int .i64 ej, .int .i64 (q : Int)] 44 (0, 0))) ∧ Bz ≤ (w8.setCell ⟨gO, p, none⟩ v').heap.size ∧ ∃ us, Sg w2 (w8.setCell ⟨gO, p, none⟩ v') gO gI n Bz us (upd (rowsK ⟨n, d⟩ k) p (rowsK ⟨n, d⟩ k p ++ [(q : Int)]))) := Lib.hid (by
            intro v' w8 a1 a2 a3
            rw [huk] at a2 a3 ⊢
            obtain ⟨s1, s2, s3, s4, s5⟩ := r6 v' w8 a1 a2 a3
            obtain ⟨t1, t2⟩ := s3 _ _ _ h36 (by decide) hd3O
            obtain ⟨t3, t4⟩ := s3 _ _ _ h56 (by decide) (by omega)
            exact ⟨s1, s2, boxS t1 t3, boxS t2 t4, ⟨t2, t4⟩, s4, s5⟩)
          have R1 := Lib.hid r1
          have R3 := Lib.hid r3
          rw [← huk] at r4 r5 R1
          clear hS6 h36 h56 r1 r3 r6 huk HSR hbm5 hbmr hb3r y0 y1 y2 hB6
          have p0z : (0 : Int) ≤ p := by omega
          have p1z : (p : Int) < n := by omega
          have q0z : (0 : Int) ≤ q := by omega
          have q1z : (q : Int) < n := by omega
          refine wp_region_held_drew (S := fun W => W.cell? ⟨b3, 0, none⟩ = some (.slice (some ⟨gO, 0, none⟩) n n) ∧ W.cell? ⟨b3, 1, none⟩ = some (.slice (some ⟨gI, 0, none⟩) n n) ∧ W.cell? ⟨wr.heap.size, 0, none⟩ = some (.int .i64 (p : Int)) ∧ W.cell? ⟨wr.heap.size, 2, none⟩ = some (.int .i64 (q : Int))) (by kernel_rfl) HS0.out (fun _ => ?_)
          refine takeG (i := 0) (some 26) (.pointer (some ⟨b3, 0, none⟩)) rfl rfl (by kernel_rfl) (by kernel_rfl) (by kernel_rfl) (fun _ _ _ h => h) HS0.out (by kernel_rfl) (fun W hW => by obtain ⟨k1, k2, k3, k4⟩ := hW; go_simp) ?_
          simp only [Act.put, List.setIfInBounds_toArray, List.set_cons_zero, List.set_cons_succ]
          refine takeG (i := 1) (some 27) (.slice (some ⟨gO, 0, none⟩) n n) rfl rfl (by kernel_rfl) (by kernel_rfl) (by kernel_rfl) (fun _ _ _ h => h) HS0.out (by kernel_rfl) (fun W hW => by obtain ⟨k1, k2, k3, k4⟩ := hW; go_simp) ?_
          simp only [Act.put, List.setIfInBounds_toArray, List.set_cons_zero, List.set_cons_succ]
          refine takeG (i := 2) (some 28) (.pointer (some ⟨wr.heap.size, 0, none⟩)) rfl rfl (by kernel_rfl) (by kernel_rfl) (by kernel_rfl) (fun _ _ _ h => h) HS0.out (by kernel_rfl) (fun W hW => by obtain ⟨k1, k2, k3, k4⟩ := hW; go_simp) ?_
          simp only [Act.put, List.setIfInBounds_toArray, List.set_cons_zero, List.set_cons_succ]
          refine takeG (i := 3) (some 29) (.int .i64 (p : Int)) rfl rfl (by kernel_rfl) (by kernel_rfl) (by kernel_rfl) (fun _ _ _ h => h) HS0.out (by kernel_rfl) (fun W hW => by obtain ⟨k1, k2, k3, k4⟩ := hW; go_simp) ?_
          simp only [Act.put, List.setIfInBounds_toArray, List.set_cons_zero, List.set_cons_succ]
          refine takeG (i := 4) (some 30) (.pointer (some ⟨b3, 0, none⟩)) rfl rfl (by kernel_rfl) (by kernel_rfl) (by kernel_rfl) (fun _ _ _ h => h) HS0.out (by kernel_rfl) (fun W hW => by obtain ⟨k1, k2, k3, k4⟩ := hW; go_simp) ?_
          simp only [Act.put, List.setIfInBounds_toArray, List.set_cons_zero, List.set_cons_succ]
          refine takeG (i := 5) (some 31) (.slice (some ⟨gO, 0, none⟩) n n) rfl rfl (by kernel_rfl) (by kernel_rfl) (by kernel_rfl) (fun _ _ _ h => h) HS0.out (by kernel_rfl) (fun W hW => by obtain ⟨k1, k2, k3, k4⟩ := hW; go_simp) ?_
          simp only [Act.put, List.setIfInBounds_toArray, List.set_cons_zero, List.set_cons_succ]
          refine takeG (i := 6) (some 32) (.pointer (some ⟨wr.heap.size, 0, none⟩)) rfl rfl (by kernel_rfl) (by kernel_rfl) (by kernel_rfl) (fun _ _ _ h => h) HS0.out (by kernel_rfl) (fun W hW => by obtain ⟨k1, k2, k3, k4⟩ := hW; go_simp) ?_
          simp only [Act.put, List.setIfInBounds_toArray, List.set_cons_zero, List.set_cons_succ]
          refine takeG (i := 7) (some 33) (.int .i64 (p : Int)) rfl rfl (by kernel_rfl) (by kernel_rfl) (by kernel_rfl) (fun _ _ _ h => h) HS0.out (by kernel_rfl) (fun W hW => by obtain ⟨k1, k2, k3, k4⟩ := hW; go_simp) ?_
          simp only [Act.put, List.setIfInBounds_toArray, List.set_cons_zero, List.set_cons_succ]
          refine takeG (i := 8) (some 34) (.pointer (some ⟨gO, p, none⟩)) rfl rfl (by kernel_rfl) (by kernel_rfl) (by kernel_rfl) (fun _ _ _ h => h) HS0.out (by kernel_rfl) (fun W hW => by obtain ⟨k1, k2, k3, k4⟩ := hW; go_simp) ?_
          simp only [Act.put, List.setIfInBounds_toArray, List.set_cons_zero, List.set_cons_succ]
          refine takeG (i := 10) (some 36) (.pointer (some ⟨wr.heap.size, 2, none⟩)) rfl rfl (by kernel_rfl) (by kernel_rfl) (by kernel_rfl) (fun _ _ _ h => h) HS0.out (by kernel_rfl) (fun W hW => by obtain ⟨k1, k2, k3, k4⟩ := hW; go_simp) ?_
          simp only [Act.put, List.setIfInBounds_toArray, List.set_cons_zero, List.set_cons_succ]
          refine takeG (i := 11) (some 37) (.int .i64 (q : Int)) rfl rfl (by kernel_rfl) (by kernel_rfl) (by kernel_rfl) (fun _ _ _ h => h) HS0.out (by kernel_rfl) (fun W hW => by obtain ⟨k1, k2, k3, k4⟩ := hW; go_simp) ?_
          simp only [Act.put, List.setIfInBounds_toArray, List.set_cons_zero, List.set_cons_succ]
          refine wpAnyH_ready (rs := [9, 12]) (by kernel_rfl) (by simp) (AllReadyH.cons rfl (fun K1 hK1 => ?_) (AllReadyH.cons rfl (fun K2 hK2 => ?_) AllReadyH.nil))
          · refine branchG (some 35) uk w6.drew rfl (by kernel_rfl) (by go_simp) ?_
            refine hK1.out _ _ HS0.out (fun _ => ?_)
            simp only [Act.put, List.setIfInBounds_toArray, List.set_cons_zero, List.set_cons_succ]
            refine wpAnyH_ready (rs := [12]) (by kernel_rfl) (by simp) (AllReadyH.cons rfl (fun K2 hK2 => ?_) AllReadyH.nil)
            refine branchG (some 38) (.slice (some ⟨w6.heap.size, 0, none⟩) 1 1) (w6.alloc (.cells #[.int .i64 (q : Int)] 3)).drew rfl (by kernel_rfl) (by go_simp) ?_
            refine hK2.out _ _ HSA.out (fun _ => ?_)
            simp only [Act.put, List.setIfInBounds_toArray, List.set_cons_zero, List.set_cons_succ]
            refine wpAnyH_ready (rs := [13]) (by kernel_rfl) (by simp) (AllReadyH.cons rfl (fun K3 hK3 => ?_) AllReadyH.nil)
            refine step_intAt rfl 30 Try.underlying30 (.tmp 35) (.tmp 38) rfl Bz uk (rowsK ⟨n, d⟩ k p) rfl R1.out w6.heap.size (q : Int) rfl r2 HL0.out R3.out ?_
            intro v' w8 ho8 hg8 hat8
            obtain ⟨⟨A8, n8, c8, e8⟩, ⟨cj8, fj8⟩, hS8, hS9, hh9, hz9, hg9⟩ := HG.out v' w8 ho8 hg8 hat8
            subst e8
            show K3 (Act.put _ (some 39) _) _
            have HS9 := Lib.hid hS9
            have HH9 := Lib.hid hh9
            have HZ9 := Lib.hid hz9
            have HG9 := Lib.hid hg9
            clear ho8 hg8 hat8 hS9 hh9 hz9 hg9
            refine hK3.out _ _ hS8 (fun _ => ?_)
            simp only [Act.put, List.setIfInBounds_toArray, List.set_cons_zero, List.set_cons_succ]
            refine takeG (i := 14) (some 40) (.pointer (some ⟨gO, p, none⟩)) rfl rfl (by kernel_rfl) (by kernel_rfl) (by kernel_rfl) (fun _ _ _ h => h) hS8 (by kernel_rfl) (fun W hW => by obtain ⟨k1, k2, k3, k4⟩ := hW; go_simp) ?_
            simp only [Act.put, List.setIfInBounds_toArray, List.set_cons_zero, List.set_cons_succ]
            clear hS8
            refine wpAnyH_ready (rs := [15]) (by kernel_rfl) (by simp) (AllReadyH.cons rfl (fun K4 hK4 => ?_) AllReadyH.nil)
            refine branchS (w8.setCell ⟨gO, p, none⟩ (.slice A8 n8 c8)) rfl (by kernel_rfl) (by go_simp) ?_
            refine hK4.out _ _ HS9.out (fun _ => ?_)
            refine wpAnyH_done (by kernel_rfl) ?_ _
            simp only [Act.put]
            clear cj8 fj8 HS9 HG
            generalize w8.setCell ⟨gO, p, none⟩ (.slice A8 n8 c8) = w9 at *
            go_wp2_with fail
            obtain ⟨us9, hS9g⟩ := HG9.out
            obtain ⟨r1b, r2b, r3b, ⟨r4b, r5b⟩, r6b⟩ := regI (x := (p : Int)) hS9g HZ9.out hqn
            have HT0 : Hid (w9.drew.cell? ⟨b3, 0, none⟩ = some (.slice (some ⟨gO, 0, none⟩) n n) ∧ w9.drew.cell? ⟨b3, 1, none⟩ = some (.slice (some ⟨gI, 0, none⟩) n n) ∧ w9.drew.cell? ⟨wr.heap.size, 0, none⟩ = some (.int .i64 (p : Int)) ∧ w9.drew.cell? ⟨wr.heap.size, 2, none⟩ = some (.int .i64 (q : Int))) := Lib.hid (boxS (W := w9.drew) HH9.out.1 HH9.out.2)
            have HTA : Hid ((w9.alloc (.cells #[.int .i64 (p : Int)] 3)).drew.cell? ⟨b3, 0, none⟩ = some (.slice (some ⟨gO, 0, none⟩) n n) ∧ (w9.alloc (.cells #[.int .i64 (p : Int)] 3)).drew.cell? ⟨b3, 1, none⟩ = some (.slice (some ⟨gI, 0, none⟩) n n) ∧ (w9.alloc (.cells #[.int .i64 (p : Int)] 3)).drew.cell? ⟨wr.heap.size, 0, none⟩ = some (.int .i64 (p : Int)) ∧ (w9.alloc (.cells #[.int .i64 (p : Int)] 3)).drew.cell? ⟨wr.heap.size, 2, none⟩ = some (.int .i64 (q : Int))) := Lib.hid (boxS (alloc_drew_keeps _ HH9.out.1) (alloc_drew_keeps _ HH9.out.2))
            obtain ⟨Li, hLi⟩ : ∃ Li, Li = upd (rowsK ⟨n, d⟩ k) p (rowsK ⟨n, d⟩ k p ++ [(q : Int)]) (n + q) := ⟨_, rfl⟩
            obtain ⟨ui, hui⟩ : ∃ ui, ui = us9 (n + q) := ⟨_, rfl⟩
            have HLI2 : Hid (Li.length ≤ 10000) := Lib.hid (by rw [hLi]; exact HLI.out)
            have HG7 : Hid (∀ v' w10, OwnI w10 Bz v' (Li ++ [(p : Int)]) → (w9.alloc (.cells #[.int .i64 (p : Int)] 3)).drew.grownBy w10 ui.ownBlock → (v'.ownBlock = ui.ownBlock ∨ v'.ownBlock = some (w9.alloc (.cells #[.int .i64 (p : Int)] 3)).drew.heap.size) → (∃ A8 n8 c8, v' = .slice A8 n8 c8) ∧ (w10.cell? ⟨gI, q, none⟩ = some ui ∧ w10.frozen? ⟨gI, q, none⟩ = false) ∧ (w10.cell? ⟨b3, 0, none⟩ = some (.slice (some ⟨gO, 0, none⟩) n n) ∧ w10.cell? ⟨b3, 1, none⟩ = some (.slice (some ⟨gI, 0, none⟩) n n) ∧ w10.cell? ⟨wr.heap.size, 0, none⟩ = some (.int .i64 (p : Int)) ∧ w10.cell? ⟨wr.heap.size, 2, none⟩ = some (.int .i64 (q : Int))) ∧ ((w10.setCell ⟨gI, q, none⟩ v').cell? ⟨b3, 0, none⟩ = some (.slice (some ⟨gO, 0, none⟩) n n) ∧ (w10.setCell ⟨gI, q, none⟩ v').cell? ⟨b3, 1, none⟩ = some (.slice (some ⟨gI, 0, none⟩) n n) ∧ (w10.setCell ⟨gI, q, none⟩ v').cell? ⟨wr.heap.size, 0, none⟩ = some (.int .i64 (p : Int)) ∧ (w10.setCell ⟨gI, q, none⟩ v').cell? ⟨wr.heap.size, 2, none⟩ = some (.int .i64 (q : Int))) ∧ ∃ us, Sg w2 (w10.setCell ⟨gI, q, none⟩ v') gO gI n Bz us (rowsK ⟨n, d⟩ (k + 1))) := Lib.hid (by
              intro v' w10 a1 a2 a3
              rw [hui] at a2 a3 ⊢
              rw [hLi] at a1
              obtain ⟨s1, s2, s3, us5, s5⟩ := r6b v' w10 a1 a2 a3
              obtain ⟨t1, t2⟩ := s3 _ _ _ HH9.out.1 (by decide) hd3I
              obtain ⟨t3, t4⟩ := s3 _ _ _ HH9.out.2 (by decide) (by omega)
              exact ⟨s1, s2, boxS t1 t3, boxS t2 t4, us5, s5.congr HFIN.out⟩)
            have R1b := Lib.hid r1b
            have R3b := Lib.hid r3b
            rw [← hui, ← hLi] at R1b
            rw [← hui] at r4b r5b
            clear hS9g r1b r3b r6b hui hLi HG9 HH9 HZ9 HFIN r2 r4 r5 R1 R3 HL0 HLI
            refine wp_region_held_drew (S := fun W => W.cell? ⟨b3, 0, none⟩ = some (.slice (some ⟨gO, 0, none⟩) n n) ∧ W.cell? ⟨b3, 1, none⟩ = some (.slice (some ⟨gI, 0, none⟩) n n) ∧ W.cell? ⟨wr.heap.size, 0, none⟩ = some (.int .i64 (p : Int)) ∧ W.cell? ⟨wr.heap.size, 2, none⟩ = some (.int .i64 (q : Int))) (by kernel_rfl) HT0.out (fun _ => ?_)
            refine takeG (i := 0) (some 41) (.pointer (some ⟨b3, 1, none⟩)) rfl rfl (by kernel_rfl) (by kernel_rfl) (by kernel_rfl) (fun _ _ _ h => h) HT0.out (by kernel_rfl) (fun W hW => by obtain ⟨k1, k2, k3, k4⟩ := hW; go_simp) ?_
            simp only [Act.put, List.setIfInBounds_toArray, List.set_cons_zero, List.set_cons_succ]
            refine takeG (i := 1) (some 42) (.slice (some ⟨gI, 0, none⟩) n n) rfl rfl (by kernel_rfl) (by kernel_rfl) (by kernel_rfl) (fun _ _ _ h => h) HT0.out (by kernel_rfl) (fun W hW => by obtain ⟨k1, k2, k3, k4⟩ := hW; go_simp) ?_
            simp only [Act.put, List.setIfInBounds_toArray, List.set_cons_zero, List.set_cons_succ]
            refine takeG (i := 2) (some 43) (.pointer (some ⟨wr.heap.size, 2, none⟩)) rfl rfl (by kernel_rfl) (by kernel_rfl) (by kernel_rfl) (fun _ _ _ h => h) HT0.out (by kernel_rfl) (fun W hW => by obtain ⟨k1, k2, k3, k4⟩ := hW; go_simp) ?_
            simp only [Act.put, List.setIfInBounds_toArray, List.set_cons_zero, List.set_cons_succ]
            refine takeG (i := 3) (some 44) (.int .i64 (q : Int)) rfl rfl (by kernel_rfl) (by kernel_rfl) (by kernel_rfl) (fun _ _ _ h => h) HT0.out (by kernel_rfl) (fun W hW => by obtain ⟨k1, k2, k3, k4⟩ := hW; go_simp) ?_
            simp only [Act.put, List.setIfInBounds_toArray, List.set_cons_zero, List.set_cons_succ]
            refine takeG (i := 4) (some 45) (.pointer (some ⟨b3, 1, none⟩)) rfl rfl (by kernel_rfl) (by kernel_rfl) (by kernel_rfl) (fun _ _ _ h => h) HT0.out (by kernel_rfl) (fun W hW => by obtain ⟨k1, k2, k3, k4⟩ := hW; go_simp) ?_
            simp only [Act.put, List.setIfInBounds_toArray, List.set_cons_zero, List.set_cons_succ]
            refine takeG (i := 5) (some 46) (.slice (some ⟨gI, 0, none⟩) n n) rfl rfl (by kernel_rfl) (by kernel_rfl) (by kernel_rfl) (fun _ _ _ h => h) HT0.out (by kernel_rfl) (fun W hW => by obtain ⟨k1, k2, k3, k4⟩ := hW; go_simp) ?_
            simp only [Act.put, List.setIfInBounds_toArray, List.set_cons_zero, List.set_cons_succ]
            refine takeG (i := 6) (some 47) (.pointer (some ⟨wr.heap.size, 2, none⟩)) rfl rfl (by kernel_rfl) (by kernel_rfl) (by kernel_rfl) (fun _ _ _ h => h) HT0.out (by kernel_rfl) (fun W hW => by obtain ⟨k1, k2, k3, k4⟩ := hW; go_simp) ?_
            simp only [Act.put, List.setIfInBounds_toArray, List.set_cons_zero, List.set_cons_succ]
            refine takeG (i := 7) (some 48) (.int .i64 (q : Int)) rfl rfl (by kernel_rfl) (by kernel_rfl) (by kernel_rfl) (fun _ _ _ h => h) HT0.out (by kernel_rfl) (fun W hW => by obtain ⟨k1, k2, k3, k4⟩ := hW; go_simp) ?_
            simp only [Act.put, List.setIfInBounds_toArray, List.set_cons_zero, List.set_cons_succ]
            refine takeG (i := 8) (some 49) (.pointer (some ⟨gI, q, none⟩)) rfl rfl (by kernel_rfl) (by kernel_rfl) (by kernel_rfl) (fun _ _ _ h => h) HT0.out (by kernel_rfl) (fun W hW => by obtain ⟨k1, k2, k3, k4⟩ := hW; go_simp) ?_
            simp only [Act.put, List.setIfInBounds_toArray, List.set_cons_zero, List.set_cons_succ]
            refine takeG (i := 10) (some 51) (.pointer (some ⟨wr.heap.size, 0, none⟩)) rfl rfl (by kernel_rfl) (by kernel_rfl) (by kernel_rfl) (fun _ _ _ h => h) HT0.out (by kernel_rfl) (fun W hW => by obtain ⟨k1, k2, k3, k4⟩ := hW; go_simp) ?_
            simp only [Act.put, List.setIfInBounds_toArray, List.set_cons_zero, List.set_cons_succ]
            refine takeG (i := 11) (some 52) (.int .i64 (p : Int)) rfl rfl (by kernel_rfl) (by kernel_rfl) (by kernel_rfl) (fun _ _ _ h => h) HT0.out (by kernel_rfl) (fun W hW => by obtain ⟨k1, k2, k3, k4⟩ := hW; go_simp) ?_
            simp only [Act.put, List.setIfInBounds_toArray, List.set_cons_zero, List.set_cons_succ]
            refine wpAnyH_ready (rs := [9, 12]) (by kernel_rfl) (by simp) (AllReadyH.cons rfl (fun K1 hK1 => ?_) (AllReadyH.cons rfl (fun K2 hK2 => ?_) AllReadyH.nil))
            · refine branchG (some 50) ui w9.drew rfl (by kernel_rfl) (by go_simp) ?_
              refine hK1.out _ _ HT0.out (fun _ => ?_)
              simp only [Act.put, List.setIfInBounds_toArray, List.set_cons_zero, List.set_cons_succ]
              refine wpAnyH_ready (rs := [12]) (by kernel_rfl) (by simp) (AllReadyH.cons rfl (fun K2 hK2 => ?_) AllReadyH.nil)
              refine branchG (some 53) (.slice (some ⟨w9.heap.size, 0, none⟩) 1 1) (w9.alloc (.cells #[.int .i64 (p : Int)] 3)).drew rfl (by kernel_rfl) (by go_simp) ?_
              refine hK2.out _ _ HTA.out (fun _ => ?_)
              simp only [Act.put, List.setIfInBounds_toArray, List.set_cons_zero, List.set_cons_succ]
              refine wpAnyH_ready (rs := [13]) (by kernel_rfl) (by simp) (AllReadyH.cons rfl (fun K3 hK3 => ?_) AllReadyH.nil)
              refine step_intAt rfl 30 Try.underlying30 (.tmp 50) (.tmp 53) rfl Bz ui Li rfl R1b.out w9.heap.size (p : Int) rfl r2b HLI2.out R3b.out ?_
              intro v' w10 ho8 hg8 hat8
              obtain ⟨⟨A9, n9, c9, e9⟩, ⟨cj9, fj9⟩, hS8, hS9, hg9⟩ := HG7.out v' w10 ho8 hg8 hat8
              subst e9
              show K3 (Act.put _ (some 54) _) _
              have HT9 := Lib.hid hS9
              have HR := Lib.hid hg9
              clear ho8 hg8 hat8 hS9 hg9
              refine hK3.out _ _ hS8 (fun _ => ?_)
              simp only [Act.put, List.setIfInBounds_toArray, List.set_cons_zero, List.set_cons_succ]
              refine takeG (i := 14) (some 55) (.pointer (some ⟨gI, q, none⟩)) rfl rfl (by kernel_rfl) (by kernel_rfl) (by kernel_rfl) (fun _ _ _ h => h) hS8 (by kernel_rfl) (fun W hW => by obtain ⟨k1, k2, k3, k4⟩ := hW; go_simp) ?_
              simp only [Act.put, List.setIfInBounds_toArray, List.set_cons_zero, List.set_cons_succ]
              clear hS8
              refine wpAnyH_ready (rs := [15]) (by kernel_rfl) (by simp) (AllReadyH.cons rfl (fun K4 hK4 => ?_) AllReadyH.nil)
              refine branchS (w10.setCell ⟨gI, q, none⟩ (.slice A9 n9 c9)) rfl (by kernel_rfl) (by go_simp) ?_
              refine hK4.out _ _ HT9.out (fun _ => ?_)
              refine wpAnyH_done (by kernel_rfl) ?_ _
              simp only [Act.put]
              clear cj9 fj9 HT9 HG7
              generalize w10.setCell ⟨gI, q, none⟩ (.slice A9 n9 c9) = w11 at *
              go_wp2_with fail
              go_roundw
              case rel => exact ⟨k + 1, by omega, by go_num, HR⟩
              case measure => simp [intOf]; omega
            · refine branchG (some 53) (.slice (some ⟨w9.heap.size, 0, none⟩) 1 1) (w9.alloc (.cells #[.int .i64 (p : Int)] 3)).drew rfl (by kernel_rfl) (by go_simp) ?_
              refine hK2.out _ _ HTA.out (fun _ => ?_)
              simp only [Act.put, List.setIfInBounds_toArray, List.set_cons_zero, List.set_cons_succ]
              refine wpAnyH_ready (rs := [9]) (by kernel_rfl) (by simp) (AllReadyH.cons rfl (fun K1 hK1 => ?_) AllReadyH.nil)
              refine branchG (some 50) ui (w9.alloc (.cells #[.int .i64 (p : Int)] 3)).drew rfl (by kernel_rfl) (by go_simp) ?_
              refine hK1.out _ _ HTA.out (fun _ => ?_)
              simp only [Act.put, List.setIfInBounds_toArray, List.set_cons_zero, List.set_cons_succ]
              refine wpAnyH_ready (rs := [13]) (by kernel_rfl) (by simp) (AllReadyH.cons rfl (fun K3 hK3 => ?_) AllReadyH.nil)
              refine step_intAt rfl 30 Try.underlying30 (.tmp 50) (.tmp 53) rfl Bz ui Li rfl R1b.out w9.heap.size (p : Int) rfl r2b HLI2.out R3b.out ?_
              intro v' w10 ho8 hg8 hat8
              obtain ⟨⟨A9, n9, c9, e9⟩, ⟨cj9, fj9⟩, hS8, hS9, hg9⟩ := HG7.out v' w10 ho8 hg8 hat8
              subst e9
              show K3 (Act.put _ (some 54) _) _
              have HT9 := Lib.hid hS9
              have HR := Lib.hid hg9
              clear ho8 hg8 hat8 hS9 hg9
              refine hK3.out _ _ hS8 (fun _ => ?_)
              simp only [Act.put, List.setIfInBounds_toArray, List.set_cons_zero, List.set_cons_succ]
              refine takeG (i := 14) (some 55) (.pointer (some ⟨gI, q, none⟩)) rfl rfl (by kernel_rfl) (by kernel_rfl) (by kernel_rfl) (fun _ _ _ h => h) hS8 (by kernel_rfl) (fun W hW => by obtain ⟨k1, k2, k3, k4⟩ := hW; go_simp) ?_
              simp only [Act.put, List.setIfInBounds_toArray, List.set_cons_zero, List.set_cons_succ]
              clear hS8
              refine wpAnyH_ready (rs := [15]) (by kernel_rfl) (by simp) (AllReadyH.cons rfl (fun K4 hK4 => ?_) AllReadyH.nil)
              refine branchS (w10.setCell ⟨gI, q, none⟩ (.slice A9 n9 c9)) rfl (by kernel_rfl) (by go_simp) ?_
              refine hK4.out _ _ HT9.out (fun _ => ?_)
              refine wpAnyH_done (by kernel_rfl) ?_ _
              simp only [Act.put]
              clear cj9 fj9 HT9 HG7
              generalize w10.setCell ⟨gI, q, none⟩ (.slice A9 n9 c9) = w11 at *
              go_wp2_with fail
              go_roundw
              case rel => exact ⟨k + 1, by omega, by go_num, HR⟩
              case measure => simp [intOf]; omega
          · refine branchG (some 38) (.slice (some ⟨w6.heap.size, 0, none⟩) 1 1) (w6.alloc (.cells #[.int .i64 (q : Int)] 3)).drew rfl (by kernel_rfl) (by go_simp) ?_
            refine hK2.out _ _ HSA.out (fun _ => ?_)
            simp only [Act.put, List.setIfInBounds_toArray, List.set_cons_zero, List.set_cons_succ]
            refine wpAnyH_ready (rs := [9]) (by kernel_rfl) (by simp) (AllReadyH.cons rfl (fun K1 hK1 => ?_) AllReadyH.nil)
            refine branchG (some 35) uk (w6.alloc (.cells #[.int .i64 (q : Int)] 3)).drew rfl (by kernel_rfl) (by go_simp) ?_
            refine hK1.out _ _ HSA.out (fun _ => ?_)
            simp only [Act.put, List.setIfInBounds_toArray, List.set_cons_zero, List.set_cons_succ]
            refine wpAnyH_ready (rs := [13]) (by kernel_rfl) (by simp) (AllReadyH.cons rfl (fun K3 hK3 => ?_) AllReadyH.nil)
            refine step_intAt rfl 30 Try.underlying30 (.tmp 35) (.tmp 38) rfl Bz uk (rowsK ⟨n, d⟩ k p) rfl R1.out w6.heap.size (q : Int) rfl r2 HL0.out R3.out ?_
            intro v' w8 ho8 hg8 hat8
            obtain ⟨⟨A8, n8, c8, e8⟩, ⟨cj8, fj8⟩, hS8, hS9, hh9, hz9, hg9⟩ := HG.out v' w8 ho8 hg8 hat8
            subst e8
            show K3 (Act.put _ (some 39) _) _
            have HS9 := Lib.hid hS9
            have HH9 := Lib.hid hh9
            have HZ9 := Lib.hid hz9
            have HG9 := Lib.hid hg9
            clear ho8 hg8 hat8 hS9 hh9 hz9 hg9
            refine hK3.out _ _ hS8 (fun _ => ?_)
            simp only [Act.put, List.setIfInBounds_toArray, List.set_cons_zero, List.set_cons_succ]
            refine takeG (i := 14) (some 40) (.pointer (some ⟨gO, p, none⟩)) rfl rfl (by kernel_rfl) (by kernel_rfl) (by kernel_rfl) (fun _ _ _ h => h) hS8 (by kernel_rfl) (fun W hW => by obtain ⟨k1, k2, k3, k4⟩ := hW; go_simp) ?_
            simp only [Act.put, List.setIfInBounds_toArray, List.set_cons_zero, List.set_cons_succ]
            clear hS8
            refine wpAnyH_ready (rs := [15]) (by kernel_rfl) (by simp) (AllReadyH.cons rfl (fun K4 hK4 => ?_) AllReadyH.nil)
            refine branchS (w8.setCell ⟨gO, p, none⟩ (.slice A8 n8 c8)) rfl (by kernel_rfl) (by go_simp) ?_
            refine hK4.out _ _ HS9.out (fun _ => ?_)
            refine wpAnyH_done (by kernel_rfl) ?_ _
            simp only [Act.put]
            clear cj8 fj8 HS9 HG
            generalize w8.setCell ⟨gO, p, none⟩ (.slice A8 n8 c8) = w9 at *
            go_wp2_with fail
            obtain ⟨us9, hS9g⟩ := HG9.out
            obtain ⟨r1b, r2b, r3b, ⟨r4b, r5b⟩, r6b⟩ := regI (x := (p : Int)) hS9g HZ9.out hqn
            have HT0 : Hid (w9.drew.cell? ⟨b3, 0, none⟩ = some (.slice (some ⟨gO, 0, none⟩) n n) ∧ w9.drew.cell? ⟨b3, 1, none⟩ = some (.slice (some ⟨gI, 0, none⟩) n n) ∧ w9.drew.cell? ⟨wr.heap.size, 0, none⟩ = some (.int .i64 (p : Int)) ∧ w9.drew.cell? ⟨wr.heap.size, 2, none⟩ = some (.int .i64 (q : Int))) := Lib.hid (boxS (W := w9.drew) HH9.out.1 HH9.out.2)
            have HTA : Hid ((w9.alloc (.cells #[.int .i64 (p : Int)] 3)).drew.cell? ⟨b3, 0, none⟩ = some (.slice (some ⟨gO, 0, none⟩) n n) ∧ (w9.alloc (.cells #[.int .i64 (p : Int)] 3)).drew.cell? ⟨b3, 1, none⟩ = some (.slice (some ⟨gI, 0, none⟩) n n) ∧ (w9.alloc (.cells #[.int .i64 (p : Int)] 3)).drew.cell? ⟨wr.heap.size, 0, none⟩ = some (.int .i64 (p : Int)) ∧ (w9.alloc (.cells #[.int .i64 (p : Int)] 3)).drew.cell? ⟨wr.heap.size, 2, none⟩ = some (.int .i64 (q : Int))) := Lib.hid (boxS (alloc_drew_keeps _ HH9.out.1) (alloc_drew_keeps _ HH9.out.2))
            obtain ⟨Li, hLi⟩ : ∃ Li, Li = upd (rowsK ⟨n, d⟩ k) p (rowsK ⟨n, d⟩ k p ++ [(q : Int)]) (n + q) := ⟨_, rfl⟩
            obtain ⟨ui, hui⟩ : ∃ ui, ui = us9 (n + q) := ⟨_, rfl⟩
            have HLI2 : Hid (Li.length ≤ 10000) := Lib.hid (by rw [hLi]; exact HLI.out)
            have HG7 : Hid (∀ v' w10, OwnI w10 Bz v' (Li ++ [(p : Int)]) → (w9.alloc (.cells #[.int .i64 (p : Int)] 3)).drew.grownBy w10 ui.ownBlock → (v'.ownBlock = ui.ownBlock ∨ v'.ownBlock = some (w9.alloc (.cells #[.int .i64 (p : Int)] 3)).drew.heap.size) → (∃ A8 n8 c8, v' = .slice A8 n8 c8) ∧ (w10.cell? ⟨gI, q, none⟩ = some ui ∧ w10.frozen? ⟨gI, q, none⟩ = false) ∧ (w10.cell? ⟨b3, 0, none⟩ = some (.slice (some ⟨gO, 0, none⟩) n n) ∧ w10.cell? ⟨b3, 1, none⟩ = some (.slice (some ⟨gI, 0, none⟩) n n) ∧ w10.cell? ⟨wr.heap.size, 0, none⟩ = some (.int .i64 (p : Int)) ∧ w10.cell? ⟨wr.heap.size, 2, none⟩ = some (.int .i64 (q : Int))) ∧ ((w10.setCell ⟨gI, q, none⟩ v').cell? ⟨b3, 0, none⟩ = some (.slice (some ⟨gO, 0, none⟩) n n) ∧ (w10.setCell ⟨gI, q, none⟩ v').cell? ⟨b3, 1, none⟩ = some (.slice (some ⟨gI, 0, none⟩) n n) ∧ (w10.setCell ⟨gI, q, none⟩ v').cell? ⟨wr.heap.size, 0, none⟩ = some (.int .i64 (p : Int)) ∧ (w10.setCell ⟨gI, q, none⟩ v').cell? ⟨wr.heap.size, 2, none⟩ = some (.int .i64 (q : Int))) ∧ ∃ us, Sg w2 (w10.setCell ⟨gI, q, none⟩ v') gO gI n Bz us (rowsK ⟨n, d⟩ (k + 1))) := Lib.hid (by
              intro v' w10 a1 a2 a3
              rw [hui] at a2 a3 ⊢
              rw [hLi] at a1
              obtain ⟨s1, s2, s3, us5, s5⟩ := r6b v' w10 a1 a2 a3
              obtain ⟨t1, t2⟩ := s3 _ _ _ HH9.out.1 (by decide) hd3I
              obtain ⟨t3, t4⟩ := s3 _ _ _ HH9.out.2 (by decide) (by omega)
              exact ⟨s1, s2, boxS t1 t3, boxS t2 t4, us5, s5.congr HFIN.out⟩)
            have R1b := Lib.hid r1b
            have R3b := Lib.hid r3b
            rw [← hui, ← hLi] at R1b
            rw [← hui] at r4b r5b
            clear hS9g r1b r3b r6b hui hLi HG9 HH9 HZ9 HFIN r2 r4 r5 R1 R3 HL0 HLI
            refine wp_region_held_drew (S := fun W => W.cell? ⟨b3, 0, none⟩ = some (.slice (some ⟨gO, 0, none⟩) n n) ∧ W.cell? ⟨b3, 1, none⟩ = some (.slice (some ⟨gI, 0, none⟩) n n) ∧ W.cell? ⟨wr.heap.size, 0, none⟩ = some (.int .i64 (p : Int)) ∧ W.cell? ⟨wr.heap.size, 2, none⟩ = some (.int .i64 (q : Int))) (by kernel_rfl) HT0.out (fun _ => ?_)
            refine takeG (i := 0) (some 41) (.pointer (some ⟨b3, 1, none⟩)) rfl rfl (by kernel_rfl) (by kernel_rfl) (by kernel_rfl) (fun _ _ _ h => h) HT0.out (by kernel_rfl) (fun W hW => by obtain ⟨k1, k2, k3, k4⟩ := hW; go_simp) ?_
            simp only [Act.put, List.setIfInBounds_toArray, List.set_cons_zero, List.set_cons_succ]
            refine takeG (i := 1) (some 42) (.slice (some ⟨gI, 0, none⟩) n n) rfl rfl (by kernel_rfl) (by kernel_rfl) (by kernel_rfl) (fun _ _ _ h => h) HT0.out (by kernel_rfl) (fun W hW => by obtain ⟨k1, k2, k3, k4⟩ := hW; go_simp) ?_
            simp only [Act.put, List.setIfInBounds_toArray, List.set_cons_zero, List.set_cons_succ]
            refine takeG (i := 2) (some 43) (.pointer (some ⟨wr.heap.size, 2, none⟩)) rfl rfl (by kernel_rfl) (by kernel_rfl) (by kernel_rfl) (fun _ _ _ h => h) HT0.out (by kernel_rfl) (fun W hW => by obtain ⟨k1, k2, k3, k4⟩ := hW; go_simp) ?_
            simp only [Act.put, List.setIfInBounds_toArray, List.set_cons_zero, List.set_cons_succ]
            refine takeG (i := 3) (some 44) (.int .i64 (q : Int)) rfl rfl (by kernel_rfl) (by kernel_rfl) (by kernel_rfl) (fun _ _ _ h => h) HT0.out (by kernel_rfl) (fun W hW => by obtain ⟨k1, k2, k3, k4⟩ := hW; go_simp) ?_
            simp only [Act.put, List.setIfInBounds_toArray, List.set_cons_zero, List.set_cons_succ]
            refine takeG (i := 4) (some 45) (.pointer (some ⟨b3, 1, none⟩)) rfl rfl (by kernel_rfl) (by kernel_rfl) (by kernel_rfl) (fun _ _ _ h => h) HT0.out (by kernel_rfl) (fun W hW => by obtain ⟨k1, k2, k3, k4⟩ := hW; go_simp) ?_
            simp only [Act.put, List.setIfInBounds_toArray, List.set_cons_zero, List.set_cons_succ]
            refine takeG (i := 5) (some 46) (.slice (some ⟨gI, 0, none⟩) n n) rfl rfl (by kernel_rfl) (by kernel_rfl) (by kernel_rfl) (fun _ _ _ h => h) HT0.out (by kernel_rfl) (fun W hW => by obtain ⟨k1, k2, k3, k4⟩ := hW; go_simp) ?_
            simp only [Act.put, List.setIfInBounds_toArray, List.set_cons_zero, List.set_cons_succ]
            refine takeG (i := 6) (some 47) (.pointer (some ⟨wr.heap.size, 2, none⟩)) rfl rfl (by kernel_rfl) (by kernel_rfl) (by kernel_rfl) (fun _ _ _ h => h) HT0.out (by kernel_rfl) (fun W hW => by obtain ⟨k1, k2, k3, k4⟩ := hW; go_simp) ?_
            simp only [Act.put, List.setIfInBounds_toArray, List.set_cons_zero, List.set_cons_succ]
            refine takeG (i := 7) (some 48) (.int .i64 (q : Int)) rfl rfl (by kernel_rfl) (by kernel_rfl) (by kernel_rfl) (fun _ _ _ h => h) HT0.out (by kernel_rfl) (fun W hW => by obtain ⟨k1, k2, k3, k4⟩ := hW; go_simp) ?_
            simp only [Act.put, List.setIfInBounds_toArray, List.set_cons_zero, List.set_cons_succ]
            refine takeG (i := 8) (some 49) (.pointer (some ⟨gI, q, none⟩)) rfl rfl (by kernel_rfl) (by kernel_rfl) (by kernel_rfl) (fun _ _ _ h => h) HT0.out (by kernel_rfl) (fun W hW => by obtain ⟨k1, k2, k3, k4⟩ := hW; go_simp) ?_
            simp only [Act.put, List.setIfInBounds_toArray, List.set_cons_zero, List.set_cons_succ]
            refine takeG (i := 10) (some 51) (.pointer (some ⟨wr.heap.size, 0, none⟩)) rfl rfl (by kernel_rfl) (by kernel_rfl) (by kernel_rfl) (fun _ _ _ h => h) HT0.out (by kernel_rfl) (fun W hW => by obtain ⟨k1, k2, k3, k4⟩ := hW; go_simp) ?_
            simp only [Act.put, List.setIfInBounds_toArray, List.set_cons_zero, List.set_cons_succ]
            refine takeG (i := 11) (some 52) (.int .i64 (p : Int)) rfl rfl (by kernel_rfl) (by kernel_rfl) (by kernel_rfl) (fun _ _ _ h => h) HT0.out (by kernel_rfl) (fun W hW => by obtain ⟨k1, k2, k3, k4⟩ := hW; go_simp) ?_
            simp only [Act.put, List.setIfInBounds_toArray, List.set_cons_zero, List.set_cons_succ]
            refine wpAnyH_ready (rs := [9, 12]) (by kernel_rfl) (by simp) (AllReadyH.cons rfl (fun K1 hK1 => ?_) (AllReadyH.cons rfl (fun K2 hK2 => ?_) AllReadyH.nil))
            · refine branchG (some 50) ui w9.drew rfl (by kernel_rfl) (by go_simp) ?_
              refine hK1.out _ _ HT0.out (fun _ => ?_)
              simp only [Act.put, List.setIfInBounds_toArray, List.set_cons_zero, List.set_cons_succ]
              refine wpAnyH_ready (rs := [12]) (by kernel_rfl) (by simp) (AllReadyH.cons rfl (fun K2 hK2 => ?_) AllReadyH.nil)
              refine branchG (some 53) (.slice (some ⟨w9.heap.size, 0, none⟩) 1 1) (w9.alloc (.cells #[.int .i64 (p : Int)] 3)).drew rfl (by kernel_rfl) (by go_simp) ?_
              refine hK2.out _ _ HTA.out (fun _ => ?_)
              simp only [Act.put, List.setIfInBounds_toArray, List.set_cons_zero, List.set_cons_succ]
              refine wpAnyH_ready (rs := [13]) (by kernel_rfl) (by simp) (AllReadyH.cons rfl (fun K3 hK3 => ?_) AllReadyH.nil)
              refine step_intAt rfl 30 Try.underlying30 (.tmp 50) (.tmp 53) rfl Bz ui Li rfl R1b.out w9.heap.size (p : Int) rfl r2b HLI2.out R3b.out ?_
              intro v' w10 ho8 hg8 hat8
              obtain ⟨⟨A9, n9, c9, e9⟩, ⟨cj9, fj9⟩, hS8, hS9, hg9⟩ := HG7.out v' w10 ho8 hg8 hat8
              subst e9
              show K3 (Act.put _ (some 54) _) _
              have HT9 := Lib.hid hS9
              have HR := Lib.hid hg9
              clear ho8 hg8 hat8 hS9 hg9
              refine hK3.out _ _ hS8 (fun _ => ?_)
              simp only [Act.put, List.setIfInBounds_toArray, List.set_cons_zero, List.set_cons_succ]
              refine takeG (i := 14) (some 55) (.pointer (some ⟨gI, q, none⟩)) rfl rfl (by kernel_rfl) (by kernel_rfl) (by kernel_rfl) (fun _ _ _ h => h) hS8 (by kernel_rfl) (fun W hW => by obtain ⟨k1, k2, k3, k4⟩ := hW; go_simp) ?_
              simp only [Act.put, List.setIfInBounds_toArray, List.set_cons_zero, List.set_cons_succ]
              clear hS8
              refine wpAnyH_ready (rs := [15]) (by kernel_rfl) (by simp) (AllReadyH.cons rfl (fun K4 hK4 => ?_) AllReadyH.nil)
              refine branchS (w10.setCell ⟨gI, q, none⟩ (.slice A9 n9 c9)) rfl (by kernel_rfl) (by go_simp) ?_
              refine hK4.out _ _ HT9.out (fun _ => ?_)
              refine wpAnyH_done (by kernel_rfl) ?_ _
              simp only [Act.put]
              clear cj9 fj9 HT9 HG7
              generalize w10.setCell ⟨gI, q, none⟩ (.slice A9 n9 c9) = w11 at *
              go_wp2_with fail
              go_roundw
              case rel => exact ⟨k + 1, by omega, by go_num, HR⟩
              case measure => simp [intOf]; omega
            · refine branchG (some 53) (.slice (some ⟨w9.heap.size, 0, none⟩) 1 1) (w9.alloc (.cells #[.int .i64 (p : Int)] 3)).drew rfl (by kernel_rfl) (by go_simp) ?_
              refine hK2.out _ _ HTA.out (fun _ => ?_)
              simp only [Act.put, List.setIfInBounds_toArray, List.set_cons_zero, List.set_cons_succ]
              refine wpAnyH_ready (rs := [9]) (by kernel_rfl) (by simp) (AllReadyH.cons rfl (fun K1 hK1 => ?_) AllReadyH.nil)
              refine branchG (some 50) ui (w9.alloc (.cells #[.int .i64 (p : Int)] 3)).drew rfl (by kernel_rfl) (by go_simp) ?_
              refine hK1.out _ _ HTA.out (fun _ => ?_)
              simp only [Act.put, List.setIfInBounds_toArray, List.set_cons_zero, List.set_cons_succ]
              refine wpAnyH_ready (rs := [13]) (by kernel_rfl) (by simp) (AllReadyH.cons rfl (fun K3 hK3 => ?_) AllReadyH.nil)
              refine step_intAt rfl 30 Try.underlying30 (.tmp 50) (.tmp 53) rfl Bz ui Li rfl R1b.out w9.heap.size (p : Int) rfl r2b HLI2.out R3b.out ?_
              intro v' w10 ho8 hg8 hat8
              obtain ⟨⟨A9, n9, c9, e9⟩, ⟨cj9, fj9⟩, hS8, hS9, hg9⟩ := HG7.out v' w10 ho8 hg8 hat8
              subst e9
              show K3 (Act.put _ (some 54) _) _
              have HT9 := Lib.hid hS9
              have HR := Lib.hid hg9
              clear ho8 hg8 hat8 hS9 hg9
              refine hK3.out _ _ hS8 (fun _ => ?_)
              simp only [Act.put, List.setIfInBounds_toArray, List.set_cons_zero, List.set_cons_succ]
              refine takeG (i := 14) (some 55) (.pointer (some ⟨gI, q, none⟩)) rfl rfl (by kernel_rfl) (by kernel_rfl) (by kernel_rfl) (fun _ _ _ h => h) hS8 (by kernel_rfl) (fun W hW => by obtain ⟨k1, k2, k3, k4⟩ := hW; go_simp) ?_
              simp only [Act.put, List.setIfInBounds_toArray, List.set_cons_zero, List.set_cons_succ]
              clear hS8
              refine wpAnyH_ready (rs := [15]) (by kernel_rfl) (by simp) (AllReadyH.cons rfl (fun K4 hK4 => ?_) AllReadyH.nil)
              refine branchS (w10.setCell ⟨gI, q, none⟩ (.slice A9 n9 c9)) rfl (by kernel_rfl) (by go_simp) ?_
              refine hK4.out _ _ HT9.out (fun _ => ?_)
              refine wpAnyH_done (by kernel_rfl) ?_ _
              simp only [Act.put]
              clear cj9 fj9 HT9 HG7
              generalize w10.setCell ⟨gI, q, none⟩ (.slice A9 n9 c9) = w11 at *
              go_wp2_with fail
              go_roundw
              case rel => exact ⟨k + 1, by omega, by go_num, HR⟩
              case measure => simp [intOf]; omega

        · have hto : toN n (edgesL ⟨n, d⟩ n)[k] = false := by
            rw [hTN.out, ← HTV.out, ← Bool.decide_and]
            exact decide_eq_false htn
          have HFIN : Hid (rowsK ⟨n, d⟩ (k + 1) = rowsK ⟨n, d⟩ k) := Lib.hid (HSKIP.out hto)
          have hnb : (false : Bool) = true ↔ 0 ≤ tv ∧ tv < (n : Int) := ⟨fun h => by simp at h, fun h => absurd h htn⟩
          have HNB := Lib.hid hnb
          clear htn hto hnb
          go_wp2_with (first
            | (refine wpList_load_row rfl 27 _ rfl w.heap.size rfl 27 #[.int .i64 lb, .slice A a aa, .slice B b bb, .slice V p0 pp, .slice S q0 qq, .slice N n nn] (0, 0) _ hbm5.out Try.underlying27 rfl (by kernel_rfl) ?_)
            | (go_at_call 37; refine (rNode_any _ _ _ _ _ _ _ n nn tv false HNB.out).mono ?_; rintro e w6 ⟨rfl, hb6⟩; have hb6 := Lib.hid hb6)
            | fail)
          have HR : Hid (∃ us, Sg w2 w6 gO gI n Bz us (rowsK ⟨n, d⟩ (k + 1))) := Lib.hid (by
            rw [HFIN.out]
            exact ⟨us, (HSR.out.alloc hBr (.cells #[.int .i64 (p : Int), .int .i64 ej, .int .i64 tv] 44)).step (by simp; omega) hb6.out⟩)
          clear HSR hbm5 hbmr hb3r y0 y1 y2 hBr hb6 HSTEP HSKIP hrl hTN HP HTV HFIN HNB
          go_wp2_with fail
          go_roundw
          case rel => exact ⟨k + 1, by omega, by go_num, HR⟩
          case measure => simp [intOf]; omega
      · obtain rfl : m = k := by omega
        have hfin : Hid (GraphEnds w ⟨n, d⟩ (.returned (.agg #[.slice (some ⟨gO, 0, none⟩) n n, .slice (some ⟨gI, 0, none⟩) n n])) ((wr.setCell ⟨w.heap.size + 1, 0, none⟩ (.slice (some ⟨gO, 0, none⟩) n n)).setCell ⟨w.heap.size + 1, 1, none⟩ (.slice (some ⟨gI, 0, none⟩) n n))) := Lib.hid (by
          obtain ⟨us, hS⟩ := hr.out
          have hS2 : Sg w2 wr gO gI n Bz us (rowsK ⟨n, d⟩ (edgesL ⟨n, d⟩ n).length) := by rw [← HMD.out]; exact hS
          exact Sg.ends2 (G := ⟨n, d⟩) hS2 HW2.out (by omega) (by omega) (by omega) ((hS.bu.block (w.heap.size + 1) (by omega) (by omega) (by omega)).trans HR3.out) (by omega) _ _)
        obtain ⟨us, hS⟩ := hr.out
        have hb3r := (hS.bu.block _ hb3B hd3O hd3I).trans HB3.out
        have hb2r := (hS.bu.block (w.heap.size + 1) (by omega) (by omega) (by omega)).trans HR3.out
        have hfinr := row_set2 hb2r (.slice (some ⟨gO, 0, none⟩) n n) (.slice (some ⟨gI, 0, none⟩) n n)
        have c0 : wr.cell? ⟨b3, 0, none⟩ = some (.slice (some ⟨gO, 0, none⟩) n n) := by rw [cell_of_row wr b3 0 _ _ (0, 0) hb3r]; rfl
        have c1 : wr.cell? ⟨b3, 1, none⟩ = some (.slice (some ⟨gI, 0, none⟩) n n) := by rw [cell_of_row wr b3 1 _ _ (0, 0) hb3r]; rfl
        have c2 : wr.cell? ⟨w.heap.size + 1, 0, none⟩ = some (.slice none 0 0) := by rw [cell_of_row wr _ 0 _ _ (0, 0) hb2r]; rfl
        have c3 : wr.cell? ⟨w.heap.size + 1, 1, none⟩ = some (.slice none 0 0) := by rw [cell_of_row wr _ 1 _ _ (0, 0) hb2r]; rfl
        have f2 : wr.frozen? ⟨w.heap.size + 1, 0, none⟩ = false := by simp [World.frozen?, hb2r]
        have f3 : wr.frozen? ⟨w.heap.size + 1, 1, none⟩ = false := by simp [World.frozen?, hb2r]
        have HFR := Lib.hid hfinr
        clear hS hb3r hb2r hr hfinr
        go_wp2_with fail
        exact bodyPost_ret (v := .agg #[.slice (some ⟨gO, 0, none⟩) n n, .slice (some ⟨gI, 0, none⟩) n n]) (results_cell_row rfl _ _ _ 71 _ (0, 0) _ rfl HFR.out Try.underlying71 rfl (by kernel_rfl)) rfl hfin.out
  have REST := Lib.hid REST
  have e1 : w.heap.size < w.heap.size + 2 := by omega
  have e2 : w.heap.size + 2 ≤ W1.heap.size := by omega
  go_region_held3 (fun W => W.cell? ⟨w.heap.size, 5, none⟩ = some (.slice N n nn) ∧ Below (w.heap.size + 2) W1 W) (first | exact ⟨d5, HB1.out⟩ | exact Kp1.alloc e1 e2 (Kp1.alloc e1 e2 (Kp1.alloc e1 e2 ⟨d5, HB1.out⟩ _) _) _ | exact Kp1.alloc e1 e2 (by assumption) _ | exact Kp1.alloc e1 e2 ⟨by assumption, by assumption⟩ _ | exact Kp1.set e1 (by omega) (by assumption) _ _ | exact Kp1.set e1 (by omega) ⟨by assumption, by assumption⟩ _ _) (first | fail)
  all_goals
    first
      | exact REST.out _ _ _ _ (Lib.hid (in0_1 hs1))
      | exact REST.out _ _ _ _ (Lib.hid (in0_2 hs1))
      | exact REST.out _ _ _ _ (Lib.hid (in0_3 hs1))
      | exact REST.out _ _ _ _ (Lib.hid (in0_4 hs1))
      | exact REST.out _ _ _ _ (Lib.hid (in0_5 hs1))
      | exact REST.out _ _ _ _ (Lib.hid (in0_6 hs1))
end Go.Proofs.Ytmbjmibjobpdgaa

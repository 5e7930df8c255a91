/-
  The landed newWalk.
  The queue's Push and Pop.
  container/heap's Push over the queue.
  The queue's Pop.
  container/heap's Pop over the queue: the least one comes out.
-/
import Derived.Test.YtmbjmibjobpdgaaM30
import Derived.Test.YtmbjmibjobpdgaaM33
import Derived.Laws.MakeOwn
import Derived.Test.YtmbjmibjobpdgaaM31
namespace Go.Proofs.Ytmbjmibjobpdgaa
open Go.RowKit

theorem infoBool : (Try.prog.info? 4).map (fun i => (i.zero, i.size, i.bytes)) = some (some (.bool false), 1, 1) := by kernel_rfl
theorem run_mk {T E sz : Nat} {z : Value} (hT : Try.prog.underlying T = some (.slice E)) (hE : (Try.prog.info? E).map (fun i => (i.zero, i.size, i.bytes)) = some (some z, 1, sz)) (n : Nat) (hn : n ≤ 1000) (hsz : sz ≤ 1000) (w : World) :
    (Instr.makeSlice T (.int .i64 (n : Int)) (.int .i64 (n : Int))).run Try.prog w = .ok (.slice (some ⟨w.heap.size, 0, none⟩) n n) (w.alloc (.cells (madeCells z.cells n) E)) := by
  obtain ⟨i0, hi, hz0, hz1, hz2⟩ := info_parts hE
  have hb : (i0.bytes : Int) * (n : Int) ≤ 281474976710656 := by
    have h : i0.bytes * n ≤ 1000 * 1000 := Nat.mul_le_mul (by omega) hn
    have : ((i0.bytes * n : Nat) : Int) ≤ 281474976710656 := by omega
    rwa [Int.natCast_mul] at this
  have hr := run_make (P := Try.prog) w T E i0 z hT hi hz0 .i64 .i64 n n (by omega) (by omega) hb (by omega)
  simp only [Int.toNat_natCast, hz1, Nat.mul_one] at hr
  exact hr
theorem CB.made (w : World) (E : Nat) (z : Value) (n : Nat) : CB (w.alloc (.cells (madeCells #[z] n) E)) E w.heap.size n (fun _ => z) := by
  refine ⟨_, heap_alloc_new w _, by rw [size_madeCells]; exact Nat.le_refl _, fun i hi => ?_⟩
  have hlt : i < (madeCells #[z] n).size := by rw [size_madeCells]; exact hi
  rw [Array.getElem?_eq_getElem hlt]
  simp [madeCells, Nat.mod_one]
theorem LieC.us {w : World} {lim n g o : Nat} {R : Nat → List Nat} (h : LieC w lim (some ⟨g, o, none⟩) n R) : ∃ us : Nat → Value, (∀ t, t < n → w.cell? ⟨g, o + t, none⟩ = some (us t)) ∧ ∀ t, t < n → ∃ B c, us t = .slice B (R t).length c ∧ (R t).length ≤ c ∧ LieI w lim B (ofNs (R t)) := by
  have key : ∀ t, ∃ u : Value, t < n → w.cell? ⟨g, o + t, none⟩ = some u ∧ ∃ B c, u = .slice B (R t).length c ∧ (R t).length ≤ c ∧ LieI w lim B (ofNs (R t)) := fun t => by
    by_cases ht : t < n
    · obtain ⟨g', o', e, _, hx⟩ := h (by omega)
      injection e with e
      injection e with e1 e2
      subst e1
      subst e2
      obtain ⟨B, c, h1, h2, h3⟩ := hx t ht
      exact ⟨_, fun _ => ⟨h1, B, c, rfl, h2, h3⟩⟩
    · exact ⟨.bool false, fun h => absurd h ht⟩
  exact ⟨fun t => (key t).choose, fun t ht => ((key t).choose_spec ht).1, fun t ht => ((key t).choose_spec ht).2⟩
/-- What newWalk answers. -/
def NewEnds (w : World) (lim n : Nat) (R : Nat → List Nat) (e : Ending) (w' : World) : Prop :=
  ∃ gm A co, e = .returned (.agg #[.slice (some ⟨gm, 0, none⟩) n n, .slice A n co]) ∧ w.heap.size ≤ gm ∧ MetAt w' gm n (fun _ => false) ∧ (0 < n → ∃ go, A = some ⟨go, 0, none⟩ ∧ w.heap.size ≤ go ∧ OpnAt w' lim go n R) ∧ Below w.heap.size w w'
theorem NewEnds.of {w w' : World} {lim n gm co : Nat} {A : Option Addr} {R : Nat → List Nat} {us : Nat → Value} (hus : ∀ t, t < n → ∃ B c, us t = .slice B (R t).length c ∧ (R t).length ≤ c ∧ LieI w lim B (ofNs (R t))) (hlim : lim ≤ w.heap.size) (hgm : w.heap.size ≤ gm) (hm : MetAt w' gm n (fun _ => false)) (ho : 0 < n → ∃ go, A = some ⟨go, 0, none⟩ ∧ w.heap.size ≤ go ∧ CB w' 30 go n us) (hb : Below w.heap.size w w') :
    NewEnds w lim n R (.returned (.agg #[.slice (some ⟨gm, 0, none⟩) n n, .slice A n co])) w' :=
  ⟨gm, A, co, rfl, hgm, hm, fun h0 => by
    obtain ⟨go, e, h1, h2⟩ := ho h0
    refine ⟨go, e, h1, us, h2, fun i hi => ?_⟩
    obtain ⟨B, c, e1, e2, e3⟩ := hus i hi
    exact ⟨B, c, e1, e2, e3.keep fun k j hk => (hb.cell (p := ⟨k, j, none⟩) (Nat.lt_of_lt_of_le hk hlim))⟩, hb⟩
theorem CB.set2 {w : World} {T g m b : Nat} {us : Nat → Value} (h : CB w T g m us) (hne : g ≠ b) (x y : Value) : CB ((w.setCell ⟨b, 0, none⟩ x).setCell ⟨b, 1, none⟩ y) T g m us :=
  h.block ((Below.heap_setCell _ ⟨b, 1, none⟩ _ _ (show g ≠ b from hne)).trans (Below.heap_setCell _ ⟨b, 0, none⟩ _ _ (show g ≠ b from hne)))
theorem below_set2 {w w' : World} {lim b : Nat} (h : Below lim w w') (hb : lim ≤ b) (x y : Value) : Below lim w ((w'.setCell ⟨b, 0, none⟩ x).setCell ⟨b, 1, none⟩ y) :=
  (h.setCell hb _).setCell hb _
theorem row_set2 {w : World} {b : Nat} {x0 y0 : Value} {T : TypeId} (h : w.heap[b]? = some (.cells #[x0, y0] T (0, 0))) (x y : Value) : ((w.setCell ⟨b, 0, none⟩ x).setCell ⟨b, 1, none⟩ y).heap[b]? = some (.cells #[x, y] T (0, 0)) :=
  heap_set (heap_set h 0 x) 1 y
set_option maxRecDepth 20000 in
set_option maxHeartbeats 1000000 in
theorem newWalk_any {w : World} {lim g o n c : Nat} {R : Nat → List Nat} (h : LieC w lim (some ⟨g, o, none⟩) n R) (hg : g < lim) (hlim : lim ≤ w.heap.size) (hn : n ≤ 1000) :
    Calls Try.prog 38 #[.slice (some ⟨g, o, none⟩) n c] w fun e w' => NewEnds w lim n R e w' := by
  obtain ⟨us, h1, h2⟩ := h.us
  have hone : ∀ t, t < n → (us t).oneCell' = true := fun t ht => by
    obtain ⟨B, c, e, _⟩ := h2 t ht
    rw [e]; rfl
  have CL : Hid (∀ W, Below w.heap.size w W → Calls Try.prog 67 #[.slice (some ⟨g, o, none⟩) n c] W fun e w' => ∃ A co, e = .returned (.slice A n co) ∧ (0 < n → ∃ go, A = some ⟨go, 0, none⟩ ∧ W.heap.size ≤ go ∧ CB w' 30 go n us) ∧ Below W.heap.size W w') := Lib.hid fun W hb =>
    clone_any (fun t ht => (hb.cell (p := ⟨g, o + t, none⟩) (show g < w.heap.size by omega)).trans (h1 t ht)) hone (Nat.lt_of_lt_of_le (show g < w.heap.size by omega) hb.size) hn
  have hmk : ∀ w : World, (Instr.makeSlice 47 (.int .i64 (n : Int)) (.int .i64 (n : Int))).run Try.prog w = .ok (.slice (some ⟨w.heap.size, 0, none⟩) n n) (w.alloc (.cells (madeCells #[.bool false] n) 4)) := run_mk Try.underlying47 infoBool n hn (by omega)
  have FIN : Hid (∀ {w' : World} {gm co : Nat} {A : Option Addr}, w.heap.size ≤ gm → MetAt w' gm n (fun _ => false) → (0 < n → ∃ go, A = some ⟨go, 0, none⟩ ∧ w.heap.size ≤ go ∧ CB w' 30 go n us) → Below w.heap.size w w' → NewEnds w lim n R (.returned (.agg #[.slice (some ⟨gm, 0, none⟩) n n, .slice A n co])) w') := Lib.hid fun a b c d => NewEnds.of h2 hlim a b c d
  clear h h1 h2 hone
  go_enter Try.func38, Try.ntmps38
  go_wp2_with fail
  obtain ⟨W1, hW1⟩ : ∃ W1, W1 = w.alloc (.cells #[.slice none 0 0, .slice none 0 0] 82) := ⟨_, rfl⟩
  have hb1 : Below w.heap.size w W1 := by rw [hW1]; exact (Below.refl _ _).alloc (Nat.le_refl _) _
  have hx1 : W1.heap[w.heap.size]? = some (.cells #[.slice none 0 0, .slice none 0 0] 82 (0, 0)) := by rw [hW1]; exact heap_alloc_new w _
  have hs1 : W1.heap.size = w.heap.size + 1 := by rw [hW1]; simp
  rw [← hW1]
  clear hW1
  have hd : Below W1.heap.size W1 W1.drew := ⟨rfl, rfl, rfl, Nat.le_refl _, fun _ _ => rfl⟩
  have HB : Hid (Below w.heap.size w W1.drew ∧ W1.drew.heap[w.heap.size]? = some (.cells #[.slice none 0 0, .slice none 0 0] 82 (0, 0))) := Lib.hid ⟨hb1.trans (hd.mono (by omega)), hx1⟩
  obtain ⟨W2, hW2⟩ : ∃ W2, W2 = (W1.alloc (.cells (madeCells #[.bool false] n) 4)).drew := ⟨_, rfl⟩
  have hda : Below W1.heap.size W1 W2 := by
    rw [hW2]
    exact ((Below.refl _ _).alloc (Nat.le_refl _) (.cells (madeCells #[.bool false] n) 4)).trans ⟨rfl, rfl, rfl, Nat.le_refl _, fun _ _ => rfl⟩
  have HA : Hid (Below w.heap.size w W2 ∧ W2.heap[w.heap.size]? = some (.cells #[.slice none 0 0, .slice none 0 0] 82 (0, 0))) := Lib.hid ⟨hb1.trans (hda.mono (by omega)), (hda.block _ (by omega)).trans hx1⟩
  have HM : Hid (CB W2 4 (w.heap.size + 1) n (fun _ => .bool false)) := Lib.hid (by
    have := CB.made W1 4 (.bool false) n
    rw [hs1] at this
    rw [hW2]
    exact this)
  have K1 : Hid (∀ W : World, W.heap[w.heap.size]? = some (.cells #[.slice none 0 0, .slice none 0 0] 82 (0, 0)) → (W.cell? ⟨w.heap.size, 0, none⟩ = some (.slice none 0 0) ∧ W.cell? ⟨w.heap.size, 1, none⟩ = some (.slice none 0 0)) ∧ W.frozen? ⟨w.heap.size, 0, none⟩ = false ∧ W.frozen? ⟨w.heap.size, 1, none⟩ = false) := Lib.hid fun W h => by
    refine ⟨⟨by rw [cell_of_row W _ 0 _ _ (0, 0) h]; rfl, by rw [cell_of_row W _ 1 _ _ (0, 0) h]; rfl⟩, ?_, ?_⟩ <;> simp [World.frozen?, h]
  have K2 : Hid (∀ W : World, W.heap[w.heap.size]? = some (.cells #[.slice none 0 0, .slice none 0 0] 82 (0, 0)) → (W.alloc (.cells (madeCells #[.bool false] n) 4)).heap[w.heap.size]? = some (.cells #[.slice none 0 0, .slice none 0 0] 82 (0, 0))) := Lib.hid fun W h => by
    rw [((Below.refl _ W).alloc (Nat.le_refl _) (.cells (madeCells #[.bool false] n) 4)).block _ (row_lt h)]
    exact h
  rw [hW2] at HA HM
  clear hb1 hx1 hda hd hW2
  go_region_with (go_at_call 67; (first | (refine (CL.out _ HA.out.1).mono ?_; rintro e w6 ⟨A, co, rfl, hA, hb6⟩; have hx6 := (hb6.block _ (row_lt HA.out.2)).trans HA.out.2) | (refine (CL.out _ HB.out.1).mono ?_; rintro e w6 ⟨A, co, rfl, hA, hb6⟩; have hx6 := (hb6.block _ (row_lt HB.out.2)).trans HB.out.2)); have hA := Lib.hid hA; have hb6 := Lib.hid hb6; obtain ⟨⟨c0, c1⟩, f0, f1⟩ := K1.out _ hx6; obtain ⟨⟨d0, d1⟩, g0, g1⟩ := K1.out _ (K2.out _ hx6); have hx6 := Lib.hid hx6)
  case refine_3.refine_3.refine_3.refine_1.refine_1.refine_3.refine_1 =>
    have HE : Hid (NewEnds w lim n R (.returned (.agg #[.slice (some ⟨w.heap.size + 1, 0, none⟩) n n, .slice A n co])) ((w6.setCell ⟨w.heap.size, 0, none⟩ (.slice (some ⟨w.heap.size + 1, 0, none⟩) n n)).setCell ⟨w.heap.size, 1, none⟩ (.slice A n co))) := Lib.hid (by
      have hsz := HA.out.1.size
      refine FIN.out (by omega) ?_ ?_ ?_
      · exact (HM.out.keep hb6.out).set2 (by omega) _ _
      · intro h0
        obtain ⟨go, e, h1, h2⟩ := hA.out h0
        have := row_lt HA.out.2
        exact ⟨go, e, by omega, h2.set2 (by omega) _ _⟩
      · exact below_set2 (HA.out.1.trans (hb6.out.mono hsz)) (Nat.le_refl _) _ _)
    clear HA HB HM CL FIN hA hb6
    have hfin := row_set2 hx6.out (.slice (some ⟨w.heap.size + 1, 0, none⟩) n n) (.slice A n co)
    go_wp2_with fail
    exact bodyPost_ret (v := .agg #[.slice (some ⟨w.heap.size + 1, 0, none⟩) n n, .slice A n co]) (results_cell_row rfl _ _ _ 82 _ (0, 0) _ rfl hfin Try.underlying82 rfl (by kernel_rfl)) rfl HE.out
  case refine_3.refine_3.refine_3.refine_2.refine_1.refine_1.refine_3.refine_1 =>
    have HE : Hid (NewEnds w lim n R (.returned (.agg #[.slice (some ⟨w6.heap.size, 0, none⟩) n n, .slice A n co])) (((w6.alloc (.cells (madeCells #[.bool false] n) 4)).setCell ⟨w.heap.size, 0, none⟩ (.slice (some ⟨w6.heap.size, 0, none⟩) n n)).setCell ⟨w.heap.size, 1, none⟩ (.slice A n co))) := Lib.hid (by
      have hsz := HB.out.1.size
      have hlt := row_lt HB.out.2
      have hs6 := hb6.out.size
      have hal : Below w6.heap.size w6 (w6.alloc (.cells (madeCells #[.bool false] n) 4)) := (Below.refl _ _).alloc (Nat.le_refl _) _
      refine FIN.out (by omega) ?_ ?_ ?_
      · exact (CB.made w6 4 (.bool false) n).set2 (by omega) _ _
      · intro h0
        obtain ⟨go, e, h1, h2⟩ := hA.out h0
        exact ⟨go, e, by omega, (h2.keep hal).set2 (by omega) _ _⟩
      · exact below_set2 ((HB.out.1.trans (hb6.out.mono hsz)).trans (hal.mono (by omega))) (Nat.le_refl _) _ _)
    clear HA HB HM CL FIN hA hb6
    have hfin := row_set2 (K2.out _ hx6.out) (.slice (some ⟨w6.heap.size, 0, none⟩) n n) (.slice A n co)
    clear K1 K2
    go_wp2_with fail
    exact bodyPost_ret (v := .agg #[.slice (some ⟨w6.heap.size, 0, none⟩) n n, .slice A n co]) (results_cell_row rfl _ _ _ 82 _ (0, 0) _ rfl hfin Try.underlying82 rfl (by kernel_rfl)) rfl HE.out
end Go.Proofs.Ytmbjmibjobpdgaa
namespace Go.Proofs.Ytmbjmibjobpdgaa
open Go.RowKit

/-- The queue as its row of the call's own: empty at first. -/
structure Qv (w wr : World) (b B : Nat) (v : Value) (n : Nat) (f : Nat → Int) : Prop where
  box : wr.heap[b]? = some (.cells #[v] 107 (0, 0))
  own : OwnI wr B v ((List.range n).map f)
  below : Below B w wr
  lt : B ≤ b
theorem Qv.qb {w wr : World} {b B n : Nat} {v : Value} {f : Nat → Int} (h : Qv w wr b B v n f) (h0 : 0 < n) : ∃ g c, v = .slice (some ⟨g, 0, none⟩) n c ∧ B ≤ g ∧ g ≠ b ∧ c ≤ maxLen ∧ Qb wr wr b g c c n f := by
  have hown := h.own
  unfold OwnI at hown
  rw [List.length_map, List.length_range] at hown
  rcases id hown.2 with ⟨_, h1⟩ | ⟨g, cap, cur, rfl, hb, hh, h1, h2, h3, h4⟩
  · omega
  · have hq : Qh wr g cap n f := ⟨cur, hh, by omega, h1, fun k hk => by
      have := congrArg (fun l : List Value => l[k]?) h4
      simp only [Nat.mul_one] at this
      rw [List.getElem?_take, if_pos hk, Array.getElem?_toList] at this
      rw [this]
      simp [hk]⟩
    have hQ : Qb wr wr b g cap cap n f := ⟨h.box, hq, Bow.refl _ _ _⟩
    exact ⟨g, cap, rfl, hb, Ne.symm hQ.ne, h2, hQ⟩
/-- Back again. -/
theorem Qb.qv {w w1 wr : World} {b B g c n : Nat} {f : Nat → Int} (h : Qb w1 wr b g c c n f) (hw : Below B w w1) (hg : B ≤ g) (hb : B ≤ b) (hB : B ≤ w1.heap.size) (hc : c ≤ maxLen) : Qv w wr b B (.slice (some ⟨g, 0, none⟩) n c) n f := by
  obtain ⟨cur, h1, h2, h3, h4⟩ := h.row
  refine ⟨h.box, ?_, hw.trans ⟨h.bow.os, h.bow.tape, h.bow.output, h.bow.size, fun k hk => h.bow.block k (by omega) (by omega)⟩, hb⟩
  unfold OwnI
  rw [List.length_map, List.length_range]
  refine ⟨by simp, .inr ⟨g, c, cur, rfl, hg, h1, h3, hc, by omega, ?_⟩⟩
  refine List.ext_getElem? fun k => ?_
  rw [Nat.mul_one, List.getElem?_take]
  by_cases hk : k < n
  · rw [if_pos hk, Array.getElem?_toList, h4 k hk]
    simp [hk]
  · rw [if_neg hk, List.getElem?_eq_none (by simp; omega)]
theorem range_add (f : Nat → Int) (n : Nat) (x : Int) : (List.range (n + 1)).map (fup f n x) = (List.range n).map f ++ [x] := by
  rw [List.range_succ, List.map_append]
  congr 1
  · refine List.map_congr_left fun k hk => ?_
    have := List.mem_range.1 hk
    exact fup_far (by omega)
  · simp [fup_same]
theorem ta_int (w : World) (x : Int) : (Instr.typeAssert (.iface 3 (.int .i64 x)) 20 3 false).run Try.prog w = .ok (.int .i64 x) w := by kernel_rfl
/-- What moved: the queue's box and its row alone; the row stays or is new. -/
structure Fq (w : World) (b : Nat) (v : Value) (w' : World) (v' : Value) : Prop where
  size : w.heap.size ≤ w'.heap.size
  block : ∀ k, k < w.heap.size → k ≠ b → some k ≠ v.ownBlock → w'.heap[k]? = w.heap[k]?
  row : v'.ownBlock = v.ownBlock ∨ ∃ k, v'.ownBlock = some k ∧ w.heap.size ≤ k
/-- What Push leaves. -/
def PushEnds (w wr : World) (b B n : Nat) (v : Value) (f : Nat → Int) (x : Int) (e : Ending) (w' : World) : Prop := e = .returned (.tuple #[]) ∧ ∃ v', Qv w w' b B v' (n + 1) (fup f n x) ∧ Fq wr b v w' v'
set_option maxRecDepth 20000 in
set_option maxHeartbeats 2000000 in
theorem qPush_any {w wr : World} {b B n : Nat} {v : Value} {f : Nat → Int} (h : Qv w wr b B v n f) (x : Int) (hn : n ≤ 9999) :
    Calls Try.prog 120 #[.pointer (some ⟨b, 0, none⟩), .iface 3 (.int .i64 x)] wr fun e w' => PushEnds w wr b B n v f x e w' := by
  have hb : b < wr.heap.size := row_lt h.box
  have hal : Below wr.heap.size wr (wr.alloc (.cells #[.int .i64 x] 3)) := (Below.refl _ _).alloc (Nat.le_refl _) _
  have hd : Below wr.heap.size (wr.alloc (.cells #[.int .i64 x] 3)) (wr.alloc (.cells #[.int .i64 x] 3)).drew := ⟨rfl, rfl, rfl, Nat.le_refl _, fun _ _ => rfl⟩
  have hbox1 : (wr.alloc (.cells #[.int .i64 x] 3)).drew.heap[b]? = some (.cells #[v] 107 (0, 0)) := ((hal.trans hd).block b hb).trans h.box
  have c0 : wr.cell? ⟨b, 0, none⟩ = some v := by rw [cell_of_row wr b 0 _ _ (0, 0) h.box]; rfl
  have c1 : (wr.alloc (.cells #[.int .i64 x] 3)).drew.cell? ⟨b, 0, none⟩ = some v := by rw [cell_of_row _ b 0 _ _ (0, 0) hbox1]; rfl
  have w0 : (wr.alloc (.cells #[.int .i64 x] 3)).drew.cell? ⟨wr.heap.size, 0, none⟩ = some (.int .i64 x) := by simp
  have hown : OwnI (wr.alloc (.cells #[.int .i64 x] 3)).drew B v ((List.range n).map f) := h.own.below (hal.trans hd)
  have R1 := Lib.hid hown
  have R2 : Hid (((List.range n).map f).length ≤ 10000) := Lib.hid (by simp; omega)
  have hBw : B ≤ wr.heap.size := Nat.le_trans h.lt (Nat.le_of_lt hb)
  have R3 : Hid (B ≤ (wr.alloc (.cells #[.int .i64 x] 3)).drew.heap.size) := Lib.hid (Nat.le_trans hBw (hal.trans hd).size)
  have HG : Hid (∀ v' w8, OwnI w8 B v' ((List.range n).map f ++ [x]) → (wr.alloc (.cells #[.int .i64 x] 3)).drew.grownBy w8 v.ownBlock → (v'.ownBlock = v.ownBlock ∨ v'.ownBlock = some (wr.alloc (.cells #[.int .i64 x] 3)).drew.heap.size) → (∃ A8 n8 c8, v' = .slice A8 n8 c8) ∧ (w8.cell? ⟨b, 0, none⟩ = some v ∧ w8.frozen? ⟨b, 0, none⟩ = false) ∧ Qv w (w8.setCell ⟨b, 0, none⟩ v') b B v' (n + 1) (fup f n x) ∧ Fq wr b v (w8.setCell ⟨b, 0, none⟩ v') v') := Lib.hid fun v' w8 h1 h2 h3 => by
    obtain ⟨A8, c8, e8⟩ := h1.open
    have hb8 : w8.heap[b]? = some (.cells #[v] 107 (0, 0)) := by rw [h2.block b (row_lt hbox1) (hown.ne hbox1 (by decide))]; exact hbox1
    refine ⟨⟨_, _, _, e8⟩, ⟨by rw [cell_of_row w8 b 0 _ _ (0, 0) hb8]; rfl, by simp [World.frozen?, hb8]⟩, ⟨heap_set hb8 0 v', ?_, ?_, h.lt⟩, ?_, ?_, ?_⟩
    · rw [range_add]
      exact h1.kept hb8 (by decide) (grown_set w8 b 0 v')
    · exact (((h.below.trans (hal.mono hBw)).trans (hd.mono hBw)).grown h2 (Nat.le_trans hBw (hal.trans hd).size) (fun k e => (World.ownsRow.lt hown k e).1)).setCell h.lt _
    · have := (hal.trans hd).size
      have := h2.size
      simp only [World.size_setCell]
      omega
    · intro k hk hkb hkv
      rw [Below.heap_setCell _ ⟨b, 0, none⟩ _ _ hkb, h2.block k (Nat.lt_of_lt_of_le hk (hal.trans hd).size) hkv, (hal.trans hd).block k hk]
    · rcases h3 with h3 | h3
      · exact .inl h3
      · exact .inr ⟨_, h3, (hal.trans hd).size⟩
  clear h hal hd hbox1 hown hb hBw
  have ta := ta_int
  go_enter Try.func120, Try.ntmps120
  go_wp2_with fail
  go_region_law (first | (refine step_intAt rfl 105 Try.underlying105 (.tmp 8) (.tmp 11) rfl B v ((List.range n).map f) rfl R1.out wr.heap.size x rfl w0 R2.out R3.out ?_; intro v' w8 ho8 hg8 hat8; obtain ⟨⟨A8, n8, c8, e8⟩, ⟨cj8, fj8⟩, hQ9, hF9⟩ := HG.out v' w8 ho8 hg8 hat8; subst e8; have HQ9 := Lib.hid hQ9; have HF9 := Lib.hid hF9; clear ho8 hg8 hat8 hQ9 hF9))
  all_goals
    clear c0 c1 w0 HG
    go_wp2_with fail
    go_end0
    exact ⟨rfl, _, HQ9.out, HF9.out⟩
end Go.Proofs.Ytmbjmibjobpdgaa
namespace Go.Proofs.Ytmbjmibjobpdgaa
open Go.RowKit

theorem Qb.here {w wr : World} {b g cap c n : Nat} {f : Nat → Int} (h : Qb w wr b g cap c n f) : Qb wr wr b g cap c n f := ⟨h.box, h.row, Bow.refl _ _ _⟩
theorem Fq.bow {w w2 w' : World} {b g m c m' : Nat} {v : Value} (h : Fq w b v w2 (.slice (some ⟨g, 0, none⟩) m c)) (hb : Bow w2.heap.size g w2 w') : Fq w b v w' (.slice (some ⟨g, 0, none⟩) m' c) := by
  refine ⟨Nat.le_trans h.size hb.size, fun k hk hkb hkv => ?_, h.row⟩
  rw [hb.block k (Nat.lt_of_lt_of_le hk h.size) ?_]
  · exact h.block k hk hkb hkv
  · rintro rfl
    rcases h.row with e | ⟨k', e, hk'⟩
    · exact hkv e
    · have e : some k = some k' := e
      injection e with e
      omega
theorem Sm.bow {w w' : World} (h : Sm w w') (B g : Nat) : Bow B g w w' := ⟨h.os, h.tape, h.output, by rw [h.heap]; exact Nat.le_refl _, fun k _ _ => by rw [h.heap]⟩
/-- What heap.Push leaves. -/
def HPushEnds (w wr : World) (b B n : Nat) (v : Value) (Q : Int → Prop) (e : Ending) (w' : World) : Prop := e = .returned (.tuple #[]) ∧ ∃ v' f', Qv w w' b B v' (n + 1) f' ∧ HeapOk f' (n + 1) ∧ Numbs f' (n + 1) Q ∧ Fq wr b v w' v'
set_option maxRecDepth 20000 in
set_option maxHeartbeats 2000000 in
theorem hPush_any {w wr : World} {b B n : Nat} {v : Value} {f : Nat → Int} {Q : Int → Prop} (h : Qv w wr b B v n f) (hH : HeapOk f n) (hN : Numbs f n Q) (x : Int) (hx : ¬ Q x) (hn : n ≤ 9998) :
    Calls Try.prog 59 #[.iface 104 (.pointer (some ⟨b, 0, none⟩)), .iface 3 (.int .i64 x)] wr fun e w' => HPushEnds w wr b B n v (fun y => Q y ∨ y = x) e w' := by
  have hm := m_push wr b
  have HQ := Lib.hid h
  have HU : Hid (UpI (fup f n x) (n + 1) n) := Lib.hid (UpI.start hH fun k hk => fup_far (by omega))
  have HN : Hid (Numbs (fup f n x) (n + 1) (fun y => Q y ∨ y = x)) := Lib.hid (hN.add (fun k hk => fup_far (by omega)) (fup_same _ _ _) hx)
  clear h hH hN hx
  go_enter Try.func59, Try.ntmps59
  go_wp2_with (first
    | (go_at_call 120; (with_reducible refine (qPush_any HQ.out x (by omega)).mono ?_); rintro e w2 ⟨rfl, v2, hQ2, hF2⟩; obtain ⟨g, c, rfl, hg, hgb, hc, hQb⟩ := hQ2.qb (Nat.succ_pos n); have hm2 := m_len w2 b _ hQb.cell; have HQ2 := Lib.hid hQ2; have HQb := Lib.hid hQb; have HFq := Lib.hid hF2; clear hQ2 hQb hF2)
    | (go_at_call 60; (with_reducible refine (iLen_any _ _ _ _).mono ?_); rintro e w3 ⟨rfl, hs⟩; have HS := Lib.hid hs; clear hs)
    | (go_at_call 79; (refine (up_any (HQb.out.same HS.out).here HU.out HN.out (by omega) (by omega)).mono ?_); rintro e w4 ⟨rfl, f4, hQ4, hH4, hN4⟩; have HF := Lib.hid hQ4; have HF2 := Lib.hid (And.intro hH4 hN4); clear hQ4 hH4 hN4)
    | fail)
  go_end0
  have hB : B ≤ w3.heap.size := by
    rw [HS.out.heap]
    exact Nat.le_trans HQ2.out.lt (Nat.le_of_lt (row_lt HQ2.out.box))
  exact ⟨rfl, _, f4, HF.out.qv (HQ2.out.below.trans (HS.out.below B)) hg HQ2.out.lt hB hc, HF2.out.1, HF2.out.2, HFq.out.bow ((HS.out.bow w2.heap.size g).trans (HF.out.bow.mono (by rw [HS.out.heap]; exact Nat.le_refl _)))⟩
end Go.Proofs.Ytmbjmibjobpdgaa
namespace Go.Proofs.Ytmbjmibjobpdgaa
open Go.RowKit

theorem Qh.drop {w : World} {g cap n : Nat} {f : Nat → Int} (h : Qh w g cap (n + 1) f) : Qh w g cap n f := by
  obtain ⟨cur, h1, h2, h3, h4⟩ := h
  exact ⟨cur, h1, h2, by omega, fun k hk => h4 k (by omega)⟩
/-- What the queue's Pop leaves. -/
def PopEnds (w wr : World) (b B n : Nat) (v : Value) (f : Nat → Int) (e : Ending) (w' : World) : Prop := e = .returned (.iface 3 (.int .i64 (f n))) ∧ ∃ v', Qv w w' b B v' n f ∧ Fq wr b v w' v'
set_option maxRecDepth 20000 in
set_option maxHeartbeats 2000000 in
theorem qPop_any {w wr : World} {b B n : Nat} {v : Value} {f : Nat → Int} (h : Qv w wr b B v (n + 1) f) (hn : n ≤ 9998) :
    Calls Try.prog 119 #[.pointer (some ⟨b, 0, none⟩)] wr fun e w' => PopEnds w wr b B n v f e w' := by
  obtain ⟨g, c, rfl, hg, hgb, hc, hQ⟩ := h.qb (Nat.succ_pos n)
  have c0 := hQ.cell
  have hnc : n + 1 ≤ c := by obtain ⟨cur, _, h2, h3, _⟩ := hQ.row; exact h3
  have HQ := Lib.hid hQ
  have HV := Lib.hid h
  clear h hQ
  have n0 : (0 : Int) ≤ n := by omega
  have n1 : (n : Int) ≤ c := by omega
  have n2 : (n : Int) < (n : Int) + 1 := by omega
  go_enter Try.func119, Try.ntmps119
  go_wp2_with (first
    | (go_at_call 60; (with_reducible refine (iLen_any _ _ _ _).mono ?_); rintro e w3 ⟨rfl, hs⟩; have HS := Lib.hid hs; have hQ3 := HQ.out.same hs; have c3 := hQ3.cell; have f3 : w3.frozen? ⟨b, 0, none⟩ = false := (by simp [World.frozen?, hQ3.box]); have x3 := hQ3.row.oat.cell (show n < n + 1 by omega); have HQ3 := Lib.hid hQ3; clear hs hQ3)
    | fail)
  go_ret
  refine ⟨rfl, .slice (some ⟨g, 0, none⟩) n c, ?_, ?_, ?_, .inl rfl⟩
  rotate_left
  · simp [HS.out.heap]
  · intro k _ hkb _
    rw [Below.heap_setCell _ ⟨b, 0, none⟩ _ _ hkb, HS.out.heap]
  have hB : B ≤ w3.heap.size := by
    rw [HS.out.heap]
    exact Nat.le_trans HV.out.lt (Nat.le_of_lt (row_lt HV.out.box))
  have hQ4 : Qb (w3.setCell ⟨b, 0, none⟩ (.slice (some ⟨g, 0, none⟩) n c)) (w3.setCell ⟨b, 0, none⟩ (.slice (some ⟨g, 0, none⟩) n c)) b g c c n f :=
    ⟨heap_set HQ3.out.box 0 _, (HQ3.out.row.block (Below.heap_setCell _ ⟨b, 0, none⟩ _ _ hgb)).drop, Bow.refl _ _ _⟩
  exact hQ4.qv ((HV.out.below.trans (HS.out.below B)).setCell HV.out.lt _) hg HV.out.lt (by simpa using hB) hc
end Go.Proofs.Ytmbjmibjobpdgaa
namespace Go.Proofs.Ytmbjmibjobpdgaa
open Go.RowKit

/-- What heap.Pop leaves. -/
def HPopEnds (w wr : World) (b B n : Nat) (v : Value) (x : Int) (Q : Int → Prop) (e : Ending) (w' : World) : Prop := e = .returned (.iface 3 (.int .i64 x)) ∧ ∃ v' f', Qv w w' b B v' n f' ∧ HeapOk f' n ∧ Numbs f' n Q ∧ Fq wr b v w' v'
set_option maxRecDepth 20000 in
set_option maxHeartbeats 2000000 in
theorem hPop_any {w wr : World} {b B n : Nat} {v : Value} {f : Nat → Int} {Q : Int → Prop} (h : Qv w wr b B v (n + 1) f) (hH : HeapOk f (n + 1)) (hN : Numbs f (n + 1) Q) (hn : n ≤ 9998) :
    Calls Try.prog 61 #[.iface 104 (.pointer (some ⟨b, 0, none⟩))] wr fun e w' => HPopEnds w wr b B n v (f 0) (fun y => Q y ∧ y ≠ f 0) e w' := by
  obtain ⟨g, c, rfl, hg, hgb, hc, hQ⟩ := h.qb (Nat.succ_pos n)
  have hm := m_len wr b _ hQ.cell
  have HU : Hid (DnI (swp f 0 n) n 0) := Lib.hid (DnI.start hH fun k h1 h2 => swp_o (by omega) (by omega))
  have HN : Hid (Numbs (swp f 0 n) (n + 1) Q) := Lib.hid (hN.turn (by omega) (by omega))
  have HL : Hid (swp f 0 n n = f 0) := Lib.hid swp_j
  have HQ := Lib.hid hQ
  have HV := Lib.hid h
  have hB : B ≤ wr.heap.size := Nat.le_trans h.lt (Nat.le_of_lt (row_lt h.box))
  clear h hQ hH hN
  go_enter Try.func61, Try.ntmps61
  go_wp2_with (first
    | (go_at_call 60; (with_reducible refine (iLen_any _ _ _ _).mono ?_); rintro e w2 ⟨rfl, hs⟩; have hQ2 := HQ.out.same hs; have hm2 := m_swap w2 b _ hQ2.cell; have HQ2 := Lib.hid hQ2; clear hs hQ2)
    | (go_at_call 122; (refine (iSwap_any (i := 0) (j := n) HQ2.out.row (by omega) (by omega)).mono ?_); rintro e w3 ⟨rfl, hr3, hb3⟩; have HQ3 := Lib.hid (HQ2.out.step hr3 hb3); clear hr3 hb3)
    | (go_at_call 80; (refine (down_any HQ3.out.here HU.out HN.out (by omega)).mono ?_); rintro e w4 ⟨bb, f4, rfl, hQ4, hH4, hN4, hL4⟩; have hm4 := m_pop w4 b; have HQ4 := Lib.hid hQ4; have HF4 := Lib.hid (And.intro hH4 hN4); have HL4 := Lib.hid (hL4.trans HL.out); have HW3 := Lib.hid (HQ3.out.bow); have HZ3 := Lib.hid (HQ3.out.bow.size); have HV4 : Hid (Qv w w4 b B (.slice (some ⟨g, 0, none⟩) (n + 1) c) (n + 1) f4) := Lib.hid (hQ4.qv (HV.out.below.trans ⟨HQ3.out.bow.os, HQ3.out.bow.tape, HQ3.out.bow.output, HQ3.out.bow.size, fun k hk => HQ3.out.bow.block k (Nat.lt_of_lt_of_le hk hB) (by omega)⟩) hg HV.out.lt (Nat.le_trans hB HQ3.out.bow.size) hc); clear hQ4 hH4 hN4 hL4)
    | (go_at_call 119; (refine (qPop_any HV4.out (by omega)).mono ?_); rintro e w5 ⟨rfl, v5, hQ5, hF5⟩; rw [HL4.out]; have HQ5 := Lib.hid hQ5; have HF5 := Lib.hid hF5; clear hQ5 hF5)
    | fail)
  go_ret
  have hbow : Bow wr.heap.size g wr w4 := HW3.out.trans (HQ4.out.bow.mono HZ3.out)
  refine ⟨rfl, v5, f4, HQ5.out, HF4.out.1, ?_, Nat.le_trans hbow.size HF5.out.size, fun k hk hkb hkv => ?_, ?_⟩
  rotate_left
  · rw [HF5.out.block k (Nat.lt_of_lt_of_le hk hbow.size) hkb hkv]
    exact hbow.block k hk (fun e => hkv (by rw [e]; rfl))
  · rcases HF5.out.row with e | ⟨k, e, hk⟩
    · exact .inl e
    · exact .inr ⟨k, e, Nat.le_trans hbow.size hk⟩
  have := HF4.out.2.drop
  rw [HL4.out] at this
  exact this
end Go.Proofs.Ytmbjmibjobpdgaa

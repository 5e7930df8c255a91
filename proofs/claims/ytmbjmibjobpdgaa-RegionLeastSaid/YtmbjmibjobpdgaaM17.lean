/-
  The document's region: a model without the edges to a node.
-/
import Derived.Test.YtmbjmibjobpdgaaM16
import Derived.Deep.RegionLaw
import Derived.Deep.Cut
import Derived.Deep.AppendLies
namespace Go.Proofs.Ytmbjmibjobpdgaa
open Go.RowKit

theorem float_store (b : Nat) (a : Addr) (w : World) : (store a (.float .f64 b) .plain).run Try.prog w = stored Try.prog w a (.float .f64 b) .plain := run_store Try.prog w a _ .plain rfl
theorem info58' : (Try.prog.info? 58).map (fun i => (i.zero, i.size, i.bytes)) = some (some (.agg ((nodeZ (.slice none 0 0)).toArray.set! 26 (.int .i64 0))), 29, 424) := by kernel_rfl
theorem nodeZ_one {u : Value} (hu : u.oneCell' = true) : ∀ v ∈ nodeZ u, v.oneCell' = true := by
  intro v hv
  unfold nodeZ at hv
  repeat (rcases List.mem_cons.1 hv with rfl | hv; first | rfl | exact hu)
  cases hv
theorem own_ne {w : World} {B n sz : Nat} {T : TypeId} {v : Value} {xs : List Value} (h : w.ownsRow B T sz v n xs) {b : Nat} {cs : Array Value} {S : TypeId} {fr : Nat × Nat} (hb : w.heap[b]? = some (.cells cs S fr)) (hT : S ≠ T) : some b ≠ v.ownBlock := by
  intro e
  rcases h.2 with ⟨rfl, _⟩ | ⟨r, cap, cur, rfl, _, hh, _⟩
  · cases e
  · simp [Value.ownBlock] at e
    subst e
    rw [hb] at hh
    injection hh with hh
    injection hh with _ hh _
    exact hT hh
theorem own_kept {w w' : World} {B n sz : Nat} {T : TypeId} {v : Value} {xs : List Value} (h : w.ownsRow B T sz v n xs) {g : Nat} {cs : Array Value} {S : TypeId} {fr : Nat × Nat} (hb : w.heap[g]? = some (.cells cs S fr)) (hT : S ≠ T) (hg : w.grownBy w' (some g)) : w'.ownsRow B T sz v n xs := by
  refine World.ownsRow.kept h hg ?_
  cases e : v.ownBlock with
  | none => exact .inl rfl
  | some k => exact .inr (fun e' => own_ne h hb hT (by rw [e]; exact e'.symm))
theorem OwnI.nodes {w w' : World} {B B' n sz : Nat} {u v : Value} {L : List Int} {xs : List Value} (h : OwnI w B u L) (hv : w.ownsRow B' 58 sz v n xs) (hg : w.grownBy w' v.ownBlock) : OwnI w' B u L := by
  refine World.ownsRow.kept h hg ?_
  rcases h.2 with ⟨rfl, _⟩ | ⟨r, cap, cur, rfl, _, hh, _⟩
  · exact .inl rfl
  · exact .inr (own_ne hv hh (by decide))
theorem flat_upd {n : Nat} (us : Nat → Value) (u : Value) : ((List.range (n + 1)).flatMap fun j => nodeZ (upd us n u j)) = ((List.range n).flatMap fun j => nodeZ (us j)) ++ nodeZ u := by
  rw [List.range_succ, List.flatMap_append]
  congr 1
  · rw [List.flatMap_def, List.flatMap_def]
    congr 1
    refine List.map_congr_left fun j hj => ?_
    rw [upd_far (by have := List.mem_range.1 hj; omega)]
  · simp [upd_same]
/-- One int behind a row of the call's own, at a step of a region that draws its order. -/
theorem step_int {ops : Array Oper} {o : Oper} {a : Act} {w : World} {K : Act → World → Prop} {Q : Exit → Act → World → Prop} {E : Prop} (hgd : o.guard = none) (s x : Operand) (ho : o.op = .call { callee := .builtin .append, args := #[s, x], argTypes := #[30, 30] })
    (B : Nat) (v : Value) (L : List Int) (hs : a.eval s = v) (hown : OwnI w B v L) (b : Nat) (y : Int) (hx : a.eval x = .slice (some ⟨b, 0, none⟩) 1 1)
    (h0 : w.cell? ⟨b, 0, none⟩ = some (.int .i64 y)) (hlen : L.length ≤ 10000) (hB : B ≤ w.heap.size)
    (h : ∀ v' w', OwnI w' B v' (L ++ [y]) → w.grownBy w' v.ownBlock → K (a.put o.dst v') w') : if Region.wanted o (yielded ops a.tmps) = true then Oper.wp Try.prog o a w K Q else E := by
  obtain ⟨i0, hi, hz0, hz1, hz2⟩ := info_parts info3'
  have hw : Region.wanted o (yielded ops a.tmps) = true := by simp [Region.wanted, hgd]
  rw [if_pos hw]
  refine wp_append_own w s x 30 ho B 3 i0 _ 1 8 Try.underlying30 hi hz0 hz1 hz2 rfl (by omega) v L.length _ hs hown ⟨b, 0, none⟩ 1 1 [.int .i64 y] hx rfl ?_ (fun u hu => by simp at hu; subst hu; rfl) (by unfold maxLen; omega) (by omega) hB (fun v' w' h1 h2 _ => h v' w' ?_ h2)
  · intro j u hj
    match j, hj with
    | 0, hj => cases hj; rw [WideShapes.add_plain]; exact h0
  · unfold OwnI
    simpa using h1
theorem results_model {fn : Func} (h : fn.results = #[.cell 4 27]) (tmps : Array Value) (w : World) (R : Nat) (cs : Array Value)
    (hp : tmps.getD 4 undef = .pointer (some ⟨R, 0, none⟩)) (hg : w.heap[R]? = some (.cells cs 27 (0, 0))) (hs : cs.size = 6) :
    (results fn tmps).run Try.prog w = .ok (.agg cs) w := by
  have hp' : tmps[4]?.getD undef = .pointer (some ⟨R, 0, none⟩) := by simpa using hp
  simp [results, h, hp', asAddr, run_loadVar_row w R 27 27 cs (0, 0) _ hg Try.underlying27 rfl (by rw [hs]; kernel_rfl)]
set_option maxRecDepth 20000 in
set_option maxHeartbeats 4000000 in
theorem Rwithout_any {mv : Array Value} {G : GT} (w : World) (x : Int) (h : ModelAt w w.heap.size mv G) (hfew : fewB G) :
    Calls Try.prog 47 #[.agg mv, .int .i64 x] w fun e w' => ∃ v, e = .returned (.agg v) ∧ ModelAt w' w'.heap.size v (withoutG G x) ∧ Below w.heap.size w w' := by
  have hM := Lib.hid h
  have hF := Lib.hid hfew
  have hnn1 := hfew.1
  clear hfew
  cases h with
  | mk lb A a1 aa B b bb V p pp S q qq N n nn vs ms ns d ha1 hb hp hq hn hV hvs hS hms hN hns =>
    clear ha1 hb hp hq hV hvs hS hms hn
    have hn100 : n ≤ 100 := hnn1
    clear hnn1
    have hNN := Lib.hid hN
    have hns1 := Lib.hid hns
    clear hN hns
    rw [show modelV lb A a1 aa B b bb V p pp S q qq N n nn = #[.int .i64 lb, .slice A a1 aa, .slice B b bb, .slice V p pp, .slice S q qq, .slice N n nn] from rfl]
    obtain ⟨b0, hb0⟩ : ∃ b0, b0 = w.heap.size := ⟨_, rfl⟩
    have HB0 := Lib.hid hb0
    have hX3 : Hid (Below w.heap.size w (((w.alloc (.cells #[.int .i64 lb, .slice A a1 aa, .slice B b bb, .slice V p pp, .slice S q qq, .slice N n nn] 27)).alloc (.cells #[.int .i64 0, .slice none 0 0, .slice none 0 0, .slice none 0 0, .slice none 0 0, .slice none 0 0] 27)).alloc (.cells #[.int .i64 0, .slice none 0 0, .slice none 0 0, .slice none 0 0, .slice none 0 0, .slice none 0 0] 27))) := Lib.hid ((((Below.refl _ _).alloc (Nat.le_refl _) _).alloc (by simp) _).alloc (by simp; omega) _)
    have hbx : Hid ((((w.alloc (.cells #[.int .i64 lb, .slice A a1 aa, .slice B b bb, .slice V p pp, .slice S q qq, .slice N n nn] 27)).alloc (.cells #[.int .i64 0, .slice none 0 0, .slice none 0 0, .slice none 0 0, .slice none 0 0, .slice none 0 0] 27)).alloc (.cells #[.int .i64 0, .slice none 0 0, .slice none 0 0, .slice none 0 0, .slice none 0 0, .slice none 0 0] 27)).heap[w.heap.size]? = some (.cells #[.int .i64 lb, .slice A a1 aa, .slice B b bb, .slice V p pp, .slice S q qq, .slice N n nn] 27 (0, 0))) := Lib.hid (by
      rw [Below.heap_alloc _ _ _ (by simp; omega), Below.heap_alloc _ _ _ (by simp)]
      exact heap_alloc_new w _)
    have hby : Hid ((((w.alloc (.cells #[.int .i64 lb, .slice A a1 aa, .slice B b bb, .slice V p pp, .slice S q qq, .slice N n nn] 27)).alloc (.cells #[.int .i64 0, .slice none 0 0, .slice none 0 0, .slice none 0 0, .slice none 0 0, .slice none 0 0] 27)).alloc (.cells #[.int .i64 0, .slice none 0 0, .slice none 0 0, .slice none 0 0, .slice none 0 0, .slice none 0 0] 27)).heap[w.heap.size + 1]? = some (.cells #[.int .i64 0, .slice none 0 0, .slice none 0 0, .slice none 0 0, .slice none 0 0, .slice none 0 0] 27 (0, 0))) := Lib.hid (by
      rw [Below.heap_alloc _ _ _ (by simp)]
      have := heap_alloc_new (w.alloc (.cells #[.int .i64 lb, .slice A a1 aa, .slice B b bb, .slice V p pp, .slice S q qq, .slice N n nn] 27)) (.cells #[.int .i64 0, .slice none 0 0, .slice none 0 0, .slice none 0 0, .slice none 0 0, .slice none 0 0] 27)
      simpa using this)
    have hbz : Hid ((((w.alloc (.cells #[.int .i64 lb, .slice A a1 aa, .slice B b bb, .slice V p pp, .slice S q qq, .slice N n nn] 27)).alloc (.cells #[.int .i64 0, .slice none 0 0, .slice none 0 0, .slice none 0 0, .slice none 0 0, .slice none 0 0] 27)).alloc (.cells #[.int .i64 0, .slice none 0 0, .slice none 0 0, .slice none 0 0, .slice none 0 0, .slice none 0 0] 27)).heap[w.heap.size + 1 + 1]? = some (.cells #[.int .i64 0, .slice none 0 0, .slice none 0 0, .slice none 0 0, .slice none 0 0, .slice none 0 0] 27 (0, 0))) := Lib.hid (by
      have := heap_alloc_new ((w.alloc (.cells #[.int .i64 lb, .slice A a1 aa, .slice B b bb, .slice V p pp, .slice S q qq, .slice N n nn] 27)).alloc (.cells #[.int .i64 0, .slice none 0 0, .slice none 0 0, .slice none 0 0, .slice none 0 0, .slice none 0 0] 27)) (.cells #[.int .i64 0, .slice none 0 0, .slice none 0 0, .slice none 0 0, .slice none 0 0, .slice none 0 0] 27)
      simpa using this)
    have hsz : Hid ((((w.alloc (.cells #[.int .i64 lb, .slice A a1 aa, .slice B b bb, .slice V p pp, .slice S q qq, .slice N n nn] 27)).alloc (.cells #[.int .i64 0, .slice none 0 0, .slice none 0 0, .slice none 0 0, .slice none 0 0, .slice none 0 0] 27)).alloc (.cells #[.int .i64 0, .slice none 0 0, .slice none 0 0, .slice none 0 0, .slice none 0 0, .slice none 0 0] 27)).heap.size = w.heap.size + 3) := Lib.hid (by simp)
    go_enter Try.func47, Try.ntmps47
    go_wp2_with fail
    generalize ((w.alloc (.cells #[.int .i64 lb, .slice A a1 aa, .slice B b bb, .slice V p pp, .slice S q qq, .slice N n nn] 27)).alloc (.cells #[.int .i64 0, .slice none 0 0, .slice none 0 0, .slice none 0 0, .slice none 0 0, .slice none 0 0] 27)).alloc (.cells #[.int .i64 0, .slice none 0 0, .slice none 0 0, .slice none 0 0, .slice none 0 0, .slice none 0 0] 27) = W3 at *
    rw [← hb0] at hbx hby hbz hsz ⊢
    clear hb0
    go_loopw [6] (fun iv wr => ∃ (i : Nat) (v : Value) (us : Nat → Value), i ≤ n ∧ iv = .int .i64 i ∧ Hid (Below w.heap.size w wr) ∧ Hid (wr.heap[b0]? = some (.cells #[.int .i64 lb, .slice A a1 aa, .slice B b bb, .slice V p pp, .slice S q qq, .slice N n nn] 27 (0, 0))) ∧ Hid (wr.heap[b0 + 1]? = some (.cells #[.int .i64 0, .slice none 0 0, .slice none 0 0, .slice none 0 0, .slice none 0 0, .slice none 0 0] 27 (0, 0))) ∧ Hid (wr.heap[b0 + 1 + 1]? = some (.cells #[.int .i64 0, .slice none 0 0, .slice none 0 0, .slice none 0 0, .slice none 0 0, v] 27 (0, 0))) ∧
        Hid (wr.ownsRow (b0 + 3) 58 29 v i ((List.range i).flatMap fun j => nodeZ (us j))) ∧ Hid (∀ j, j < i → OwnI wr (b0 + 3) (us j) (withoutL (d j) x))) (fun iv _ => n - (intOf iv).toNat)
    case atStart => exact ⟨0, .slice none 0 0, fun _ => .slice none 0 0, Nat.zero_le _, rfl, hX3, hbx, hby, hbz, Lib.hid (World.ownsRow_nil _ _ 58 29), Lib.hid fun j h => absurd h (Nat.not_lt_zero _)⟩
    case round =>
      clear hX3 hbx hby hbz
      obtain ⟨i, v, us, hi, rfl, hB, hbx, hby, hbz, hO, hus⟩ := hrel
      have c5 : wr.cell? ⟨b0, 5, none⟩ = some (.slice N n nn) := by rw [cell_of_row wr _ 5 _ 27 (0, 0) hbx.out]; rfl
      by_cases hin : i < n
      · obtain ⟨L0, hL0⟩ : ∃ L0, L0 = nodeZ (.slice none 0 0) := ⟨_, rfl⟩
        have hbt : Hid (Try.prog.built 58 [(8, .int .i64 (-1))] = some L0.toArray) := Lib.hid (by rw [hL0]; kernel_rfl)
        have hL29 : Hid (L0.length = 29) := Lib.hid (by rw [hL0]; rfl)
        have hone : Hid (L0.toArray.all (·.oneCell') = true) := Lib.hid (by rw [hL0]; kernel_rfl)
        have HL0 := Lib.hid hL0
        clear hL0
        go_upto_region 5 with (fail)
        refine wp_region_lit ?_
        refine wpList_buildTo rfl 58 #[(8, .const (.int .i64 (-1)))] rfl (some 16) rfl L0.toArray (by simpa [Act.eval] using hbt.out) ?_
        go_wp2_with (first | (refine stm rfl 58 _ _ rfl _ L0 rfl rfl 29 info58 hL29.out rfl hone.out ?_; refine Hid.out ?_) | fail)
        refine Lib.hid ?_
        have hBr : Hid (∀ g o, g < w.heap.size → wr.cell? ⟨g, o, none⟩ = w.cell? ⟨g, o, none⟩) := Lib.hid (fun g o hg => hB.out.cell (p := ⟨g, o, none⟩) hg)
        obtain ⟨g, o, rfl, hg, hx⟩ := hNN.out (by omega)
        obtain ⟨L, _, _, A1, ca, _, _, _, _, _, _, _, ev, hL, _, hc2, _, hc26, _, _, _, _, _, _, _, hca, hA1, hnum, _, _, _, _, _⟩ := (hns1.out i hin).list
        have e2 : Hid (w.cell? ⟨g, o + i * 29 + 2, none⟩ = some (.slice A1 (d i).c ca)) := Lib.hid (by rw [hx i hin 2 (by omega), ev]; simpa using hc2)
        have e26 : Hid (w.cell? ⟨g, o + i * 29 + 26, none⟩ = some (.int .i64 (d i).k)) := Lib.hid (by rw [hx i hin 26 (by omega), ev]; simpa using hc26)
        have hwl : Hid (withoutL (d i) x = ((List.range (d i).c).map (d i).f).filter (fun j => j != x) ++ (if 0 ≤ (d i).k then [(d i).k] else []).filter (fun j => j != x)) := Lib.hid (by unfold withoutL nexts; rw [List.filter_append])
        have h41 : (d i).c ≤ 41 := Nat.le_trans (Nat.le_add_right _ _) (hF.out.2 i hin)
        have hNx := Lib.hid hA1
        have HG := Lib.hid hg
        clear hx ev hL hc2 hc26 hca hA1 hnum hg
        obtain ⟨y, hy⟩ : ∃ y, y = d i := ⟨_, rfl⟩
        have HY := Lib.hid hy
        rw [← hy] at e2 e26 hwl h41 hNx
        clear hy
        obtain ⟨bn, hbn⟩ : ∃ bn, bn = wr.heap.size := ⟨_, rfl⟩
        have hw0 : ∃ W0, W0 = wr := ⟨_, rfl⟩
        obtain ⟨W0, hW0⟩ := hw0
        have HBN := Lib.hid hbn
        have hb1 : Hid (Below bn W0 (wr.alloc (.cells L0.toArray 58))) := Lib.hid (by rw [hbn, hW0]; exact (Below.refl _ _).alloc (Nat.le_refl _) _)
        have hnb : Hid ((wr.alloc (.cells L0.toArray 58)).heap[bn]? = some (.cells (nodeZ (.slice none 0 0)).toArray 58 (0, 0))) := Lib.hid (by rw [hbn, heap_alloc_new, HL0.out])
        have hb0n : Hid (w.heap.size ≤ bn ∧ b0 < bn) := Lib.hid ⟨by rw [hbn]; exact hB.out.size, by rw [hbn]; exact row_lt hbx.out⟩
        rw [← hbn]
        clear hbn
        have hall : Hid (∀ wj, Below bn W0 wj → wj.cell? ⟨b0, 5, none⟩ = some (.slice (some ⟨g, o, none⟩) n nn) ∧ wj.cell? ⟨g, o + i * 29 + 2, none⟩ = some (.slice A1 y.c ca) ∧ wj.cell? ⟨g, o + i * 29 + 26, none⟩ = some (.int .i64 y.k) ∧ ∀ g1 o1, g1 < w.heap.size → wj.cell? ⟨g1, o1, none⟩ = w.cell? ⟨g1, o1, none⟩) := Lib.hid (fun wj hb => by
          have hw : ∀ g1 o1, g1 < w.heap.size → wj.cell? ⟨g1, o1, none⟩ = w.cell? ⟨g1, o1, none⟩ := fun g1 o1 hg1 => (hb.cell (p := ⟨g1, o1, none⟩) (Nat.lt_of_lt_of_le hg1 hb0n.out.1)).trans (by rw [hW0]; exact hBr.out _ _ hg1)
          refine ⟨?_, (hw _ _ HG.out).trans e2.out, (hw _ _ HG.out).trans e26.out, hw⟩
          rw [hb.cell (p := ⟨b0, 5, none⟩) hb0n.out.2, hW0, cell_of_row wr _ 5 _ 27 (0, 0) hbx.out]
          rfl)
        have HW0 := Lib.hid hW0
        have hb3 : Hid (b0 + 3 ≤ bn) := Lib.hid (by have := row_lt hbz.out; have := HBN.out; omega)
        have HBW : Hid (∀ wj, Below bn W0 wj → Below W0.heap.size W0 wj) := Lib.hid (fun wj h => by have e : W0.heap.size = bn := by rw [hW0]; exact HBN.out.symm
                                                                                                    rw [e]; exact h)
        have HBC : Hid (∀ wj, Below bn W0 wj → Below w.heap.size w wj) := Lib.hid (fun wj h => by rw [hW0] at h; exact hB.out.trans (h.mono hb0n.out.1))
        have hO0 : Hid (W0.ownsRow (b0 + 3) 58 29 v i ((List.range i).flatMap fun j => nodeZ (us j))) := Lib.hid (by rw [hW0]; exact hO.out)
        have hus0 : Hid (∀ j, j < i → OwnI W0 (b0 + 3) (us j) (withoutL (d j) x)) := Lib.hid (by rw [hW0]; exact hus.out)
        clear e2 e26 hBr c5 hone hL29 hbt hW0
        generalize wr.alloc (.cells L0.toArray 58) = wA at *
        go_wp2_with fail
        go_loopw [8] (fun kv wj => ∃ (k : Nat) (u : Value), k ≤ y.c ∧ kv = .int .i64 k ∧ Hid (Below bn W0 wj) ∧ Hid (wj.heap[bn]? = some (.cells (nodeZ u).toArray 58 (0, 0))) ∧ Hid (OwnI wj bn u (((List.range k).map y.f).filter (fun j => j != x)))) (fun kv _ => y.c - (intOf kv).toNat)
        case atStart => exact ⟨0, .slice none 0 0, Nat.zero_le _, rfl, hb1, hnb, Lib.hid (OwnI.nil _ _)⟩
        case round =>
          obtain ⟨k, u, hk, rfl, hb, hnb, hU⟩ := hrel
          obtain ⟨c5, c2, c26, hlow⟩ := hall.out _ hb.out
          by_cases hkc : k < y.c
          · obtain ⟨g1, o1, rfl, hg1, hf1⟩ := hNx.out (by omega)
            have cf : wr.cell? ⟨g1, o1 + k, none⟩ = some (.int .i64 (y.f k)) := (hlow _ _ hg1).trans (hf1 k hkc)
            have hrs : Hid (((List.range (k + 1)).map y.f).filter (fun j => j != x) = ((List.range k).map y.f).filter (fun j => j != x) ++ if y.f k != x then [y.f k] else []) := Lib.hid (by
              rw [List.range_succ, List.map_append, List.filter_append]
              congr 1
              cases h : (y.f k != x) <;> simp [h])
            have hlen : Hid ((((List.range k).map y.f).filter (fun j => j != x)).length ≤ 100) := Lib.hid (by
              refine Nat.le_trans (List.length_filter_le _ _) ?_
              simp
              omega)
            clear hlow hf1
            generalize y.f k = z at *
            generalize ((List.range k).map y.f).filter (fun j => j != x) = P at *
            by_cases hz : z = x
            · subst hz
              have tz : (z != z) = false := by simp
              have hU2 : Hid (OwnI wr bn u (((List.range (k + 1)).map y.f).filter (fun j => j != z))) := Lib.hid (by rw [hrs.out, tz]; simpa using hU.out)
              clear hU hrs
              go_wp2_with fail
              go_roundw
              case rel => exact ⟨k + 1, u, by omega, by go_num, hb, hnb, hU2⟩
              case measure => simp [intOf]; omega
            · have tz : (z != x) = true := by simp [hz]
              have y2 : wr.cell? ⟨bn, 2, none⟩ = some u := by rw [cell_of_row wr _ 2 _ 58 (0, 0) hnb.out]; rfl
              have hlt := row_lt hnb.out
              have hO1 : Hid (OwnI ((wr.alloc (.cells #[.int .i64 z] 3)).drew) bn u P) := Lib.hid (World.ownsRow.alloc hU.out _)
              have w0 : ((wr.alloc (.cells #[.int .i64 z] 3)).drew).cell? ⟨wr.heap.size, 0, none⟩ = some (.int .i64 z) := by
                show (wr.alloc (.cells #[.int .i64 z] 3)).cell? ⟨wr.heap.size, 0, none⟩ = _
                rw [World.cell?_alloc_new]; rfl
              have hs1 : Hid (bn ≤ ((wr.alloc (.cells #[.int .i64 z] 3)).drew).heap.size) := Lib.hid (by show bn ≤ (wr.alloc (.cells #[.int .i64 z] 3)).heap.size; simp; omega)
              have hbA : Hid (Below bn W0 ((wr.alloc (.cells #[.int .i64 z] 3)).drew)) := Lib.hid ((hb.out.alloc (Nat.le_of_lt hlt) _).trans ⟨rfl, rfl, rfl, Nat.le_refl _, fun _ _ => rfl⟩)
              have hnbA : Hid (((wr.alloc (.cells #[.int .i64 z] 3)).drew).heap[bn]? = some (.cells (nodeZ u).toArray 58 (0, 0))) := Lib.hid (by
                show (wr.alloc (.cells #[.int .i64 z] 3)).heap[bn]? = _
                rw [Below.heap_alloc _ _ _ hlt]; exact hnb.out)
              go_upto_region 10 with (fail)
              go_region_law (refine step_int rfl (.tmp 40) (.tmp 50) rfl bn u P rfl hO1.out wr.heap.size z rfl w0 (by have := hlen.out; omega) hs1.out ?_; intro v' w8 ho8 hg8; obtain ⟨A9, c9, rfl⟩ := ho8.open; obtain ⟨m9, hm9⟩ : ∃ m9, m9 = (P ++ [z]).length := ⟨_, rfl⟩; have hO8 : Hid (OwnI w8 bn (.slice A9 m9 c9) (P ++ [z])) := Lib.hid (by rw [hm9]; exact ho8); rw [← hm9]; have hb8 := Lib.hid (hbA.out.grown hg8 hs1.out (fun k e => (World.ownsRow.lt hO1.out k e).1)); have hnb8 : Hid (w8.heap[bn]? = some (.cells (nodeZ u).toArray 58 (0, 0))) := Lib.hid (by rw [hg8.block bn (row_lt hnbA.out) (hO1.out.ne hnbA.out (by decide))]; exact hnbA.out); have q2 : w8.cell? ⟨bn, 2, none⟩ = some u := (by rw [cell_of_row w8 _ 2 _ 58 (0, 0) hnb8.out]; rfl); have q3 : w8.frozen? ⟨bn, 2, none⟩ = false := frozen_of_heap hnb8.out 2; clear ho8 hg8 hm9)
              all_goals (
                have hb9 : Hid (Below bn W0 (w8.setCell ⟨bn, 2, none⟩ (.slice A9 m9 c9))) := Lib.hid (hb8.out.grown (grown_set w8 bn 2 _) (Nat.le_of_lt (row_lt hnb8.out)) (fun k e => by cases e; exact Nat.le_refl _))
                have hn9 : Hid ((w8.setCell ⟨bn, 2, none⟩ (.slice A9 m9 c9)).heap[bn]? = some (.cells (nodeZ (.slice A9 m9 c9)).toArray 58 (0, 0))) := Lib.hid (heap_set hnb8.out 2 _)
                have hU9 : Hid (OwnI (w8.setCell ⟨bn, 2, none⟩ (.slice A9 m9 c9)) bn (.slice A9 m9 c9) (((List.range (k + 1)).map y.f).filter (fun j => j != x))) := Lib.hid (by
                  rw [hrs.out, tz, if_pos rfl]
                  exact hO8.out.kept hnb8.out (by decide) (grown_set w8 bn 2 _))
                clear hU hrs hO1 w0 hs1 hbA hnbA hO8 hb8 hnb8 q2 q3 hb hnb
                generalize w8.setCell ⟨bn, 2, none⟩ (.slice A9 m9 c9) = w9 at *
                go_simp
                go_wp2_with fail
                go_roundw
                case rel => exact ⟨k + 1, .slice A9 m9 c9, by omega, by go_num, hb9, hn9, hU9⟩
                case measure => simp [intOf]; omega)
          · obtain rfl : k = y.c := by omega
            have hb03 : Hid (b0 + 3 ≤ bn) := Lib.hid hb3.out
            by_cases hk0 : 0 ≤ y.k
            · have tk0 : decide (0 ≤ y.k) = true := decide_eq_true hk0
              by_cases hkx : y.k = x
              · have tkx : (y.k != x) = false := by simp [hkx]
                have hUF : Hid (OwnI wr bn u (withoutL y x)) := Lib.hid (by rw [hwl.out, if_pos hk0]; simpa [tkx] using hU.out)
                go_upto_region 13 with (fail)
                have hOw : Hid (wr.ownsRow (b0 + 3) 58 29 v i ((List.range i).flatMap fun j => nodeZ (us j))) := Lib.hid (World.ownsRow.kept hO0.out (row := none) ⟨(HBW.out _ hb.out).os, (HBW.out _ hb.out).tape, (HBW.out _ hb.out).output, (HBW.out _ hb.out).size, fun k hk _ => (HBW.out _ hb.out).block k hk⟩ (by cases v.ownBlock with | none => exact .inl rfl | some k => exact .inr (by simp)))
                have husw : Hid (∀ j, j < i → OwnI wr (b0 + 3) (us j) (withoutL (d j) x)) := Lib.hid (fun j hj => (hus0.out j hj).below (HBW.out _ hb.out))
                have hU3 : Hid (OwnI wr (b0 + 3) u (withoutL (d i) x)) := Lib.hid (by rw [← HY.out]; exact hUF.out.low hb3.out)
                have hz2 : Hid (wr.heap[b0 + 1 + 1]? = some (.cells #[.int .i64 0, .slice none 0 0, .slice none 0 0, .slice none 0 0, .slice none 0 0, v] 27 (0, 0))) := Lib.hid (by rw [hb.out.block _ (by have := hb3.out; omega), HW0.out]; exact hbz.out)
                have hz1 : Hid (wr.heap[b0 + 1]? = some (.cells #[.int .i64 0, .slice none 0 0, .slice none 0 0, .slice none 0 0, .slice none 0 0, .slice none 0 0] 27 (0, 0))) := Lib.hid (by rw [hb.out.block _ (by have := hb3.out; omega), HW0.out]; exact hby.out)
                have hz0 : Hid (wr.heap[b0]? = some (.cells #[.int .i64 lb, .slice A a1 aa, .slice B b bb, .slice V p pp, .slice S q qq, .slice (some ⟨g, o, none⟩) n nn] 27 (0, 0))) := Lib.hid (by rw [hb.out.block _ (by have := hb3.out; omega), HW0.out]; exact hbx.out)
                have hBz : Hid (Below w.heap.size w wr) := Lib.hid (HBC.out _ hb.out)
                obtain ⟨L, hL⟩ : ∃ L, L = nodeZ u := ⟨_, rfl⟩
                have hrange : Hid (wr.rangeAt bn 0 L) := Lib.hid (fun j v' e => by rw [cell_of_row wr _ _ _ 58 (0, 0) hnb.out]; rw [hL] at e; simpa using e)
                have cz : wr.cell? ⟨b0 + 1 + 1, 5, none⟩ = some v := by rw [cell_of_row wr _ 5 _ 27 (0, 0) hz2.out]; rfl
                have hu1 : Value.oneCell' u = true := by obtain ⟨_, _, e⟩ := hU3.out.open; rw [e]; rfl
                have hnz : Hid (∀ v ∈ L, v.oneCell' = true) := Lib.hid (by rw [hL]; exact nodeZ_one hu1)
                have hL29 : Hid (L.length = 29) := Lib.hid (by rw [hL]; rfl)
                have HL := Lib.hid hL
                clear hUF hU hb hnb hL hu1
                obtain ⟨i0, hii, hz00, hz01, hz02⟩ := info_parts info58'
                go_wp2_with (first | (refine ldm rfl 58 _ rfl bn 0 rfl L _ hrange.out Try.underlying58 rfl 29 info58 hL29.out ?_; refine Hid.out ?_) | fail)
                refine Lib.hid ?_
                refine bs58 rfl (.tmp 83) rfl L rfl hL29.out ?_
                have hOa : Hid ((wr.alloc (.cells L.toArray 58)).ownsRow (b0 + 3) 58 29 v i ((List.range i).flatMap fun j => nodeZ (us j))) := Lib.hid (World.ownsRow.alloc hOw.out _)
                have hnew := Lib.hid (World.news_of_block (heap_alloc_new wr (.cells L.toArray 58)))
                have hszb : Hid (b0 + 3 ≤ (wr.alloc (.cells L.toArray 58)).heap.size) := Lib.hid (by have := row_lt hz2.out; simp; omega)
                refine wpList_append_own _ rfl (.tmp 82) (.tmp 84) 25 rfl (b0 + 3) 58 i0 _ 29 424 Try.underlying25 hii hz00 hz01 hz02 rfl (by omega) v i _ rfl hOa.out ⟨wr.heap.size, 0, none⟩ 1 1 L rfl (by rw [hL29.out]) ?_ hnz.out (by unfold maxLen; omega) (by omega) hszb.out ?_
                · exact hnew.out
                intro v' w9 ho9 hg9 _
                obtain ⟨A9, c9, rfl⟩ : ∃ A9 c9, v' = .slice A9 (i + 1) c9 := by
                  rcases ho9.2 with ⟨e, e0⟩ | ⟨g9, cap, cur, e, _⟩
                  · exact ⟨none, 0, by rw [e, e0]⟩
                  · exact ⟨_, cap, e⟩
                have hal := fun (b : Nat) (hb : b < wr.heap.size) => Below.heap_alloc wr (.cells L.toArray 58) b hb
                have k2 : (wr.alloc (.cells L.toArray 58)).heap[b0 + 1 + 1]? = some (.cells #[.int .i64 0, .slice none 0 0, .slice none 0 0, .slice none 0 0, .slice none 0 0, v] 27 (0, 0)) := (hal _ (row_lt hz2.out)).trans hz2.out
                have k1 : (wr.alloc (.cells L.toArray 58)).heap[b0 + 1]? = some (.cells #[.int .i64 0, .slice none 0 0, .slice none 0 0, .slice none 0 0, .slice none 0 0, .slice none 0 0] 27 (0, 0)) := (hal _ (row_lt hz1.out)).trans hz1.out
                have k0 : (wr.alloc (.cells L.toArray 58)).heap[b0]? = some (.cells #[.int .i64 lb, .slice A a1 aa, .slice B b bb, .slice V p pp, .slice S q qq, .slice (some ⟨g, o, none⟩) n nn] 27 (0, 0)) := (hal _ (row_lt hz0.out)).trans hz0.out
                have m2 := (hg9.block _ (row_lt k2) (own_ne hOa.out k2 (by decide))).trans k2
                have m1 := (hg9.block _ (row_lt k1) (own_ne hOa.out k1 (by decide))).trans k1
                have m0 := (hg9.block _ (row_lt k0) (own_ne hOa.out k0 (by decide))).trans k0
                have q5 : w9.cell? ⟨b0 + 1 + 1, 5, none⟩ = some v := by rw [cell_of_row w9 _ 5 _ 27 (0, 0) m2]; rfl
                have q6 : w9.frozen? ⟨b0 + 1 + 1, 5, none⟩ = false := frozen_of_heap m2 5
                have hF2 : Hid ((w9.setCell ⟨b0 + 1 + 1, 5, none⟩ (.slice A9 (i + 1) c9)).heap[b0 + 1 + 1]? = some (.cells #[.int .i64 0, .slice none 0 0, .slice none 0 0, .slice none 0 0, .slice none 0 0, .slice A9 (i + 1) c9] 27 (0, 0))) := Lib.hid (heap_set m2 5 _)
                have hF1 : Hid ((w9.setCell ⟨b0 + 1 + 1, 5, none⟩ (.slice A9 (i + 1) c9)).heap[b0 + 1]? = some (.cells #[.int .i64 0, .slice none 0 0, .slice none 0 0, .slice none 0 0, .slice none 0 0, .slice none 0 0] 27 (0, 0))) := Lib.hid ((Below.heap_setCell _ _ _ _ (by show b0 + 1 ≠ b0 + 1 + 1; omega)).trans m1)
                have hF0 : Hid ((w9.setCell ⟨b0 + 1 + 1, 5, none⟩ (.slice A9 (i + 1) c9)).heap[b0]? = some (.cells #[.int .i64 lb, .slice A a1 aa, .slice B b bb, .slice V p pp, .slice S q qq, .slice (some ⟨g, o, none⟩) n nn] 27 (0, 0))) := Lib.hid ((Below.heap_setCell _ _ _ _ (by show b0 ≠ b0 + 1 + 1; omega)).trans m0)
                have hFO : Hid ((w9.setCell ⟨b0 + 1 + 1, 5, none⟩ (.slice A9 (i + 1) c9)).ownsRow (b0 + 3) 58 29 (.slice A9 (i + 1) c9) (i + 1) ((List.range (i + 1)).flatMap fun j => nodeZ (upd us i u j))) := Lib.hid (by
                  rw [flat_upd, ← HL.out]
                  exact own_kept ho9 m2 (by decide) (grown_set w9 _ 5 _))
                have hFu : Hid (∀ j, j < i + 1 → OwnI (w9.setCell ⟨b0 + 1 + 1, 5, none⟩ (.slice A9 (i + 1) c9)) (b0 + 3) (upd us i u j) (withoutL (d j) x)) := Lib.hid (fun j hj => by
                  have key : ∀ {uj : Value} {Lj : List Int}, OwnI wr (b0 + 3) uj Lj → OwnI (w9.setCell ⟨b0 + 1 + 1, 5, none⟩ (.slice A9 (i + 1) c9)) (b0 + 3) uj Lj := fun h =>
                    ((OwnI.nodes (World.ownsRow.alloc h (.cells L.toArray 58)) hOa.out hg9).kept m2 (by decide) (grown_set w9 _ 5 _))
                  by_cases e : j = i
                  · subst e; rw [upd_same]; exact key hU3.out
                  · rw [upd_far e]; exact key (husw.out j (by omega)))
                have hFB : Hid (Below w.heap.size w (w9.setCell ⟨b0 + 1 + 1, 5, none⟩ (.slice A9 (i + 1) c9))) := Lib.hid (by
                  have h1 := (hBz.out.alloc hBz.out.size (.cells L.toArray 58)).grown hg9 (by have := hBz.out.size; simp; omega) (fun k e => by have := (World.ownsRow.lt hOa.out k e).1; have := HB0.out; omega)
                  exact h1.grown (grown_set w9 _ 5 _) (by have := h1.size; exact this) (fun k e => by cases e; have := HB0.out; omega))
                clear ho9 hg9 hOa hOw husw hU3 hz0 hz1 hz2 hBz hrange hal k0 k1 k2 m0 m1 m2 cz hnew hnz hszb HL hL29
                go_wp2_with fail
                go_roundw
                case rel => exact ⟨i + 1, .slice A9 (i + 1) c9, upd us i u, by omega, by go_num, hFB, hF0, hF1, hF2, hFO, hFu⟩
                case measure => simp [intOf]; omega
              · have tkx : (y.k != x) = true := by simp [hkx]
                have tkxB : (y.k == x) = false := by simp [hkx]
                have y2 : wr.cell? ⟨bn, 2, none⟩ = some u := by rw [cell_of_row wr _ 2 _ 58 (0, 0) hnb.out]; rfl
                have hlt := row_lt hnb.out
                have hrs : Hid (withoutL y x = ((List.range y.c).map y.f).filter (fun j => j != x) ++ [y.k]) := Lib.hid (by rw [hwl.out, if_pos hk0]; simp [tkx])
                have hlen : Hid ((((List.range y.c).map y.f).filter (fun j => j != x)).length ≤ 100) := Lib.hid (by
                  refine Nat.le_trans (List.length_filter_le _ _) ?_
                  simp
                  omega)
                generalize hz : y.k = z at c26 tk0 tkx tkxB hkx hrs
                have hkz := Lib.hid hz
                clear hz
                generalize ((List.range y.c).map y.f).filter (fun j => j != x) = P at *
                have hO1 : Hid (OwnI ((wr.alloc (.cells #[.int .i64 z] 3)).drew) bn u P) := Lib.hid (World.ownsRow.alloc hU.out _)
                have w0 : ((wr.alloc (.cells #[.int .i64 z] 3)).drew).cell? ⟨wr.heap.size, 0, none⟩ = some (.int .i64 z) := by
                  show (wr.alloc (.cells #[.int .i64 z] 3)).cell? ⟨wr.heap.size, 0, none⟩ = _
                  rw [World.cell?_alloc_new]; rfl
                have hs1 : Hid (bn ≤ ((wr.alloc (.cells #[.int .i64 z] 3)).drew).heap.size) := Lib.hid (by show bn ≤ (wr.alloc (.cells #[.int .i64 z] 3)).heap.size; simp; omega)
                have hbA : Hid (Below bn W0 ((wr.alloc (.cells #[.int .i64 z] 3)).drew)) := Lib.hid ((hb.out.alloc (Nat.le_of_lt hlt) _).trans ⟨rfl, rfl, rfl, Nat.le_refl _, fun _ _ => rfl⟩)
                have hnbA : Hid (((wr.alloc (.cells #[.int .i64 z] 3)).drew).heap[bn]? = some (.cells (nodeZ u).toArray 58 (0, 0))) := Lib.hid (by
                  show (wr.alloc (.cells #[.int .i64 z] 3)).heap[bn]? = _
                  rw [Below.heap_alloc _ _ _ hlt]; exact hnb.out)
                go_upto_region 12 with (fail)
                go_region_law (refine step_int rfl (.tmp 71) (.tmp 78) rfl bn u P rfl hO1.out wr.heap.size z rfl w0 (by have := hlen.out; omega) hs1.out ?_; intro v' w8 ho8 hg8; obtain ⟨A7, c7, rfl⟩ := ho8.open; obtain ⟨m7, hm7⟩ : ∃ m7, m7 = (P ++ [z]).length := ⟨_, rfl⟩; have hO8 : Hid (OwnI w8 bn (.slice A7 m7 c7) (P ++ [z])) := Lib.hid (by rw [hm7]; exact ho8); rw [← hm7]; have hb8 := Lib.hid (hbA.out.grown hg8 hs1.out (fun k e => (World.ownsRow.lt hO1.out k e).1)); have hnb8 : Hid (w8.heap[bn]? = some (.cells (nodeZ u).toArray 58 (0, 0))) := Lib.hid (by rw [hg8.block bn (row_lt hnbA.out) (hO1.out.ne hnbA.out (by decide))]; exact hnbA.out); have q2 : w8.cell? ⟨bn, 2, none⟩ = some u := (by rw [cell_of_row w8 _ 2 _ 58 (0, 0) hnb8.out]; rfl); have q3 : w8.frozen? ⟨bn, 2, none⟩ = false := frozen_of_heap hnb8.out 2; clear ho8 hg8 hm7)
                all_goals (
                  have hb9 : Hid (Below bn W0 (w8.setCell ⟨bn, 2, none⟩ (.slice A7 m7 c7))) := Lib.hid (hb8.out.grown (grown_set w8 bn 2 _) (Nat.le_of_lt (row_lt hnb8.out)) (fun k e => by cases e; exact Nat.le_refl _))
                  have hn9 : Hid ((w8.setCell ⟨bn, 2, none⟩ (.slice A7 m7 c7)).heap[bn]? = some (.cells (nodeZ (.slice A7 m7 c7)).toArray 58 (0, 0))) := Lib.hid (heap_set hnb8.out 2 _)
                  have hUF : Hid (OwnI (w8.setCell ⟨bn, 2, none⟩ (.slice A7 m7 c7)) bn (.slice A7 m7 c7) (withoutL y x)) := Lib.hid (by
                    rw [hrs.out]
                    exact hO8.out.kept hnb8.out (by decide) (grown_set w8 bn 2 _))
                  have hU9 := Lib.hid trivial
                  clear hU hrs hO1 w0 hs1 hbA hnbA hO8 hb8 hnb8 q2 q3 hb hnb
                  generalize w8.setCell ⟨bn, 2, none⟩ (.slice A7 m7 c7) = w7 at *
                  go_simp
                  go_upto_region 13 with (fail)
                  have hOw : Hid (w7.ownsRow (b0 + 3) 58 29 v i ((List.range i).flatMap fun j => nodeZ (us j))) := Lib.hid (World.ownsRow.kept hO0.out (row := none) ⟨(HBW.out _ hb9.out).os, (HBW.out _ hb9.out).tape, (HBW.out _ hb9.out).output, (HBW.out _ hb9.out).size, fun k hk _ => (HBW.out _ hb9.out).block k hk⟩ (by cases v.ownBlock with | none => exact .inl rfl | some k => exact .inr (by simp)))
                  have husw : Hid (∀ j, j < i → OwnI w7 (b0 + 3) (us j) (withoutL (d j) x)) := Lib.hid (fun j hj => (hus0.out j hj).below (HBW.out _ hb9.out))
                  have hU3 : Hid (OwnI w7 (b0 + 3) (.slice A7 m7 c7) (withoutL (d i) x)) := Lib.hid (by rw [← HY.out]; exact hUF.out.low hb3.out)
                  have hz2 : Hid (w7.heap[b0 + 1 + 1]? = some (.cells #[.int .i64 0, .slice none 0 0, .slice none 0 0, .slice none 0 0, .slice none 0 0, v] 27 (0, 0))) := Lib.hid (by rw [hb9.out.block _ (by have := hb3.out; omega), HW0.out]; exact hbz.out)
                  have hz1 : Hid (w7.heap[b0 + 1]? = some (.cells #[.int .i64 0, .slice none 0 0, .slice none 0 0, .slice none 0 0, .slice none 0 0, .slice none 0 0] 27 (0, 0))) := Lib.hid (by rw [hb9.out.block _ (by have := hb3.out; omega), HW0.out]; exact hby.out)
                  have hz0 : Hid (w7.heap[b0]? = some (.cells #[.int .i64 lb, .slice A a1 aa, .slice B b bb, .slice V p pp, .slice S q qq, .slice (some ⟨g, o, none⟩) n nn] 27 (0, 0))) := Lib.hid (by rw [hb9.out.block _ (by have := hb3.out; omega), HW0.out]; exact hbx.out)
                  have hBz : Hid (Below w.heap.size w w7) := Lib.hid (HBC.out _ hb9.out)
                  obtain ⟨L, hL⟩ : ∃ L, L = nodeZ (.slice A7 m7 c7) := ⟨_, rfl⟩
                  have hrange : Hid (w7.rangeAt bn 0 L) := Lib.hid (fun j v' e => by rw [cell_of_row w7 _ _ _ 58 (0, 0) hn9.out]; rw [hL] at e; simpa using e)
                  have cz : w7.cell? ⟨b0 + 1 + 1, 5, none⟩ = some v := by rw [cell_of_row w7 _ 5 _ 27 (0, 0) hz2.out]; rfl
                  have hu1 : Value.oneCell' (.slice A7 m7 c7) = true := by obtain ⟨_, _, e⟩ := hU3.out.open; rw [e]; rfl
                  have hnz : Hid (∀ v ∈ L, v.oneCell' = true) := Lib.hid (by rw [hL]; exact nodeZ_one hu1)
                  have hL29 : Hid (L.length = 29) := Lib.hid (by rw [hL]; rfl)
                  have HL := Lib.hid hL
                  clear hUF hU9 hb9 hn9 hL hu1
                  obtain ⟨i0, hii, hz00, hz01, hz02⟩ := info_parts info58'
                  go_wp2_with (first | (refine ldm rfl 58 _ rfl bn 0 rfl L _ hrange.out Try.underlying58 rfl 29 info58 hL29.out ?_; refine Hid.out ?_) | fail)
                  refine Lib.hid ?_
                  refine bs58 rfl (.tmp 83) rfl L rfl hL29.out ?_
                  have hOa : Hid ((w7.alloc (.cells L.toArray 58)).ownsRow (b0 + 3) 58 29 v i ((List.range i).flatMap fun j => nodeZ (us j))) := Lib.hid (World.ownsRow.alloc hOw.out _)
                  have hnew := Lib.hid (World.news_of_block (heap_alloc_new w7 (.cells L.toArray 58)))
                  have hszb : Hid (b0 + 3 ≤ (w7.alloc (.cells L.toArray 58)).heap.size) := Lib.hid (by have := row_lt hz2.out; simp; omega)
                  refine wpList_append_own _ rfl (.tmp 82) (.tmp 84) 25 rfl (b0 + 3) 58 i0 _ 29 424 Try.underlying25 hii hz00 hz01 hz02 rfl (by omega) v i _ rfl hOa.out ⟨w7.heap.size, 0, none⟩ 1 1 L rfl (by rw [hL29.out]) ?_ hnz.out (by unfold maxLen; omega) (by omega) hszb.out ?_
                  · exact hnew.out
                  intro v' w9 ho9 hg9 _
                  obtain ⟨A9, c9, rfl⟩ : ∃ A9 c9, v' = .slice A9 (i + 1) c9 := by
                    rcases ho9.2 with ⟨e, e0⟩ | ⟨g9, cap, cur, e, _⟩
                    · exact ⟨none, 0, by rw [e, e0]⟩
                    · exact ⟨_, cap, e⟩
                  have hal := fun (b : Nat) (hb : b < w7.heap.size) => Below.heap_alloc w7 (.cells L.toArray 58) b hb
                  have k2 : (w7.alloc (.cells L.toArray 58)).heap[b0 + 1 + 1]? = some (.cells #[.int .i64 0, .slice none 0 0, .slice none 0 0, .slice none 0 0, .slice none 0 0, v] 27 (0, 0)) := (hal _ (row_lt hz2.out)).trans hz2.out
                  have k1 : (w7.alloc (.cells L.toArray 58)).heap[b0 + 1]? = some (.cells #[.int .i64 0, .slice none 0 0, .slice none 0 0, .slice none 0 0, .slice none 0 0, .slice none 0 0] 27 (0, 0)) := (hal _ (row_lt hz1.out)).trans hz1.out
                  have k0 : (w7.alloc (.cells L.toArray 58)).heap[b0]? = some (.cells #[.int .i64 lb, .slice A a1 aa, .slice B b bb, .slice V p pp, .slice S q qq, .slice (some ⟨g, o, none⟩) n nn] 27 (0, 0)) := (hal _ (row_lt hz0.out)).trans hz0.out
                  have m2 := (hg9.block _ (row_lt k2) (own_ne hOa.out k2 (by decide))).trans k2
                  have m1 := (hg9.block _ (row_lt k1) (own_ne hOa.out k1 (by decide))).trans k1
                  have m0 := (hg9.block _ (row_lt k0) (own_ne hOa.out k0 (by decide))).trans k0
                  have q5 : w9.cell? ⟨b0 + 1 + 1, 5, none⟩ = some v := by rw [cell_of_row w9 _ 5 _ 27 (0, 0) m2]; rfl
                  have q6 : w9.frozen? ⟨b0 + 1 + 1, 5, none⟩ = false := frozen_of_heap m2 5
                  have hF2 : Hid ((w9.setCell ⟨b0 + 1 + 1, 5, none⟩ (.slice A9 (i + 1) c9)).heap[b0 + 1 + 1]? = some (.cells #[.int .i64 0, .slice none 0 0, .slice none 0 0, .slice none 0 0, .slice none 0 0, .slice A9 (i + 1) c9] 27 (0, 0))) := Lib.hid (heap_set m2 5 _)
                  have hF1 : Hid ((w9.setCell ⟨b0 + 1 + 1, 5, none⟩ (.slice A9 (i + 1) c9)).heap[b0 + 1]? = some (.cells #[.int .i64 0, .slice none 0 0, .slice none 0 0, .slice none 0 0, .slice none 0 0, .slice none 0 0] 27 (0, 0))) := Lib.hid ((Below.heap_setCell _ _ _ _ (by show b0 + 1 ≠ b0 + 1 + 1; omega)).trans m1)
                  have hF0 : Hid ((w9.setCell ⟨b0 + 1 + 1, 5, none⟩ (.slice A9 (i + 1) c9)).heap[b0]? = some (.cells #[.int .i64 lb, .slice A a1 aa, .slice B b bb, .slice V p pp, .slice S q qq, .slice (some ⟨g, o, none⟩) n nn] 27 (0, 0))) := Lib.hid ((Below.heap_setCell _ _ _ _ (by show b0 ≠ b0 + 1 + 1; omega)).trans m0)
                  have hFO : Hid ((w9.setCell ⟨b0 + 1 + 1, 5, none⟩ (.slice A9 (i + 1) c9)).ownsRow (b0 + 3) 58 29 (.slice A9 (i + 1) c9) (i + 1) ((List.range (i + 1)).flatMap fun j => nodeZ (upd us i (.slice A7 m7 c7) j))) := Lib.hid (by
                    rw [flat_upd, ← HL.out]
                    exact own_kept ho9 m2 (by decide) (grown_set w9 _ 5 _))
                  have hFu : Hid (∀ j, j < i + 1 → OwnI (w9.setCell ⟨b0 + 1 + 1, 5, none⟩ (.slice A9 (i + 1) c9)) (b0 + 3) (upd us i (.slice A7 m7 c7) j) (withoutL (d j) x)) := Lib.hid (fun j hj => by
                    have key : ∀ {uj : Value} {Lj : List Int}, OwnI w7 (b0 + 3) uj Lj → OwnI (w9.setCell ⟨b0 + 1 + 1, 5, none⟩ (.slice A9 (i + 1) c9)) (b0 + 3) uj Lj := fun h =>
                      ((OwnI.nodes (World.ownsRow.alloc h (.cells L.toArray 58)) hOa.out hg9).kept m2 (by decide) (grown_set w9 _ 5 _))
                    by_cases e : j = i
                    · subst e; rw [upd_same]; exact key hU3.out
                    · rw [upd_far e]; exact key (husw.out j (by omega)))
                  have hFB : Hid (Below w.heap.size w (w9.setCell ⟨b0 + 1 + 1, 5, none⟩ (.slice A9 (i + 1) c9))) := Lib.hid (by
                    have h1 := (hBz.out.alloc hBz.out.size (.cells L.toArray 58)).grown hg9 (by have := hBz.out.size; simp; omega) (fun k e => by have := (World.ownsRow.lt hOa.out k e).1; have := HB0.out; omega)
                    exact h1.grown (grown_set w9 _ 5 _) (by have := h1.size; exact this) (fun k e => by cases e; have := HB0.out; omega))
                  clear ho9 hg9 hOa hOw husw hU3 hz0 hz1 hz2 hBz hrange hal k0 k1 k2 m0 m1 m2 cz hnew hnz hszb HL hL29
                  go_wp2_with fail
                  go_roundw
                  case rel => exact ⟨i + 1, .slice A9 (i + 1) c9, upd us i (.slice A7 m7 c7), by omega, by go_num, hFB, hF0, hF1, hF2, hFO, hFu⟩
                  case measure => simp [intOf]; omega)
            · have tk0 : decide (0 ≤ y.k) = false := decide_eq_false hk0
              have hUF : Hid (OwnI wr bn u (withoutL y x)) := Lib.hid (by rw [hwl.out, if_neg hk0]; simpa using hU.out)
              go_upto_region 13 with (fail)
              have hOw : Hid (wr.ownsRow (b0 + 3) 58 29 v i ((List.range i).flatMap fun j => nodeZ (us j))) := Lib.hid (World.ownsRow.kept hO0.out (row := none) ⟨(HBW.out _ hb.out).os, (HBW.out _ hb.out).tape, (HBW.out _ hb.out).output, (HBW.out _ hb.out).size, fun k hk _ => (HBW.out _ hb.out).block k hk⟩ (by cases v.ownBlock with | none => exact .inl rfl | some k => exact .inr (by simp)))
              have husw : Hid (∀ j, j < i → OwnI wr (b0 + 3) (us j) (withoutL (d j) x)) := Lib.hid (fun j hj => (hus0.out j hj).below (HBW.out _ hb.out))
              have hU3 : Hid (OwnI wr (b0 + 3) u (withoutL (d i) x)) := Lib.hid (by rw [← HY.out]; exact hUF.out.low hb3.out)
              have hz2 : Hid (wr.heap[b0 + 1 + 1]? = some (.cells #[.int .i64 0, .slice none 0 0, .slice none 0 0, .slice none 0 0, .slice none 0 0, v] 27 (0, 0))) := Lib.hid (by rw [hb.out.block _ (by have := hb3.out; omega), HW0.out]; exact hbz.out)
              have hz1 : Hid (wr.heap[b0 + 1]? = some (.cells #[.int .i64 0, .slice none 0 0, .slice none 0 0, .slice none 0 0, .slice none 0 0, .slice none 0 0] 27 (0, 0))) := Lib.hid (by rw [hb.out.block _ (by have := hb3.out; omega), HW0.out]; exact hby.out)
              have hz0 : Hid (wr.heap[b0]? = some (.cells #[.int .i64 lb, .slice A a1 aa, .slice B b bb, .slice V p pp, .slice S q qq, .slice (some ⟨g, o, none⟩) n nn] 27 (0, 0))) := Lib.hid (by rw [hb.out.block _ (by have := hb3.out; omega), HW0.out]; exact hbx.out)
              have hBz : Hid (Below w.heap.size w wr) := Lib.hid (HBC.out _ hb.out)
              obtain ⟨L, hL⟩ : ∃ L, L = nodeZ u := ⟨_, rfl⟩
              have hrange : Hid (wr.rangeAt bn 0 L) := Lib.hid (fun j v' e => by rw [cell_of_row wr _ _ _ 58 (0, 0) hnb.out]; rw [hL] at e; simpa using e)
              have cz : wr.cell? ⟨b0 + 1 + 1, 5, none⟩ = some v := by rw [cell_of_row wr _ 5 _ 27 (0, 0) hz2.out]; rfl
              have hu1 : Value.oneCell' u = true := by obtain ⟨_, _, e⟩ := hU3.out.open; rw [e]; rfl
              have hnz : Hid (∀ v ∈ L, v.oneCell' = true) := Lib.hid (by rw [hL]; exact nodeZ_one hu1)
              have hL29 : Hid (L.length = 29) := Lib.hid (by rw [hL]; rfl)
              have HL := Lib.hid hL
              clear hUF hU hb hnb hL hu1
              obtain ⟨i0, hii, hz00, hz01, hz02⟩ := info_parts info58'
              go_wp2_with (first | (refine ldm rfl 58 _ rfl bn 0 rfl L _ hrange.out Try.underlying58 rfl 29 info58 hL29.out ?_; refine Hid.out ?_) | fail)
              refine Lib.hid ?_
              refine bs58 rfl (.tmp 83) rfl L rfl hL29.out ?_
              have hOa : Hid ((wr.alloc (.cells L.toArray 58)).ownsRow (b0 + 3) 58 29 v i ((List.range i).flatMap fun j => nodeZ (us j))) := Lib.hid (World.ownsRow.alloc hOw.out _)
              have hnew := Lib.hid (World.news_of_block (heap_alloc_new wr (.cells L.toArray 58)))
              have hszb : Hid (b0 + 3 ≤ (wr.alloc (.cells L.toArray 58)).heap.size) := Lib.hid (by have := row_lt hz2.out; simp; omega)
              refine wpList_append_own _ rfl (.tmp 82) (.tmp 84) 25 rfl (b0 + 3) 58 i0 _ 29 424 Try.underlying25 hii hz00 hz01 hz02 rfl (by omega) v i _ rfl hOa.out ⟨wr.heap.size, 0, none⟩ 1 1 L rfl (by rw [hL29.out]) ?_ hnz.out (by unfold maxLen; omega) (by omega) hszb.out ?_
              · exact hnew.out
              intro v' w9 ho9 hg9 _
              obtain ⟨A9, c9, rfl⟩ : ∃ A9 c9, v' = .slice A9 (i + 1) c9 := by
                rcases ho9.2 with ⟨e, e0⟩ | ⟨g9, cap, cur, e, _⟩
                · exact ⟨none, 0, by rw [e, e0]⟩
                · exact ⟨_, cap, e⟩
              have hal := fun (b : Nat) (hb : b < wr.heap.size) => Below.heap_alloc wr (.cells L.toArray 58) b hb
              have k2 : (wr.alloc (.cells L.toArray 58)).heap[b0 + 1 + 1]? = some (.cells #[.int .i64 0, .slice none 0 0, .slice none 0 0, .slice none 0 0, .slice none 0 0, v] 27 (0, 0)) := (hal _ (row_lt hz2.out)).trans hz2.out
              have k1 : (wr.alloc (.cells L.toArray 58)).heap[b0 + 1]? = some (.cells #[.int .i64 0, .slice none 0 0, .slice none 0 0, .slice none 0 0, .slice none 0 0, .slice none 0 0] 27 (0, 0)) := (hal _ (row_lt hz1.out)).trans hz1.out
              have k0 : (wr.alloc (.cells L.toArray 58)).heap[b0]? = some (.cells #[.int .i64 lb, .slice A a1 aa, .slice B b bb, .slice V p pp, .slice S q qq, .slice (some ⟨g, o, none⟩) n nn] 27 (0, 0)) := (hal _ (row_lt hz0.out)).trans hz0.out
              have m2 := (hg9.block _ (row_lt k2) (own_ne hOa.out k2 (by decide))).trans k2
              have m1 := (hg9.block _ (row_lt k1) (own_ne hOa.out k1 (by decide))).trans k1
              have m0 := (hg9.block _ (row_lt k0) (own_ne hOa.out k0 (by decide))).trans k0
              have q5 : w9.cell? ⟨b0 + 1 + 1, 5, none⟩ = some v := by rw [cell_of_row w9 _ 5 _ 27 (0, 0) m2]; rfl
              have q6 : w9.frozen? ⟨b0 + 1 + 1, 5, none⟩ = false := frozen_of_heap m2 5
              have hF2 : Hid ((w9.setCell ⟨b0 + 1 + 1, 5, none⟩ (.slice A9 (i + 1) c9)).heap[b0 + 1 + 1]? = some (.cells #[.int .i64 0, .slice none 0 0, .slice none 0 0, .slice none 0 0, .slice none 0 0, .slice A9 (i + 1) c9] 27 (0, 0))) := Lib.hid (heap_set m2 5 _)
              have hF1 : Hid ((w9.setCell ⟨b0 + 1 + 1, 5, none⟩ (.slice A9 (i + 1) c9)).heap[b0 + 1]? = some (.cells #[.int .i64 0, .slice none 0 0, .slice none 0 0, .slice none 0 0, .slice none 0 0, .slice none 0 0] 27 (0, 0))) := Lib.hid ((Below.heap_setCell _ _ _ _ (by show b0 + 1 ≠ b0 + 1 + 1; omega)).trans m1)
              have hF0 : Hid ((w9.setCell ⟨b0 + 1 + 1, 5, none⟩ (.slice A9 (i + 1) c9)).heap[b0]? = some (.cells #[.int .i64 lb, .slice A a1 aa, .slice B b bb, .slice V p pp, .slice S q qq, .slice (some ⟨g, o, none⟩) n nn] 27 (0, 0))) := Lib.hid ((Below.heap_setCell _ _ _ _ (by show b0 ≠ b0 + 1 + 1; omega)).trans m0)
              have hFO : Hid ((w9.setCell ⟨b0 + 1 + 1, 5, none⟩ (.slice A9 (i + 1) c9)).ownsRow (b0 + 3) 58 29 (.slice A9 (i + 1) c9) (i + 1) ((List.range (i + 1)).flatMap fun j => nodeZ (upd us i u j))) := Lib.hid (by
                rw [flat_upd, ← HL.out]
                exact own_kept ho9 m2 (by decide) (grown_set w9 _ 5 _))
              have hFu : Hid (∀ j, j < i + 1 → OwnI (w9.setCell ⟨b0 + 1 + 1, 5, none⟩ (.slice A9 (i + 1) c9)) (b0 + 3) (upd us i u j) (withoutL (d j) x)) := Lib.hid (fun j hj => by
                have key : ∀ {uj : Value} {Lj : List Int}, OwnI wr (b0 + 3) uj Lj → OwnI (w9.setCell ⟨b0 + 1 + 1, 5, none⟩ (.slice A9 (i + 1) c9)) (b0 + 3) uj Lj := fun h =>
                  ((OwnI.nodes (World.ownsRow.alloc h (.cells L.toArray 58)) hOa.out hg9).kept m2 (by decide) (grown_set w9 _ 5 _))
                by_cases e : j = i
                · subst e; rw [upd_same]; exact key hU3.out
                · rw [upd_far e]; exact key (husw.out j (by omega)))
              have hFB : Hid (Below w.heap.size w (w9.setCell ⟨b0 + 1 + 1, 5, none⟩ (.slice A9 (i + 1) c9))) := Lib.hid (by
                have h1 := (hBz.out.alloc hBz.out.size (.cells L.toArray 58)).grown hg9 (by have := hBz.out.size; simp; omega) (fun k e => by have := (World.ownsRow.lt hOa.out k e).1; have := HB0.out; omega)
                exact h1.grown (grown_set w9 _ 5 _) (by have := h1.size; exact this) (fun k e => by cases e; have := HB0.out; omega))
              clear ho9 hg9 hOa hOw husw hU3 hz0 hz1 hz2 hBz hrange hal k0 k1 k2 m0 m1 m2 cz hnew hnz hszb HL hL29
              go_wp2_with fail
              go_roundw
              case rel => exact ⟨i + 1, .slice A9 (i + 1) c9, upd us i u, by omega, by go_num, hFB, hF0, hF1, hF2, hFO, hFu⟩
              case measure => simp [intOf]; omega
      · have hie : i = n := by omega
        subst hie
        have hnum : Hid (∀ j, j < i → (∀ m, m < (d j).c → Num ((d j).f m)) ∧ Num (d j).k) := Lib.hid (fun j hj => by
          obtain ⟨_, _, _, _, _, _, _, _, _, _, _, _, _, _, _, _, _, _, _, _, _, _, _, _, _, _, _, hn1, _, _, _, hn2, _⟩ := (hns1.out j hj).list
          exact ⟨hn1, hn2⟩)
        obtain ⟨cs, hcs⟩ : ∃ cs : Value → Array Value, cs = fun u => #[.int .i64 0, .slice none 0 0, .slice none 0 0, .slice none 0 0, .slice none 0 0, u] := ⟨_, rfl⟩
        have HCS := Lib.hid hcs
        have hci : Hid (∀ u, (Try.prog.info? 27).map (·.size) = some (cs u).size) := Lib.hid (fun u => by rw [hcs]; kernel_rfl)
        have hco : Hid (∀ A9 n9 c9, (cs (.slice A9 n9 c9)).all (·.oneCell') = true) := Lib.hid (fun A9 n9 c9 => by rw [hcs]; kernel_rfl)
        have hcz : Hid (∀ u, (6 : Nat) = (cs u).size) := Lib.hid (fun u => by rw [hcs]; rfl)
        have hcv : Hid (∀ u, Value.agg #[.int .i64 0, .slice none 0 0, .slice none 0 0, .slice none 0 0, .slice none 0 0, u] = .agg (cs u)) := Lib.hid (fun u => by rw [hcs])
        have hgs : Hid (wr.grownBy (wr.setRow (b0 + 1) (cs v)) (some (b0 + 1))) := Lib.hid ⟨rfl, rfl, rfl, by simp, fun k _ hne => setRow_other wr _ k _ (by intro e; exact hne (by rw [e]))⟩
        have hmade := Lib.hid (model_made (G := ⟨i, d⟩) (own_kept hO.out hby.out (by decide) hgs.out) (fun j hj => (hus.out j hj).kept hby.out (by decide) hgs.out) hnum.out)
        have hfin : Hid ((wr.setRow (b0 + 1) (cs v)).heap[b0 + 1]? = some (.cells (cs v) 27 (0, 0))) := Lib.hid (setRow_heap wr _ _ _ _ _ hby.out)
        have hBF : Hid (Below w.heap.size w (wr.setRow (b0 + 1) (cs v))) := Lib.hid (hB.out.grown hgs.out hB.out.size (fun k e => by cases e; have := HB0.out; omega))
        obtain ⟨Av, cv, hvv, hMM⟩ := hmade.out
        subst hvv
        have hMH := Lib.hid hMM
        clear hMM hmade hO hus hcs hgs
        have z0 : wr.cell? ⟨b0 + 1 + 1, 0, none⟩ = some (.int .i64 0) := by rw [cell_of_row wr _ 0 _ 27 (0, 0) hbz.out]; rfl
        have z1 : wr.cell? ⟨b0 + 1 + 1, 1, none⟩ = some (.slice none 0 0) := by rw [cell_of_row wr _ 1 _ 27 (0, 0) hbz.out]; rfl
        have z2 : wr.cell? ⟨b0 + 1 + 1, 2, none⟩ = some (.slice none 0 0) := by rw [cell_of_row wr _ 2 _ 27 (0, 0) hbz.out]; rfl
        have z3 : wr.cell? ⟨b0 + 1 + 1, 3, none⟩ = some (.slice none 0 0) := by rw [cell_of_row wr _ 3 _ 27 (0, 0) hbz.out]; rfl
        have z4 : wr.cell? ⟨b0 + 1 + 1, 4, none⟩ = some (.slice none 0 0) := by rw [cell_of_row wr _ 4 _ 27 (0, 0) hbz.out]; rfl
        have z5 : wr.cell? ⟨b0 + 1 + 1, 5, none⟩ = some (.slice Av i cv) := by rw [cell_of_row wr _ 5 _ 27 (0, 0) hbz.out]; rfl
        go_wp2_with (first | (refine wpList_store_row rfl 27 (.tmp 4) (.tmp 87) rfl (b0 + 1) (cs (.slice Av i cv)) rfl (hcv.out _) 27 _ hby.out (hci.out _) (hcz.out _) (hco.out _ _ _) ?_; refine Hid.out ?_) | fail)
        refine Lib.hid ?_
        generalize wr.setRow (b0 + 1) (cs (.slice Av i cv)) = wF at *
        go_wp2_with fail
        exact bodyPost_ret (results_model rfl _ _ (b0 + 1) (cs (.slice Av i cv)) rfl hfin.out (by rw [HCS.out]; rfl)) rfl ⟨_, rfl, by rw [HCS.out]; exact hMH.out, hBF.out⟩
end Go.Proofs.Ytmbjmibjobpdgaa

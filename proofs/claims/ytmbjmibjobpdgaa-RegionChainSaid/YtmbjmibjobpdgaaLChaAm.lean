/-
  The walk of RegionChain.
-/
import Derived.Test.YtmbjmibjobpdgaaM52
namespace Go.Proofs.Ytmbjmibjobpdgaa.lawRegionChain
open Go.RowKit

theorem cut_place {c : Int} {n : Nat} (hn : 0 < n) (hm : n ≤ 130000) : ∃ j : Nat, j < n ∧ wrap64 ((IntKind.u64.wrap c).tmod (n : Int)) = (j : Int) := by
  have hw : 0 ≤ IntKind.u64.wrap c := by rw [IntKind.wrap_u64]; omega
  generalize IntKind.u64.wrap c = z at *
  rw [Int.tmod_eq_emod_of_nonneg hw]
  have h1 := Int.emod_lt_of_pos z (show (0 : Int) < n by omega)
  have h0 := Int.emod_nonneg z (show (n : Int) ≠ 0 by omega)
  refine ⟨(z % (n : Int)).toNat, by omega, ?_⟩
  generalize z % (n : Int) = y at *
  unfold wrap64
  omega
/-- Does j stand among the dominators of i? -/
def inB (G : GT) (s i j : Nat) : Bool := decide ((j : Int) ∈ domL G (s : Int) i)
/-- Is i come to? -/
def reB (G : GT) (s i : Nat) : Bool := decide (i = s ∨ (i : Int) ∈ reachL G (s : Int))
theorem inB_iff {G : GT} {s i j : Nat} (hs : s < G.n) (hj : j < G.n) : inB G s i j = true ↔ Dom G s j i := by
  unfold inB
  rw [decide_eq_true_iff, domL_mem, ← domB_dom hs]
  constructor
  · rintro ⟨d, _, e, h⟩
    have : d = j := by omega
    subst this
    exact h
  · intro h
    exact ⟨j, hj, rfl, h⟩
theorem reB_iff {G : GT} {s i : Nat} (hs : s < G.n) : reB G s i = true ↔ Come G s i := by
  rw [← comeL_iff hs]
  unfold reB comeL
  rw [if_pos ⟨by omega, by omega⟩, decide_eq_true_iff, List.mem_append, List.mem_singleton]
  constructor
  · rintro (h | h)
    · exact .inr (by omega)
    · exact .inl h
  · rintro (h | h)
    · exact .inr h
    · exact .inl (by omega)
theorem bool_iff {a b : Bool} (h : a = true ↔ b = true) : a = b := by cases a <;> cases b <;> simp_all
theorem inB_self {G : GT} {s i : Nat} (hs : s < G.n) (hi : i < G.n) : inB G s i i = reB G s i := bool_iff (by rw [inB_iff hs hi, reB_iff hs]; exact dom_self)
theorem inB_root {G : GT} {s i : Nat} (hs : s < G.n) : inB G s i s = reB G s i := bool_iff (by rw [inB_iff hs hs, reB_iff hs]; exact dom_root)
theorem inB_trans {G : GT} {s i k j : Nat} (hs : s < G.n) (hk : k < G.n) (hj : j < G.n) (h1 : inB G s i k = true) (h2 : inB G s k j = true) : inB G s i j = true :=
  (inB_iff hs hj).2 (dom_trans ((inB_iff hs hk).1 h1) ((inB_iff hs hj).1 h2))
theorem reach_mem {G : GT} {s : Nat} (hs : s < G.n) {z : Int} (h : z ∈ reachL G (s : Int)) : ∃ d : Nat, z = (d : Int) ∧ d < G.n := by
  rw [reachL_in hs] at h
  obtain ⟨d, e, hd, _⟩ := pickL_mem.1 h
  exact ⟨d, e, hd⟩
theorem info47' : (Try.prog.info? 47).map (fun i => (i.zero, i.size, i.bytes)) = some (some (.slice none 0 0), 1, 24) := by kernel_rfl
section
variable {ops : Array Oper} {rest : List Oper} {o : Oper} {a : Act} {w : World} {Q : Exit → Act → World → Prop}
/-- 'make([][]bool, n)'. -/
theorem wp_mkG (hgd : o.guard = none) (l c : Operand) (ho : o.op = .makeSlice 46 l c)
    (n : Nat) (hl : a.eval l = .int .i64 (n : Int)) (hc : a.eval c = .int .i64 (n : Int)) (hn : n ≤ 1000)
    (h : ∀ w', CB w' 47 w.heap.size n (fun _ => .slice none 0 0) → Below w.heap.size w w' → wpList Try.prog ops Q rest (a.put o.dst (.slice (some ⟨w.heap.size, 0, none⟩) n n)) w') : wpList Try.prog ops Q (o :: rest) a w := by
  obtain ⟨i0, hi, hz0, hz1, hz2⟩ := info_parts info47'
  have hcell : (Value.slice none 0 0).cells = #[.slice none 0 0] := rfl
  refine wpList_make_full w hgd l c 46 ho w.heap.size 47 i0 _ 1 Try.underlying46 hi hz0 hz1 .i64 .i64 _ _ n hl hc rfl rfl (by rw [hz2]; omega) (by unfold maxLen; omega) (Nat.le_refl _) fun w' h1 h2 => ?_
  rcases h1.2 with ⟨e, _⟩ | ⟨g, cap, cur, e, hg, hh, k1, k2, k3, k4⟩
  · cases e
  · injection e with e1 e2 e3
    injection e1 with e1
    injection e1 with e1
    subst e1
    refine h w' ⟨cur, hh, by omega, fun i hi => ?_⟩ ((Below.refl _ _).grown h2 (Nat.le_refl _) (fun k hk => by cases hk))
    have e : (cur.toList.take (n * 1))[i]? = (madeCells (Value.slice none 0 0).cells (n * 1)).toList[i]? := by rw [k4]
    rw [List.getElem?_take, if_pos (by omega), Array.getElem?_toList, Array.getElem?_toList] at e
    rw [e, hcell]
    have hlt : i < (madeCells #[Value.slice none 0 0] (n * 1)).size := by simp [madeCells]; omega
    rw [Array.getElem?_eq_getElem hlt]
    simp [madeCells, Nat.mod_one]
end
/-- The grid behind k rows. -/
structure Grid (G : GT) (s gI k : Nat) (w : World) (rb : Nat → Nat) : Prop where
  rows : CB w 47 gI G.n (fun t => if t < k then .slice (some ⟨rb t, 0, none⟩) G.n G.n else .slice none 0 0)
  row : ∀ t, t < k → CB w 4 (rb t) G.n (fun j => .bool (inB G s t j))
theorem Grid.keep {G : GT} {s gI k : Nat} {w w' : World} {rb : Nat → Nat} (h : Grid G s gI k w rb) (hb : Below w.heap.size w w') : Grid G s gI k w' rb :=
  ⟨h.rows.keep hb, fun t ht => (h.row t ht).keep hb⟩
set_option maxRecDepth 100000 in
set_option maxHeartbeats 8000000 in
theorem walk {mv : Array Value} {G : GT} (r : Int) (w : World) (h : ModelAt w w.heap.size mv G) : Calls Try.prog 6 #[.agg mv, .int .i64 r] w (Yes w) := by
  obtain ⟨ml, hmv, hM, hX, hbx⟩ := model_boxed h
  have hX := Lib.hid hX
  clear h
  generalize ml 0 = m0 at *
  generalize ml 1 = m1 at *
  generalize ml 2 = m2 at *
  generalize ml 3 = m3 at *
  generalize ml 4 = m4 at *
  generalize ml 5 = m5 at *
  subst hmv
  have hB := Lib.hid (show Bx (w.alloc (.cells #[m0, m1, m2, m3, m4, m5] 27)) (w.alloc (.cells #[m0, m1, m2, m3, m4, m5] 27)) w.heap.size #[m0, m1, m2, m3, m4, m5] G from ⟨Below.refl _ _, hbx, hM⟩)
  clear hM hbx
  obtain ⟨N, nn, rfl, _⟩ := model_nodes hB.out.at_
  go_enter Try.func6, Try.ntmps6
  go_upto_region 1 with (fail)
  generalize hbw : w.heap.size = b at *
  have HBW := Lib.hid hbw
  clear hbw
  generalize w.alloc (.cells #[m0, m1, m2, m3, m4, .slice N G.n nn] 27) = w1 at *
  go_wp2_with (first
    | (go_at_call 8; refine (awake_any _).mono ?_; rintro e w2 ⟨rfl, hb⟩; refine Hid.out ?_)
    | fail)
  refine Lib.hid ?_
  have hB2 := Lib.hid (hB.out.step hb)
  clear hb
  go_wp2_with (first
    | (refine ldm rfl 27 _ rfl b 0 rfl [m0, m1, m2, m3, m4, .slice N G.n nn] _ hB2.out.range Try.underlying27 rfl 6 info27 rfl ?_)
    | (go_at_call 9; refine (MSmall_any _ hB2.out.at_).mono ?_; rintro e w3 ⟨bs, rfl, hfew, hb⟩; refine Hid.out ?_)
    | fail)
  refine Lib.hid ?_
  have hF := Lib.hid hfew
  have hB3 := Lib.hid (hB2.out.step hb)
  clear hb
  clear hfew
  cases bs with
  | false =>
    go_wp2_with (first
      | (go_at_call 8; refine (awake_any _).mono ?_; rintro e w4 ⟨rfl, hb⟩; refine Hid.out ?_)
      | fail)
    refine Lib.hid ?_
    have hB4 := Lib.hid (hB3.out.step hb)
    clear hb
    go_wp2_with fail
    go_ret
    exact ⟨rfl, by rw [HBW.out]; exact hX.out.trans (hB4.out.below.mono (by rw [← HBW.out]; exact hX.out.size))⟩
  | true =>
    have hf := Lib.hid (hF.out rfl)
    have hn100 : G.n ≤ 100 := hf.out.1
    have c5 : w3.cell? ⟨b, 5, none⟩ = some (.slice N G.n nn) := by rw [cell_of_row w3 b 5 _ 27 (0, 0) hB3.out.row]; rfl
    by_cases hn0 : G.n = 0
    · have tn : ((G.n : Int) == 0) = true := by simp [hn0]
      clear hn0
      go_wp2_with (first | (go_at_call 8; refine (awake_any _).mono ?_; rintro e w4 ⟨rfl, hb⟩; refine Hid.out ?_) | fail)
      refine Lib.hid ?_
      have hB4 := Lib.hid (hB3.out.step hb)
      clear hb
      go_wp2_with fail
      go_ret
      exact ⟨rfl, by rw [HBW.out]; exact hX.out.trans (hB4.out.below.mono (by rw [← HBW.out]; exact hX.out.size))⟩
    · have tn : ((G.n : Int) == 0) = false := by simp [hn0]
      have hn1 : 0 < G.n := by omega
      have hn1I : (0 : Int) < G.n := by omega
      clear hn0
      obtain ⟨s, hs, hse⟩ := cut_place (c := r) hn1 (by omega)
      have hun : IntKind.u64.wrap (G.n : Int) = (G.n : Int) := by rw [IntKind.wrap_u64]; omega
      go_upto_region 4 with (fail)
      rw [hse]
      clear c5 hse hun
      go_wp2_with (first
        | (refine ldm rfl 27 _ rfl b 0 rfl [m0, m1, m2, m3, m4, .slice N G.n nn] _ hB3.out.range Try.underlying27 rfl 6 info27 rfl ?_)
        | (go_at_call 20; refine (LDominators _ (s : Int) hB3.out.at_ hf.out).mono ?_; rintro e w4 ⟨A2, c2, rfl, hl2, hb⟩; refine Hid.out ?_)
        | fail)
      refine Lib.hid ?_
      have hl2 := Lib.hid hl2
      have hB4 := Lib.hid (hB3.out.step hb)
      clear hb
      have hkeep : Hid (∀ wj, Below w4.heap.size w4 wj → wj.cell? ⟨b, 5, none⟩ = some (.slice N G.n nn) ∧ Bx w1 wj b #[m0, m1, m2, m3, m4, .slice N G.n nn] G) := Lib.hid (fun wj h => by
        have hx := hB4.out.step h
        refine ⟨?_, hx⟩
        rw [cell_of_row wj b 5 _ 27 (0, 0) hx.row]; rfl)
      have hW4 : Hid (Below w.heap.size w w4) := Lib.hid (by rw [HBW.out]; exact hX.out.trans (hB4.out.below.mono (by rw [← HBW.out]; exact hX.out.size)))
      clear hB hB2 hB3 hB4
      obtain ⟨c5, _⟩ := hkeep.out _ (Below.refl _ _)
      have tnn : ((G.n : Int) != (G.n : Int)) = false := by simp
      go_wp2_with (first | (refine wp_mkG rfl (.tmp 49) (.tmp 49) rfl G.n rfl rfl (by omega) ?_; intro w5 hcb hb; refine Hid.out ?_) | fail)
      refine Lib.hid ?_
      obtain ⟨gI, hgI⟩ : ∃ gI, gI = w4.heap.size := ⟨_, rfl⟩
      rw [← hgI] at hcb ⊢
      have HGI := Lib.hid hgI.symm
      clear hgI c5
      have hb := Lib.hid hb
      have hgr : Hid (Grid G s gI 0 w5 (fun _ => 0)) := Lib.hid ⟨hcb.congr fun t _ => by rw [if_neg (Nat.not_lt_zero _)], fun t h => absurd h (Nat.not_lt_zero _)⟩
      clear hcb
      go_wp2_with fail
      go_loopw [53] (fun iv wr => ∃ (k : Nat) (rb : Nat → Nat), k ≤ G.n ∧ iv = .int .i64 k ∧ Hid (Below w4.heap.size w4 wr) ∧ Hid (Grid G s gI k wr rb)) (fun iv _ => G.n - (intOf iv).toNat)
      case atStart => exact ⟨0, fun _ => 0, Nat.zero_le _, rfl, hb, hgr⟩
      case round =>
        clear hb hgr
        obtain ⟨k, rb, hk, rfl, hb, hgr⟩ := hrel
        by_cases hlt : k < G.n
        · obtain ⟨gd, od, rfl, hgd, hxd⟩ := hl2.out (by omega)
          obtain ⟨Bd, cd, hcd, hld⟩ := hxd k hlt
          have d0 := (hb.out.cell (p := ⟨gd, od + k, none⟩) hgd).trans hcd
          have hld := Lib.hid hld
          obtain ⟨ld, hld0⟩ : ∃ ld, ld = (domL G (s : Int) k).length := ⟨_, rfl⟩
          have HLD := Lib.hid hld0
          rw [← hld0] at d0
          have hld5 : ld ≤ 100 := by have := domK_len G (s : Int) G.n k; have e : (domL G (s : Int) k).length = (domK G (s : Int) G.n k).length := rfl; omega
          clear hld0 hxd hcd hgd
          have k0 : (0 : Int) ≤ k := by omega
          have k1 : (k : Int) < G.n := by omega
          go_wp2_with (first | (refine wp_mk info4' (by omega) Try.underlying47 rfl rfl (.tmp 61) (.tmp 61) rfl G.n rfl rfl (by omega) ?_; intro w7 hcr hb7; refine Hid.out ?_) | fail)
          refine Lib.hid ?_
          obtain ⟨rk, hrk⟩ : ∃ rk, rk = wr.heap.size := ⟨_, rfl⟩
          rw [← hrk] at hcr ⊢
          have HRK := Lib.hid hrk.symm
          have hrI : Hid (gI < rk) := Lib.hid (by rw [hrk]; exact hgr.out.rows.lt)
          have hg7 := Lib.hid (hgr.out.keep hb7)
          have hlow : Hid (∀ t, t < k → rb t < rk) := Lib.hid (fun t ht => by rw [hrk]; exact (hgr.out.row t ht).lt)
          have hb7' : Hid (Below w4.heap.size w4 w7) := Lib.hid (onto hb.out hb7)
          clear hgr hb d0 hrk hb7
          have y1 := hg7.out.rows.cell hlt
          have y2 := hg7.out.rows.free k
          have hW : Hid (Below w4.heap.size w4 (w7.setCell ⟨gI, k, none⟩ (.slice (some ⟨rk, 0, none⟩) G.n G.n))) := Lib.hid (hb7'.out.grown (grown_set w7 gI k _) hb7'.out.size (fun k e => by cases e; exact Nat.le_of_eq HGI.out))
          have hrows : Hid (CB (w7.setCell ⟨gI, k, none⟩ (.slice (some ⟨rk, 0, none⟩) G.n G.n)) 47 gI G.n (fun t => if t < k + 1 then .slice (some ⟨upd rb k rk t, 0, none⟩) G.n G.n else .slice none 0 0)) := Lib.hid ((hg7.out.rows.set k _).congr fun t _ => by
            by_cases e : t = k
            · subst e; rw [upd_same, upd_same, if_pos (by omega)]
            · rw [upd_far e, upd_far e]
              by_cases e2 : t < k
              · rw [if_pos e2, if_pos (by omega)]
              · rw [if_neg e2, if_neg (by omega)])
          have hfar : ∀ {g : Nat} {u : Nat → Value}, g ≠ gI → CB w7 4 g G.n u → CB (w7.setCell ⟨gI, k, none⟩ (.slice (some ⟨rk, 0, none⟩) G.n G.n)) 4 g G.n u := fun hne hc => hc.block (Below.heap_setCell _ _ _ _ hne)
          have hold : Hid (∀ t, t < k → CB (w7.setCell ⟨gI, k, none⟩ (.slice (some ⟨rk, 0, none⟩) G.n G.n)) 4 (rb t) G.n (fun j => .bool (inB G s t j))) := Lib.hid (fun t ht => hfar ((hg7.out.row t ht).ne hg7.out.rows (by decide)) (hg7.out.row t ht))
          have hnew : Hid (CB (w7.setCell ⟨gI, k, none⟩ (.slice (some ⟨rk, 0, none⟩) G.n G.n)) 4 rk G.n (fun j => .bool (decide ((j : Int) ∈ (domL G (s : Int) k).take 0)))) := Lib.hid (hfar (by have := hrI.out; omega) (hcr.congr fun j _ => by simp))
          clear hg7 hb7' hcr hfar
          have y3 : w7.cell? ⟨gI, (k : Nat), none⟩ = some (if k < k then .slice (some ⟨rb k, 0, none⟩) G.n G.n else .slice none 0 0) := y1
          rw [if_neg (Nat.lt_irrefl k)] at y3
          clear y1
          go_wp2_with fail
          generalize w7.setCell ⟨gI, k, none⟩ (.slice (some ⟨rk, 0, none⟩) G.n G.n) = w8 at *
          clear y2 y3
          go_loopw [66] (fun jv wj => ∃ m : Nat, m ≤ ld ∧ jv = .int .i64 m ∧ Hid (Below rk w8 wj) ∧ Hid (CB wj 4 rk G.n (fun j => .bool (decide ((j : Int) ∈ (domL G (s : Int) k).take m))))) (fun jv _ => ld - (intOf jv).toNat)
          case atStart => exact ⟨0, Nat.zero_le _, rfl, Lib.hid (Below.refl _ _), hnew⟩
          case round =>
            clear hnew
            obtain ⟨m, hm, rfl, hbj, hcj⟩ := hrel
            have hI : Hid (CB wr 47 gI G.n (fun t => if t < k + 1 then .slice (some ⟨upd rb k rk t, 0, none⟩) G.n G.n else .slice none 0 0)) := Lib.hid (hrows.out.block (hbj.out.block _ hrI.out))
            have hBW : Hid (Below w4.heap.size w4 wr) := Lib.hid (hW.out.trans (hbj.out.mono (by have := hrI.out; have := HGI.out; omega)))
            by_cases hml : m < ld
            · have hmL : m < (domL G (s : Int) k).length := by have := HLD.out; omega
              obtain ⟨gB, oB, rfl, hgB, hxB⟩ := hld.out (by omega)
              have z1 := (hBW.out.cell (p := ⟨gB, oB + m, none⟩) hgB).trans (hxB m hmL)
              obtain ⟨d, hd, hde, _⟩ := domL_mem.1 (List.getElem_mem hmL)
              have htk := Lib.hid (fun j : Nat => take_mem (x := (j : Int)) hmL)
              rw [hde] at z1 htk
              clear hxB hde
              have hc2 : Hid (CB (wr.setCell ⟨rk, d, none⟩ (.bool true)) 4 rk G.n (fun j => .bool (decide ((j : Int) ∈ (domL G (s : Int) k).take (m + 1))))) := Lib.hid ((hcj.out.set d (.bool true)).congr fun j _ => by
                by_cases e : j = d
                · subst e
                  rw [upd_same, decide_eq_true ((htk.out j).2 (.inr rfl))]
                · rw [upd_far e]
                  congr 1
                  exact decide_eq_decide.2 (by rw [htk.out j]; constructor
                                               · rintro (h | h)
                                                 · exact h
                                                 · exact absurd h (by omega)
                                               · exact .inl))
              have hb2 : Hid (Below rk w8 (wr.setCell ⟨rk, d, none⟩ (.bool true))) := Lib.hid (hbj.out.grown (grown_set wr rk d _) (Nat.le_of_lt (by
                have h1 := hbj.out.size
                have h2 := hcj.out.lt
                exact h2)) (fun k e => by cases e; exact Nat.le_refl _))
              have d0 : (0 : Int) ≤ d := by omega
              have d1 : (d : Int) < G.n := by omega
              have td : decide ((d : Int) < 0) = false := decide_eq_false (by omega)
              have te : decide ((G.n : Int) ≤ (d : Int)) = false := decide_eq_false (by omega)
              have y1 := hI.out.cell hlt
              rw [if_pos (Nat.lt_succ_self k), upd_same] at y1
              have y3 := hcj.out.cell hd
              have y4 := hcj.out.free d
              clear hcj hbj hI hBW htk
              generalize decide ((d : Int) ∈ (domL G (s : Int) k).take m) = old at *
              go_wp2_with fail
              go_roundw
              case rel => exact ⟨m + 1, by omega, by go_num, hb2, hc2⟩
              case measure => simp [intOf]; omega
            · have hg9 : Hid (Grid G s gI (k + 1) wr (upd rb k rk)) := Lib.hid ⟨hI.out, fun t ht => by
                by_cases e : t = k
                · subst e
                  rw [upd_same]
                  refine hcj.out.congr fun j _ => ?_
                  unfold inB
                  rw [List.take_of_length_le (by have := HLD.out; omega)]
                · rw [upd_far e]
                  exact (hold.out t (by omega)).block (hbj.out.block _ (hlow.out t (by omega)))⟩
              clear hcj hbj hI
              go_wp2_with fail
              go_roundw
              case rel => exact ⟨k + 1, upd rb k rk, by omega, by go_num, hBW, hg9⟩
              case measure => simp [intOf]; omega
        · have hgn : Hid (Grid G s gI G.n wr rb) := Lib.hid ((show k = G.n by omega) ▸ hgr.out)
          clear hgr hl2
          have s0 : (0 : Int) ≤ s := by omega
          have s1 : (s : Int) < G.n := by omega
          go_wp2_with (first | (refine wp_mk info4' (by omega) Try.underlying47 rfl rfl (.tmp 87) (.tmp 87) rfl G.n rfl rfl (by omega) ?_; intro w7 hcr hb7; refine Hid.out ?_) | fail)
          refine Lib.hid ?_
          obtain ⟨gR, hgR⟩ : ∃ gR, gR = wr.heap.size := ⟨_, rfl⟩
          rw [← hgR] at hcr ⊢
          have HGR := Lib.hid hgR.symm
          have hB8 : Hid (Below wr.heap.size wr (w7.setCell ⟨gR, s, none⟩ (.bool true))) := Lib.hid (hb7.grown (grown_set w7 gR s _) hb7.size (fun k e => by cases e; exact Nat.le_of_eq hgR.symm))
          have hc8 : Hid (CB (w7.setCell ⟨gR, s, none⟩ (.bool true)) 4 gR G.n (fun j => .bool (decide (j = s)))) := Lib.hid ((hcr.set s (.bool true)).congr fun j _ => by
            by_cases e : j = s
            · subst e; rw [upd_same]; simp
            · rw [upd_far e]; simp [e])
          have y1 := hcr.cell hs
          have y2 := hcr.free s
          have hcr := Lib.hid hcr
          clear hb7 hgR
          go_upto_region 22 with (fail)
          generalize w7.setCell ⟨gR, s, none⟩ (.bool true) = w8 at *
          clear y1 y2 hcr
          obtain ⟨_, hx⟩ := hkeep.out _ (onto hb.out hB8.out)
          have hx := Lib.hid hx
          go_wp2_with (first
            | (refine ldm rfl 27 _ rfl b 0 rfl [m0, m1, m2, m3, m4, .slice N G.n nn] _ hx.out.range Try.underlying27 rfl 6 info27 rfl ?_)
            | (go_at_call 23; refine (LReach _ (s : Int) hx.out.at_ hf.out).mono ?_; rintro e w9 ⟨A4, c4, rfl, hl4, hb9, hnew4⟩; refine Hid.out ?_)
            | fail)
          refine Lib.hid ?_
          have hl4 := Lib.hid hl4
          have hnew4 := Lib.hid hnew4
          have hgR8 : Hid (gR < w8.heap.size) := Lib.hid hc8.out.lt
          have hgR9 : Hid (gR < w9.heap.size) := Lib.hid (Nat.lt_of_lt_of_le hc8.out.lt hb9.size)
          have hc9 : Hid (CB w9 4 gR G.n (fun j => .bool (decide (j = s ∨ (j : Int) ∈ (reachL G (s : Int)).take 0)))) := Lib.hid ((hc8.out.keep hb9).congr fun j _ => by simp)
          have hg9 := Lib.hid (hgn.out.keep (onto hB8.out hb9))
          have hB9 := Lib.hid (onto hb.out (onto hB8.out hb9))
          have hlow : Hid (gI < gR ∧ ∀ t, t < G.n → rb t < gR) := Lib.hid ⟨by have := hgn.out.rows.lt; have := HGR.out; omega, fun t ht => by have := (hgn.out.row t ht).lt; have := HGR.out; omega⟩
          clear hb hB8 hc8 hx hgn hb9
          obtain ⟨nr, hnr⟩ : ∃ nr, nr = (reachL G (s : Int)).length := ⟨_, rfl⟩
          have HNR := Lib.hid hnr
          rw [← hnr]
          have hnr5 : nr ≤ 100 := by
            rw [hnr, reachL_in hs]
            have := pickL_len G.n (reachB G s)
            omega
          clear hnr
          go_wp2_with fail
          go_loopw [96] (fun jv wj => ∃ m : Nat, m ≤ nr ∧ jv = .int .i64 m ∧ Hid (Bow w9.heap.size gR w9 wj) ∧ Hid (CB wj 4 gR G.n (fun j => .bool (decide (j = s ∨ (j : Int) ∈ (reachL G (s : Int)).take m))))) (fun jv _ => nr - (intOf jv).toNat)
          case atStart => exact ⟨0, Nat.zero_le _, rfl, Lib.hid (Bow.refl _ _ _), hc9⟩
          case round =>
            clear hc9
            obtain ⟨m, hm, rfl, hbj, hcj⟩ := hrel
            by_cases hml : m < nr
            · have hmL : m < (reachL G (s : Int)).length := by have := HNR.out; omega
              obtain ⟨d, hde, hd⟩ := reach_mem hs (List.getElem_mem hmL)
              obtain ⟨gB, oB, rfl, hgB, hxB⟩ := hl4.out (by omega)
              have hge : gB ≠ gR := by
                obtain ⟨g', o', e, hg'⟩ := hnew4.out (by omega)
                injection e with e
                injection e with e
                have := hgR8.out
                omega
              have z1 := (World.cell?_of_block (a := ⟨gB, oB + m, none⟩) (hbj.out.block gB hgB hge)).trans (hxB m hmL)
              clear hge
              have htk := Lib.hid (fun j : Nat => take_mem (x := (j : Int)) hmL)
              rw [hde] at z1 htk
              clear hxB hde
              have hc2 : Hid (CB (wr.setCell ⟨gR, d, none⟩ (.bool true)) 4 gR G.n (fun j => .bool (decide (j = s ∨ (j : Int) ∈ (reachL G (s : Int)).take (m + 1))))) := Lib.hid ((hcj.out.set d (.bool true)).congr fun j _ => by
                by_cases e : j = d
                · subst e
                  rw [upd_same, decide_eq_true (.inr ((htk.out j).2 (.inr rfl)))]
                · rw [upd_far e]
                  congr 1
                  exact decide_eq_decide.2 (by rw [htk.out j]; constructor
                                               · rintro (h | h | h)
                                                 · exact .inl h
                                                 · exact .inr h
                                                 · exact absurd h (by omega)
                                               · rintro (h | h)
                                                 · exact .inl h
                                                 · exact .inr (.inl h)))
              have hb2 : Hid (Bow w9.heap.size gR w9 (wr.setCell ⟨gR, d, none⟩ (.bool true))) := Lib.hid (hbj.out.grown (grown_set wr gR d _) hbj.out.size (fun k e => by cases e; exact .inr rfl))
              have d0 : (0 : Int) ≤ d := by omega
              have d1 : (d : Int) < G.n := by omega
              have y3 := hcj.out.cell hd
              have y4 := hcj.out.free d
              clear hcj hbj htk
              generalize decide (d = s ∨ (d : Int) ∈ (reachL G (s : Int)).take m) = old at *
              go_wp2_with fail
              go_roundw
              case rel => exact ⟨m + 1, by omega, by go_num, hb2, hc2⟩
              case measure => simp [intOf]; omega
            · have hrow : Hid (∀ wk, Below wr.heap.size wr wk → ∀ i, i < G.n → wk.cell? ⟨gI, i, none⟩ = some (.slice (some ⟨rb i, 0, none⟩) G.n G.n) ∧ (∀ j, j < G.n → wk.cell? ⟨rb i, j, none⟩ = some (.bool (inB G s i j))) ∧ wk.cell? ⟨gR, i, none⟩ = some (.bool (reB G s i))) := Lib.hid (fun wk h i hi => by
                have h1 := ((hg9.out.rows.block (hbj.out.block _ (Nat.lt_trans hlow.out.1 hgR9.out) (Nat.ne_of_lt hlow.out.1))).keep h).cell hi
                rw [if_pos hi] at h1
                refine ⟨h1, fun j hj => (((hg9.out.row i hi).block (hbj.out.block _ (Nat.lt_trans (hlow.out.2 i hi) hgR9.out) (Nat.ne_of_lt (hlow.out.2 i hi)))).keep h).cell hj, ?_⟩
                have h3 := (hcj.out.keep h).cell hi
                rw [h3, List.take_of_length_le (by have := HNR.out; omega)]
                rfl)
              have hBW : Hid (Below w4.heap.size w4 wr) := Lib.hid (hB9.out.trans (hbj.out.below (lim := w4.heap.size) hB9.out.size (by have := hlow.out.1; have := HGI.out; omega)))
              clear hcj hbj hg9 hB9 hlow hl4
              generalize hwE : wr = wE at hrow hBW
              have HWE := Lib.hid hwE.symm
              clear hwE
              go_wp2_with fail
              go_loopw [106] (fun iv wi => ∃ i : Nat, i ≤ G.n ∧ iv = .int .i64 i ∧ Hid (Below wE.heap.size wE wi)) (fun iv _ => G.n - (intOf iv).toNat)
              case atStart => exact ⟨0, Nat.zero_le _, rfl, Lib.hid (by rw [HWE.out]; exact Below.refl _ _)⟩
              case round =>
                obtain ⟨i, hi, rfl, hbi⟩ := hrel
                by_cases hin : i < G.n
                · have i0 : (0 : Int) ≤ i := by omega
                  have i1 : (i : Int) < G.n := by omega
                  obtain ⟨q1, q2, q3⟩ := hrow.out _ hbi.out i hin
                  have q4 := q2 i hin
                  have q5 := q2 s hs
                  rw [inB_self hs hin] at q4
                  rw [inB_root hs] at q5
                  clear q2
                  generalize reB G s i = ro at *
                  have tro : (ro != ro) = false := by simp
                  go_upto_region 30 with (fail)
                  have HCUT := Lib.hid (fun nq : Nat => below_draws hbi.out nq)
                  clear hbi
                  go_quiet (fail)
                  have hbd := Lib.hid (HCUT.out nq)
                  clear HCUT q1 q3 q4 q5 tro
                  generalize wr.drewN nq = wd at *
                  go_wp2_with fail
                  go_loopw [137] (fun kv wk => ∃ k : Nat, k ≤ G.n ∧ kv = .int .i64 k ∧ Hid (Below wE.heap.size wE wk)) (fun kv _ => G.n - (intOf kv).toNat)
                  case atStart => exact ⟨0, Nat.zero_le _, rfl, hbd⟩
                  case round =>
                    clear hbd
                    obtain ⟨k, hk, rfl, hbk⟩ := hrel
                    by_cases hkn : k < G.n
                    · have k0 : (0 : Int) ≤ k := by omega
                      have k1 : (k : Int) < G.n := by omega
                      go_wp2_with fail
                      go_loopw [142] (fun jv wj => ∃ j : Nat, j ≤ G.n ∧ jv = .int .i64 j ∧ Hid (Below wE.heap.size wE wj)) (fun jv _ => G.n - (intOf jv).toNat)
                      case atStart => exact ⟨0, Nat.zero_le _, rfl, hbk⟩
                      case round =>
                        clear hbk
                        obtain ⟨j, hj, rfl, hbj⟩ := hrel
                        by_cases hjn : j < G.n
                        · have j0 : (0 : Int) ≤ j := by omega
                          have j1 : (j : Int) < G.n := by omega
                          obtain ⟨q1, q2, _⟩ := hrow.out _ hbj.out i hin
                          obtain ⟨q3, q4, _⟩ := hrow.out _ hbj.out k hkn
                          have q5 := q2 k hkn
                          have q6 := q4 j hjn
                          have q7 := q2 j hjn
                          have htr := Lib.hid (inB_trans (i := i) hs hkn hjn)
                          clear q2 q4
                          generalize inB G s i k = b1 at *
                          generalize inB G s k j = b2 at *
                          generalize inB G s i j = b3 at *
                          cases b1 with
                          | false =>
                            go_wp2_with fail
                            go_roundw
                            case rel => exact ⟨j + 1, by omega, by go_num, hbj⟩
                            case measure => simp [intOf]; omega
                          | true =>
                            cases b2 with
                            | false =>
                              go_wp2_with fail
                              go_roundw
                              case rel => exact ⟨j + 1, by omega, by go_num, hbj⟩
                              case measure => simp [intOf]; omega
                            | true =>
                              obtain rfl : b3 = true := htr.out rfl rfl
                              go_wp2_with fail
                              go_roundw
                              case rel => exact ⟨j + 1, by omega, by go_num, hbj⟩
                              case measure => simp [intOf]; omega
                        · go_wp2_with fail
                          go_roundw
                          case rel => exact ⟨k + 1, by omega, by go_num, hbj⟩
                          case measure => simp [intOf]; omega
                    · go_wp2_with fail
                      go_roundw
                      case rel => exact ⟨i + 1, by omega, by go_num, hbk⟩
                      case measure => simp [intOf]; omega
                · go_wp2_with fail
                  go_ret
                  exact ⟨rfl, onto hW4.out (onto hBW.out hbi.out)⟩
end Go.Proofs.Ytmbjmibjobpdgaa.lawRegionChain

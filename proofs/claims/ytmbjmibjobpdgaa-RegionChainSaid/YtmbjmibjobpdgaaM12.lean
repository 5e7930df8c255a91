/-
  The document's region: its Order.
-/
import Derived.Test.YtmbjmibjobpdgaaM11
namespace Go.Proofs.Ytmbjmibjobpdgaa
open Go.RowKit

theorem OwnI.kept {w w' : World} {B : Nat} {v : Value} {L : List Int} (h : OwnI w B v L) {g : Nat} {cs : Array Value} {T : TypeId} {fr : Nat × Nat} (hb : w.heap[g]? = some (.cells cs T fr)) (hT : T ≠ 3) (hg : w.grownBy w' (some g)) : OwnI w' B v L := by
  refine World.ownsRow.kept h hg ?_
  cases e : v.ownBlock with
  | none => exact .inl rfl
  | some k => exact .inr (fun e' => h.ne hb hT (by rw [e]; exact e'.symm))
theorem OwnE.below {w w' : World} {B : Nat} {v : Value} {E : List Edge} (h : OwnE w B v E) (hb : Below w.heap.size w w') : OwnE w' B v E := by
  refine World.ownsRow.kept h (row := none) ⟨hb.os, hb.tape, hb.output, hb.size, fun k hk _ => hb.block k hk⟩ ?_
  cases v.ownBlock with
  | none => exact .inl rfl
  | some k => exact .inr (by simp)
/-- The world amid Order. -/
structure AmidO (w wr : World) (gm n : Nat) (f : Nat → Bool) (v : Value) (E : List Edge) (u : Value) (L : List Int) : Prop where
  r : AmidR w wr gm n f v E
  out : OwnI wr w.heap.size u L
section
variable {w wr w2 : World} {gm n : Nat} {f : Nat → Bool} {v : Value} {E : List Edge} {u : Value} {L : List Int}
theorem AmidR.step (h : AmidR w wr gm n f v E) (hb : Below wr.heap.size wr w2) : AmidR w w2 gm n f v E :=
  ⟨h.below.trans (hb.mono h.below.size), h.lo, h.met.keep hb, h.own.below hb⟩
theorem AmidO.step (h : AmidO w wr gm n f v E u L) (hb : Below wr.heap.size wr w2) : AmidO w w2 gm n f v E u L := ⟨h.r.step hb, h.out.below hb⟩
theorem AmidO.set (h : AmidO w wr gm n f v E u L) (t : Nat) : AmidO w (wr.setCell ⟨gm, t, none⟩ (.bool true)) gm n (upd f t true) v E u L := by
  have hm := h.r.met
  obtain ⟨cs, h1, _, _⟩ := hm
  exact ⟨h.r.set t, h.out.kept h1 (by decide) (grown_set wr gm t _)⟩
theorem AmidO.more (h : AmidO w wr gm n f v E u L) {u' : Value} {M : List Int} (ho : OwnI w2 w.heap.size u' M) (hg : wr.grownBy w2 u.ownBlock) : AmidO w w2 gm n f v E u' M := ⟨h.r.ints h.out hg, ho⟩
end
theorem all_take {E : List Edge} {p : Edge → Bool} {j : Nat} (hj : j < E.length) : (E.take (j + 1)).all p = ((E.take j).all p && p E[j]) := by
  rw [List.take_add_one, List.getElem?_eq_getElem hj, Option.toList, List.all_append]
  simp
set_option maxRecDepth 20000 in
set_option maxHeartbeats 2000000 in
theorem ROrder_no {mv : Array Value} {G : GT} (w : World) (h : ModelAt w w.heap.size mv G) (hfew : fewB G) (hl : 0 < (loopsL G).length) :
    Calls Try.prog 11 #[.agg mv] w fun e w' => e = .returned (.tuple #[.slice none 0 0, .bool false]) ∧ Below w.heap.size w w' := by
  have hM := Lib.hid h
  have hF := Lib.hid hfew
  clear hfew
  cases h with
  | mk lb A a1 aa B b bb V p pp S q qq N n nn vs ms ns d ha1 hb hp hq hn hV hvs hS hms hN hns =>
    clear ha1 hb hp hq hV hvs hS hms hN hns hn
    rw [show modelV lb A a1 aa B b bb V p pp S q qq N n nn = #[.int .i64 lb, .slice A a1 aa, .slice B b bb, .slice V p pp, .slice S q qq, .slice N n nn] from rfl]
    have hX : Hid (Below w.heap.size w (w.alloc (.cells #[.int .i64 lb, .slice A a1 aa, .slice B b bb, .slice V p pp, .slice S q qq, .slice N n nn] 27))) := Lib.hid ((Below.refl _ _).alloc (Nat.le_refl _) _)
    have hbx : Hid ((w.alloc (.cells #[.int .i64 lb, .slice A a1 aa, .slice B b bb, .slice V p pp, .slice S q qq, .slice N n nn] 27)).heap[w.heap.size]? = some (.cells #[.int .i64 lb, .slice A a1 aa, .slice B b bb, .slice V p pp, .slice S q qq, .slice N n nn] 27 (0, 0))) := Lib.hid (heap_alloc_new w _)
    have hM5 : Hid (ModelAt (w.alloc (.cells #[.int .i64 lb, .slice A a1 aa, .slice B b bb, .slice V p pp, .slice S q qq, .slice N n nn] 27)) (w.alloc (.cells #[.int .i64 lb, .slice A a1 aa, .slice B b bb, .slice V p pp, .slice S q qq, .slice N n nn] 27)).heap.size #[.int .i64 lb, .slice A a1 aa, .slice B b bb, .slice V p pp, .slice S q qq, .slice N n nn] ⟨n, d⟩) := Lib.hid ((hM.out.stay hX.out).mono hX.out.size)
    have hLn : Hid (0 < (loopsL ⟨n, d⟩).length) := Lib.hid hl
    clear hl
    go_enter Try.func11, Try.ntmps11
    go_wp2_with (first
      | (refine wpList_load_row rfl 27 _ rfl w.heap.size rfl 27 #[.int .i64 lb, .slice A a1 aa, .slice B b bb, .slice V p pp, .slice S q qq, .slice N n nn] (0, 0) _ hbx.out Try.underlying27 rfl (by kernel_rfl) ?_)
      | (go_at_call 18; refine (RLoops_any _ hM5.out hF.out).mono ?_; rintro e w6 ⟨v, rfl, hov, hb6⟩; refine Hid.out ?_)
      | fail)
    refine Lib.hid ?_
    obtain ⟨A0, c0, rfl⟩ := hov.open
    obtain ⟨m, hm⟩ : ∃ m, m = (loopsL ⟨n, d⟩).length := ⟨_, rfl⟩
    rw [← hm] at hLn ⊢
    have hB6 : Hid (Below w.heap.size w w6) := Lib.hid (hX.out.trans (hb6.mono hX.out.size))
    have tm : decide ((0 : Int) < (m : Int)) = true := decide_eq_true (by have := hLn.out; omega)
    clear hov hb6 hm hX hbx hM5
    go_wp2_with fail
    go_ret2
    exact ⟨rfl, hB6.out⟩
set_option maxRecDepth 20000 in
set_option maxHeartbeats 4000000 in
theorem ROrder_yes {mv : Array Value} {G : GT} (w : World) (h : ModelAt w w.heap.size mv G) (hfew : fewB G) (hl : loopsL G = []) :
    Calls Try.prog 11 #[.agg mv] w fun e w' => ∃ v, e = .returned (.tuple #[v, .bool true]) ∧ OwnI w' w.heap.size v (orderL G) ∧ Below w.heap.size w w' := by
  have hM := Lib.hid h
  have hF := Lib.hid hfew
  have hnn1 := hfew.1
  have hac := Lib.hid (loops_nil.1 hl)
  have hEl : Hid ((inE G).length ≤ 4100) := Lib.hid (by
    have := edgesL_len hfew (Nat.le_refl _)
    have := List.length_filter_le (toN G.n) (edgesL G G.n)
    unfold inE
    omega)
  have hfr : Hid (∀ e ∈ inE G, 0 ≤ e.1 ∧ e.1 < G.n) := Lib.hid (fun e he => edgesL_from e (List.mem_filter.1 he).1)
  have hnx : Hid (∀ k, k < G.n → ∃ j, j < G.n ∧ readyB (inE G) (doneK G.n (inE G) k) j = true) := Lib.hid (fun k hk => done_next hac.out hk)
  clear hfew
  cases h with
  | mk lb A a1 aa B b bb V p pp S q qq N n nn vs ms ns d ha1 hb hp hq hn hV hvs hS hms hN hns =>
    clear ha1 hb hp hq hV hvs hS hms hN hns hn
    have hn100 : n ≤ 100 := hnn1
    clear hnn1
    rw [show modelV lb A a1 aa B b bb V p pp S q qq N n nn = #[.int .i64 lb, .slice A a1 aa, .slice B b bb, .slice V p pp, .slice S q qq, .slice N n nn] from rfl]
    have hX : Hid (Below w.heap.size w (w.alloc (.cells #[.int .i64 lb, .slice A a1 aa, .slice B b bb, .slice V p pp, .slice S q qq, .slice N n nn] 27))) := Lib.hid ((Below.refl _ _).alloc (Nat.le_refl _) _)
    have hbx : Hid ((w.alloc (.cells #[.int .i64 lb, .slice A a1 aa, .slice B b bb, .slice V p pp, .slice S q qq, .slice N n nn] 27)).heap[w.heap.size]? = some (.cells #[.int .i64 lb, .slice A a1 aa, .slice B b bb, .slice V p pp, .slice S q qq, .slice N n nn] 27 (0, 0))) := Lib.hid (heap_alloc_new w _)
    have hM5 : Hid (ModelAt (w.alloc (.cells #[.int .i64 lb, .slice A a1 aa, .slice B b bb, .slice V p pp, .slice S q qq, .slice N n nn] 27)) (w.alloc (.cells #[.int .i64 lb, .slice A a1 aa, .slice B b bb, .slice V p pp, .slice S q qq, .slice N n nn] 27)).heap.size #[.int .i64 lb, .slice A a1 aa, .slice B b bb, .slice V p pp, .slice S q qq, .slice N n nn] ⟨n, d⟩) := Lib.hid ((hM.out.stay hX.out).mono hX.out.size)
    have hR : Hid (orderL ⟨n, d⟩ = ordL n (inE ⟨n, d⟩) n) := Lib.hid rfl
    generalize hE : inE ⟨n, d⟩ = E at *
    have HE := Lib.hid hE
    clear hE
    go_enter Try.func11, Try.ntmps11
    go_wp2_with (first
      | (refine wpList_load_row rfl 27 _ rfl w.heap.size rfl 27 #[.int .i64 lb, .slice A a1 aa, .slice B b bb, .slice V p pp, .slice S q qq, .slice N n nn] (0, 0) _ hbx.out Try.underlying27 rfl (by kernel_rfl) ?_)
      | (go_at_call 18; refine (RLoops_any _ hM5.out hF.out).mono ?_; rintro e w6 ⟨v, rfl, hov, hb6⟩; refine Hid.out ?_)
      | fail)
    refine Lib.hid ?_
    rw [hl] at hov
    obtain ⟨A0, c0, rfl⟩ := hov.open
    have hB6 : Hid (Below w.heap.size w w6) := Lib.hid (hX.out.trans (hb6.mono hX.out.size))
    have hbx6 : Hid (w6.heap[w.heap.size]? = some (.cells #[.int .i64 lb, .slice A a1 aa, .slice B b bb, .slice V p pp, .slice S q qq, .slice N n nn] 27 (0, 0))) := Lib.hid (by rw [hb6.block _ (row_lt hbx.out)]; exact hbx.out)
    have c5 : w6.cell? ⟨w.heap.size, 5, none⟩ = some (.slice N n nn) := by rw [cell_of_row w6 _ 5 _ 27 (0, 0) hbx6.out]; rfl
    clear hov hb6 hX hbx hM5
    simp only [List.length_nil]
    go_wp2_with (first | (refine wp_mk info4' (by decide) Try.underlying47 rfl rfl _ _ rfl n rfl rfl (by omega) ?_; intro w7 hcb hb7; refine Hid.out ?_) | fail)
    refine Lib.hid ?_
    obtain ⟨gm, hgm⟩ : ∃ gm, gm = w6.heap.size := ⟨_, rfl⟩
    rw [← hgm] at hcb ⊢
    have hgl : Hid (w.heap.size ≤ gm) := Lib.hid (by rw [hgm]; exact hB6.out.size)
    have hB7 : Hid (Below w.heap.size w w7) := Lib.hid (hB6.out.trans (hb7.mono hB6.out.size))
    have hbx7 : Hid (w7.heap[w.heap.size]? = some (.cells #[.int .i64 lb, .slice A a1 aa, .slice B b bb, .slice V p pp, .slice S q qq, .slice N n nn] 27 (0, 0))) := Lib.hid (by rw [hb7.block _ (row_lt hbx6.out)]; exact hbx6.out)
    have hM7 : Hid (ModelAt w7 w7.heap.size #[.int .i64 lb, .slice A a1 aa, .slice B b bb, .slice V p pp, .slice S q qq, .slice N n nn] ⟨n, d⟩) := Lib.hid ((hM.out.stay hB7.out).mono hB7.out.size)
    have hCB := Lib.hid hcb
    clear hcb hb7 hB6 hbx6 c5 hgm
    go_wp2_with (first
      | (refine wpList_load_row rfl 27 _ rfl w.heap.size rfl 27 #[.int .i64 lb, .slice A a1 aa, .slice B b bb, .slice V p pp, .slice S q qq, .slice N n nn] (0, 0) _ hbx7.out Try.underlying27 rfl (by kernel_rfl) ?_)
      | (go_at_call 30; refine (REdges15_any _ hM7.out hF.out).mono ?_; rintro e w8 ⟨ve, rfl, hoe, hb8⟩; refine Hid.out ?_)
      | fail)
    refine Lib.hid ?_
    rw [HE.out] at hoe
    have hA0 : AmidO w w8 gm n (doneK n E 0) ve E (.slice none 0 0) (ordL n E 0) := ⟨⟨hB7.out.trans (hb8.mono hB7.out.size), hgl.out, hCB.out.keep hb8, hoe.low hB7.out.size⟩, OwnI.nil _ _⟩
    have hA := Lib.hid hA0
    clear hA0 hoe hb8 hbx7 hM7 hB7 hCB hgl
    obtain ⟨AE, cE, rfl⟩ := hA.out.r.own.open
    obtain ⟨m, hm⟩ : ∃ m, m = E.length := ⟨_, rfl⟩
    have HMM := Lib.hid hm
    have hA1 : Hid (AmidO w w8 gm n (doneK n E 0) (.slice AE m cE) E (.slice none 0 0) (ordL n E 0)) := Lib.hid (by rw [hm]; exact hA.out)
    rw [← hm] at hEl ⊢
    clear hA hm
    have hm41 := hEl.out
    go_wp2_with fail
    go_loopw [7] (fun u wr => ∃ (k : Nat) (Au : Option Addr) (cu : Nat), k ≤ n ∧ u = .slice Au k cu ∧ Hid (AmidO w wr gm n (doneK n E k) (.slice AE m cE) E u (ordL n E k))) (fun u _ => n - (match u with | .slice _ l _ => l | _ => 0))
    case atStart => exact ⟨0, none, 0, Nat.zero_le _, rfl, hA1⟩
    case round =>
      clear hA1
      obtain ⟨k, Au, cu, hk, rfl, hA⟩ := hrel
      by_cases hkn : k < n
      · have hdk : Hid (∀ i, nextN n E (doneK n E k) = some i → doneK n E (k + 1) = upd (doneK n E k) i true ∧ ordK n E k = i) := Lib.hid (fun i hi => by
          constructor
          · show (match nextN n E (doneK n E k) with | some i => upd (doneK n E k) i true | none => doneK n E k) = _
            rw [hi]
          · unfold ordK; rw [hi]; rfl)
        have hos := Lib.hid (ordL_succ n E k)
        have hLl := Lib.hid (ordL_len n E k)
        obtain ⟨jx, hjx⟩ : ∃ j, j < n ∧ readyB E (doneK n E k) j = true := hnx.out k hkn
        have hJX := Lib.hid hjx
        generalize doneK n E k = f at *
        generalize ordL n E k = L0 at *
        have hkk : decide ((k : Int) < (n : Int)) = true := decide_eq_true (by omega)
        go_wp2_with fail
        go_loopw [7, 8] (fun u iv wr => ∃ i : Nat, i ≤ n ∧ iv = .int .i64 i ∧ u = .slice Au k cu ∧ Hid (∀ j, j < i → readyB E f j = false) ∧ Hid (AmidO w wr gm n f (.slice AE m cE) E (.slice Au k cu) L0)) (fun _ iv _ => n - (intOf iv).toNat)
        case atStart => exact ⟨0, Nat.zero_le _, rfl, rfl, Lib.hid (fun j h => absurd h (Nat.not_lt_zero _)), hA⟩
        case round =>
          clear hA hjx
          obtain ⟨i, hi, rfl, rfl, hno, hA⟩ := hrel
          by_cases hin : i < n
          · have y0 := hA.out.r.met.cell hin
            have hrd : Hid (readyB E f i = (!f i && E.all (okP f i))) := Lib.hid rfl
            go_wp2_with fail
            go_loopw [9, 10] (fun fv tv wr => ∃ t : Nat, t ≤ m ∧ tv = .int .i64 t ∧ fv = .bool (!f i && (E.take t).all (okP f i)) ∧ Hid (AmidO w wr gm n f (.slice AE m cE) E (.slice Au k cu) L0)) (fun _ tv _ => m - (intOf tv).toNat)
            case atStart => exact ⟨0, Nat.zero_le _, rfl, by simp, hA⟩
            case round =>
              clear hA y0
              obtain ⟨t, ht, rfl, rfl, hA⟩ := hrel
              by_cases htm : t < m
              · have htl : t < E.length := by have := HMM.out; omega
                obtain ⟨ge, oe, rfl, x0, _, x2⟩ := hA.out.r.own.cells htl
                obtain ⟨q0, q1⟩ := hfr.out E[t] (List.getElem_mem htl)
                have hall := Lib.hid (all_take (p := (okP f i)) htl)
                obtain ⟨p1, hp1⟩ : ∃ p1 : Nat, E[t].1 = (p1 : Int) := ⟨E[t].1.toNat, by omega⟩
                obtain ⟨z, hz⟩ : ∃ z, E[t].2.2 = z := ⟨_, rfl⟩
                have hpe : Hid ((okP f i) E[t] = (!(z == (i : Int)) || f p1)) := Lib.hid (by unfold okP; rw [hp1, hz]; rfl)
                have hq1 : E[t].1 < (n : Int) := q1
                rw [hp1] at x0 hq1
                rw [hz] at x2
                clear hp1 hz q0 q1
                generalize (E.take t).all (okP f i) = b0 at *
                by_cases hzi : z = (i : Int)
                · subst hzi
                  have tz : ((i : Int) == (i : Int)) = true := by simp
                  have y1 := hA.out.r.met.cell (i := p1) (by omega)
                  cases hfp : f p1
                  · rw [hfp] at y1
                    have hnew : Hid (false = (!f i && (E.take (t + 1)).all (okP f i))) := Lib.hid (by rw [hall.out, hpe.out, hfp]; simp)
                    clear hall hpe
                    go_wp2_with fail
                    go_roundw
                    case rel => exact ⟨t + 1, by omega, by go_num, by rw [← hnew.out], hA⟩
                    case measure => simp [intOf]; omega
                  · rw [hfp] at y1
                    have hnew : Hid ((!f i && b0) = (!f i && (E.take (t + 1)).all (okP f i))) := Lib.hid (by rw [hall.out, hpe.out, hfp]; simp)
                    clear hall hpe
                    go_wp2_with fail
                    go_roundw
                    case rel => exact ⟨t + 1, by omega, by go_num, by rw [← hnew.out], hA⟩
                    case measure => simp [intOf]; omega
                · have tz : (z == (i : Int)) = false := by simp [hzi]
                  have hnew : Hid ((!f i && b0) = (!f i && (E.take (t + 1)).all (okP f i))) := Lib.hid (by rw [hall.out, hpe.out, tz]; simp)
                  clear hall hpe hzi
                  go_wp2_with fail
                  go_roundw
                  case rel => exact ⟨t + 1, by omega, by go_num, by rw [← hnew.out], hA⟩
                  case measure => simp [intOf]; omega
              · have hfe : Hid ((!f i && (E.take t).all (okP f i)) = readyB E f i) := Lib.hid (by rw [List.take_of_length_le (by have := HMM.out; omega)]; exact hrd.out.symm)
                rw [hfe.out]
                cases hrb : readyB E f i
                · have hno2 : Hid (∀ j, j < i + 1 → readyB E f j = false) := Lib.hid fun j hj => by
                    by_cases e : j = i
                    · subst e; exact hrb
                    · exact hno.out j (by omega)
                  clear hno hfe hrd
                  go_wp2_with fail
                  go_roundw
                  case rel => exact ⟨i + 1, by omega, by go_num, rfl, hno2, hA⟩
                  case measure => simp [intOf]; omega
                · obtain ⟨hd1, hd2⟩ := hdk.out i (nextN_first hin hrb hno.out)
                  have hos2 : Hid (ordL n E (k + 1) = L0 ++ [(i : Int)]) := Lib.hid (by rw [hos.out, hd2])
                  have hd3 := Lib.hid hd1
                  have z0 := hA.out.r.met.cell hin
                  have z1 := hA.out.r.met.free i
                  have hA1 := Lib.hid (hA.out.set i)
                  have hA2 := Lib.hid (hA1.out.step ((Below.refl _ _).alloc (Nat.le_refl _) (.cells #[.int .i64 (i : Int)] 3)))
                  have w0 : ((wr.setCell ⟨gm, i, none⟩ (.bool true)).alloc (.cells #[.int .i64 (i : Int)] 3)).cell? ⟨wr.heap.size, 0, none⟩ = some (.int .i64 (i : Int)) := by
                    rw [show wr.heap.size = (wr.setCell ⟨gm, i, none⟩ (.bool true)).heap.size by simp, World.cell?_alloc_new]; rfl
                  have hL0 : Hid (L0.length ≤ 100) := Lib.hid (by have := hLl.out; omega)
                  clear hno hfe hrd hdk hos hA hA1 hd1 hd2
                  go_wp2_with (at_builtin; refine Hid.out ?_)
                  refine Lib.hid ?_
                  go_loud (refine wpl_int rfl (.tmp 64) (.tmp 66) rfl w.heap.size _ _ rfl hA2.out.out wr.heap.size (i : Int) rfl w0 (by have := hL0.out; omega) hA2.out.r.below.size ?_)
                  intro v' w9 ho9 hg9
                  rw [← hos2.out] at ho9
                  have hA4 := hA2.out.more ho9 hg9
                  rw [← hd3.out] at hA4
                  have hA3 := Lib.hid hA4
                  obtain ⟨A9, c9, rfl⟩ := ho9.open
                  have hlen9 := Lib.hid (ordL_len n E (k + 1))
                  rw [hlen9.out] at hA3
                  clear ho9 hg9 hA2 hA4 hos2 hd3 w0 z0 z1
                  simp only [ordL_len]
                  go_wp2_with fail
                  go_roundw
                  case rel => exact ⟨k + 1, A9, c9, by omega, by go_num, hA3⟩
                  case measure => simp; omega
          · exfalso
            obtain ⟨h1, h2⟩ := hJX.out
            rw [hno.out jx (by omega)] at h2
            cases h2
      · obtain rfl : n = k := by omega
        have hfin : Hid (OwnI wr w.heap.size (.slice Au n cu) (orderL ⟨n, d⟩)) := Lib.hid (by rw [hR.out]; exact hA.out.out)
        have hbl := Lib.hid hA.out.r.below
        clear hA
        go_wp2_with fail
        go_ret2
        exact ⟨_, rfl, hfin.out, hbl.out⟩
end Go.Proofs.Ytmbjmibjobpdgaa

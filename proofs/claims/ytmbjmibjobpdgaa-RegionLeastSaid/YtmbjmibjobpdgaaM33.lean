/-
  The landed walk in depth: from one root.
-/
import Derived.Test.YtmbjmibjobpdgaaM32
namespace Go.Proofs.Ytmbjmibjobpdgaa
open Go.RowKit

theorem OwnI.one {w : World} {B : Nat} (hB : B ≤ w.heap.size) (x : Int) : OwnI (w.alloc (.cells #[.int .i64 x] 3)) B (.slice (some ⟨w.heap.size, 0, none⟩) 1 1) [x] :=
  ⟨rfl, .inr ⟨w.heap.size, 1, #[.int .i64 x], rfl, hB, heap_alloc_new w _, Nat.le_refl _, by unfold maxLen; omega, rfl, rfl⟩⟩
def lenV : Value → Nat
  | .slice _ l _ => l
  | _ => 0
/-- The world in the loop. -/
def FrL (w wr : World) (lim bx gm go n cm co : Nat) (d0 : Ds) (L0 : List Nat) (lv sv : Value) : Prop :=
  ∃ k lf, (steps d0 k).lft = L0 ++ lf ∧ Fr w wr lim bx gm go n cm co (steps d0 k) lf lv sv ∧ (∀ x, x < n → ∀ y ∈ (steps d0 k).opn x, y < n) ∧ (∀ x ∈ (steps d0 k).stk, x < n) ∧ lf.length ≤ k ∧ k + 2 * opnSum (steps d0 k).opn n + (steps d0 k).stk.length ≤ 9999
theorem Fr.drew {w wr : World} {lim bx gm go n cm co : Nat} {d : Ds} {lf : List Nat} {lv sv : Value} (h : Fr w wr lim bx gm go n cm co d lf lv sv) : Fr w wr.drew lim bx gm go n cm co d lf lv sv := by
  have hb : ∀ B, Below B wr wr.drew := fun B => ⟨rfl, rfl, rfl, Nat.le_refl _, fun _ _ => rfl⟩
  refine ⟨h.bu.trans (Bu.of_below (hb bx)), h.box, h.met, ?_, h.ol, h.os, h.ap⟩
  exact h.opn.keep rfl (hb lim)
theorem Fr.cells {w wr : World} {lim bx gm go n cm co : Nat} {d : Ds} {lf : List Nat} {lv sv : Value} (h : Fr w wr lim bx gm go n cm co d lf lv sv) : wr.cell? ⟨bx, 0, none⟩ = some (.slice (some ⟨gm, 0, none⟩) n cm) ∧ wr.cell? ⟨bx, 1, none⟩ = some (.slice (some ⟨go, 0, none⟩) n co) ∧ (∀ i, wr.frozen? ⟨gm, i, none⟩ = false) ∧ ∀ i, wr.frozen? ⟨go, i, none⟩ = false := by
  obtain ⟨us, hc, _⟩ := h.opn
  refine ⟨?_, ?_, fun i => h.met.free i, fun i => hc.free i⟩
  · rw [cell_of_row wr _ 0 _ _ (0, 0) h.box]; rfl
  · rw [cell_of_row wr _ 1 _ _ (0, 0) h.box]; rfl
/-- What 'from' comes to from a root that wasn't met. -/
def FromEnds (w : World) (lim gm go n : Nat) (d : Ds) (root : Nat) (e : Ending) (w' : World) : Prop :=
  ∃ v k lf, e = .returned v ∧ (steps (d.push root) k).stk = [] ∧ (steps (d.push root) k).lft = d.lft ++ lf ∧ OwnI w' (w.heap.size + 1) v (ofNs lf) ∧ MetAt w' gm n (steps (d.push root) k).met ∧ OpnAt w' lim go n (steps (d.push root) k).opn ∧ Bu w.heap.size gm go w w' ∧ lf.length ≤ 9999
set_option maxRecDepth 20000 in
set_option maxHeartbeats 4000000 in
theorem from_new {w : World} {lim gm go n cm co root : Nat} {d : Ds} (hm : MetAt w gm n d.met) (ho : OpnAt w lim go n d.opn) (hst : d.stk = []) (hl1 : lim ≤ gm) (hl2 : lim ≤ go) (hlt : ∀ x, x < n → ∀ y ∈ d.opn x, y < n) (hr : root < n) (hnm : d.met root = false) (hs : opnSum d.opn n ≤ 4900) :
    Calls Try.prog 39 #[.agg #[.slice (some ⟨gm, 0, none⟩) n cm, .slice (some ⟨go, 0, none⟩) n co], .int .i64 root] w fun e w' => FromEnds w lim gm go n d root e w' := by
  have hgm := hm.lt
  have hgo : go < w.heap.size := by obtain ⟨us, hc, _⟩ := id ho; exact hc.lt
  obtain ⟨W0, hW0⟩ : ∃ W0, W0 = w.alloc (.cells #[.slice (some ⟨gm, 0, none⟩) n cm, .slice (some ⟨go, 0, none⟩) n co] 82) := ⟨_, rfl⟩
  have hb0 : Below w.heap.size w W0 := by rw [hW0]; exact (Below.refl _ _).alloc (Nat.le_refl _) _
  have hbox : W0.heap[w.heap.size]? = some (.cells #[.slice (some ⟨gm, 0, none⟩) n cm, .slice (some ⟨go, 0, none⟩) n co] 82 (0, 0)) := by rw [hW0]; exact heap_alloc_new w _
  have hm0 : MetAt W0 gm n d.met := hm.keep hb0
  have ho0 : OpnAt W0 lim go n d.opn := ho.keep (hb0.block go hgo) (hb0.mono (by omega))
  have c1 : W0.cell? ⟨w.heap.size, 0, none⟩ = some (.slice (some ⟨gm, 0, none⟩) n cm) := by rw [cell_of_row W0 _ 0 _ _ (0, 0) hbox]; rfl
  have c2 : W0.cell? ⟨w.heap.size, 1, none⟩ = some (.slice (some ⟨go, 0, none⟩) n co) := by rw [cell_of_row W0 _ 1 _ _ (0, 0) hbox]; rfl
  have c3 := hm0.cell hr
  rw [hnm] at c3
  have c4 : ∀ i, W0.frozen? ⟨gm, i, none⟩ = false := fun i => hm0.free i
  -- behind the root's own store and its row
  obtain ⟨W1, hW1⟩ : ∃ W1, W1 = (W0.setCell ⟨gm, root, none⟩ (.bool true)).alloc (.cells #[.int .i64 (root : Int)] 3) := ⟨_, rfl⟩
  have HE := Lib.hid hW0
  have HE1 := Lib.hid hW1
  have start : Hid (∀ sv, OwnI W1 (w.heap.size + 1) sv [(root : Int)] → FrL w W1 lim w.heap.size gm go n cm co (d.push root) d.lft (.slice none 0 0) sv) := Lib.hid fun sv hsv => by
    have h0 : Fr w W0 lim w.heap.size gm go n cm co d [] (.slice none 0 0) (.slice none 0 0) := ⟨Bu.of_below hb0, hbox, hm0, ho0, OwnI.nil _ _, by rw [hst]; exact OwnI.nil _ _, .inl rfl⟩
    have h1 := h0.setM hl1 hgm (y := root) (d' := ⟨fup d.met root true, d.opn, [], d.lft, d.beg⟩) rfl rfl hst.symm
    have h2 := h1.alloc (by omega) (.cells #[.int .i64 (root : Int)] 3)
    rw [← hW1] at h2
    refine ⟨0, [], (List.append_nil _).symm, ⟨h2.bu, h2.box, h2.met, h2.opn, h2.ol, ?_, .inl rfl⟩, hlt, fun x hx => ?_, Nat.le_refl _, ?_⟩
    · show OwnI W1 (w.heap.size + 1) sv (ofNs (root :: d.stk).reverse)
      rw [hst]; exact hsv
    · have hx' : x ∈ root :: d.stk := hx
      rw [hst] at hx'
      have : x = root := by simpa using hx'
      omega
    · show 0 + 2 * opnSum d.opn n + (root :: d.stk).length ≤ 9999
      rw [hst]; simp; omega
  have own1 : Hid (OwnI W1 (w.heap.size + 1) (.slice (some ⟨(W0.setCell ⟨gm, root, none⟩ (.bool true)).heap.size, 0, none⟩) 1 1) [(root : Int)]) := Lib.hid (by
    rw [hW1]
    exact OwnI.one (by rw [hW0]; simp) _)
  clear hm ho hm0 ho0 hbox hb0 hW1 hW0 hst hlt hnm hs
  go_enter Try.func39, Try.ntmps39
  have e0 := HE.out.symm
  go_wp2_with fail
  rw [← HE1.out]
  clear e0 c1 c2 c3 c4
  have hbx : go < w.heap.size := hgo
  generalize hbxd : w.heap.size = bx at *
  clear HE HE1
  go_loopw [5, 6] (fun lv sv wr => Hid (FrL w wr lim bx gm go n cm co (d.push root) d.lft lv sv)) (fun _ sv wr => 2 * memSum wr go n + lenV sv)
  case atStart => exact Lib.hid (start.out _ (by simpa using own1.out))
  case round =>
    obtain ⟨k, lf, hlf, hF, hlt, hsk, hk1, hk2⟩ := hrel.out
    clear hrel start own1
    obtain ⟨D, hD⟩ : ∃ D, D = steps (d.push root) k := ⟨_, rfl⟩
    have hD1 : steps (d.push root) (k + 1) = D.step := by rw [hD]; rfl
    have hst' : D.stk = [] → (steps (d.push root) k).stk = [] := fun h => by rw [← hD]; exact h
    cases hst : D.stk with
    | nil =>
      have hfin : Hid (FromEnds w lim gm go n d root (.returned u5) wr) := Lib.hid ⟨u5, k, lf, rfl, hst' hst, hlf, by rw [hbxd]; exact hF.ol, hF.met, hF.opn, by rw [hbxd]; exact hF.bu, by omega⟩
      have hos := hF.os
      rw [← hD, hst] at hos
      obtain ⟨A, c, rfl⟩ := hos.open
      clear hos hF hlf hlt hsk hk1 hk2 hst hst' hD hD1
      go_wp2_with fail
      go_ret
      exact hfin.out
    | cons x s =>
      rw [← hD] at hlf hF hlt hsk hk2
      have hx : x < n := hsk x (by rw [hst]; simp)
      have hbxl := hF.lt
      have hms := hF.opn.sum n (Nat.le_refl _)
      have hsl : s.length ≤ 9999 := by rw [hst] at hk2; simp at hk2; omega
      cases hop : D.opn x with
      | nil =>
        obtain ⟨gs, cs, rfl, hat, hcs, hF2⟩ := hF.popS hst (d' := D.pop x s) rfl rfl rfl
        obtain ⟨us, hcb, hrow⟩ := hF.opn
        obtain ⟨A, c, eu, _, _⟩ := hrow x hx
        have co1 := hcb.cell hx
        rw [eu, hop] at co1
        obtain ⟨b1, b2, _, _⟩ := hF2.cells
        have hF3 := Lib.hid (hF2.alloc (by omega) (.cells #[.int .i64 (x : Int)] 3))
        have hO := Lib.hid hF3.out.ol
        have w0 : (wr.alloc (.cells #[.int .i64 (x : Int)] 3)).cell? ⟨wr.heap.size, 0, none⟩ = some (.int .i64 (x : Int)) := by rw [World.cell?_alloc_new]; rfl
        have hsz : Hid (bx + 1 ≤ (wr.alloc (.cells #[.int .i64 (x : Int)] 3)).heap.size) := Lib.hid (by simp; omega)
        have hll : Hid ((ofNs lf).length ≤ 10000) := Lib.hid (by simp [ofNs]; omega)
        have hrel2 : Hid (∀ v' w8, Fr w w8 lim bx gm go n cm co (D.pop x s) (lf ++ [x]) v' (.slice (some ⟨gs, 0, none⟩) s.length cs) → FrL w w8 lim bx gm go n cm co (d.push root) d.lft v' (.slice (some ⟨gs, 0, none⟩) s.length cs) ∧ 2 * memSum w8 go n + s.length < 2 * memSum wr go n + (s.length + 1)) := Lib.hid fun v' w8 h8 => by
          have hstep : D.step = D.pop x s := Ds.step_pop hst hop
          rw [hstep] at hD1
          have hsum : memSum w8 go n = opnSum D.opn n := h8.opn.sum n (Nat.le_refl _)
          refine ⟨⟨k + 1, lf ++ [x], ?_, ?_, ?_, ?_, ?_, ?_⟩, ?_⟩
          · rw [hD1]
            show D.lft ++ [x] = _
            rw [hlf, List.append_assoc]
          · rw [hD1]; exact h8
          · rw [hD1]; exact hlt
          · rw [hD1]; exact fun z hz => hsk z (by rw [hst]; exact List.mem_cons_of_mem _ hz)
          · simp; omega
          · rw [hD1]
            show k + 1 + 2 * opnSum D.opn n + s.length ≤ 9999
            rw [hst] at hk2
            simp at hk2; omega
          · rw [hsum, hms]; omega
        have HF3 := hF3
        clear hF hlf hlt hsk hk1 hk2 hst hst' hD hD1 hms hF2 hF3 hcb hrow eu hop
        go_wp2_with (refine wpl_intAt rfl (.tmp 38) (.tmp 40) rfl (bx + 1) u5 (ofNs lf) rfl hO.out wr.heap.size (x : Int) rfl w0 hll.out hsz.out ?_; refine Hid.out ?_)
        refine Lib.hid ?_
        intro v' w8 ho8 hg8 hat8
        have hP := Lib.hid (hrel2.out _ _ (HF3.out.pushL (by omega) hgm hgo ho8 hg8 (by rw [World.size_alloc]; exact hat8)))
        clear ho8 hg8 hat8 HF3 hO w0 hsz hll hrel2 co1 b1 b2
        go_wp2_with fail
        go_roundw
        case rel => exact Lib.hid hP.out.1
        case measure => exact hP.out.2
      | cons y r =>
        have hy : y < n := hlt x hx y (by rw [hop]; simp)
        obtain ⟨gs, cs, rfl, hat, hcs, _⟩ := hF.popS hst (d' := D.pop x s) rfl rfl rfl
        obtain ⟨us, hcb, hrow⟩ := id hF.opn
        obtain ⟨A, c, eu, hlc, hli⟩ := hrow x hx
        rw [hop] at eu hlc hli
        have hln : (ofNs (y :: r)).length = r.length + 1 := by simp [ofNs]
        obtain ⟨gr, orr, rfl, hgr, hcell⟩ := hli (by rw [hln]; omega)
        have co1 := hcb.cell hx
        rw [eu] at co1
        have hrl : r.length ≤ c - 1 := by simp at hlc; omega
        have hc1 : r.length + 1 ≤ c := by simpa using hlc
        have cy : wr.cell? ⟨gr, orr, none⟩ = some (.int .i64 (y : Int)) := by
          have := hcell 0 (by rw [hln]; omega)
          simpa [ofNs] using this
        obtain ⟨c', rfl⟩ : ∃ c', c = c' + 1 := ⟨c - 1, by omega⟩
        cases c' with
        | zero =>
          obtain rfl : r = [] := List.eq_nil_of_length_eq_zero (by omega)
          have hli2 : LieI wr lim (some ⟨gr, orr, none⟩) (ofNs []) := fun h0 => absurd h0 (by simp [ofNs])
          obtain ⟨b1, b2, _, f2⟩ := hF.cells
          have hS : Fr w (wr.setCell ⟨go, x, none⟩ (.slice (some ⟨gr, orr, none⟩) 0 0)).drew lim bx gm go n cm co (D.go x []) lf u5 (.slice (some ⟨gs, 0, none⟩) (s.length + 1) cs) := (hF.setO hl2 hgo (by omega) hli2).drew
          obtain ⟨e1, e2, e3, _⟩ := hS.cells
          have cy2 : (wr.setCell ⟨go, x, none⟩ (.slice (some ⟨gr, orr, none⟩) 0 0)).drew.cell? ⟨gr, orr, none⟩ = some (.int .i64 (y : Int)) := by
            have e : (wr.setCell ⟨go, x, none⟩ (.slice (some ⟨gr, orr, none⟩) 0 0)).drew.heap[gr]? = wr.heap[gr]? := Below.heap_setCell wr ⟨go, x, none⟩ _ _ (show gr ≠ go by omega)
            rw [← cy]
            simp only [World.cell?, e]
          have my := hS.met.cell hy
          have hsum := opnSum_cut hop n hx
          have hlt' : ∀ z, z < n → ∀ u ∈ fup D.opn x [] z, u < n := fun z hz u hu => by
            by_cases e : z = x
            · subst e
              rw [fup_same] at hu
              exact hlt z hz u (by rw [hop]; exact List.mem_cons_of_mem _ hu)
            · rw [fup_far e] at hu
              exact hlt z hz u hu
          have HS := Lib.hid hS
          have HD1 := Lib.hid hD1
          have HST := Lib.hid hst
          have HOP := Lib.hid hop
          have HLT := Lib.hid hlt'
          have HSK := Lib.hid hsk
          have HLF := Lib.hid hlf
          rw [hst] at hk2
          simp only [List.length_cons] at hk2
          clear hF hlf hlt hsk hst hst' hD hD1 hS hcb hrow eu hop hcell hli hlt' hlc hli2 hln
          cases hmy : D.met y with
          | true =>
            have my2 : (wr.setCell ⟨go, x, none⟩ (.slice (some ⟨gr, orr, none⟩) 0 0)).drew.cell? ⟨gm, y, none⟩ = some (.bool true) := by rw [← hmy]; exact my
            have hrel2 : Hid (FrL w (wr.setCell ⟨go, x, none⟩ (.slice (some ⟨gr, orr, none⟩) 0 0)).drew lim bx gm go n cm co (d.push root) d.lft u5 (.slice (some ⟨gs, 0, none⟩) (s.length + 1) cs) ∧ 2 * memSum (wr.setCell ⟨go, x, none⟩ (.slice (some ⟨gr, orr, none⟩) 0 0)).drew go n + (s.length + 1) < 2 * memSum wr go n + (s.length + 1)) := Lib.hid (by
              have hstep : D.step = D.go x [] := Ds.step_go HST.out HOP.out hmy
              have hD1 := HD1.out
              rw [hstep] at hD1
              have hs2 : memSum _ go n = opnSum (fup D.opn x []) n := HS.out.opn.sum n (Nat.le_refl _)
              refine ⟨⟨k + 1, lf, ?_, ?_, ?_, ?_, by omega, ?_⟩, ?_⟩
              · rw [hD1]; exact HLF.out
              · rw [hD1]; exact HS.out
              · rw [hD1]; exact HLT.out
              · rw [hD1]; exact HSK.out
              · rw [hD1]
                show k + 1 + 2 * opnSum (fup D.opn x []) n + D.stk.length ≤ 9999
                rw [HST.out, List.length_cons]; omega
              · rw [hs2, hms]; omega)
            clear my e3 hsum HS HD1 HST HOP HLT HSK HLF hmy
            go_wp2_with fail
            go_region
            generalize (wr.setCell ⟨go, x, none⟩ (.slice (some ⟨gr, orr, none⟩) 0 0)).drew = W2 at *
            clear co1 b1 b2 f2 cy
            go_wp2_with fail
            go_roundw
            case rel => exact Lib.hid hrel2.out.1
            case measure => exact hrel2.out.2
          | false =>
            have my2 : (wr.setCell ⟨go, x, none⟩ (.slice (some ⟨gr, orr, none⟩) 0 0)).drew.cell? ⟨gm, y, none⟩ = some (.bool false) := by rw [← hmy]; exact my
            have hS3 := HS.out.setM hl1 hgm (y := y) (d' := ⟨fup D.met y true, fup D.opn x [], D.stk, D.lft, D.beg⟩) rfl rfl rfl
            have HS3 := Lib.hid (hS3.alloc (by omega) (.cells #[.int .i64 (y : Int)] 3))
            have hrel2 : Hid (∀ v' w8, Fr w w8 lim bx gm go n cm co ((D.go x []).push y) lf u5 v' → (∃ A' c', v' = .slice A' (s.length + 2) c') → FrL w w8 lim bx gm go n cm co (d.push root) d.lft u5 v' ∧ 2 * memSum w8 go n + lenV v' < 2 * memSum wr go n + (s.length + 1)) := Lib.hid (by
              rintro v' w8 h8 ⟨A', c', rfl⟩
              have hstep : D.step = (D.go x []).push y := Ds.step_push HST.out HOP.out hmy
              have hD1 := HD1.out
              rw [hstep] at hD1
              have hs2 : memSum w8 go n = opnSum (fup D.opn x []) n := h8.opn.sum n (Nat.le_refl _)
              refine ⟨⟨k + 1, lf, ?_, ?_, ?_, ?_, by omega, ?_⟩, ?_⟩
              · rw [hD1]; exact HLF.out
              · rw [hD1]; exact h8
              · rw [hD1]; exact HLT.out
              · rw [hD1]
                intro z hz
                have hz' : z ∈ y :: D.stk := hz
                rcases List.mem_cons.1 hz' with rfl | hz'
                · exact hy
                · exact HSK.out z hz'
              · rw [hD1]
                show k + 1 + 2 * opnSum (fup D.opn x []) n + (y :: D.stk).length ≤ 9999
                rw [List.length_cons, HST.out, List.length_cons]; omega
              · rw [hs2, hms]
                show 2 * opnSum (fup D.opn x []) n + (s.length + 2) < _
                omega)
            have hO := Lib.hid HS3.out.os
            have hrl2 : Hid ((ofNs D.stk.reverse).length = s.length + 1) := Lib.hid (by simp [ofNs, HST.out])
            have HW : Hid (bx < (wr.setCell ⟨go, x, none⟩ (.slice (some ⟨gr, orr, none⟩) 0 0)).drew.heap.size) := Lib.hid (by simpa using hbxl)
            clear my hsum HS HD1 HST HOP HLT HSK HLF hmy hS3
            go_wp2_with fail
            go_region
            generalize (wr.setCell ⟨go, x, none⟩ (.slice (some ⟨gr, orr, none⟩) 0 0)).drew = W2 at *
            clear co1 b1 b2 f2 cy
            have w0 : ((W2.setCell ⟨gm, y, none⟩ (.bool true)).alloc (.cells #[.int .i64 (y : Int)] 3)).cell? ⟨W2.heap.size, 0, none⟩ = some (.int .i64 (y : Int)) := by
              have := World.cell?_alloc_new (W2.setCell ⟨gm, y, none⟩ (.bool true)) #[.int .i64 (y : Int)] 3 0
              simpa using this
            have hsz : Hid (bx + 1 ≤ ((W2.setCell ⟨gm, y, none⟩ (.bool true)).alloc (.cells #[.int .i64 (y : Int)] 3)).heap.size) := Lib.hid (by have := HW.out; simp; omega)
            have hll : Hid ((ofNs D.stk.reverse).length ≤ 10000) := Lib.hid (by rw [hrl2.out]; omega)
            go_wp2_with (refine wpl_intAt rfl (.tmp 66) (.tmp 68) rfl (bx + 1) (.slice (some ⟨gs, 0, none⟩) (s.length + 1) cs) (ofNs D.stk.reverse) rfl hO.out W2.heap.size (y : Int) rfl w0 hll.out hsz.out ?_; refine Hid.out ?_)
            refine Lib.hid ?_
            intro v' w8 ho8 hg8 hat8
            have hP := Lib.hid (hrel2.out _ _ (HS3.out.pushS (by omega) hgm hgo (d' := (D.go x []).push y) rfl rfl rfl ho8 hg8 (by rw [World.size_alloc]; simpa using hat8)) (by
              obtain ⟨A', c', e⟩ := ho8.open
              exact ⟨A', c', by rw [e]; simp [hrl2.out]⟩))
            clear ho8 hg8 hat8 HS3 hO w0 hsz hll hrel2 hrl2
            go_wp2_with fail
            go_roundw
            case rel => exact Lib.hid hP.out.1
            case measure => exact hP.out.2
        | succ e =>
          have t9 : (((r.length : Int) + 1) == 0) = false := by simp; omega
          have hli2 : LieI wr lim (some ⟨gr, orr + 1, none⟩) (ofNs r) := LieI.tail (x := (y : Int)) (L := ofNs r) hcell hgr
          obtain ⟨b1, b2, _, f2⟩ := hF.cells
          have hS : Fr w (wr.setCell ⟨go, x, none⟩ (.slice (some ⟨gr, orr + 1, none⟩) r.length (e + 1))).drew lim bx gm go n cm co (D.go x r) lf u5 (.slice (some ⟨gs, 0, none⟩) (s.length + 1) cs) := (hF.setO hl2 hgo (by omega) hli2).drew
          obtain ⟨e1, e2, e3, _⟩ := hS.cells
          have cy2 : (wr.setCell ⟨go, x, none⟩ (.slice (some ⟨gr, orr + 1, none⟩) r.length (e + 1))).drew.cell? ⟨gr, orr, none⟩ = some (.int .i64 (y : Int)) := by
            have e : (wr.setCell ⟨go, x, none⟩ (.slice (some ⟨gr, orr + 1, none⟩) r.length (e + 1))).drew.heap[gr]? = wr.heap[gr]? := Below.heap_setCell wr ⟨go, x, none⟩ _ _ (show gr ≠ go by omega)
            rw [← cy]
            simp only [World.cell?, e]
          have my := hS.met.cell hy
          have hsum := opnSum_cut hop n hx
          have hlt' : ∀ z, z < n → ∀ u ∈ fup D.opn x r z, u < n := fun z hz u hu => by
            by_cases e : z = x
            · subst e
              rw [fup_same] at hu
              exact hlt z hz u (by rw [hop]; exact List.mem_cons_of_mem _ hu)
            · rw [fup_far e] at hu
              exact hlt z hz u hu
          have HS := Lib.hid hS
          have HD1 := Lib.hid hD1
          have HST := Lib.hid hst
          have HOP := Lib.hid hop
          have HLT := Lib.hid hlt'
          have HSK := Lib.hid hsk
          have HLF := Lib.hid hlf
          rw [hst] at hk2
          simp only [List.length_cons] at hk2
          clear hF hlf hlt hsk hst hst' hD hD1 hS hcb hrow eu hop hcell hli hlt' hlc hli2 hln
          cases hmy : D.met y with
          | true =>
            have my2 : (wr.setCell ⟨go, x, none⟩ (.slice (some ⟨gr, orr + 1, none⟩) r.length (e + 1))).drew.cell? ⟨gm, y, none⟩ = some (.bool true) := by rw [← hmy]; exact my
            have hrel2 : Hid (FrL w (wr.setCell ⟨go, x, none⟩ (.slice (some ⟨gr, orr + 1, none⟩) r.length (e + 1))).drew lim bx gm go n cm co (d.push root) d.lft u5 (.slice (some ⟨gs, 0, none⟩) (s.length + 1) cs) ∧ 2 * memSum (wr.setCell ⟨go, x, none⟩ (.slice (some ⟨gr, orr + 1, none⟩) r.length (e + 1))).drew go n + (s.length + 1) < 2 * memSum wr go n + (s.length + 1)) := Lib.hid (by
              have hstep : D.step = D.go x r := Ds.step_go HST.out HOP.out hmy
              have hD1 := HD1.out
              rw [hstep] at hD1
              have hs2 : memSum _ go n = opnSum (fup D.opn x r) n := HS.out.opn.sum n (Nat.le_refl _)
              refine ⟨⟨k + 1, lf, ?_, ?_, ?_, ?_, by omega, ?_⟩, ?_⟩
              · rw [hD1]; exact HLF.out
              · rw [hD1]; exact HS.out
              · rw [hD1]; exact HLT.out
              · rw [hD1]; exact HSK.out
              · rw [hD1]
                show k + 1 + 2 * opnSum (fup D.opn x r) n + D.stk.length ≤ 9999
                rw [HST.out, List.length_cons]; omega
              · rw [hs2, hms]; omega)
            clear my e3 hsum HS HD1 HST HOP HLT HSK HLF hmy
            go_wp2_with fail
            go_region
            generalize (wr.setCell ⟨go, x, none⟩ (.slice (some ⟨gr, orr + 1, none⟩) r.length (e + 1))).drew = W2 at *
            clear co1 b1 b2 f2 cy
            go_wp2_with fail
            go_roundw
            case rel => exact Lib.hid hrel2.out.1
            case measure => exact hrel2.out.2
          | false =>
            have my2 : (wr.setCell ⟨go, x, none⟩ (.slice (some ⟨gr, orr + 1, none⟩) r.length (e + 1))).drew.cell? ⟨gm, y, none⟩ = some (.bool false) := by rw [← hmy]; exact my
            have hS3 := HS.out.setM hl1 hgm (y := y) (d' := ⟨fup D.met y true, fup D.opn x r, D.stk, D.lft, D.beg⟩) rfl rfl rfl
            have HS3 := Lib.hid (hS3.alloc (by omega) (.cells #[.int .i64 (y : Int)] 3))
            have hrel2 : Hid (∀ v' w8, Fr w w8 lim bx gm go n cm co ((D.go x r).push y) lf u5 v' → (∃ A' c', v' = .slice A' (s.length + 2) c') → FrL w w8 lim bx gm go n cm co (d.push root) d.lft u5 v' ∧ 2 * memSum w8 go n + lenV v' < 2 * memSum wr go n + (s.length + 1)) := Lib.hid (by
              rintro v' w8 h8 ⟨A', c', rfl⟩
              have hstep : D.step = (D.go x r).push y := Ds.step_push HST.out HOP.out hmy
              have hD1 := HD1.out
              rw [hstep] at hD1
              have hs2 : memSum w8 go n = opnSum (fup D.opn x r) n := h8.opn.sum n (Nat.le_refl _)
              refine ⟨⟨k + 1, lf, ?_, ?_, ?_, ?_, by omega, ?_⟩, ?_⟩
              · rw [hD1]; exact HLF.out
              · rw [hD1]; exact h8
              · rw [hD1]; exact HLT.out
              · rw [hD1]
                intro z hz
                have hz' : z ∈ y :: D.stk := hz
                rcases List.mem_cons.1 hz' with rfl | hz'
                · exact hy
                · exact HSK.out z hz'
              · rw [hD1]
                show k + 1 + 2 * opnSum (fup D.opn x r) n + (y :: D.stk).length ≤ 9999
                rw [List.length_cons, HST.out, List.length_cons]; omega
              · rw [hs2, hms]
                show 2 * opnSum (fup D.opn x r) n + (s.length + 2) < _
                omega)
            have hO := Lib.hid HS3.out.os
            have hrl2 : Hid ((ofNs D.stk.reverse).length = s.length + 1) := Lib.hid (by simp [ofNs, HST.out])
            have HW : Hid (bx < (wr.setCell ⟨go, x, none⟩ (.slice (some ⟨gr, orr + 1, none⟩) r.length (e + 1))).drew.heap.size) := Lib.hid (by simpa using hbxl)
            clear my hsum HS HD1 HST HOP HLT HSK HLF hmy hS3
            go_wp2_with fail
            go_region
            generalize (wr.setCell ⟨go, x, none⟩ (.slice (some ⟨gr, orr + 1, none⟩) r.length (e + 1))).drew = W2 at *
            clear co1 b1 b2 f2 cy
            have w0 : ((W2.setCell ⟨gm, y, none⟩ (.bool true)).alloc (.cells #[.int .i64 (y : Int)] 3)).cell? ⟨W2.heap.size, 0, none⟩ = some (.int .i64 (y : Int)) := by
              have := World.cell?_alloc_new (W2.setCell ⟨gm, y, none⟩ (.bool true)) #[.int .i64 (y : Int)] 3 0
              simpa using this
            have hsz : Hid (bx + 1 ≤ ((W2.setCell ⟨gm, y, none⟩ (.bool true)).alloc (.cells #[.int .i64 (y : Int)] 3)).heap.size) := Lib.hid (by have := HW.out; simp; omega)
            have hll : Hid ((ofNs D.stk.reverse).length ≤ 10000) := Lib.hid (by rw [hrl2.out]; omega)
            go_wp2_with (refine wpl_intAt rfl (.tmp 66) (.tmp 68) rfl (bx + 1) (.slice (some ⟨gs, 0, none⟩) (s.length + 1) cs) (ofNs D.stk.reverse) rfl hO.out W2.heap.size (y : Int) rfl w0 hll.out hsz.out ?_; refine Hid.out ?_)
            refine Lib.hid ?_
            intro v' w8 ho8 hg8 hat8
            have hP := Lib.hid (hrel2.out _ _ (HS3.out.pushS (by omega) hgm hgo (d' := (D.go x r).push y) rfl rfl rfl ho8 hg8 (by rw [World.size_alloc]; simpa using hat8)) (by
              obtain ⟨A', c', e⟩ := ho8.open
              exact ⟨A', c', by rw [e]; simp [hrl2.out]⟩))
            clear ho8 hg8 hat8 HS3 hO w0 hsz hll hrel2 hrl2
            go_wp2_with fail
            go_roundw
            case rel => exact Lib.hid hP.out.1
            case measure => exact hP.out.2
end Go.Proofs.Ytmbjmibjobpdgaa

/-
  The landed Loops.
-/
import Derived.Test.YtmbjmibjobpdgaaM45
import Derived.Test.YtmbjmibjobpdgaaM46
import Derived.Deep.RegionHeld3
namespace Go.Proofs.Ytmbjmibjobpdgaa
open Go.RowKit

theorem contains_any {w : World} {lim c : Nat} {A : Option Addr} {L : List Int} (hl : LieI w lim A L) (hlen : L.length ≤ 100000) (x : Int) : Calls Try.prog 34 #[.slice A L.length c, .int .i64 x] w fun e w' => e = .returned (.bool (L.contains x)) ∧ w' = w := by
  cases L with
  | nil => exact lib_slices_Contains_int_empty A c x w
  | cons a L =>
    obtain ⟨g, o, rfl, _, hx⟩ := hl (by simp)
    have := lib_slices_Contains_int g o (a :: L).length c (a :: L) x w (Nat.le_refl _) (by omega) (fun j hj => by
      rw [hx j hj]
      have e : (a :: L).getD j 0 = (a :: L)[j] := by simp [List.getD, List.getElem?_eq_getElem hj]
      rw [e])
    rw [List.take_length] at this
    exact this
/-- The first k pieces' nodes that lie on loops. -/
def upL (R : Nat → List Nat) (Ps : List (List Nat)) (k : Nat) : List Nat := ((Ps.take k).filter (onLoop R)).flatten
theorem upL_succ (R : Nat → List Nat) (Ps : List (List Nat)) {k : Nat} (hk : k < Ps.length) : upL R Ps (k + 1) = upL R Ps k ++ if onLoop R Ps[k] = true then Ps[k] else [] := by
  unfold upL
  rw [List.take_add_one, List.getElem?_eq_getElem hk, Option.toList, List.filter_append, List.flatten_append]
  congr 1
  rw [List.filter_cons]
  split
  · simp
  · simp
theorem upL_le (R : Nat → List Nat) (Ps : List (List Nat)) (k : Nat) : (upL R Ps k).length ≤ ((Ps.filter (onLoop R)).flatten).length := by
  have e : (Ps.filter (onLoop R)).flatten = upL R Ps k ++ ((Ps.drop k).filter (onLoop R)).flatten := by
    unfold upL
    rw [← List.flatten_append, ← List.filter_append, List.take_append_drop]
  rw [e, List.length_append]
  omega
theorem upL_few {G : GT} {d : Ds} {Ps : List (List Nat)} {met : Nat → Bool} (hp : Pcs (outN G) d.lft 0 Ps met) : ((Ps.filter (onLoop (outN G))).flatten).length ≤ G.n := by
  refine nodup_bound G.n _ ((flat_sub _ _).nodup hp.apart) fun x hx => ?_
  obtain ⟨u, hu, _⟩ := hp.loops1 hx
  exact (mem_outN.1 hu).1
section
variable {md : Region.Mode} {ops : Array Oper} {Q : Exit → Act → World → Prop} {S : World → Prop} {fuel i : Nat} {o : Oper} {listed : Array Bool} {a : Act} {w : World}
/-- An operation that isn't wanted, taken first. -/
theorem takeU (d : Option Tmp) (ho : ops[i]? = some o) (hd : o.dst = d) (hs : Region.noSelect ops = true) (hf : Region.free md ops listed i = true) (hr : (Region.ready md ops listed).contains i = true)
    (hQ : ∀ c a w, Q (.panic c) (a.put d undef) w → Q (.panic c) a w) (hS : S w) (hw : Region.wanted o (yielded ops a.tmps) = false)
    (h : wpAnyH Try.prog md ops Q S fuel (listed.setIfInBounds i true) (a.put d undef) w) : wpAnyH Try.prog md ops Q S (fuel + 1) listed a w :=
  wpAnyH_take ho hs hf hr (by rw [hd]; exact hQ) (Or.inr ⟨hw, rfl⟩) hS (by rw [hd]; exact h)
end
set_option maxRecDepth 20000 in
set_option maxHeartbeats 4000000 in
theorem LLoopsZ {mv : Array Value} {G : GT} (w : World) (h : ModelAt w w.heap.size mv G) (hf : fewB G) : Calls Try.prog 17 #[.agg mv] w (SaysI w (loopsL G)) := by
  obtain ⟨ml, hmv, hM, hX, hbx⟩ := model_boxed h
  have hM := Lib.hid hM
  have hX := Lib.hid hX
  have hbx := Lib.hid hbx
  have hF := Lib.hid hf
  have hn1 : G.n ≤ 100 := hf.1
  clear h hf
  generalize ml 0 = m0 at *
  generalize ml 1 = m1 at *
  generalize ml 2 = m2 at *
  generalize ml 3 = m3 at *
  generalize ml 4 = m4 at *
  generalize ml 5 = m5 at *
  subst hmv
  go_enter Try.func17, Try.ntmps17
  go_wp2_with (first
    | (refine wpList_load_row rfl 27 _ rfl w.heap.size rfl 27 #[m0, m1, m2, m3, m4, m5] (0, 0) _ hbx.out Try.underlying27 rfl (by kernel_rfl) ?_)
    | (go_at_call 28; refine (graphOf_any _ hM.out hF.out).mono ?_; rintro e w5 ⟨gO, gI, rfl, hgO1, _, hgO2, hgI2, hO, hI, hb5, _⟩; have hb6 : Below w5.heap.size w5 (w5.alloc (.cells #[.slice (some ⟨gO, 0, none⟩) G.n G.n, .slice (some ⟨gI, 0, none⟩) G.n G.n] 71)) := (Below.refl _ _).alloc (Nat.le_refl _) _; have HO := Lib.hid (hO.keep hb6); have HI := Lib.hid (hI.keep hb6); have HB6 := Lib.hid hb6.size; have HG6 := Lib.hid (heap_alloc_new w5 (.cells #[.slice (some ⟨gO, 0, none⟩) G.n G.n, .slice (some ⟨gI, 0, none⟩) G.n G.n] 71)); have HX6 := Lib.hid (hX.out.trans ((hb5.trans (hb6.mono hb5.size)).mono hX.out.size)); clear hO hI hb5 hb6)
    | (go_at_call 33; refine (pieces_any HO.out HI.out hgO2 hgI2 HB6.out hF.out).mono ?_; rintro e w7 ⟨AP, cP, Ps, d, met, rfl, hl7, hb7, hw7, hp7, hpn7, hpy7⟩; have HL7 := Lib.hid hl7; have HB7 := Lib.hid hb7; have HW7 := Lib.hid hw7; have HP7 := Lib.hid hp7; have HY7 := Lib.hid hpy7; clear hl7 hb7 hw7 hp7 hpy7; refine Hid.out ?_)
    | fail)
  refine Lib.hid ?_
  obtain ⟨gb, hgb⟩ : ∃ gb, gb = w5.heap.size := ⟨_, rfl⟩
  have hs6 : (w5.alloc (.cells #[.slice (some ⟨gO, 0, none⟩) G.n G.n, .slice (some ⟨gI, 0, none⟩) G.n G.n] 71)).heap.size = w5.heap.size + 1 := by simp
  have hs7 := HB7.out.size
  rw [hs6] at hs7
  have hg7 : w7.heap[gb]? = some (.cells #[.slice (some ⟨gO, 0, none⟩) G.n G.n, .slice (some ⟨gI, 0, none⟩) G.n G.n] 71 (0, 0)) := by
    rw [hgb]; exact (HB7.out.block _ (by rw [hs6]; omega)).trans HG6.out
  have HO7 := Lib.hid (HO.out.keep (HB7.out.mono (by rw [hs6]; omega)))
  have HX7 := Lib.hid (HX6.out.trans (HB7.out.mono (by have := HX6.out.size; omega)))
  have HG7 := Lib.hid hg7
  have hgb7 : gb < w7.heap.size := by omega
  have hw57 : w5.heap.size ≤ w7.heap.size := by omega
  obtain ⟨m, hm⟩ : ∃ m, m = Ps.length := ⟨_, rfl⟩
  have HM := Lib.hid hm
  rw [← hgb, ← hm]
  have S0 : Hid (OwnI w7 w7.heap.size (.slice none 0 0) (ofNs (upL (outN G) Ps 0)) ∧ Below w7.heap.size w7 w7) := Lib.hid ⟨OwnI.nil _ _, Below.refl _ _⟩
  have hmb : m ≤ 100 := by omega
  clear hm hg7 HO HI HB6 HG6 HB7 HX6 hs7 hs6 hgb hM hX hbx
  go_wp2_with fail
  go_loopw [4, 12] (fun lv kv wr => ∃ k : Nat, k ≤ m ∧ kv = .int .i64 k ∧ Hid (OwnI wr w7.heap.size lv (ofNs (upL (outN G) Ps k)) ∧ Below w7.heap.size w7 wr)) (fun _ kv _ => m - (intOf kv).toNat)
  case atStart => exact ⟨0, Nat.zero_le _, rfl, S0⟩
  case round =>
    clear S0
    obtain ⟨k, hk, rfl, hr⟩ := hrel
    have hfew := upL_le (outN G) Ps k
    have hfew2 := upL_few HP7.out
    obtain ⟨AL, cL, rfl⟩ := hr.out.1.open
    rw [ofN_len] at hr ⊢
    by_cases hlt : k < m
    · have hkl : k < Ps.length := by have := HM.out; omega
      obtain ⟨gp, oq, rfl, hgp, hrow⟩ := HL7.out (by omega)
      obtain ⟨B, cb, y0, hli⟩ := hrow k hkl
      have egd : Ps.getD k [] = Ps[k] := by simp [List.getD, hkl]
      have egd2 : (fun t => ofNs (Ps.getD t [])) k = ofNs Ps[k] := by show ofNs (Ps.getD k []) = _; rw [egd]
      rw [egd2] at y0 hli
      rw [ofN_len] at y0
      have hb := hr.out.2
      have y1 : wr.cell? ⟨gp, oq + k, none⟩ = some (.slice B Ps[k].length cb) := (hb.cell (p := ⟨gp, oq + k, none⟩) hgp).trans y0
      have hli2 := hli.keep (w' := wr) fun g o hg => hb.cell (p := ⟨g, o, none⟩) hg
      have hst := upL_succ (outN G) Ps hkl
      obtain ⟨x0, hx0, hx0n⟩ := HY7.out Ps[k] (List.getElem_mem hkl)
      have hfew3 := upL_le (outN G) Ps (k + 1)
      have c0 : wr.cell? ⟨gb, 0, none⟩ = some (.slice (some ⟨gO, 0, none⟩) G.n G.n) := by
        rw [cell_of_row _ _ 0 _ _ (0, 0) ((hb.block gb hgb7).trans HG7.out)]; rfl
      have hO3 := HO7.out.keep (hb.mono hw57)
      generalize Ps[k] = P at *
      have HOW := Lib.hid hr.out.1
      have HBW := Lib.hid hb
      have HSZ : Hid (w7.heap.size ≤ wr.heap.size) := Lib.hid hb.size
      have HLI := Lib.hid hli2
      have HST := Lib.hid hst
      have HAPP : Hid (∀ (W : World) (v' : Value) (w3 : World), W.heap = wr.heap → W.os = wr.os ∧ W.tape = wr.tape ∧ W.output = wr.output → OwnI w3 w7.heap.size v' (ofNs (upL (outN G) Ps k) ++ ofNs P) → W.grownBy w3 (Value.slice AL (upL (outN G) Ps k).length cL).ownBlock → onLoop (outN G) P = true → OwnI w3 w7.heap.size v' (ofNs (upL (outN G) Ps (k + 1))) ∧ Below w7.heap.size w7 w3) := Lib.hid fun W v' w3 e1 e2 h1 h2 h3 => by
        rw [HST.out, if_pos h3]
        have e : ofNs (upL (outN G) Ps k ++ P) = ofNs (upL (outN G) Ps k) ++ ofNs P := by simp [ofNs]
        rw [e]
        have hbW : Below w7.heap.size w7 W := ⟨e2.1.trans hb.os, e2.2.1.trans hb.tape, e2.2.2.trans hb.output, by rw [e1]; exact hb.size, fun q hq => by rw [e1]; exact hb.block q hq⟩
        exact ⟨h1, hbW.grown h2 hbW.size fun j ej => (World.ownsRow.lt HOW.out j ej).1⟩
      have hl5 : Hid (onLoop (outN G) P = true → (ofNs (upL (outN G) Ps k)).length + (ofNs P).length ≤ 100000) := Lib.hid fun h3 => by
        rw [ofN_len, ofN_len]
        rw [HST.out, if_pos h3, List.length_append] at hfew3
        omega
      clear hr hb hrow y0 hli hst egd egd2
      by_cases hbig : 1 < P.length
      · have hon : onLoop (outN G) P = true := by unfold onLoop; rw [decide_eq_true hbig]; rfl
        have HON := Lib.hid hon
        clear hO3 hli2
        obtain ⟨pl, hpl⟩ : ∃ pl, pl = P.length := ⟨_, rfl⟩
        have HPL := Lib.hid hpl
        rw [← hpl] at y1 hbig
        have hpb : pl ≤ 100 := by
          have := hl5.out hon
          rw [HST.out, if_pos hon, List.length_append] at hfew3
          omega
        clear hpl hon
        go_wp2_with fail
        have hbi : (1 : Int) < (pl : Int) := by omega
        refine wp_region_noPanic ?_
        refine wp_region_held_drew (S := fun _ => True) (by kernel_rfl) True.intro (fun _ => ?_)
        refine takeG (i := 0) (some 16) (.slice B pl cb) rfl rfl (by kernel_rfl) (by kernel_rfl) (by kernel_rfl) (fun _ _ _ h => h) True.intro (by kernel_rfl) (fun W hW => by go_simp) ?_
        simp only [Act.put, List.setIfInBounds_toArray, List.set_cons_zero, List.set_cons_succ]
        refine takeG (i := 1) (some 17) (.int .i64 pl) rfl rfl (by kernel_rfl) (by kernel_rfl) (by kernel_rfl) (fun _ _ _ h => h) True.intro (by kernel_rfl) (fun W hW => by go_simp) ?_
        simp only [Act.put, List.setIfInBounds_toArray, List.set_cons_zero, List.set_cons_succ]
        refine takeG (i := 2) (some 18) (.bool true) rfl rfl (by kernel_rfl) (by kernel_rfl) (by kernel_rfl) (fun _ _ _ h => h) True.intro (by kernel_rfl) (fun W hW => by go_simp) ?_
        simp only [Act.put, List.setIfInBounds_toArray, List.set_cons_zero, List.set_cons_succ]
        refine takeG (i := 3) (some 19) (.bool true) rfl rfl (by kernel_rfl) (by kernel_rfl) (by kernel_rfl) (fun _ _ _ h => h) True.intro (by kernel_rfl) (fun W hW => by go_simp) ?_
        simp only [Act.put, List.setIfInBounds_toArray, List.set_cons_zero, List.set_cons_succ]
        refine takeU (i := 4) (some 20) rfl rfl (by kernel_rfl) (by kernel_rfl) (by kernel_rfl) (fun _ _ _ h => h) True.intro (by kernel_rfl) ?_
        simp only [Act.put, List.setIfInBounds_toArray, List.set_cons_zero, List.set_cons_succ]
        refine takeU (i := 5) (some 21) rfl rfl (by kernel_rfl) (by kernel_rfl) (by kernel_rfl) (fun _ _ _ h => h) True.intro (by kernel_rfl) ?_
        simp only [Act.put, List.setIfInBounds_toArray, List.set_cons_zero, List.set_cons_succ]
        refine takeU (i := 6) (some 22) rfl rfl (by kernel_rfl) (by kernel_rfl) (by kernel_rfl) (fun _ _ _ h => h) True.intro (by kernel_rfl) ?_
        simp only [Act.put, List.setIfInBounds_toArray, List.set_cons_zero, List.set_cons_succ]
        refine takeU (i := 7) (some 23) rfl rfl (by kernel_rfl) (by kernel_rfl) (by kernel_rfl) (fun _ _ _ h => h) True.intro (by kernel_rfl) ?_
        simp only [Act.put, List.setIfInBounds_toArray, List.set_cons_zero, List.set_cons_succ]
        refine takeU (i := 8) (some 24) rfl rfl (by kernel_rfl) (by kernel_rfl) (by kernel_rfl) (fun _ _ _ h => h) True.intro (by kernel_rfl) ?_
        simp only [Act.put, List.setIfInBounds_toArray, List.set_cons_zero, List.set_cons_succ]
        refine takeU (i := 9) (some 25) rfl rfl (by kernel_rfl) (by kernel_rfl) (by kernel_rfl) (fun _ _ _ h => h) True.intro (by kernel_rfl) ?_
        simp only [Act.put, List.setIfInBounds_toArray, List.set_cons_zero, List.set_cons_succ]
        refine takeU (i := 10) (some 26) rfl rfl (by kernel_rfl) (by kernel_rfl) (by kernel_rfl) (fun _ _ _ h => h) True.intro (by kernel_rfl) ?_
        simp only [Act.put, List.setIfInBounds_toArray, List.set_cons_zero, List.set_cons_succ]
        refine takeU (i := 11) (some 27) rfl rfl (by kernel_rfl) (by kernel_rfl) (by kernel_rfl) (fun _ _ _ h => h) True.intro (by kernel_rfl) ?_
        simp only [Act.put, List.setIfInBounds_toArray, List.set_cons_zero, List.set_cons_succ]
        refine takeU (i := 12) (some 28) rfl rfl (by kernel_rfl) (by kernel_rfl) (by kernel_rfl) (fun _ _ _ h => h) True.intro (by kernel_rfl) ?_
        simp only [Act.put, List.setIfInBounds_toArray, List.set_cons_zero, List.set_cons_succ]
        refine takeU (i := 13) (some 29) rfl rfl (by kernel_rfl) (by kernel_rfl) (by kernel_rfl) (fun _ _ _ h => h) True.intro (by kernel_rfl) ?_
        simp only [Act.put, List.setIfInBounds_toArray, List.set_cons_zero, List.set_cons_succ]
        refine takeU (i := 14) (some 30) rfl rfl (by kernel_rfl) (by kernel_rfl) (by kernel_rfl) (fun _ _ _ h => h) True.intro (by kernel_rfl) ?_
        simp only [Act.put, List.setIfInBounds_toArray, List.set_cons_zero, List.set_cons_succ]
        refine takeG (i := 15) (some 31) (.bool true) rfl rfl (by kernel_rfl) (by kernel_rfl) (by kernel_rfl) (fun _ _ _ h => h) True.intro (by kernel_rfl) (fun W hW => by go_simp) ?_
        simp only [Act.put, List.setIfInBounds_toArray, List.set_cons_zero, List.set_cons_succ]
        refine wpAnyH_done (by kernel_rfl) ?_ _
        refine NoPanic.normal ?_
        have HOW2 : Hid (OwnI wr.drew w7.heap.size (.slice AL (upL (outN G) Ps k).length cL) (ofNs (upL (outN G) Ps k))) := HOW
        have HLI2 : Hid (LieI wr.drew w7.heap.size B (ofNs P)) := HLI
        have hlp : (ofNs P).length = pl := by rw [ofN_len, HPL.out]
        have hsd : w7.heap.size ≤ wr.drew.heap.size := HSZ.out
        have hl6 := hl5.out HON.out
        have hx9 : ∀ a : Act, a.eval (.tmp 33) = .slice B pl cb → a.eval (.tmp 33) = .slice B (ofNs P).length cb := fun a h => by rw [hlp]; exact h
        have HX9 := Lib.hid hx9
        clear hx9
        go_wp2_with (refine wpl_row rfl (.tmp 32) (.tmp 33) rfl w7.heap.size _ _ rfl HOW2.out B (ofNs P) cb w7.heap.size (HX9.out _ rfl) HLI2.out hl6 hsd ?_; refine Hid.out ?_)
        refine Lib.hid ?_
        intro v' w3 g1 g2 _
        have HN := Lib.hid (HAPP.out wr.drew v' w3 rfl ⟨rfl, rfl, rfl⟩ g1 g2 HON.out)
        clear g1 g2
        go_wp2_with fail
        go_roundw
        case rel => exact ⟨k + 1, by omega, by go_num, HN⟩
        case measure => simp [intOf]; omega
      · obtain ⟨a, rfl⟩ : ∃ a, P = [a] := by
          match P, hx0 with
          | [a], _ => exact ⟨a, rfl⟩
          | _ :: _ :: _, _ => simp at hbig
        obtain rfl : x0 = a := by simpa using hx0
        obtain ⟨gB, oB, rfl, _, hx1⟩ := HLI.out (by simp [ofNs])
        have c1 : wr.cell? ⟨gB, oB, none⟩ = some (.int .i64 (x0 : Int)) := by
          have h := hx1 0 (by simp [ofNs])
          simpa [ofNs] using h
        have y2 : wr.cell? ⟨gp, oq + k, none⟩ = some (.slice (some ⟨gB, oB, none⟩) 1 cb) := y1
        obtain ⟨gO2, oO2, e0, _, hx3⟩ := hO3 (by omega)
        injection e0 with e0
        injection e0 with e1 e2
        subst e1 e2
        obtain ⟨R, cr, c2, _, rl⟩ := hx3 x0 hx0n
        rw [Nat.zero_add] at c2
        obtain ⟨rn, hrn⟩ : ∃ rn, rn = (outN G x0).length := ⟨_, rfl⟩
        have HRN := Lib.hid hrn
        rw [← hrn] at c2
        have hrf := (rows_few hF.out x0).2
        have hON : onLoop (outN G) [x0] = (ofNs (outN G x0)).contains (x0 : Int) := by
          unfold onLoop
          simp [ofNs]
          refine ⟨fun h => ⟨x0, h, rfl⟩, fun ⟨a, h, e⟩ => ?_⟩
          have e2 : a = x0 := by omega
          rw [← e2]
          rw [← e2] at h
          exact h
        have HON := Lib.hid hON
        have HRL := Lib.hid rl
        have HRF := Lib.hid hrf
        have HS0 : Hid (wr.drew.cell? ⟨gb, 0, none⟩ = some (.slice (some ⟨gO, 0, none⟩) G.n G.n) ∧ wr.drew.cell? ⟨gB, oB, none⟩ = some (.int .i64 (x0 : Int)) ∧ wr.drew.cell? ⟨gO, x0, none⟩ = some (.slice R rn cr)) := Lib.hid ⟨c0, c1, c2⟩
        clear hx1 y1 hO3 hx3 hON rl hrf hbig c0 c1 c2 hli2 hrn HL7 HO7 HX7 HG7 hx0
        generalize G.n = n at *
        have hx0i : (x0 : Int) < (n : Int) := by omega
        have hx0j : (0 : Int) ≤ (x0 : Int) := by omega
        go_wp2_with fail
        refine wp_region_noPanic ?_
        refine wp_region_held_drew (S := fun W => W.cell? ⟨gb, 0, none⟩ = some (.slice (some ⟨gO, 0, none⟩) n n) ∧ W.cell? ⟨gB, oB, none⟩ = some (.int .i64 (x0 : Int)) ∧ W.cell? ⟨gO, x0, none⟩ = some (.slice R rn cr)) (by kernel_rfl) HS0.out (fun _ => ?_)
        refine takeG (i := 0) (some 16) (.slice (some ⟨gB, oB, none⟩) 1 cb) rfl rfl (by kernel_rfl) (by kernel_rfl) (by kernel_rfl) (fun _ _ _ h => h) HS0.out (by kernel_rfl) (fun W hW => by go_simp) ?_
        simp only [Act.put, List.setIfInBounds_toArray, List.set_cons_zero, List.set_cons_succ]
        refine takeG (i := 1) (some 17) (.int .i64 1) rfl rfl (by kernel_rfl) (by kernel_rfl) (by kernel_rfl) (fun _ _ _ h => h) HS0.out (by kernel_rfl) (fun W hW => by go_simp) ?_
        simp only [Act.put, List.setIfInBounds_toArray, List.set_cons_zero, List.set_cons_succ]
        refine takeG (i := 2) (some 18) (.bool false) rfl rfl (by kernel_rfl) (by kernel_rfl) (by kernel_rfl) (fun _ _ _ h => h) HS0.out (by kernel_rfl) (fun W hW => by go_simp) ?_
        simp only [Act.put, List.setIfInBounds_toArray, List.set_cons_zero, List.set_cons_succ]
        refine takeG (i := 3) (some 19) (.bool false) rfl rfl (by kernel_rfl) (by kernel_rfl) (by kernel_rfl) (fun _ _ _ h => h) HS0.out (by kernel_rfl) (fun W hW => by go_simp) ?_
        simp only [Act.put, List.setIfInBounds_toArray, List.set_cons_zero, List.set_cons_succ]
        refine takeG (i := 4) (some 20) (.pointer (some ⟨gb, 0, none⟩)) rfl rfl (by kernel_rfl) (by kernel_rfl) (by kernel_rfl) (fun _ _ _ h => h) HS0.out (by kernel_rfl) (fun W hW => by go_simp) ?_
        simp only [Act.put, List.setIfInBounds_toArray, List.set_cons_zero, List.set_cons_succ]
        refine takeG (i := 5) (some 21) (.slice (some ⟨gO, 0, none⟩) n n) rfl rfl (by kernel_rfl) (by kernel_rfl) (by kernel_rfl) (fun _ _ _ h => h) HS0.out (by kernel_rfl) (fun W hW => by obtain ⟨h1, h2, h3⟩ := hW; go_simp) ?_
        simp only [Act.put, List.setIfInBounds_toArray, List.set_cons_zero, List.set_cons_succ]
        refine takeG (i := 6) (some 22) (.slice (some ⟨gB, oB, none⟩) 1 cb) rfl rfl (by kernel_rfl) (by kernel_rfl) (by kernel_rfl) (fun _ _ _ h => h) HS0.out (by kernel_rfl) (fun W hW => by go_simp) ?_
        simp only [Act.put, List.setIfInBounds_toArray, List.set_cons_zero, List.set_cons_succ]
        refine takeG (i := 7) (some 23) (.pointer (some ⟨gB, oB, none⟩)) rfl rfl (by kernel_rfl) (by kernel_rfl) (by kernel_rfl) (fun _ _ _ h => h) HS0.out (by kernel_rfl) (fun W hW => by go_simp) ?_
        simp only [Act.put, List.setIfInBounds_toArray, List.set_cons_zero, List.set_cons_succ]
        refine takeG (i := 8) (some 24) (.int .i64 (x0 : Int)) rfl rfl (by kernel_rfl) (by kernel_rfl) (by kernel_rfl) (fun _ _ _ h => h) HS0.out (by kernel_rfl) (fun W hW => by obtain ⟨h1, h2, h3⟩ := hW; go_simp) ?_
        simp only [Act.put, List.setIfInBounds_toArray, List.set_cons_zero, List.set_cons_succ]
        refine takeG (i := 9) (some 25) (.pointer (some ⟨gO, x0, none⟩)) rfl rfl (by kernel_rfl) (by kernel_rfl) (by kernel_rfl) (fun _ _ _ h => h) HS0.out (by kernel_rfl) (fun W hW => by go_simp) ?_
        simp only [Act.put, List.setIfInBounds_toArray, List.set_cons_zero, List.set_cons_succ]
        refine takeG (i := 10) (some 26) (.slice R rn cr) rfl rfl (by kernel_rfl) (by kernel_rfl) (by kernel_rfl) (fun _ _ _ h => h) HS0.out (by kernel_rfl) (fun W hW => by obtain ⟨h1, h2, h3⟩ := hW; go_simp) ?_
        simp only [Act.put, List.setIfInBounds_toArray, List.set_cons_zero, List.set_cons_succ]
        refine takeG (i := 11) (some 27) (.slice (some ⟨gB, oB, none⟩) 1 cb) rfl rfl (by kernel_rfl) (by kernel_rfl) (by kernel_rfl) (fun _ _ _ h => h) HS0.out (by kernel_rfl) (fun W hW => by go_simp) ?_
        simp only [Act.put, List.setIfInBounds_toArray, List.set_cons_zero, List.set_cons_succ]
        refine takeG (i := 12) (some 28) (.pointer (some ⟨gB, oB, none⟩)) rfl rfl (by kernel_rfl) (by kernel_rfl) (by kernel_rfl) (fun _ _ _ h => h) HS0.out (by kernel_rfl) (fun W hW => by go_simp) ?_
        simp only [Act.put, List.setIfInBounds_toArray, List.set_cons_zero, List.set_cons_succ]
        refine takeG (i := 13) (some 29) (.int .i64 (x0 : Int)) rfl rfl (by kernel_rfl) (by kernel_rfl) (by kernel_rfl) (fun _ _ _ h => h) HS0.out (by kernel_rfl) (fun W hW => by obtain ⟨h1, h2, h3⟩ := hW; go_simp) ?_
        simp only [Act.put, List.setIfInBounds_toArray, List.set_cons_zero, List.set_cons_succ]
        refine wpAnyH_ready (rs := [14]) (by kernel_rfl) (by simp) (AllReadyH.cons rfl (fun K1 hK1 => ?_) AllReadyH.nil)
        rw [if_pos (by kernel_rfl)]
        go_simp
        go_at_call 34
        have HCA := Lib.hid (contains_any (w := wr.drew) (c := cr) HRL.out (by rw [ofN_len]; have := HRF.out; omega) (x0 : Int))
        rw [ofN_len, ← HRN.out] at HCA
        refine HCA.out.mono ?_
        rintro e w9 ⟨rfl, rfl⟩
        rw [← HON.out]
        refine hK1.out _ _ HS0.out (fun _ => ?_)
        generalize hbb : onLoop (outN G) [x0] = bb at *
        refine takeG (i := 15) (some 31) (.bool bb) rfl rfl (by kernel_rfl) (by kernel_rfl) (by kernel_rfl) (fun _ _ _ h => h) HS0.out (by kernel_rfl) (fun W hW => by go_simp) ?_
        simp only [Act.put, List.setIfInBounds_toArray, List.set_cons_zero, List.set_cons_succ]
        refine wpAnyH_done (by kernel_rfl) ?_ _
        refine NoPanic.normal ?_
        have HOW2 : Hid (OwnI wr.drew w7.heap.size (.slice AL (upL (outN G) Ps k).length cL) (ofNs (upL (outN G) Ps k))) := HOW
        cases bb with
        | true =>
          have hlx : LieI wr.drew w7.heap.size (some ⟨gB, oB, none⟩) (ofNs [x0]) := HLI.out
          have hsd : w7.heap.size ≤ wr.drew.heap.size := HSZ.out
          have hl6 := hl5.out rfl
          go_wp2_with (refine wpl_row rfl (.tmp 32) (.tmp 33) rfl w7.heap.size _ _ rfl HOW2.out (some ⟨gB, oB, none⟩) (ofNs [x0]) cb w7.heap.size rfl hlx hl6 hsd ?_; refine Hid.out ?_)
          refine Lib.hid ?_
          intro v' w3 g1 g2 _
          have HN := Lib.hid (HAPP.out wr.drew v' w3 rfl ⟨rfl, rfl, rfl⟩ g1 g2 (by first | rfl | trivial))
          clear g1 g2
          go_wp2_with fail
          go_roundw
          case rel => exact ⟨k + 1, by omega, by go_num, HN⟩
          case measure => simp [intOf]; omega
        | false =>
          have hst := HST.out
          rw [if_neg (by decide), List.append_nil] at hst
          have HN : Hid (OwnI wr.drew w7.heap.size (.slice AL (upL (outN G) Ps k).length cL) (ofNs (upL (outN G) Ps (k + 1))) ∧ Below w7.heap.size w7 wr.drew) := Lib.hid (by
            have hb := HBW.out
            rw [hst]
            exact ⟨HOW2.out, ⟨hb.os, hb.tape, hb.output, hb.size, hb.block⟩⟩)
          go_wp2_with fail
          go_roundw
          case rel => exact ⟨k + 1, by omega, by go_num, HN⟩
          case measure => simp [intOf]; omega
    · obtain rfl : k = m := by omega
      have hall : upL (outN G) Ps k = (Ps.filter (onLoop (outN G))).flatten := by
        unfold upL
        rw [HM.out, List.take_length]
      rw [hall] at hr ⊢
      have hlen : (ofNs (Ps.filter (onLoop (outN G))).flatten).length ≤ 100000 := by rw [ofN_len]; omega
      have HOW := Lib.hid hr.out.1
      have HLS := Lib.hid (loops_sorted HW7.out HP7.out)
      have HBB := Lib.hid hr.out.2
      have HLEN := Lib.hid hlen
      clear hr hall hlen
      generalize (Ps.filter (onLoop (outN G))).flatten = LL at *
      go_wp2_with (first
        | (go_at_call 35; refine (sort_own HOW.out HLEN.out).mono ?_; rintro e w9 ⟨rfl, hs1, hs2⟩; rw [HLS.out] at hs1; have HS1 := Lib.hid hs1; have HS2 := Lib.hid hs2; clear hs1 hs2)
        | fail)
      refine bodyPost_ret (results_tmp rfl _ _ _) rfl ?_
      have hsz := HBB.out.size
      exact HS1.out.says ((HX7.out.trans (HBB.out.mono (by have := HX7.out.size; omega))).trans ((((Below.refl _ wr).mono hsz).grown HS2.out hsz fun j ej => (World.ownsRow.lt HOW.out j ej).1).mono (by have := HX7.out.size; omega)))
end Go.Proofs.Ytmbjmibjobpdgaa

/-
  The document's Parser: unary, Expr.
  The document's Parser: prim, at a token that says it by itself.
  The document's Parser: want, list, prim at a list.
  The document's Parser: what it makes of tokens; Parse, of a text that is an expression.
  The document's Parse, of a text that is an expression.
  The document's Parse, of the texts at which the openings look.
  The landed package parse: what it asks of small right expressions (constants, variables, sums, comparisons, lists).
  The landed parse: isRightAlone, of small right expressions.
  The landed parse: countParts; Right, of small right expressions.
  The landed parse.Right, of small right expressions.
-/
import Derived.Test.YtcmohggnehkjeaaGreatGD
import Derived.Deep.AppendLies
import Derived.BigFrame
import Derived.Test.YtcmohggnehkjeaaGreatGB
namespace Go.Proofs.YtcmohggnehkjeaaGreat
open Go.RowKit

section
variable {P : Nat} {L : Value} {ts : List (Nat × Tk)} {en : Int} {d i j k : Nat} {t u : ET}
set_option maxRecDepth 20000 in
set_option maxHeartbeats 4000000 in
theorem unary_post (hd : d < 100) (hs0 : isW ts i ⟨#[45]⟩ = false) (hs1 : isW ts i ⟨#[33]⟩ = false) (hC : Does 225 P L ts en (d + 1) i t j) : Does 222 P L ts en d i t j := by
  intro w h
  have Dn := Lib.hid (down_ok (h.boxed (.cells zero10 44)) hd)
  have C := Lib.hid hC
  have H := Lib.hid h
  have SF := float_store
  clear hC h
  go_enter Tryz.func222, Tryz.ntmps222
  go_wp2_with (first
    | (go_at_call 142; refine Dn.out.mono ?_; rintro e w0 ⟨rfl, h0, p0⟩; refine Hid.out ?_))
  refine Lib.hid ?_
  have hw0 : w.heap.size < w0.heap.size := by have := p0.size; simp at this; omega
  have A : Hid (Amid w P L ts en (d + 1) i w.heap.size w0.heap.size zero10 zero10 zeroE (w0.alloc (.cells zero10 44))) := Lib.hid
    ⟨h0.boxed _, (((Pst.refl P w).alloc _).trans p0).alloc _, ((EB.new w zero10).pst p0 (by have := H.out.lt; omega)).alloc _, EB.new _ _, H.out.lt, Nat.le_refl _, hw0, zeroE_own _ _⟩
  clear p0 h0 hw0 H
  go_wp2_with (first
    | (go_at_call 144; refine (take_no A.out.ps hs0).mono ?_; rintro e w2 ⟨rfl, h3, p3⟩; replace A := Lib.hid (A.out.call p3 h3); clear h3 p3; refine Hid.out ?_))
  refine Lib.hid ?_
  go_wp2_with (first
    | (go_at_call 144; (with_reducible refine (take_no A.out.ps hs1).mono ?_); rintro e w3 ⟨rfl, h3, p3⟩; replace A := Lib.hid (A.out.call p3 h3); clear h3 p3)
    | (go_at_call 225; refine (C.out _ A.out.ps).mono ?_; rintro e w4 ⟨v, rfl, hv, h4, p4⟩; have hv' := Lib.hid (A.out.fresh hv); replace A := Lib.hid (A.out.call p4 h4); have hv10 := Lib.hid (And.intro hv.size hv.one); clear hv h4 p4)
    | (refine stE rfl (.tmp 3) (.tmp 18) rfl w0.heap.size v zero10 rfl rfl A.out.x rfl hv10.out.1 hv10.out.2 ?_; refine Hid.out ?_))
  refine Lib.hid ?_
  replace A := Lib.hid (A.out.put hv'.out)
  generalize World.setRow w4 w0.heap.size v = w5 at *
  obtain ⟨z0, z1, z2, z3, z4, z5, zf⟩ := A.out.ps.cells
  have zl := A.out.ps.lt
  have A' := Lib.hid (A.out.call ((Pst.refl P _).set 5 (.int .i64 (d : Nat))) (A.out.ps.set5 d))
  go_wp2_with (first
    | (refine ldE rfl (.tmp 3) rfl w0.heap.size v rfl A'.out.x hv10.out.1 ?_)
    | (refine stE rfl (.tmp 2) (.tmp 26) rfl w.heap.size v zero10 rfl rfl A'.out.res rfl hv10.out.1 hv10.out.2 ?_; refine Hid.out ?_))
  refine Lib.hid ?_
  go_wp2_with fail
  obtain ⟨d1, d2, d3, d4⟩ := A'.out.done
  exact bodyPost_ret (results_ten rfl _ _ w.heap.size v rfl d1 hv10.out.1) rfl ⟨v, rfl, d2, d3, d4⟩
set_option maxRecDepth 20000 in
set_option maxHeartbeats 4000000 in
theorem Expr_or (hd : d < 100) (hs : isW ts j ⟨#[63]⟩ = false) (hC : Does 143 P L ts en (d + 1) i t j) : Does 105 P L ts en d i t j := by
  intro w h
  have Dn := Lib.hid (down_ok (h.boxed (.cells zero10 44)) hd)
  have C := Lib.hid hC
  have H := Lib.hid h
  clear hC h
  go_enter Tryz.func105, Tryz.ntmps105
  go_wp2_with (first
    | (go_at_call 142; refine Dn.out.mono ?_; rintro e w0 ⟨rfl, h0, p0⟩; refine Hid.out ?_))
  refine Lib.hid ?_
  go_wp2_with (first
    | (go_at_call 143; refine (C.out _ h0).mono ?_; rintro e w1 ⟨v, rfl, hv, h1, p1⟩; have A := Lib.hid (Amid.start (xv := v) (t := t) H.out (p0.trans p1) (hv.imp fun g hg _ => Nat.le_trans p0.size hg) h1); have hv10 := Lib.hid (And.intro hv.size hv.one); clear hv h1 p1 h0 p0)
    | (refine stE rfl (.tmp 3) (.tmp 9) rfl w1.heap.size v _ rfl rfl (EB.new _ _) rfl hv10.out.1 hv10.out.2 ?_; refine Hid.out ?_))
  refine Lib.hid ?_
  rw [alloc_setRow]
  obtain ⟨w2, hw2⟩ : ∃ W, W = w1.alloc (.cells v 44) := ⟨_, rfl⟩
  rw [← hw2] at A ⊢
  obtain ⟨S, hS⟩ : ∃ S, S = w1.heap.size := ⟨_, rfl⟩
  rw [← hS] at A ⊢
  clear hw2 hS
  go_wp2_with (first
    | (go_at_call 144; (with_reducible refine (take_no A.out.ps hs).mono ?_); rintro e w3 ⟨rfl, h3, p3⟩; replace A := Lib.hid (A.out.call p3 h3); clear h3 p3; refine Hid.out ?_))
  refine Lib.hid ?_
  obtain ⟨z0, z1, z2, z3, z4, z5, zf⟩ := A.out.ps.cells
  have zl := A.out.ps.lt
  have A' := Lib.hid (A.out.call ((Pst.refl P _).set 5 (.int .i64 (d : Nat))) (A.out.ps.set5 d))
  go_wp2_with (first
    | (refine ldE rfl (.tmp 3) rfl S v rfl A'.out.x hv10.out.1 ?_)
    | (refine stE rfl (.tmp 2) (.tmp 30) rfl w.heap.size v zero10 rfl rfl A'.out.res rfl hv10.out.1 hv10.out.2 ?_; refine Hid.out ?_))
  refine Lib.hid ?_
  go_wp2_with fail
  obtain ⟨d1, d2, d3, d4⟩ := A'.out.done
  exact bodyPost_ret (results_ten rfl _ _ w.heap.size v rfl d1 hv10.out.1) rfl ⟨v, rfl, d2, d3, d4⟩
end
end Go.Proofs.YtcmohggnehkjeaaGreat
namespace Go.Proofs.YtcmohggnehkjeaaGreat
open Go.RowKit

/-- Amid a call that holds nothing yet: the result's box R. -/
structure Half (w : World) (P : Nat) (L : Value) (ts : List (Nat × Tk)) (en : Int) (d j R : Nat) (wr : World) : Prop where
  ps : PS wr P L ts en j d
  pst : Pst P w wr
  res : EB wr R zero10
  hP : P < w.heap.size
  hR : w.heap.size ≤ R
theorem Half.call {w wr w2 : World} {P : Nat} {L : Value} {ts : List (Nat × Tk)} {en : Int} {d i j d' R : Nat} (h : Half w P L ts en d i R wr) (hp : Pst P wr w2) (hs : PS w2 P L ts en j d') : Half w P L ts en d' j R w2 :=
  ⟨hs, h.pst.trans hp, h.res.pst hp (by have := h.hP; have := h.hR; omega), h.hP, h.hR⟩
theorem Half.start {w : World} {P : Nat} {L : Value} {ts : List (Nat × Tk)} {en : Int} {d i : Nat} (h : PS w P L ts en i d) : Half w P L ts en d i w.heap.size (w.alloc (.cells zero10 44)) :=
  ⟨h.boxed _, (Pst.refl P w).alloc _, EB.new _ _, h.lt, Nat.le_refl _⟩
theorem Half.tell {w wr w2 : World} {P : Nat} {L : Value} {ts : List (Nat × Tk)} {en : Int} {d j R : Nat} (h : Half w P L ts en d j R wr) {u : Array Value} {t : ET} {j' d' : Nat} (hp : Pst P wr w2) (hs : PS w2 P L ts en j' d') (hu : EOwn w2 (fun g => wr.heap.size ≤ g) u t) :
    EB (w2.setRow R u) R u ∧ EOwn (w2.setRow R u) (fun g => w.heap.size ≤ g) u t ∧ PS (w2.setRow R u) P L ts en j' d' ∧ Pst P w (w2.setRow R u) := by
  have h1 := h.hP
  have h2 := h.hR
  have h3 := h.res.lt
  have h4 := h.call hp hs
  refine ⟨h4.res.set _, ?_, hs.row (by omega) _, h4.pst.row h2 _⟩
  exact (hu.keep (by simp [World.setRow]) fun g hg hl => setRow_other _ _ _ _ (by omega)).imp fun g hg _ => by omega
section
variable {P : Nat} {L : Value} {ts : List (Nat × Tk)} {en : Int} {d i j k : Nat} {t u : ET}
theorem kw_ne {s m : List UInt8} (h : s ∉ kwL) (hm : m ∈ kwL) : ((strL s).toList == m) = false := by
  apply beq_no
  intro e
  apply h
  rw [str_is] at e
  have : s = m := by simpa [strL] using e
  rw [this]
  exact hm
set_option maxRecDepth 20000 in
set_option maxHeartbeats 4000000 in
theorem prim_tok2 (hi : i < ts.length) (hk : ts[i].2.k = 2) (hs0 : isW ts i ⟨#[40]⟩ = false) (hs1 : isW ts i ⟨#[91]⟩ = false) (hs2 : isW ts i ⟨#[123]⟩ = false) (ht : tokE ts[i].2 = some t) : Does 227 P L ts en d i t (i + 1) := by
  have hT : ts[i].2.n < 9223372036854775808 ∧ conE 2 ts[i].2.n 0 = t := by
    unfold tokE at ht
    rw [if_pos hk] at ht
    split at ht
    · injection ht with ht
      exact ⟨by assumption, ht⟩
    · cases ht
  obtain ⟨hlim, rfl⟩ := hT
  intro w h
  have A := Lib.hid (Half.start h)
  have SF := float_store
  clear h
  have Z := A.out.ps.cells
  unfold zero10 at Z
  obtain ⟨z0, z1, z2, z3, z4, z5, zf⟩ := Z
  go_enter Tryz.func227, Tryz.ntmps227
  go_wp2_with (first
    | (go_at_call 144; refine (take_no A.out.ps hs0).mono ?_; rintro e w2 ⟨rfl, h3, p3⟩; replace A := Lib.hid (A.out.call p3 h3); clear h3 p3 z0 z1 z2 z3 z4 z5 zf; refine Hid.out ?_))
  refine Lib.hid ?_
  go_wp2_with (first
    | (go_at_call 144; (with_reducible refine (take_no A.out.ps hs1).mono ?_); rintro e w3 ⟨rfl, h3, p3⟩; replace A := Lib.hid (A.out.call p3 h3); clear h3 p3)
    | (go_at_call 144; (with_reducible refine (take_no A.out.ps hs2).mono ?_); rintro e w3 ⟨rfl, h3, p3⟩; replace A := Lib.hid (A.out.call p3 h3); clear h3 p3; refine Hid.out ?_))
  refine Lib.hid ?_
  obtain ⟨z0, z1, z2, z3, z4, z5, zf⟩ := A.out.ps.cells
  obtain ⟨Ad, cap, hL, hl, hcap, hmx, hx⟩ := A.out.ps.toks
  obtain ⟨g, hA, hg, hsix⟩ := hx (by omega)
  subst hA hL
  obtain ⟨c0, c1, c2, c3, c4, c5⟩ := hsix i hi
  rw [hk] at c0
  have ti : (i : Int) < ts.length := by omega
  have ti0 : (0 : Int) ≤ i := by omega
  have ti2 : ¬ (ts.length : Int) ≤ i := by omega
  have ti3 : i < 2000 := by omega
  have hgl : g < w3.heap.size := by have := A.out.ps.lt; omega
  have hPl := A.out.ps.lt
  clear hx hsix hcap hmx hl
  go_wp2_with fail
  go_quiet (fail)
  have hd := drewN_ps A.out.ps nq
  replace A := Lib.hid (A.out.call hd.2 hd.1)
  generalize w3.drewN nq = w4 at *
  clear hd c0 c1 c2 c3 c4 c5 z0 z1 z2 z3 z4 z5 zf
  obtain ⟨z0, z1, z2, z3, z4, z5, zf⟩ := A.out.ps.cells
  obtain ⟨Ad', cap', hL', hl', hcap', hmx', hx'⟩ := A.out.ps.toks
  injection hL' with e1 e2 e3
  subst e1 e3
  obtain ⟨g', hA', hg', hsix'⟩ := hx' (by omega)
  injection hA' with e1
  injection e1 with e1 _ _
  subst e1
  obtain ⟨c0, c1, c2, c3, c4, c5⟩ := hsix' i hi
  rw [hk] at c0
  have hPl4 := A.out.ps.lt
  clear hx' hsix' hcap' hmx' hl' e2
  go_wp2_with fail
  generalize hnx : ((ts[i].1 + ts[i].2.len : Nat) : Int) = nx at *
  generalize hss : strL ts[i].2.s = ss at *
  generalize hff : ts[i].2.f = ff at *
  generalize hnn : ts[i].2.n = nn at *
  generalize ts[i].1 = bb at *
  have HH := Lib.hid (And.intro hss (And.intro hff hnn))
  clear hnx hss hff hnn
  go_region_held3 (fun W => W.cell? ⟨P, 0, none⟩ = some (.slice (some ⟨g, 0, none⟩) ts.length cap) ∧ W.cell? ⟨P, 1, none⟩ = some (.int .i64 i) ∧ W.cell? ⟨g, i * 6, none⟩ = some (.int .i64 2) ∧ W.cell? ⟨g, i * 6 + 1, none⟩ = some (.int .i64 bb) ∧ W.cell? ⟨g, i * 6 + 2, none⟩ = some (.int .i64 nx) ∧ W.cell? ⟨g, i * 6 + 3, none⟩ = some (.int .i64 nn) ∧ W.cell? ⟨g, i * 6 + 4, none⟩ = some (.float .f64 ff) ∧ W.cell? ⟨g, i * 6 + 5, none⟩ = some (.string ss)) (go_keep) (fail)
  all_goals
    have hT : w4.heap.size ≠ P := by omega
    have hT' : P ≠ w4.heap.size := by omega
    obtain ⟨w5, hw5⟩ : ∃ W, W = (w4.alloc (.cells #[.int .i64 2, .int .i64 bb, .int .i64 nx, .int .i64 nn, .float .f64 ff, .string ss] 174)).drew := ⟨_, rfl⟩
    have hb5 : Below w4.heap.size w4 w5 := by rw [hw5]; exact ((Below.refl _ _).alloc (Nat.le_refl _) _).drew
    have hr5 : w5.heap[w4.heap.size]? = some (.cells #[.int .i64 2, .int .i64 bb, .int .i64 nx, .int .i64 nn, .float .f64 ff, .string ss] 174 (0, 0)) := by rw [hw5]; exact heap_alloc_new w4 _
    have A5 := Lib.hid (A.out.call (Pst.of_below hb5) (A.out.ps.stay hb5))
    rw [← hw5]
    clear hw5 hb5 A z0 z1 z2 z3 z4 z5 zf c0 c1 c2 c3 c4 c5
    obtain ⟨z0, z1, z2, z3, z4, z5, zf⟩ := A5.out.ps.cells
    have hl5 := A5.out.ps.lt
    have t0 : w5.cell? ⟨w4.heap.size, 0, none⟩ = some (.int .i64 2) := by rw [cell_of_row w5 _ _ _ _ _ hr5]; rfl
    have t3 : w5.cell? ⟨w4.heap.size, 3, none⟩ = some (.int .i64 nn) := by rw [cell_of_row w5 _ _ _ _ _ hr5]; rfl
    have t4 : w5.cell? ⟨w4.heap.size, 4, none⟩ = some (.float .f64 ff) := by rw [cell_of_row w5 _ _ _ _ _ hr5]; rfl
    have t5 : w5.cell? ⟨w4.heap.size, 5, none⟩ = some (.string ss) := by rw [cell_of_row w5 _ _ _ _ _ hr5]; rfl
    have A6 := Lib.hid (A5.out.call ((Pst.refl P _).set 1 (.int .i64 ((i + 1 : Nat) : Int))) (A5.out.ps.set1 (i + 1)))
    clear hr5
    go_wp2_with fail
    refine (con_any (k := 2) (n := nn) (f := 0) (by decide) (by omega) (by decide)).mono ?_
    rintro e w7 ⟨v, rfl, hv, hb7⟩
    have hv10 := Lib.hid (And.intro hv.size hv.one)
    have hs7 := A6.out.ps.stay hb7
    have TL := Lib.hid (A6.out.tell (Pst.of_below hb7) hs7 hv)
    have HR := Lib.hid (A6.out.call (Pst.of_below hb7) hs7).res
    clear hv hs7 hb7
    go_wp2_with (refine stE rfl (.tmp 2) (.tmp 81) rfl w.heap.size v zero10 rfl rfl HR.out rfl hv10.out.1 hv10.out.2 ?_; refine Hid.out ?_)
    refine Lib.hid ?_
    go_wp2_with fail
    obtain ⟨d1, d2, d3, d4⟩ := TL.out
    exact bodyPost_ret (results_ten rfl _ _ w.heap.size v rfl d1 hv10.out.1) rfl ⟨v, rfl, by rw [HH.out.2.2]; exact d2, d3, d4⟩
set_option maxRecDepth 20000 in
set_option maxHeartbeats 4000000 in
theorem prim_tok3 (hi : i < ts.length) (hk : ts[i].2.k = 3) (hs0 : isW ts i ⟨#[40]⟩ = false) (hs1 : isW ts i ⟨#[91]⟩ = false) (hs2 : isW ts i ⟨#[123]⟩ = false) (ht : tokE ts[i].2 = some t) : Does 227 P L ts en d i t (i + 1) := by
  have hT : ts[i].2.f < 18446744073709551616 ∧ conE 3 0 ts[i].2.f = t := by
    unfold tokE at ht
    rw [if_neg (by omega), if_pos hk] at ht
    split at ht
    · injection ht with ht
      exact ⟨by assumption, ht⟩
    · cases ht
  obtain ⟨hlim, rfl⟩ := hT
  intro w h
  have A := Lib.hid (Half.start h)
  have SF := float_store
  clear h
  have Z := A.out.ps.cells
  unfold zero10 at Z
  obtain ⟨z0, z1, z2, z3, z4, z5, zf⟩ := Z
  go_enter Tryz.func227, Tryz.ntmps227
  go_wp2_with (first
    | (go_at_call 144; refine (take_no A.out.ps hs0).mono ?_; rintro e w2 ⟨rfl, h3, p3⟩; replace A := Lib.hid (A.out.call p3 h3); clear h3 p3 z0 z1 z2 z3 z4 z5 zf; refine Hid.out ?_))
  refine Lib.hid ?_
  go_wp2_with (first
    | (go_at_call 144; (with_reducible refine (take_no A.out.ps hs1).mono ?_); rintro e w3 ⟨rfl, h3, p3⟩; replace A := Lib.hid (A.out.call p3 h3); clear h3 p3)
    | (go_at_call 144; (with_reducible refine (take_no A.out.ps hs2).mono ?_); rintro e w3 ⟨rfl, h3, p3⟩; replace A := Lib.hid (A.out.call p3 h3); clear h3 p3; refine Hid.out ?_))
  refine Lib.hid ?_
  obtain ⟨z0, z1, z2, z3, z4, z5, zf⟩ := A.out.ps.cells
  obtain ⟨Ad, cap, hL, hl, hcap, hmx, hx⟩ := A.out.ps.toks
  obtain ⟨g, hA, hg, hsix⟩ := hx (by omega)
  subst hA hL
  obtain ⟨c0, c1, c2, c3, c4, c5⟩ := hsix i hi
  rw [hk] at c0
  have ti : (i : Int) < ts.length := by omega
  have ti0 : (0 : Int) ≤ i := by omega
  have ti2 : ¬ (ts.length : Int) ≤ i := by omega
  have ti3 : i < 2000 := by omega
  have hgl : g < w3.heap.size := by have := A.out.ps.lt; omega
  have hPl := A.out.ps.lt
  clear hx hsix hcap hmx hl
  go_wp2_with fail
  go_quiet (fail)
  have hd := drewN_ps A.out.ps nq
  replace A := Lib.hid (A.out.call hd.2 hd.1)
  generalize w3.drewN nq = w4 at *
  clear hd c0 c1 c2 c3 c4 c5 z0 z1 z2 z3 z4 z5 zf
  obtain ⟨z0, z1, z2, z3, z4, z5, zf⟩ := A.out.ps.cells
  obtain ⟨Ad', cap', hL', hl', hcap', hmx', hx'⟩ := A.out.ps.toks
  injection hL' with e1 e2 e3
  subst e1 e3
  obtain ⟨g', hA', hg', hsix'⟩ := hx' (by omega)
  injection hA' with e1
  injection e1 with e1 _ _
  subst e1
  obtain ⟨c0, c1, c2, c3, c4, c5⟩ := hsix' i hi
  rw [hk] at c0
  have hPl4 := A.out.ps.lt
  clear hx' hsix' hcap' hmx' hl' e2
  go_wp2_with fail
  generalize hnx : ((ts[i].1 + ts[i].2.len : Nat) : Int) = nx at *
  generalize hss : strL ts[i].2.s = ss at *
  generalize hff : ts[i].2.f = ff at *
  generalize hnn : ts[i].2.n = nn at *
  generalize ts[i].1 = bb at *
  have HH := Lib.hid (And.intro hss (And.intro hff hnn))
  clear hnx hss hff hnn
  go_region_held3 (fun W => W.cell? ⟨P, 0, none⟩ = some (.slice (some ⟨g, 0, none⟩) ts.length cap) ∧ W.cell? ⟨P, 1, none⟩ = some (.int .i64 i) ∧ W.cell? ⟨g, i * 6, none⟩ = some (.int .i64 3) ∧ W.cell? ⟨g, i * 6 + 1, none⟩ = some (.int .i64 bb) ∧ W.cell? ⟨g, i * 6 + 2, none⟩ = some (.int .i64 nx) ∧ W.cell? ⟨g, i * 6 + 3, none⟩ = some (.int .i64 nn) ∧ W.cell? ⟨g, i * 6 + 4, none⟩ = some (.float .f64 ff) ∧ W.cell? ⟨g, i * 6 + 5, none⟩ = some (.string ss)) (go_keep) (fail)
  all_goals
    have hT : w4.heap.size ≠ P := by omega
    have hT' : P ≠ w4.heap.size := by omega
    obtain ⟨w5, hw5⟩ : ∃ W, W = (w4.alloc (.cells #[.int .i64 3, .int .i64 bb, .int .i64 nx, .int .i64 nn, .float .f64 ff, .string ss] 174)).drew := ⟨_, rfl⟩
    have hb5 : Below w4.heap.size w4 w5 := by rw [hw5]; exact ((Below.refl _ _).alloc (Nat.le_refl _) _).drew
    have hr5 : w5.heap[w4.heap.size]? = some (.cells #[.int .i64 3, .int .i64 bb, .int .i64 nx, .int .i64 nn, .float .f64 ff, .string ss] 174 (0, 0)) := by rw [hw5]; exact heap_alloc_new w4 _
    have A5 := Lib.hid (A.out.call (Pst.of_below hb5) (A.out.ps.stay hb5))
    rw [← hw5]
    clear hw5 hb5 A z0 z1 z2 z3 z4 z5 zf c0 c1 c2 c3 c4 c5
    obtain ⟨z0, z1, z2, z3, z4, z5, zf⟩ := A5.out.ps.cells
    have hl5 := A5.out.ps.lt
    have t0 : w5.cell? ⟨w4.heap.size, 0, none⟩ = some (.int .i64 3) := by rw [cell_of_row w5 _ _ _ _ _ hr5]; rfl
    have t3 : w5.cell? ⟨w4.heap.size, 3, none⟩ = some (.int .i64 nn) := by rw [cell_of_row w5 _ _ _ _ _ hr5]; rfl
    have t4 : w5.cell? ⟨w4.heap.size, 4, none⟩ = some (.float .f64 ff) := by rw [cell_of_row w5 _ _ _ _ _ hr5]; rfl
    have t5 : w5.cell? ⟨w4.heap.size, 5, none⟩ = some (.string ss) := by rw [cell_of_row w5 _ _ _ _ _ hr5]; rfl
    have A6 := Lib.hid (A5.out.call ((Pst.refl P _).set 1 (.int .i64 ((i + 1 : Nat) : Int))) (A5.out.ps.set1 (i + 1)))
    clear hr5
    go_wp2_with fail
    refine (con_any (k := 3) (n := 0) (f := ff) (by decide) (by decide) (by exact hlim)).mono ?_
    rintro e w7 ⟨v, rfl, hv, hb7⟩
    have hv10 := Lib.hid (And.intro hv.size hv.one)
    have hs7 := A6.out.ps.stay hb7
    have TL := Lib.hid (A6.out.tell (Pst.of_below hb7) hs7 hv)
    have HR := Lib.hid (A6.out.call (Pst.of_below hb7) hs7).res
    clear hv hs7 hb7
    go_wp2_with (refine stE rfl (.tmp 2) (.tmp 87) rfl w.heap.size v zero10 rfl rfl HR.out rfl hv10.out.1 hv10.out.2 ?_; refine Hid.out ?_)
    refine Lib.hid ?_
    go_wp2_with fail
    obtain ⟨d1, d2, d3, d4⟩ := TL.out
    exact bodyPost_ret (results_ten rfl _ _ w.heap.size v rfl d1 hv10.out.1) rfl ⟨v, rfl, by rw [HH.out.2.1]; exact d2, d3, d4⟩
set_option maxRecDepth 20000 in
set_option maxHeartbeats 4000000 in
theorem prim_tok5 (hi : i < ts.length) (hk : ts[i].2.k = 5) (hs0 : isW ts i ⟨#[40]⟩ = false) (hs1 : isW ts i ⟨#[91]⟩ = false) (hs2 : isW ts i ⟨#[123]⟩ = false) (ht : tokE ts[i].2 = some t) : Does 227 P L ts en d i t (i + 1) := by
  have hT : (ts[i].2.s ∉ kwL ∧ ts[i].2.s.length ≤ 2000) ∧ varE (strL ts[i].2.s) = t := by
    unfold tokE at ht
    rw [if_neg (by omega), if_neg (by omega), if_pos hk] at ht
    split at ht
    · cases ht
    · split at ht
      · injection ht with ht
        exact ⟨⟨by assumption, by assumption⟩, ht⟩
      · cases ht
  obtain ⟨⟨hkw, hlen⟩, rfl⟩ := hT
  have q0 := kw_ne hkw (m := [116, 114, 117, 101]) (by decide)
  have q1 := kw_ne hkw (m := [102, 97, 108, 115, 101]) (by decide)
  have q2 := kw_ne hkw (m := [108, 101, 110]) (by decide)
  have q3 := kw_ne hkw (m := [102, 108, 111, 97, 116]) (by decide)
  have q4 := kw_ne hkw (m := [105, 110, 116]) (by decide)
  have q5 := kw_ne hkw (m := [115, 116, 114]) (by decide)
  have hlim : (strL ts[i].2.s).size ≤ 2000 := hlen
  clear hkw hlen
  intro w h
  have A := Lib.hid (Half.start h)
  have SF := float_store
  clear h
  have Z := A.out.ps.cells
  unfold zero10 at Z
  obtain ⟨z0, z1, z2, z3, z4, z5, zf⟩ := Z
  go_enter Tryz.func227, Tryz.ntmps227
  go_wp2_with (first
    | (go_at_call 144; refine (take_no A.out.ps hs0).mono ?_; rintro e w2 ⟨rfl, h3, p3⟩; replace A := Lib.hid (A.out.call p3 h3); clear h3 p3 z0 z1 z2 z3 z4 z5 zf; refine Hid.out ?_))
  refine Lib.hid ?_
  go_wp2_with (first
    | (go_at_call 144; (with_reducible refine (take_no A.out.ps hs1).mono ?_); rintro e w3 ⟨rfl, h3, p3⟩; replace A := Lib.hid (A.out.call p3 h3); clear h3 p3)
    | (go_at_call 144; (with_reducible refine (take_no A.out.ps hs2).mono ?_); rintro e w3 ⟨rfl, h3, p3⟩; replace A := Lib.hid (A.out.call p3 h3); clear h3 p3; refine Hid.out ?_))
  refine Lib.hid ?_
  obtain ⟨z0, z1, z2, z3, z4, z5, zf⟩ := A.out.ps.cells
  obtain ⟨Ad, cap, hL, hl, hcap, hmx, hx⟩ := A.out.ps.toks
  obtain ⟨g, hA, hg, hsix⟩ := hx (by omega)
  subst hA hL
  obtain ⟨c0, c1, c2, c3, c4, c5⟩ := hsix i hi
  rw [hk] at c0
  have ti : (i : Int) < ts.length := by omega
  have ti0 : (0 : Int) ≤ i := by omega
  have ti2 : ¬ (ts.length : Int) ≤ i := by omega
  have ti3 : i < 2000 := by omega
  have hgl : g < w3.heap.size := by have := A.out.ps.lt; omega
  have hPl := A.out.ps.lt
  clear hx hsix hcap hmx hl
  go_wp2_with fail
  go_quiet (fail)
  have hd := drewN_ps A.out.ps nq
  replace A := Lib.hid (A.out.call hd.2 hd.1)
  generalize w3.drewN nq = w4 at *
  clear hd c0 c1 c2 c3 c4 c5 z0 z1 z2 z3 z4 z5 zf
  obtain ⟨z0, z1, z2, z3, z4, z5, zf⟩ := A.out.ps.cells
  obtain ⟨Ad', cap', hL', hl', hcap', hmx', hx'⟩ := A.out.ps.toks
  injection hL' with e1 e2 e3
  subst e1 e3
  obtain ⟨g', hA', hg', hsix'⟩ := hx' (by omega)
  injection hA' with e1
  injection e1 with e1 _ _
  subst e1
  obtain ⟨c0, c1, c2, c3, c4, c5⟩ := hsix' i hi
  rw [hk] at c0
  have hPl4 := A.out.ps.lt
  clear hx' hsix' hcap' hmx' hl' e2
  go_wp2_with fail
  generalize hnx : ((ts[i].1 + ts[i].2.len : Nat) : Int) = nx at *
  generalize hss : strL ts[i].2.s = ss at *
  generalize hff : ts[i].2.f = ff at *
  generalize hnn : ts[i].2.n = nn at *
  generalize ts[i].1 = bb at *
  have HH := Lib.hid (And.intro hss (And.intro hff hnn))
  clear hnx hss hff hnn
  go_region_held3 (fun W => W.cell? ⟨P, 0, none⟩ = some (.slice (some ⟨g, 0, none⟩) ts.length cap) ∧ W.cell? ⟨P, 1, none⟩ = some (.int .i64 i) ∧ W.cell? ⟨g, i * 6, none⟩ = some (.int .i64 5) ∧ W.cell? ⟨g, i * 6 + 1, none⟩ = some (.int .i64 bb) ∧ W.cell? ⟨g, i * 6 + 2, none⟩ = some (.int .i64 nx) ∧ W.cell? ⟨g, i * 6 + 3, none⟩ = some (.int .i64 nn) ∧ W.cell? ⟨g, i * 6 + 4, none⟩ = some (.float .f64 ff) ∧ W.cell? ⟨g, i * 6 + 5, none⟩ = some (.string ss)) (go_keep) (fail)
  all_goals
    have hT : w4.heap.size ≠ P := by omega
    have hT' : P ≠ w4.heap.size := by omega
    obtain ⟨w5, hw5⟩ : ∃ W, W = (w4.alloc (.cells #[.int .i64 5, .int .i64 bb, .int .i64 nx, .int .i64 nn, .float .f64 ff, .string ss] 174)).drew := ⟨_, rfl⟩
    have hb5 : Below w4.heap.size w4 w5 := by rw [hw5]; exact ((Below.refl _ _).alloc (Nat.le_refl _) _).drew
    have hr5 : w5.heap[w4.heap.size]? = some (.cells #[.int .i64 5, .int .i64 bb, .int .i64 nx, .int .i64 nn, .float .f64 ff, .string ss] 174 (0, 0)) := by rw [hw5]; exact heap_alloc_new w4 _
    have A5 := Lib.hid (A.out.call (Pst.of_below hb5) (A.out.ps.stay hb5))
    rw [← hw5]
    clear hw5 hb5 A z0 z1 z2 z3 z4 z5 zf c0 c1 c2 c3 c4 c5
    obtain ⟨z0, z1, z2, z3, z4, z5, zf⟩ := A5.out.ps.cells
    have hl5 := A5.out.ps.lt
    have t0 : w5.cell? ⟨w4.heap.size, 0, none⟩ = some (.int .i64 5) := by rw [cell_of_row w5 _ _ _ _ _ hr5]; rfl
    have t3 : w5.cell? ⟨w4.heap.size, 3, none⟩ = some (.int .i64 nn) := by rw [cell_of_row w5 _ _ _ _ _ hr5]; rfl
    have t4 : w5.cell? ⟨w4.heap.size, 4, none⟩ = some (.float .f64 ff) := by rw [cell_of_row w5 _ _ _ _ _ hr5]; rfl
    have t5 : w5.cell? ⟨w4.heap.size, 5, none⟩ = some (.string ss) := by rw [cell_of_row w5 _ _ _ _ _ hr5]; rfl
    have A6 := Lib.hid (A5.out.call ((Pst.refl P _).set 1 (.int .i64 ((i + 1 : Nat) : Int))) (A5.out.ps.set1 (i + 1)))
    clear hr5
    have hv : EOwn (w5.setCell ⟨P, 1, none⟩ (.int .i64 ((i + 1 : Nat) : Int))) (fun g => (w5.setCell ⟨P, 1, none⟩ (.int .i64 ((i + 1 : Nat) : Int))).heap.size ≤ g) #[.int .i64 2, .string ss, .int .i64 0, .int .i64 0, .float .f64 0, .string ⟨#[]⟩, .slice none 0 0, .slice none 0 0, .slice none 0 0, .slice none 0 0] (varE ss) :=
      .mk 2 ss 0 0 0 ⟨#[]⟩ none 0 0 _ (fun _ => #[]) (by decide) (by unfold maxLen; omega) (by decide) (by decide) (by decide) (Nat.zero_le _) ⟨Nat.le_refl _, Nat.zero_le _⟩ (fun h => absurd h (Nat.lt_irrefl 0)) (fun i h => absurd h (Nat.not_lt_zero i))
    have TL := Lib.hid (A6.out.tell (Pst.refl P _) A6.out.ps hv)
    have HR := Lib.hid A6.out.res
    have h10 := Lib.hid hv.one
    clear hv
    go_wp2_with (refine stE rfl (.tmp 2) (.tmp 129) rfl w.heap.size _ zero10 rfl rfl HR.out rfl rfl h10.out ?_; refine Hid.out ?_)
    refine Lib.hid ?_
    go_wp2_with fail
    obtain ⟨d1, d2, d3, d4⟩ := TL.out
    exact bodyPost_ret (results_ten rfl _ _ w.heap.size _ rfl d1 rfl) rfl ⟨_, rfl, by rw [HH.out.1]; exact d2, d3, d4⟩
end
end Go.Proofs.YtcmohggnehkjeaaGreat
namespace Go.Proofs.YtcmohggnehkjeaaGreat
open Go.RowKit

theorem infoE : (Tryz.prog.info? 44).map (fun i => (i.zero, i.size, i.bytes)) = some (some (.agg zero10), 10, 160) := by kernel_rfl
theorem EB.setCell {w : World} {R : Nat} {v : Array Value} (h : EB w R v) (o : Nat) (u : Value) : EB (w.setCell ⟨R, o, none⟩ u) R (v.setIfInBounds o u) := by
  unfold EB at *
  simp [World.setCell, Array.getElem?_modify, h]
theorem EB.other {w : World} {R S : Nat} {v : Array Value} (h : EB w R v) (hS : S ≠ R) (o : Nat) (u : Value) : EB (w.setCell ⟨S, o, none⟩ u) R v :=
  h.of (Below.heap_setCell _ _ _ _ (by simp; omega))
theorem EB.cells {w : World} {R : Nat} {v : Array Value} (h : EB w R v) (o : Nat) : w.cell? ⟨R, o, none⟩ = v[o]? ∧ w.frozen? ⟨R, o, none⟩ = false :=
  ⟨cell_of_row w R o _ _ _ h, by unfold EB at h; simp [World.frozen?, h]⟩
def listV (A : Option Addr) (m c : Nat) : Array Value := efields 16 ⟨#[]⟩ (.int .i64 0) (.int .i64 0) (.float .f64 0) (.string ⟨#[]⟩) (.slice none 0 0) (.slice none 0 0) none 0 0 A m c
theorem listE0_own (w : World) (Q : Nat → Prop) : EOwn w Q (listV none 0 0) listE0 :=
  .mk 16 ⟨#[]⟩ 0 0 0 ⟨#[]⟩ none 0 0 _ (fun _ => #[]) (by decide) (Nat.zero_le _) (by decide) (by decide) (by decide) (Nat.zero_le _) ⟨Nat.le_refl _, Nat.zero_le _⟩ (fun h => absurd h (Nat.lt_irrefl 0)) (fun i h => absurd h (Nat.not_lt_zero i))
/-- A list of one, laid into the box that is held. -/
theorem Amid.list {w wr w2 : World} {P : Nat} {L : Value} {ts : List (Nat × Tk)} {en : Int} {d j R S : Nat} {t t0 : ET} {u0 u1 u2 u3 u4 u5 u6 u7 u8 u9 : Value} (h : Amid w P L ts en d j R S zero10 (listV none 0 0) t0 wr)
    (hu : EOwn wr (fun g => R < g ∧ g ≠ S) #[u0, u1, u2, u3, u4, u5, u6, u7, u8, u9] t) {g cap : Nat} (hb : Below wr.heap.size wr w2) (hown : w2.ownsRow wr.heap.size 44 10 (.slice (some ⟨g, 0, none⟩) 1 cap) 1 [u0, u1, u2, u3, u4, u5, u6, u7, u8, u9]) (hcap : 1 ≤ cap ∧ cap ≤ maxLen) :
    Amid w P L ts en d j R S zero10 (listV (some ⟨g, 0, none⟩) 1 cap) (listE1 t) (w2.setCell ⟨S, 9, none⟩ (.slice (some ⟨g, 0, none⟩) 1 cap)) := by
  have h1 := h.hP
  have h2 := h.hR
  have h3 := h.hRS
  have h4 := h.x.lt
  have A := h.call (Pst.of_below hb) (h.ps.stay hb)
  have hg := hown.lt g rfl
  have hk : ∀ k, k ≠ S → (w2.setCell ⟨S, 9, none⟩ (.slice (some ⟨g, 0, none⟩) 1 cap)).heap[k]? = w2.heap[k]? := fun k hk => Below.heap_setCell _ _ _ _ (by simpa using hk)
  have hsz : (w2.setCell ⟨S, 9, none⟩ (.slice (some ⟨g, 0, none⟩) 1 cap)).heap.size = w2.heap.size := by simp [World.setCell]
  refine ⟨A.ps.of (fun k hlt => hk k (by omega)) ((hk P (by omega)).trans A.ps.box), ?_, A.res.of (hk R (by omega)), A.x.setCell 9 _, h1, h2, h3, ?_⟩
  · exact ⟨A.pst.os, A.pst.tape, A.pst.output, by rw [hsz]; exact A.pst.size, fun k hlt hn => (hk k (by omega)).trans (A.pst.block k hlt hn)⟩
  · refine .mk 16 ⟨#[]⟩ 0 0 0 ⟨#[]⟩ _ 1 cap _ (fun _ => #[u0, u1, u2, u3, u4, u5, u6, u7, u8, u9]) (by decide) (Nat.zero_le _) (by decide) (by decide) (by decide) (Nat.zero_le _) hcap (fun _ => ⟨g, 0, rfl, ⟨by omega, by omega⟩, by rw [hsz]; exact hg.2, fun i hi k hk' => ?_⟩) (fun i hi => ?_)
    · obtain rfl : i = 0 := by omega
      have hc : (w2.setCell ⟨S, 9, none⟩ (.slice (some ⟨g, 0, none⟩) 1 cap)).cell? ⟨g, 0 + 0 * 10 + k, none⟩ = w2.cell? ⟨g, k, none⟩ := by
        rw [show 0 + 0 * 10 + k = k by omega]
        exact World.cell?_of_block (w := w2) (a := ⟨g, k, none⟩) (hk g (by omega))
      rw [hc]
      have := hown.cells (g := g) rfl k
      simp only [Addr.add_lit, Nat.zero_add] at this
      match k, hk' with
      | 0, _ | 1, _ | 2, _ | 3, _ | 4, _ | 5, _ | 6, _ | 7, _ | 8, _ | 9, _ => exact this _ rfl
    · refine (hu.keep (by rw [hsz]; exact hb.size) fun b hb' hl => ?_)
      exact (hk b hb'.2).trans (hb.block b hl)
section
variable {P : Nat} {L : Value} {ts : List (Nat × Tk)} {en : Int} {d i j k : Nat} {t u : ET}
set_option maxRecDepth 20000 in
set_option maxHeartbeats 4000000 in
theorem want_yes {w : World} (h : PS w P L ts en i d) {s : ByteArray} (hs : isW ts i s = true) : Calls Tryz.prog 145 #[.pointer (some ⟨P, 0, none⟩), .string s] w fun e w' => e = .returned (.tuple #[]) ∧ PS w' P L ts en (i + 1) d ∧ Pst P w w' := by
  have C := Lib.hid (take_yes h hs)
  clear h hs
  go_enter Tryz.func145, Tryz.ntmps145
  go_wp2_with (go_at_call 144; refine C.out.mono ?_; rintro e w1 ⟨rfl, h1, hp1⟩; have HH := Lib.hid (And.intro h1 hp1); clear h1 hp1)
  go_end0
  exact ⟨rfl, HH.out.1, HH.out.2⟩
set_option maxRecDepth 20000 in
set_option maxHeartbeats 4000000 in
theorem list_none (hs : isW ts i ⟨#[93]⟩ = true) : Does 229 P L ts en d i listE0 (i + 1) := by
  intro w h
  have A0 : Amid w P L ts en d i w.heap.size (w.heap.size + 1) zero10 (listV none 0 0) listE0 ((w.alloc (.cells zero10 44)).alloc (.cells (listV none 0 0) 44)) := by
    have e := EB.new (w.alloc (.cells zero10 44)) (listV none 0 0)
    rw [World.size_alloc] at e
    exact ⟨(h.boxed _).boxed _, ((Pst.refl P w).alloc _).alloc _, (EB.new w zero10).alloc _, e, h.lt, Nat.le_refl _, by omega, listE0_own _ _⟩
  have A := Lib.hid A0
  have SF := float_store
  clear h A0
  go_enter Tryz.func229, Tryz.ntmps229
  go_wp2_with (first
    | (go_at_call 144; refine (take_yes A.out.ps hs).mono ?_; rintro e w2 ⟨rfl, h3, p3⟩; replace A := Lib.hid (A.out.call p3 h3); clear h3 p3; refine Hid.out ?_))
  refine Lib.hid ?_
  go_wp2_with (first
    | (refine ldE rfl (.tmp 3) rfl (w.heap.size + 1) (listV none 0 0) rfl A.out.x rfl ?_)
    | (refine stE rfl (.tmp 2) (.tmp 7) rfl w.heap.size (listV none 0 0) zero10 rfl rfl A.out.res rfl rfl A.out.own.one ?_; refine Hid.out ?_))
  refine Lib.hid ?_
  go_wp2_with fail
  obtain ⟨d1, d2, d3, d4⟩ := A.out.done
  exact bodyPost_ret (results_ten rfl _ _ w.heap.size (listV none 0 0) rfl d1 rfl) rfl ⟨(listV none 0 0), rfl, d2, d3, d4⟩
set_option maxRecDepth 20000 in
set_option maxHeartbeats 4000000 in
theorem prim_list (hs0 : isW ts i ⟨#[40]⟩ = false) (hs1 : isW ts i ⟨#[91]⟩ = true) (hC : Does 229 P L ts en d (i + 1) t j) : Does 227 P L ts en d i t j := by
  intro w h
  have A := Lib.hid (Half.start h)
  have SF := float_store
  clear h
  have Z := A.out.ps.cells
  unfold zero10 at Z
  obtain ⟨z0, z1, z2, z3, z4, z5, zf⟩ := Z
  go_enter Tryz.func227, Tryz.ntmps227
  go_wp2_with (first
    | (go_at_call 144; refine (take_no A.out.ps hs0).mono ?_; rintro e w2 ⟨rfl, h3, p3⟩; replace A := Lib.hid (A.out.call p3 h3); clear h3 p3 z0 z1 z2 z3 z4 z5 zf; refine Hid.out ?_))
  refine Lib.hid ?_
  have C := Lib.hid hC
  clear hC
  go_wp2_with (first
    | (go_at_call 144; refine (take_yes A.out.ps hs1).mono ?_; rintro e w3 ⟨rfl, h3, p3⟩; replace A := Lib.hid (A.out.call p3 h3); clear h3 p3)
    | (go_at_call 229; refine (C.out _ A.out.ps).mono ?_; rintro e w4 ⟨v, rfl, hv, h4, p4⟩; have TL := Lib.hid (A.out.tell p4 h4 hv); have HR := Lib.hid (A.out.call p4 h4).res; have hv10 := Lib.hid (And.intro hv.size hv.one); clear hv h4 p4)
    | (refine stE rfl (.tmp 2) (.tmp 23) rfl w.heap.size v zero10 rfl rfl HR.out rfl hv10.out.1 hv10.out.2 ?_; refine Hid.out ?_))
  refine Lib.hid ?_
  go_wp2_with fail
  obtain ⟨d1, d2, d3, d4⟩ := TL.out
  exact bodyPost_ret (results_ten rfl _ _ w.heap.size v rfl d1 hv10.out.1) rfl ⟨v, rfl, d2, d3, d4⟩
theorem new10 (w : World) (u0 u1 u2 u3 u4 u5 u6 u7 u8 u9 : Value) : ∀ (j : Nat) u, [u0, u1, u2, u3, u4, u5, u6, u7, u8, u9][j]? = some u → (w.alloc (.cells #[u0, u1, u2, u3, u4, u5, u6, u7, u8, u9] 44)).cell? ((⟨w.heap.size, 0, none⟩ : Addr).add j) = some u := fun j u hj => by
  rw [Addr.add_lit, Nat.zero_add, World.cell?_alloc_new, ← hj]
  simp
theorem one10 {v : Array Value} (h : v.all (·.oneCell') = true) : ∀ u ∈ v.toList, u.oneCell' = true := fun u hu => (Array.all_eq_true_iff_forall_mem.1 h) u (by simpa using hu)
theorem owns_cap {w : World} {base : Nat} {e : TypeId} {size : Nat} {A : Option Addr} {n cap : Nat} {xs : List Value} (h : w.ownsRow base e size (.slice A n cap) n xs) : n ≤ cap ∧ cap ≤ maxLen := by
  rcases h.2 with ⟨h1, h2⟩ | ⟨g, c, cur, h1, hg, hh, hn, hm, hc, ht⟩
  · cases h1; exact ⟨Nat.le_refl _, Nat.zero_le _⟩
  · cases h1; exact ⟨hn, hm⟩
set_option maxRecDepth 20000 in
set_option maxHeartbeats 4000000 in
theorem list_one (hs0 : isW ts i ⟨#[93]⟩ = false) (hC : Does 105 P L ts en d i t j) (hs1 : isW ts j ⟨#[44]⟩ = false) (hs2 : isW ts j ⟨#[93]⟩ = true) : Does 229 P L ts en d i (listE1 t) (j + 1) := by
  intro w h
  have A0 : Amid w P L ts en d i w.heap.size (w.heap.size + 1) zero10 (listV none 0 0) listE0 ((w.alloc (.cells zero10 44)).alloc (.cells (listV none 0 0) 44)) := by
    have e := EB.new (w.alloc (.cells zero10 44)) (listV none 0 0)
    rw [World.size_alloc] at e
    exact ⟨(h.boxed _).boxed _, ((Pst.refl P w).alloc _).alloc _, (EB.new w zero10).alloc _, e, h.lt, Nat.le_refl _, by omega, listE0_own _ _⟩
  have A := Lib.hid A0
  have SF := float_store
  clear h A0
  go_enter Tryz.func229, Tryz.ntmps229
  go_wp2_with (first
    | (go_at_call 144; refine (take_no A.out.ps hs0).mono ?_; rintro e w2 ⟨rfl, h3, p3⟩; replace A := Lib.hid (A.out.call p3 h3); clear h3 p3; refine Hid.out ?_))
  refine Lib.hid ?_
  have C := Lib.hid hC
  obtain ⟨iE, hiE, hz0, hz1, hz2⟩ := info_parts infoE
  clear hC
  go_wp2_with fail
  go_loopg [] 0 (fun _ wr => wr = w2)
  case atStart => rfl
  subst hrel
  obtain ⟨z0, z1, z2, z3, z4, z5, zf⟩ := A.out.ps.cells
  go_wp2_with fail
  clear z0 z1 z2 z3 z4 z5 zf
  obtain ⟨w3, hw3⟩ : ∃ W, W = wr := ⟨_, rfl⟩
  rw [← hw3] at A ⊢
  clear hw3
  refine wp_region_held_drew (S := fun _ => True) (by kernel_rfl) trivial (fun _ => ?_)
  refine takeG (i := 0) (some 13) (.pointer (some ⟨w.heap.size + 1, 9, none⟩)) rfl rfl (by kernel_rfl) (by kernel_rfl) (by kernel_rfl) (fun _ _ _ h => h) trivial (by kernel_rfl) (fun W hW => by go_simp) ?_
  simp only [Act.put, List.setIfInBounds_toArray, List.set_cons_zero, List.set_cons_succ]
  refine takeG (i := 2) (some 15) (.pointer (some ⟨P, 0, none⟩)) rfl rfl (by kernel_rfl) (by kernel_rfl) (by kernel_rfl) (fun _ _ _ h => h) trivial (by kernel_rfl) (fun W hW => by go_simp) ?_
  simp only [Act.put, List.setIfInBounds_toArray, List.set_cons_zero, List.set_cons_succ]
  refine wpAnyH_ready (rs := [1, 3]) (by kernel_rfl) (by simp) (AllReadyH.cons rfl (fun K1 hK1 => ?_) (AllReadyH.cons rfl (fun K2 hK2 => ?_) AllReadyH.nil))
  · refine branchG (some 14) (.slice none 0 0) w3.drew rfl (by kernel_rfl) (by have x1 : World.cell? w3.drew ⟨w.heap.size + 1, 9, none⟩ = some (.slice none 0 0) := (A.out.drew.x.cells 9).1; go_simp) ?_
    refine hK1.out _ _ trivial (fun _ => ?_)
    simp only [Act.put, List.setIfInBounds_toArray, List.set_cons_zero, List.set_cons_succ]
    refine wpAnyH_ready (rs := [3]) (by kernel_rfl) (by simp) (AllReadyH.cons rfl (fun K2 hK2 => ?_) AllReadyH.nil)
    refine branchC 105 #[.pointer (some ⟨P, 0, none⟩)] (some 16) rfl (by kernel_rfl) (by go_simp) ((C.out _ A.out.drew.ps).mono ?_)
    rintro e w4 ⟨u, rfl, hu, h3, p3⟩
    refine ⟨_, rfl, ?_⟩
    have A3 := Lib.hid (A.out.drew.call p3 h3)
    have hu3 := Lib.hid (A.out.drew.fresh hu)
    clear hu h3 p3
    refine hK2.out _ _ trivial (fun _ => ?_)
    simp only [Act.put, List.setIfInBounds_toArray, List.set_cons_zero, List.set_cons_succ]
    obtain ⟨u0, u1, u2, u3, u4, u5, u6, u7, u8, u9, rfl⟩ := hu3.out.ten
    refine wpAnyH_ready (rs := [4]) (by kernel_rfl) (by simp) (AllReadyH.cons rfl (fun K3 hK3 => ?_) AllReadyH.nil)
    refine branchG (some 17) (.slice (some ⟨w4.heap.size, 0, none⟩) 1 1) (w4.alloc (.cells #[u0, u1, u2, u3, u4, u5, u6, u7, u8, u9] 44)) rfl (by kernel_rfl) (by go_simp) ?_
    refine hK3.out _ _ trivial (fun _ => ?_)
    simp only [Act.put, List.setIfInBounds_toArray, List.set_cons_zero, List.set_cons_succ]
    refine wpAnyH_ready (rs := [5]) (by kernel_rfl) (by simp) (AllReadyH.cons rfl (fun K4 hK4 => ?_) AllReadyH.nil)
    refine step_append_lies _ rfl (.tmp 14) (.tmp 17) 42 rfl w4.heap.size 44 iE (.agg zero10) 10 160 Tryz.underlying42 hiE hz0 hz1 hz2 rfl (by decide) (.slice none 0 0) 0 [] rfl (World.ownsRow_nil _ _ _ _) ⟨w4.heap.size, 0, none⟩ 1 1 [u0, u1, u2, u3, u4, u5, u6, u7, u8, u9] rfl rfl (new10 w4 u0 u1 u2 u3 u4 u5 u6 u7 u8 u9) (one10 hu3.out.one) (by decide) (by decide) (by decide) (by simp) (w4.heap.size + 1) (by simp) ?_
    intro g5 cap5 w5 hown5 hgrow5 hat5 hlt5
    show K4 (Act.put _ (some 18) _) _
    refine hK4.out _ _ trivial (fun _ => ?_)
    have hb5 : Below w4.heap.size w4 w5 := ((Below.refl _ _).alloc (Nat.le_refl _) _).grown hgrow5 (by simp) (by intro k e; cases e)
    have A5 := Lib.hid (A3.out.list hu3.out hb5 hown5 (owns_cap hown5))
    have X5 := Lib.hid (And.intro ((A3.out.call (Pst.of_below hb5) (A3.out.ps.stay hb5)).x.cells 9) ((A3.out.call (Pst.of_below hb5) (A3.out.ps.stay hb5)).x.lt))
    clear hown5 hgrow5 hat5 hlt5 hb5
    simp only [Act.put, List.setIfInBounds_toArray, List.set_cons_zero, List.set_cons_succ]
    refine takeG (i := 6) (some 19) (.pointer (some ⟨w.heap.size + 1, 9, none⟩)) rfl rfl (by kernel_rfl) (by kernel_rfl) (by kernel_rfl) (fun _ _ _ h => h) trivial (by kernel_rfl) (fun W hW => by go_simp) ?_
    simp only [Act.put, List.setIfInBounds_toArray, List.set_cons_zero, List.set_cons_succ]
    refine wpAnyH_ready (rs := [7]) (by kernel_rfl) (by simp) (AllReadyH.cons rfl (fun K5 hK5 => ?_) AllReadyH.nil)
    refine branchS (w5.setCell ⟨w.heap.size + 1, 9, none⟩ (.slice (some ⟨g5, 0, none⟩) 1 cap5)) rfl (by kernel_rfl) (by obtain ⟨⟨x1, x2⟩, x3⟩ := X5.out; change _ = some (Value.slice none 0 0) at x1; go_simp) ?_
    refine hK5.out _ _ trivial (fun _ => ?_)
    refine wpAnyH_done (by kernel_rfl) ?_ _
    replace A := A5
    clear A5 A3 hu3 X5
    generalize w5.setCell ⟨w.heap.size + 1, 9, none⟩ (.slice (some ⟨g5, 0, none⟩) 1 cap5) = w6 at *
    go_wp2_with (first
      | (go_at_call 144; (with_reducible refine (take_no A.out.ps hs1).mono ?_); rintro e w7 ⟨rfl, h3, p3⟩; replace A := Lib.hid (A.out.call p3 h3); clear h3 p3)
      | (go_at_call 145; (with_reducible refine (want_yes A.out.ps hs2).mono ?_); rintro e w7 ⟨rfl, h3, p3⟩; replace A := Lib.hid (A.out.call p3 h3); clear h3 p3; refine Hid.out ?_))
    refine Lib.hid ?_
    go_wp2_with (first
      | (refine ldE rfl (.tmp 3) rfl (w.heap.size + 1) (listV (some ⟨g5, 0, none⟩) 1 cap5) rfl A.out.x rfl ?_)
      | (refine stE rfl (.tmp 2) (.tmp 25) rfl w.heap.size (listV (some ⟨g5, 0, none⟩) 1 cap5) zero10 rfl rfl A.out.res rfl rfl A.out.own.one ?_; refine Hid.out ?_))
    refine Lib.hid ?_
    go_wp2_with fail
    obtain ⟨d1, d2, d3, d4⟩ := A.out.done
    exact bodyPost_ret (results_ten rfl _ _ w.heap.size (listV (some ⟨g5, 0, none⟩) 1 cap5) rfl d1 rfl) rfl ⟨(listV (some ⟨g5, 0, none⟩) 1 cap5), rfl, d2, d3, d4⟩
  · refine branchC 105 #[.pointer (some ⟨P, 0, none⟩)] (some 16) rfl (by kernel_rfl) (by go_simp) ((C.out _ A.out.drew.ps).mono ?_)
    rintro e w4 ⟨u, rfl, hu, h3, p3⟩
    refine ⟨_, rfl, ?_⟩
    have A3 := Lib.hid (A.out.drew.call p3 h3)
    have hu3 := Lib.hid (A.out.drew.fresh hu)
    clear hu h3 p3
    refine hK2.out _ _ trivial (fun _ => ?_)
    simp only [Act.put, List.setIfInBounds_toArray, List.set_cons_zero, List.set_cons_succ]
    obtain ⟨u0, u1, u2, u3, u4, u5, u6, u7, u8, u9, rfl⟩ := hu3.out.ten
    refine wpAnyH_ready (rs := [1, 4]) (by kernel_rfl) (by simp) (AllReadyH.cons rfl (fun K1 hK1 => ?_) (AllReadyH.cons rfl (fun K3 hK3 => ?_) AllReadyH.nil))
    · refine branchG (some 14) (.slice none 0 0) w4 rfl (by kernel_rfl) (by have x1 : World.cell? w4 ⟨w.heap.size + 1, 9, none⟩ = some (.slice none 0 0) := (A3.out.x.cells 9).1; go_simp) ?_
      refine hK1.out _ _ trivial (fun _ => ?_)
      simp only [Act.put, List.setIfInBounds_toArray, List.set_cons_zero, List.set_cons_succ]
      refine wpAnyH_ready (rs := [4]) (by kernel_rfl) (by simp) (AllReadyH.cons rfl (fun K3 hK3 => ?_) AllReadyH.nil)
      refine branchG (some 17) (.slice (some ⟨w4.heap.size, 0, none⟩) 1 1) (w4.alloc (.cells #[u0, u1, u2, u3, u4, u5, u6, u7, u8, u9] 44)) rfl (by kernel_rfl) (by go_simp) ?_
      refine hK3.out _ _ trivial (fun _ => ?_)
      simp only [Act.put, List.setIfInBounds_toArray, List.set_cons_zero, List.set_cons_succ]
      refine wpAnyH_ready (rs := [5]) (by kernel_rfl) (by simp) (AllReadyH.cons rfl (fun K4 hK4 => ?_) AllReadyH.nil)
      refine step_append_lies _ rfl (.tmp 14) (.tmp 17) 42 rfl w4.heap.size 44 iE (.agg zero10) 10 160 Tryz.underlying42 hiE hz0 hz1 hz2 rfl (by decide) (.slice none 0 0) 0 [] rfl (World.ownsRow_nil _ _ _ _) ⟨w4.heap.size, 0, none⟩ 1 1 [u0, u1, u2, u3, u4, u5, u6, u7, u8, u9] rfl rfl (new10 w4 u0 u1 u2 u3 u4 u5 u6 u7 u8 u9) (one10 hu3.out.one) (by decide) (by decide) (by decide) (by simp) (w4.heap.size + 1) (by simp) ?_
      intro g5 cap5 w5 hown5 hgrow5 hat5 hlt5
      show K4 (Act.put _ (some 18) _) _
      refine hK4.out _ _ trivial (fun _ => ?_)
      have hb5 : Below w4.heap.size w4 w5 := ((Below.refl _ _).alloc (Nat.le_refl _) _).grown hgrow5 (by simp) (by intro k e; cases e)
      have A5 := Lib.hid (A3.out.list hu3.out hb5 hown5 (owns_cap hown5))
      have X5 := Lib.hid (And.intro ((A3.out.call (Pst.of_below hb5) (A3.out.ps.stay hb5)).x.cells 9) ((A3.out.call (Pst.of_below hb5) (A3.out.ps.stay hb5)).x.lt))
      clear hown5 hgrow5 hat5 hlt5 hb5
      simp only [Act.put, List.setIfInBounds_toArray, List.set_cons_zero, List.set_cons_succ]
      refine takeG (i := 6) (some 19) (.pointer (some ⟨w.heap.size + 1, 9, none⟩)) rfl rfl (by kernel_rfl) (by kernel_rfl) (by kernel_rfl) (fun _ _ _ h => h) trivial (by kernel_rfl) (fun W hW => by go_simp) ?_
      simp only [Act.put, List.setIfInBounds_toArray, List.set_cons_zero, List.set_cons_succ]
      refine wpAnyH_ready (rs := [7]) (by kernel_rfl) (by simp) (AllReadyH.cons rfl (fun K5 hK5 => ?_) AllReadyH.nil)
      refine branchS (w5.setCell ⟨w.heap.size + 1, 9, none⟩ (.slice (some ⟨g5, 0, none⟩) 1 cap5)) rfl (by kernel_rfl) (by obtain ⟨⟨x1, x2⟩, x3⟩ := X5.out; change _ = some (Value.slice none 0 0) at x1; go_simp) ?_
      refine hK5.out _ _ trivial (fun _ => ?_)
      refine wpAnyH_done (by kernel_rfl) ?_ _
      replace A := A5
      clear A5 A3 hu3 X5
      generalize w5.setCell ⟨w.heap.size + 1, 9, none⟩ (.slice (some ⟨g5, 0, none⟩) 1 cap5) = w6 at *
      go_wp2_with (first
        | (go_at_call 144; (with_reducible refine (take_no A.out.ps hs1).mono ?_); rintro e w7 ⟨rfl, h3, p3⟩; replace A := Lib.hid (A.out.call p3 h3); clear h3 p3)
        | (go_at_call 145; (with_reducible refine (want_yes A.out.ps hs2).mono ?_); rintro e w7 ⟨rfl, h3, p3⟩; replace A := Lib.hid (A.out.call p3 h3); clear h3 p3; refine Hid.out ?_))
      refine Lib.hid ?_
      go_wp2_with (first
        | (refine ldE rfl (.tmp 3) rfl (w.heap.size + 1) (listV (some ⟨g5, 0, none⟩) 1 cap5) rfl A.out.x rfl ?_)
        | (refine stE rfl (.tmp 2) (.tmp 25) rfl w.heap.size (listV (some ⟨g5, 0, none⟩) 1 cap5) zero10 rfl rfl A.out.res rfl rfl A.out.own.one ?_; refine Hid.out ?_))
      refine Lib.hid ?_
      go_wp2_with fail
      obtain ⟨d1, d2, d3, d4⟩ := A.out.done
      exact bodyPost_ret (results_ten rfl _ _ w.heap.size (listV (some ⟨g5, 0, none⟩) 1 cap5) rfl d1 rfl) rfl ⟨(listV (some ⟨g5, 0, none⟩) 1 cap5), rfl, d2, d3, d4⟩
    · refine branchG (some 17) (.slice (some ⟨w4.heap.size, 0, none⟩) 1 1) (w4.alloc (.cells #[u0, u1, u2, u3, u4, u5, u6, u7, u8, u9] 44)) rfl (by kernel_rfl) (by go_simp) ?_
      refine hK3.out _ _ trivial (fun _ => ?_)
      simp only [Act.put, List.setIfInBounds_toArray, List.set_cons_zero, List.set_cons_succ]
      refine wpAnyH_ready (rs := [1]) (by kernel_rfl) (by simp) (AllReadyH.cons rfl (fun K1 hK1 => ?_) AllReadyH.nil)
      refine branchG (some 14) (.slice none 0 0) (w4.alloc (.cells #[u0, u1, u2, u3, u4, u5, u6, u7, u8, u9] 44)) rfl (by kernel_rfl) (by have x1 : World.cell? (w4.alloc (.cells #[u0, u1, u2, u3, u4, u5, u6, u7, u8, u9] 44)) ⟨w.heap.size + 1, 9, none⟩ = some (.slice none 0 0) := ((A3.out.x.alloc _).cells 9).1; go_simp) ?_
      refine hK1.out _ _ trivial (fun _ => ?_)
      simp only [Act.put, List.setIfInBounds_toArray, List.set_cons_zero, List.set_cons_succ]
      refine wpAnyH_ready (rs := [5]) (by kernel_rfl) (by simp) (AllReadyH.cons rfl (fun K4 hK4 => ?_) AllReadyH.nil)
      refine step_append_lies _ rfl (.tmp 14) (.tmp 17) 42 rfl w4.heap.size 44 iE (.agg zero10) 10 160 Tryz.underlying42 hiE hz0 hz1 hz2 rfl (by decide) (.slice none 0 0) 0 [] rfl (World.ownsRow_nil _ _ _ _) ⟨w4.heap.size, 0, none⟩ 1 1 [u0, u1, u2, u3, u4, u5, u6, u7, u8, u9] rfl rfl (new10 w4 u0 u1 u2 u3 u4 u5 u6 u7 u8 u9) (one10 hu3.out.one) (by decide) (by decide) (by decide) (by simp) (w4.heap.size + 1) (by simp) ?_
      intro g5 cap5 w5 hown5 hgrow5 hat5 hlt5
      show K4 (Act.put _ (some 18) _) _
      refine hK4.out _ _ trivial (fun _ => ?_)
      have hb5 : Below w4.heap.size w4 w5 := ((Below.refl _ _).alloc (Nat.le_refl _) _).grown hgrow5 (by simp) (by intro k e; cases e)
      have A5 := Lib.hid (A3.out.list hu3.out hb5 hown5 (owns_cap hown5))
      have X5 := Lib.hid (And.intro ((A3.out.call (Pst.of_below hb5) (A3.out.ps.stay hb5)).x.cells 9) ((A3.out.call (Pst.of_below hb5) (A3.out.ps.stay hb5)).x.lt))
      clear hown5 hgrow5 hat5 hlt5 hb5
      simp only [Act.put, List.setIfInBounds_toArray, List.set_cons_zero, List.set_cons_succ]
      refine takeG (i := 6) (some 19) (.pointer (some ⟨w.heap.size + 1, 9, none⟩)) rfl rfl (by kernel_rfl) (by kernel_rfl) (by kernel_rfl) (fun _ _ _ h => h) trivial (by kernel_rfl) (fun W hW => by go_simp) ?_
      simp only [Act.put, List.setIfInBounds_toArray, List.set_cons_zero, List.set_cons_succ]
      refine wpAnyH_ready (rs := [7]) (by kernel_rfl) (by simp) (AllReadyH.cons rfl (fun K5 hK5 => ?_) AllReadyH.nil)
      refine branchS (w5.setCell ⟨w.heap.size + 1, 9, none⟩ (.slice (some ⟨g5, 0, none⟩) 1 cap5)) rfl (by kernel_rfl) (by obtain ⟨⟨x1, x2⟩, x3⟩ := X5.out; change _ = some (Value.slice none 0 0) at x1; go_simp) ?_
      refine hK5.out _ _ trivial (fun _ => ?_)
      refine wpAnyH_done (by kernel_rfl) ?_ _
      replace A := A5
      clear A5 A3 hu3 X5
      generalize w5.setCell ⟨w.heap.size + 1, 9, none⟩ (.slice (some ⟨g5, 0, none⟩) 1 cap5) = w6 at *
      go_wp2_with (first
        | (go_at_call 144; (with_reducible refine (take_no A.out.ps hs1).mono ?_); rintro e w7 ⟨rfl, h3, p3⟩; replace A := Lib.hid (A.out.call p3 h3); clear h3 p3)
        | (go_at_call 145; (with_reducible refine (want_yes A.out.ps hs2).mono ?_); rintro e w7 ⟨rfl, h3, p3⟩; replace A := Lib.hid (A.out.call p3 h3); clear h3 p3; refine Hid.out ?_))
      refine Lib.hid ?_
      go_wp2_with (first
        | (refine ldE rfl (.tmp 3) rfl (w.heap.size + 1) (listV (some ⟨g5, 0, none⟩) 1 cap5) rfl A.out.x rfl ?_)
        | (refine stE rfl (.tmp 2) (.tmp 25) rfl w.heap.size (listV (some ⟨g5, 0, none⟩) 1 cap5) zero10 rfl rfl A.out.res rfl rfl A.out.own.one ?_; refine Hid.out ?_))
      refine Lib.hid ?_
      go_wp2_with fail
      obtain ⟨d1, d2, d3, d4⟩ := A.out.done
      exact bodyPost_ret (results_ten rfl _ _ w.heap.size (listV (some ⟨g5, 0, none⟩) 1 cap5) rfl d1 rfl) rfl ⟨(listV (some ⟨g5, 0, none⟩) 1 cap5), rfl, d2, d3, d4⟩
end
end Go.Proofs.YtcmohggnehkjeaaGreat
namespace Go.Proofs.YtcmohggnehkjeaaGreat
open Go.RowKit

theorem pE_all (P : Nat) (L : Value) (ts : List (Nat × Tk)) (en : Int) : ∀ f,
    (∀ d i t j, pE ts f .expr d i = some (t, j) → Does 105 P L ts en d i t j) ∧
    (∀ d i t j, pE ts f .or d i = some (t, j) → Does 143 P L ts en d i t j) ∧
    (∀ d i t j, pE ts f .and d i = some (t, j) → Does 175 P L ts en d i t j) ∧
    (∀ d i t j, pE ts f .cmp d i = some (t, j) → Does 199 P L ts en d i t j) ∧
    (∀ d i t j, pE ts f .sum d i = some (t, j) → Does 214 P L ts en d i t j) ∧
    (∀ d i t j, pE ts f .prod d i = some (t, j) → Does 220 P L ts en d i t j) ∧
    (∀ d i t j, pE ts f .unary d i = some (t, j) → Does 222 P L ts en d i t j) ∧
    (∀ d i t j, pE ts f .post d i = some (t, j) → Does 225 P L ts en d i t j) ∧
    (∀ d i t j, pE ts f .prim d i = some (t, j) → Does 227 P L ts en d i t j) := by
  intro f
  induction f using Nat.strongRecOn with
  | ind f ih =>
    cases f with
    | zero => refine ⟨?_, ?_, ?_, ?_, ?_, ?_, ?_, ?_, ?_⟩ <;> (intro d i t j h; simp [pE] at h)
    | succ f =>
      obtain ⟨e1, e2, e3, e4, e5, e6, e7, e8, e9⟩ := ih f (Nat.lt_succ_self _)
      refine ⟨?_, ?_, ?_, ?_, ?_, ?_, ?_, ?_, ?_⟩
      · intro d i t j h
        rw [pE] at h
        split at h
        · cases h
        · obtain ⟨h1, h2⟩ := noneOf_some h
          exact Expr_or (by omega) (h2 _ (by simp)) (e2 _ _ _ _ h1)
      · intro d i t j h
        rw [pE] at h
        obtain ⟨h1, h2⟩ := noneOf_some h
        exact or_one (e3 _ _ _ _ h1) (h2 _ (by simp))
      · intro d i t j h
        rw [pE] at h
        obtain ⟨h1, h2⟩ := noneOf_some h
        exact and_one (e4 _ _ _ _ h1) (h2 _ (by simp))
      · intro d i t j h
        rw [pE] at h
        split at h
        · cases h
        · rename_i x k hx
          obtain ⟨h1, h2⟩ := noneOf_some hx
          split at h
          · rename_i hl
            split at h
            · cases h
            · rename_i y m hy
              injection h with h
              injection h with h3 h4
              subst h3 h4
              exact cmp_less (e5 _ _ _ _ h1) (h2 _ (by simp)) (h2 _ (by simp)) hl (e5 _ _ _ _ hy)
          · rename_i hl
            injection h with h
            injection h with h3 h4
            subst h3 h4
            exact cmp_one (e5 _ _ _ _ h1) (h2 _ (by simp)) (h2 _ (by simp)) (by simpa using hl)
      · intro d i t j h
        rw [pE] at h
        split at h
        · cases h
        · rename_i x k hx
          exact sum_any f (fun f' hf i x j hp => (ih f' (by omega)).2.2.2.2.2.1 _ _ _ _ hp) hx h
      · intro d i t j h
        rw [pE] at h
        obtain ⟨h1, h2⟩ := noneOf_some h
        exact prod_one (e7 _ _ _ _ h1) (h2 _ (by simp)) (h2 _ (by simp)) (h2 _ (by simp))
      · intro d i t j h
        rw [pE] at h
        split at h
        · cases h
        · rename_i hn
          simp only [not_or] at hn
          exact unary_post (by omega) (by simpa using hn.2.1) (by simpa using hn.2.2) (e8 _ _ _ _ h)
      · intro d i t j h
        rw [pE] at h
        obtain ⟨h1, h2⟩ := noneOf_some h
        exact post_one (e9 _ _ _ _ h1) (h2 _ (by simp)) (h2 _ (by simp))
      · intro d i t j h
        rw [pE] at h
        split at h
        · cases h
        · rename_i hn
          simp only [not_or] at hn
          have n0 : isW ts i ⟨#[40]⟩ = false := by simpa using hn.1
          have n2 : isW ts i ⟨#[123]⟩ = false := by simpa using hn.2
          split at h
          · rename_i hb
            split at h
            · rename_i hc
              injection h with h
              injection h with h3 h4
              subst h3 h4
              exact prim_list n0 hb (list_none hc)
            · rename_i hc
              split at h
              · cases h
              · rename_i x k hx
                split at h
                · cases h
                · rename_i hm
                  split at h
                  · rename_i hr
                    injection h with h
                    injection h with h3 h4
                    subst h3 h4
                    exact prim_list n0 hb (list_one (by simpa using hc) (e1 _ _ _ _ hx) (by simpa using hm) hr)
                  · cases h
          · rename_i hb
            have n1 : isW ts i ⟨#[91]⟩ = false := by simpa using hb
            split at h
            · cases h
            · rename_i tk htk
              obtain ⟨hi, rfl⟩ := List.getElem?_eq_some_iff.1 htk
              split at h
              · cases h
              · split at h
                · cases h
                · rename_i x hx
                  injection h with h
                  injection h with h3 h4
                  subst h3 h4
                  have hk : ts[i].2.k = 2 ∨ ts[i].2.k = 3 ∨ ts[i].2.k = 5 := by
                    unfold tokE at hx
                    split at hx
                    · exact .inl (by assumption)
                    · split at hx
                      · exact .inr (.inl (by assumption))
                      · split at hx
                        · exact .inr (.inr (by assumption))
                        · cases hx
                  rcases hk with hk | hk | hk
                  · exact prim_tok2 hi hk n0 n1 n2 hx
                  · exact prim_tok3 hi hk n0 n1 n2 hx
                  · exact prim_tok5 hi hk n0 n1 n2 hx
end Go.Proofs.YtcmohggnehkjeaaGreat
namespace Go.Proofs.YtcmohggnehkjeaaGreat
open Go.RowKit

theorem results_e3 {fn : Func} {p a b : Tmp} (h : fn.results = #[.cell p 44, .tmp a, .tmp b]) (tmps : Array Value) (w : World) (R : Nat) (v : Array Value) (x y : Value) (hp : tmps.getD p undef = .pointer (some ⟨R, 0, none⟩)) (ha : tmps.getD a undef = x) (hb : tmps.getD b undef = y) (hg : EB w R v) (hv : v.size = 10) :
    (results fn tmps).run Tryz.prog w = .ok (.tuple #[.agg v, x, y]) w := by
  have hp' : tmps[p]?.getD undef = .pointer (some ⟨R, 0, none⟩) := by simpa using hp
  have ha' : tmps[a]?.getD undef = x := by simpa using ha
  have hb' : tmps[b]?.getD undef = y := by simpa using hb
  simp [results, h, hp', ha', hb', asAddr, run_loadVar_row w R 44 44 v (0, 0) _ hg Tryz.underlying44 rfl (by rw [info44, hv])]
section
variable {ops : Array Oper} {rest : List Oper} {o : Oper} {a : Act} {w : World} {Q : Exit → Act → World → Prop}
theorem ldW (hw : Region.wanted o (yielded ops a.tmps) = true) (x : Operand) (ho : o.op = .load 44 x) (g : Nat) (v : Array Value) (hx : a.eval x = .pointer (some ⟨g, 0, none⟩)) (hg : EB w g v) (hv : v.size = 10)
    (h : wpList Tryz.prog ops Q rest (a.put o.dst (.agg v)) w) : wpList Tryz.prog ops Q (o :: rest) a w :=
  BigFrame.wpList_want hw fun _ hK => wp_load_row 44 x ho g hx 44 v (0, 0) _ hg Tryz.underlying44 rfl (by rw [info44, hv]) (hK _ _ h)
end
theorem All_ok {s : ByteArray} {ts : List (Nat × Tk)} (hs : s.size ≤ 2000) (hL : Lx s 0 ts none) (w : World) : Calls Tryz.prog 104 #[.string s] w fun e w' =>
    ∃ A cap, e = .returned (.tuple #[.slice A ts.length cap, .int .i64 0, .int .i64 0]) ∧ ts.length ≤ cap ∧ cap ≤ maxLen ∧ (0 < ts.length → ∃ g, A = some ⟨g, 0, none⟩ ∧ g < w'.heap.size ∧ ∀ i (h : i < ts.length), Six w' g (i * 6) ts[i].1 ts[i].2) ∧ Below w.heap.size w w' := by
  refine (Allr_any (s := s) (by omega) w).mono ?_
  rintro e w1 ⟨ts', o', hLx, hb1, hm⟩
  obtain ⟨rfl, rfl⟩ := Lx.unique hLx hL
  obtain ⟨L, rfl, hown⟩ := hm
  obtain ⟨A, cap, rfl, hc1, hc2, hx⟩ := TAt.of_own hown
  exact ⟨A, cap, rfl, hc1, hc2, hx, hb1⟩
/-- How Parse ends: the tree t. -/
def Parsed (w : World) (t : ET) (e : Ending) (w' : World) : Prop :=
  ∃ v, e = .returned (.tuple #[.agg v, .int .i64 0, .int .i64 0]) ∧ EOwn w' (fun g => w.heap.size ≤ g) v t ∧ Below w.heap.size w w'
set_option maxRecDepth 20000 in
set_option maxHeartbeats 4000000 in
theorem Parse_ok {s : ByteArray} {ts : List (Nat × Tk)} {t : ET} {f : Nat} (hs : s.size ≤ 2000) (hL : Lx s 0 ts none) (hlen : ts.length ≤ 2000) (hp : pE ts f .expr 0 0 = some (t, ts.length)) (hr : okE t = true) (w : World) :
    Calls Tryz.prog 65 #[.string s] w (Parsed w t) := by
  have AL := Lib.hid (fun W => All_ok hs hL W)
  have HP := Lib.hid hp
  have HR := Lib.hid hr
  have SF := float_store
  have hs1 : ¬ (2000 : Int) < s.size := by omega
  clear hL hp hr
  go_enter Tryz.func65, Tryz.ntmps65
  go_wp2_with (go_at_call 104; refine (AL.out _).mono ?_; rintro e w1 ⟨A, cap, rfl, hc1, hc2, hx, hb1⟩; refine Hid.out ?_)
  refine Lib.hid ?_
  have hz1 := hb1.size
  rw [World.size_alloc] at hz1
  have hb : Below w.heap.size w w1 := ((Below.refl _ _).alloc (Nat.le_refl _) _).trans (hb1.mono (by simp))
  have hR : EB w1 w.heap.size zero10 := (EB.new w zero10).of (hb1.block _ (by simp))
  have hPS : PS (w1.alloc (.cells (pcells (.slice A ts.length cap) s.size 0 0) 144)) w1.heap.size (.slice A ts.length cap) ts s.size 0 0 := by
    refine ⟨heap_alloc_new w1 _, A, cap, rfl, hlen, hc1, hc2, fun h0 => ?_⟩
    obtain ⟨g, e, hg, h6⟩ := hx h0
    exact ⟨g, e, hg, fun i hi => (h6 i hi).of (Below.heap_alloc _ _ _ hg)⟩
  have HB := Lib.hid hb
  have HRR := Lib.hid hR
  have C := Lib.hid (((pE_all w1.heap.size (.slice A ts.length cap) ts s.size f).1 0 0 t _ HP.out) _ hPS)
  have HZ := Lib.hid hz1
  clear hb1 hx hz1 hb hR hPS
  go_wp2_with (go_at_call 105; refine C.out.mono ?_; rintro e w3 ⟨v, rfl, hv, h3, p3⟩; refine Hid.out ?_)
  refine Lib.hid ?_
  have hRP : w.heap.size ≠ w1.heap.size := by have := HZ.out; omega
  have hlo := p3.size
  rw [World.size_alloc] at hlo
  have hb3 : Below w.heap.size w w3 := HB.out.trans ⟨p3.os, p3.tape, p3.output, by omega, fun k hk => (p3.block k (by simp; have := HZ.out; omega) (by have := HZ.out; omega)).trans (Below.heap_alloc _ _ _ (by have := HZ.out; omega))⟩
  have hR3 : EB w3 w.heap.size zero10 := ((HRR.out.alloc _).pst p3 hRP)
  have hv3 : EOwn w3 (fun g => w.heap.size < g ∧ g ≠ w3.heap.size) v t := hv.imp fun g hg hl => by simp at hg; have := HZ.out; omega
  have hv10 := Lib.hid (And.intro hv.size hv.one)
  -- the box of what was read
  have hx4 := EB.new w3 v
  have h4 := h3.boxed (.cells v 44)
  have hR4 := hR3.alloc (.cells v 44)
  have hb4 := hb3.alloc (Nat.le_trans (by have := HZ.out; omega) hlo) (.cells v 44)
  have hv4 := hv3.keep (w' := w3.alloc (.cells v 44)) (by simp) (fun g _ hl => Below.heap_alloc _ _ _ hl)
  have HH := Lib.hid (And.intro hx4 (And.intro h4 (And.intro hR4 (And.intro hb4 hv4))))
  clear hx4 h4 hR4 hb4 hv4 hv3 hR3 hb3 hv h3 p3
  go_wp2_with (refine stE rfl (.tmp 9) (.tmp 31) rfl w3.heap.size v _ rfl rfl (EB.new _ _) rfl hv10.out.1 hv10.out.2 ?_; refine Hid.out ?_)
  refine Lib.hid ?_
  rw [alloc_setRow]
  obtain ⟨S, hS⟩ : ∃ S, S = w3.heap.size := ⟨_, rfl⟩
  rw [← hS] at HH ⊢
  generalize w3.alloc (.cells v 44) = w4 at *
  clear hS
  obtain ⟨hx4, h4, hR4, hb4, hv4⟩ := HH.out
  obtain ⟨z0, z1, z2, z3, z4, z5, zf⟩ := h4.cells
  have RE := Lib.hid (Right_e hv4.val)
  have t1 : ¬ (ts.length : Int) < ts.length := by omega
  go_wp2_with (first
    | (refine ldW (by kernel_rfl) (.tmp 9) rfl S v rfl hx4 hv10.out.1 ?_)
    | (go_at_call 27; refine RE.out.mono ?_; rintro e w5 ⟨rfl, hb5⟩; refine Hid.out ?_))
  refine Lib.hid ?_
  rw [HR.out]
  have h5 := h4.stay hb5
  obtain ⟨y0, y1, y2, y3, y4, y5, yf⟩ := h5.cells
  have hx5 : EB w5 S v := hx4.of (hb5.block S hx4.lt)
  have hR5 : EB w5 w.heap.size zero10 := hR4.of (hb5.block _ hR4.lt)
  have hF : EB (w5.setRow w.heap.size v) w.heap.size v ∧ EOwn (w5.setRow w.heap.size v) (fun g => w.heap.size ≤ g) v t ∧ Below w.heap.size w (w5.setRow w.heap.size v) := by
    refine ⟨hR5.set v, ?_, ?_⟩
    · exact ((hv4.keep hb5.size fun g _ hl => hb5.block g hl).keep (by simp [World.setRow]) fun g hg hl => setRow_other _ _ _ _ (by omega)).imp fun g hg _ => by omega
    · exact (hb4.trans (hb5.mono hb4.size)).trans ⟨rfl, rfl, rfl, by simp [World.setRow], fun k hk => setRow_other _ _ _ _ (by omega)⟩
  have HF := Lib.hid hF
  clear hF z0 z1 z2 z3 z4 z5 zf hb5 hv4 hb4 hR4 hx4 h4 RE HR
  go_wp2_with (first
    | (refine ldW (by kernel_rfl) (.tmp 69) rfl S v rfl hx5 hv10.out.1 ?_)
    | (refine ldE rfl (.tmp 9) rfl S v rfl hx5 hv10.out.1 ?_)
    | (refine stE rfl (.tmp 2) (.tmp 69) rfl w.heap.size v zero10 rfl rfl hR5 rfl hv10.out.1 hv10.out.2 ?_; refine Hid.out ?_))
  refine Lib.hid ?_
  go_wp2_with fail
  exact bodyPost_ret (results_e3 rfl _ _ w.heap.size v (.int .i64 0) (.int .i64 0) rfl rfl rfl HF.out.1 hv10.out.1) rfl ⟨v, rfl, HF.out.2.1, HF.out.2.2⟩
end Go.Proofs.YtcmohggnehkjeaaGreat
namespace Go.Proofs.YtcmohggnehkjeaaGreat
open Go.RowKit

/-- All tokens from a place on, by so much fuel. -/
def lexF (s : ByteArray) : Nat → Nat → Option (List (Nat × Tk))
  | 0, _ => none
  | f + 1, i => match nextN s i with
    | .tok b t => if t.k = 1 then some [] else match lexF s f (b + t.len) with
      | some r => some ((b, t) :: r)
      | none => none
    | _ => none
theorem lexF_lx {s : ByteArray} : ∀ {f i : Nat} {ts : List (Nat × Tk)}, lexF s f i = some ts → Lx s i ts none
  | 0, _, _, h => by simp [lexF] at h
  | f + 1, i, ts, h => by
    rw [lexF] at h
    split at h
    · rename_i b t hn
      split at h
      · rename_i hk
        injection h with h
        subst h
        exact .stop hn hk
      · rename_i hk
        split at h
        · rename_i r hr
          injection h with h
          subst h
          exact .next hn hk (lexF_lx hr)
        · cases h
    · cases h
def tsOf (s : ByteArray) : List (Nat × Tk) := (lexF s 30 0).getD []
/-- The text says this tree. -/
def says (s : ByteArray) (t : ET) : Prop := ∀ w, Calls Tryz.prog 65 #[.string s] w (Parsed w t)
theorem says_of {s : ByteArray} {t : ET} (h0 : s.size ≤ 2000) (h1 : (lexF s 30 0).isSome = true) (h2 : (tsOf s).length ≤ 2000) (h3 : pE (tsOf s) 40 .expr 0 0 = some (t, (tsOf s).length)) (h4 : okE t = true) : says s t := fun w => by
  obtain ⟨ts, hts⟩ := Option.isSome_iff_exists.1 h1
  have e : tsOf s = ts := by unfold tsOf; rw [hts]; rfl
  rw [e] at h2 h3
  exact Parse_ok h0 (lexF_lx hts) h2 h3 h4 w
def t_x1lt2 : ET := twoE 11 (twoE 5 (varE ⟨#[120]⟩) (conE 2 1 0)) (conE 2 2 0)
theorem says_x1lt2 : says ⟨#[120, 43, 49, 32, 60, 32, 50]⟩ t_x1lt2 := says_of (by decide) (by kernel_rfl) (by decide +kernel) (by kernel_rfl) (by decide +kernel)
def t_lists : ET := twoE 5 listE0 (listE1 (conE 2 1 0))
theorem says_lists : says ⟨#[91, 93, 32, 43, 32, 91, 49, 93]⟩ t_lists := says_of (by decide) (by kernel_rfl) (by decide +kernel) (by kernel_rfl) (by decide +kernel)
def t_xflo : ET := twoE 5 (varE ⟨#[120]⟩) (conE 3 0 4607182418800017408)
theorem says_xflo : says ⟨#[120, 32, 43, 32, 49, 112, 48]⟩ t_xflo := says_of (by decide) (by kernel_rfl) (by decide +kernel) (by kernel_rfl) (by decide +kernel)
def t_y : ET := varE ⟨#[121]⟩
theorem says_y : says ⟨#[121]⟩ t_y := says_of (by decide) (by kernel_rfl) (by decide +kernel) (by kernel_rfl) (by decide +kernel)
def t_none : ET := listE0
theorem says_none : says ⟨#[91, 93]⟩ t_none := says_of (by decide) (by kernel_rfl) (by decide +kernel) (by kernel_rfl) (by decide +kernel)
def t_xy : ET := twoE 5 (varE ⟨#[120]⟩) (varE ⟨#[121]⟩)
theorem says_xy : says ⟨#[120, 43, 121]⟩ t_xy := says_of (by decide) (by kernel_rfl) (by decide +kernel) (by kernel_rfl) (by decide +kernel)
def t_three : ET := conE 2 3 0
theorem says_three : says ⟨#[51]⟩ t_three := says_of (by decide) (by kernel_rfl) (by decide +kernel) (by kernel_rfl) (by decide +kernel)
def t_z : ET := varE ⟨#[122]⟩
theorem says_z : says ⟨#[122]⟩ t_z := says_of (by decide) (by kernel_rfl) (by decide +kernel) (by kernel_rfl) (by decide +kernel)
def t_one : ET := conE 2 1 0
theorem says_one : says ⟨#[49]⟩ t_one := says_of (by decide) (by kernel_rfl) (by decide +kernel) (by kernel_rfl) (by decide +kernel)
def t_bab : ET := twoE 5 (twoE 5 (varE ⟨#[98]⟩) (varE ⟨#[97]⟩)) (varE ⟨#[98]⟩)
theorem says_bab : says ⟨#[98, 43, 97, 43, 98]⟩ t_bab := says_of (by decide) (by kernel_rfl) (by decide +kernel) (by kernel_rfl) (by decide +kernel)
def t_oney : ET := twoE 5 (conE 2 1 0) (varE ⟨#[121]⟩)
theorem says_oney : says ⟨#[49, 43, 121]⟩ t_oney := says_of (by decide) (by kernel_rfl) (by decide +kernel) (by kernel_rfl) (by decide +kernel)
end Go.Proofs.YtcmohggnehkjeaaGreat
namespace Go.Proofs.YtcmohggnehkjeaaGreat
open Go.RowKit

set_option maxRecDepth 20000 in
theorem LWord_any (s : ByteArray) (w : World) : Calls Tryz.prog 149 #[.string s] w fun e w' => e = .returned (.bool (wordB s.data.toList)) ∧ Below w.heap.size w w' := by
  obtain ⟨r, hr⟩ : ∃ r, r = wordB s.data.toList := ⟨_, rfl⟩
  rw [← hr]
  have HR := Lib.hid hr
  clear hr
  by_cases h0 : s.toList = [116, 114, 117, 101]
  · have t0 := beq_yes h0
    have HC := Lib.hid (show r = true by rw [HR.out, ← str_is, h0]; decide)
    clear h0
    go_enter Tryz.func149, Tryz.ntmps149
    go_wp2_with fail
    go_ret
    exact ⟨by rw [HC.out]; rfl, Below.refl _ _⟩
  have t0 := beq_no h0
  by_cases h1 : s.toList = [102, 97, 108, 115, 101]
  · have t1 := beq_yes h1
    have HC := Lib.hid (show r = true by rw [HR.out, ← str_is, h1]; decide)
    clear h1 h0
    go_enter Tryz.func149, Tryz.ntmps149
    go_wp2_with fail
    go_ret
    exact ⟨by rw [HC.out]; rfl, Below.refl _ _⟩
  have t1 := beq_no h1
  by_cases h2 : s.toList = [110, 97, 110]
  · have t2 := beq_yes h2
    have HC := Lib.hid (show r = true by rw [HR.out, ← str_is, h2]; decide)
    clear h2 h1 h0
    go_enter Tryz.func149, Tryz.ntmps149
    go_wp2_with fail
    go_ret
    exact ⟨by rw [HC.out]; rfl, Below.refl _ _⟩
  have t2 := beq_no h2
  by_cases h3 : s.toList = [105, 110, 102]
  · have t3 := beq_yes h3
    have HC := Lib.hid (show r = true by rw [HR.out, ← str_is, h3]; decide)
    clear h3 h2 h1 h0
    go_enter Tryz.func149, Tryz.ntmps149
    go_wp2_with fail
    go_ret
    exact ⟨by rw [HC.out]; rfl, Below.refl _ _⟩
  have t3 := beq_no h3
  by_cases h4 : s.toList = [108, 101, 110]
  · have t4 := beq_yes h4
    have HC := Lib.hid (show r = true by rw [HR.out, ← str_is, h4]; decide)
    clear h4 h3 h2 h1 h0
    go_enter Tryz.func149, Tryz.ntmps149
    go_wp2_with fail
    go_ret
    exact ⟨by rw [HC.out]; rfl, Below.refl _ _⟩
  have t4 := beq_no h4
  by_cases h5 : s.toList = [102, 108, 111, 97, 116]
  · have t5 := beq_yes h5
    have HC := Lib.hid (show r = true by rw [HR.out, ← str_is, h5]; decide)
    clear h5 h4 h3 h2 h1 h0
    go_enter Tryz.func149, Tryz.ntmps149
    go_wp2_with fail
    go_ret
    exact ⟨by rw [HC.out]; rfl, Below.refl _ _⟩
  have t5 := beq_no h5
  by_cases h6 : s.toList = [105, 110, 116]
  · have t6 := beq_yes h6
    have HC := Lib.hid (show r = true by rw [HR.out, ← str_is, h6]; decide)
    clear h6 h5 h4 h3 h2 h1 h0
    go_enter Tryz.func149, Tryz.ntmps149
    go_wp2_with fail
    go_ret
    exact ⟨by rw [HC.out]; rfl, Below.refl _ _⟩
  have t6 := beq_no h6
  by_cases h7 : s.toList = [115, 116, 114]
  · have t7 := beq_yes h7
    have HC := Lib.hid (show r = true by rw [HR.out, ← str_is, h7]; decide)
    clear h7 h6 h5 h4 h3 h2 h1 h0
    go_enter Tryz.func149, Tryz.ntmps149
    go_wp2_with fail
    go_ret
    exact ⟨by rw [HC.out]; rfl, Below.refl _ _⟩
  have t7 := beq_no h7
  have HC := Lib.hid (show r = false by
    rw [HR.out, ← str_is]
    unfold wordB wordsL
    rw [decide_eq_false_iff_not]
    simp only [List.mem_cons, List.not_mem_nil, or_false, not_or]
    exact ⟨h0, h1, h2, h3, h4, h5, h6, h7⟩)
  clear h7 h6 h5 h4 h3 h2 h1 h0
  go_enter Tryz.func149, Tryz.ntmps149
  go_wp2_with fail
  go_ret
  exact ⟨by rw [HC.out]; rfl, Below.refl _ _⟩

/-- No value at all. -/
def noneV : VT → Bool
  | .bad => false
  | .mk k n f s c _ m _ => decide (k = 0) && (decide (n = 0) && (decide (f = 0) && (decide (s.size = 0) && (decide (c = 0) && decide (m = 0)))))
theorem empty_of {s : ByteArray} (h : s.size = 0) : s = ⟨#[]⟩ := by
  apply ByteArray.ext
  exact Array.eq_empty_of_size_eq_zero h
set_option maxHeartbeats 1000000 in
theorem none_yes (A : Option Addr) (ca : Nat) (B : Option Addr) (cb : Nat) (w : World) : Calls Tryz.prog 152 #[.agg (fields 0 0 0 ⟨#[]⟩ A 0 ca B 0 cb)] w fun e w' => e = .returned (.bool true) ∧ Below w.heap.size w w' := by
  have H := bits_run
  have hb : Below w.heap.size w (w.alloc (.cells (fields 0 0 0 ⟨#[]⟩ A 0 ca B 0 cb) 38)) := (Below.refl _ _).alloc (Nat.le_refl _) _
  have HB := Lib.hid hb
  unfold fields at *
  clear hb
  go_enter Tryz.func152, Tryz.ntmps152
  go_wp2_with fail
  go_ret
  exact ⟨rfl, HB.out⟩
theorem canon_yes {f : Nat} (hc : canonW f = f) (w : World) : Calls Tryz.prog 181 #[.float .f64 f] w fun e w' => e = .returned (.bool true) ∧ w' = w := by
  have H := bits_run
  have C := Canon_f f
  rw [hc] at C
  have t : ((f : Int) == (f : Int)) = true := beq_self_eq_true _
  go_enter Tryz.func181, Tryz.ntmps181
  go_wp2_with (go_at_call 203; refine (C _).mono ?_; rintro e w' ⟨rfl, rfl⟩)
  go_ret
  exact ⟨rfl, rfl⟩
theorem sign_no {f : Nat} (hf : f < 9223372036854775808) (w : World) : Calls Tryz.prog 182 #[.float .f64 f] w fun e w' => e = .returned (.bool false) ∧ w' = w := by
  have H := bits_run
  have hw : IntKind.i64.wrap (f : Int) = f := by rw [IntKind.wrap_i64]; omega
  have t : decide ((f : Int) < 0) = false := decide_eq_false (by omega)
  go_enter Tryz.func182, Tryz.ntmps182
  go_wp2_with fail
  go_ret
  exact ⟨rfl, rfl⟩
/-- A constant that the grammar can say, as far as it is asked here. -/
def conB : VT → Bool
  | .bad => false
  | .mk k n f s c ns m xs => okV (.mk k n f s c ns m xs) && ((decide (k = 2) && decide (0 ≤ n)) || (decide (k = 3) && (decide (canonW f = f) && decide (f < 9223372036854775808))))
set_option maxHeartbeats 1000000 in
theorem con_yes {t : VT} {v : Array Value} {w : World} (hv : Val w w.heap.size v t) (h : conB t = true) : Calls Tryz.prog 148 #[.agg v] w fun e w' => e = .returned (.bool true) ∧ Below w.heap.size w w' := by
  have R := fun W (hb : Below w.heap.size w W) => right_f ((hv.stay hb).mono hb.size)
  cases hv with
  | mk k n f s A c ca B m cb ns xs vs hk hn hf hs hc hm hns hB hxs =>
    unfold conB at h
    simp only [Bool.and_eq_true, Bool.or_eq_true, decide_eq_true_eq] at h
    obtain ⟨hok, h⟩ := h
    rw [hok] at R
    have hb : Below w.heap.size w (w.alloc (.cells (fields k n f s A c ca B m cb) 38)) := (Below.refl _ _).alloc (Nat.le_refl _) _
    have R1 := Lib.hid (R _ hb)
    have HB := Lib.hid hb
    unfold fields at *
    clear R hb hxs hB hns
    rcases h with ⟨rfl, h0⟩ | ⟨rfl, hcan, hsg⟩
    · go_enter Tryz.func148, Tryz.ntmps148
      go_wp2_with (go_at_call 180; refine R1.out.mono ?_; rintro e w' ⟨rfl, hb1⟩)
      go_ret
      exact ⟨rfl, HB.out.trans (hb1.mono HB.out.size)⟩
    · have K := canon_yes hcan
      have S := sign_no hsg
      go_enter Tryz.func148, Tryz.ntmps148
      go_wp2_with (first
        | (go_at_call 180; refine R1.out.mono ?_; rintro e w' ⟨rfl, hb1⟩)
        | (go_at_call 181; refine (K _).mono ?_; rintro e w' ⟨rfl, rfl⟩)
        | (go_at_call 182; refine (S _).mono ?_; rintro e w' ⟨rfl, rfl⟩))
      go_ret
      exact ⟨rfl, HB.out.trans (hb1.mono HB.out.size)⟩
end Go.Proofs.YtcmohggnehkjeaaGreat
namespace Go.Proofs.YtcmohggnehkjeaaGreat
open Go.RowKit

def alonE (k : Int) (s : ByteArray) (v : VT) (c m : Nat) : Bool :=
  (decide (k = 1) && (decide (s.size = 0) && (decide (c = 0) && (decide (m = 0) && conB v)))) ||
  ((decide (k = 2) && (nameB s && (decide (wordB s.data.toList = false) && (decide (c = 0) && (decide (m = 0) && noneV v))))) ||
  ((decide (k = 5) && (decide (s.size = 0) && (decide (c = 0) && (decide (m = 2) && noneV v)))) ||
  ((decide (k = 11) && (decide (s.size = 0) && (decide (c = 0) && (decide (m = 2) && noneV v)))) ||
  (decide (k = 16) && (decide (s.size = 0) && (decide (c = 0) && noneV v))))))
theorem below_set {B : Nat} {w w1 : World} {g o : Nat} {v : Value} (h : Below B w w1) (hg : B ≤ g := by omega) : Below B w (w1.setCell ⟨g, o, none⟩ v) :=
  ⟨h.os, h.tape, h.output, by have := h.size; simpa [World.setCell] using this, fun k hk => (Below.heap_setCell _ _ _ _ (by simp; omega)).trans (h.block k hk)⟩
theorem none_all {w : World} {lim : Nat} {a0 a1 a2 a3 a4 a5 : Value} {v : VT} (hv : Val w lim #[a0, a1, a2, a3, a4, a5] v) (h : noneV v = true) :
    ∃ A ca B cb, a0 = .int .i64 0 ∧ a1 = .int .i64 0 ∧ a2 = .float .f64 0 ∧ a3 = .string ⟨#[]⟩ ∧ a4 = .slice A 0 ca ∧ a5 = .slice B 0 cb := by
  generalize hx : (#[a0, a1, a2, a3, a4, a5] : Array Value) = x at hv
  cases hv with
  | mk k n f s A c ca B m cb ns xs vs hk hn hf hs hc hm hns hB hxs =>
    unfold noneV at h
    simp only [Bool.and_eq_true, decide_eq_true_eq] at h
    obtain ⟨rfl, rfl, rfl, h0, rfl, rfl⟩ := h
    obtain rfl := empty_of h0
    unfold fields at hx
    simp at hx
    obtain ⟨rfl, rfl, rfl, rfl, rfl, rfl⟩ := hx
    exact ⟨A, ca, B, cb, rfl, rfl, rfl, rfl, rfl, rfl⟩
set_option maxRecDepth 20000 in
set_option maxHeartbeats 4000000 in
theorem alonE_yes {k : Int} {s : ByteArray} {v : VT} {c m : Nat} {ns : Nat → ByteArray} {xs : Nat → ET} {x : Array Value} {w : World} (hx : EVal w w.heap.size x (.mk k s v c ns m xs)) (h : alonE k s v c m = true) :
    Calls Tryz.prog 116 #[.agg x] w fun e w' => e = .returned (.bool true) ∧ Below w.heap.size w w' := by
  have SF := float_store
  cases hx with
  | mk _ _ a0 a1 a2 a3 a4 a5 _ A _ ca B _ cb _ _ vs hk hs hv hc hm hns hB hxs =>
    unfold alonE at h
    simp only [Bool.and_eq_true, Bool.or_eq_true, decide_eq_true_eq] at h
    have hb : Below w.heap.size w (w.alloc (.cells (efields k s a0 a1 a2 a3 a4 a5 A c ca B m cb) 44)) := (Below.refl _ _).alloc (Nat.le_refl _) _
    have HB := Lib.hid hb
    have HL : Hid (w.heap.size < (w.alloc (.cells (efields k s a0 a1 a2 a3 a4 a5 A c ca B m cb) 44)).heap.size) := Lib.hid (by simp)
    have HR := Lib.hid (heap_alloc_new w (.cells (efields k s a0 a1 a2 a3 a4 a5 A c ca B m cb) 44))
    unfold efields at *
    rcases h with h | h | h | h | h
    · obtain ⟨rfl, hs0, rfl, rfl, hcon⟩ := h
      obtain rfl := empty_of hs0
      have C1 := Lib.hid (con_yes ((hv.stay hb).mono hb.size) hcon)
      clear hb hv hns hB hxs
      go_enter Tryz.func116, Tryz.ntmps116
      go_wp2_with (first
          | (go_at_call 148; refine C1.out.mono ?_; rintro e w1 ⟨rfl, hb1⟩; have hr1 := (hb1.block _ HL.out).trans HR.out; have HB1 := Lib.hid (HB.out.trans (hb1.mono HB.out.size)); clear hb1; have c0 := cell_of_row w1 _ 0 _ _ _ hr1; have c1 := cell_of_row w1 _ 1 _ _ _ hr1; have c2 := cell_of_row w1 _ 2 _ _ _ hr1; have c3 := cell_of_row w1 _ 3 _ _ _ hr1; have c4 := cell_of_row w1 _ 4 _ _ _ hr1; have c5 := cell_of_row w1 _ 5 _ _ _ hr1; have c6 := cell_of_row w1 _ 6 _ _ _ hr1; have c7 := cell_of_row w1 _ 7 _ _ _ hr1; have c8 := cell_of_row w1 _ 8 _ _ _ hr1; have c9 := cell_of_row w1 _ 9 _ _ _ hr1; have cf : ∀ o, w1.frozen? ⟨w.heap.size, o, none⟩ = false := fun o => (by simp [World.frozen?, hr1]); clear hr1)
          | (go_at_call 152; refine (none_yes none 0 none 0 _).mono ?_; rintro e w2 ⟨rfl, hb2⟩))
      go_ret
      exact ⟨rfl, (below_set (below_set (below_set (below_set (below_set (below_set HB1.out))))) ).trans (hb2.mono (by have := HB1.out.size; simp [World.setCell]; omega))⟩
    · obtain ⟨rfl, hnm, hwd, rfl, rfl, hno⟩ := h
      obtain ⟨_, _, _, _, rfl, rfl, rfl, rfl, rfl, rfl⟩ := none_all hv hno
      have N1 := fun W => name_f (s := s) (by unfold maxLen at hs; omega) W
      rw [hnm] at N1
      have W1 := fun W => LWord_any s W
      rw [hwd] at W1
      clear hb hv hns hB hxs
      go_enter Tryz.func116, Tryz.ntmps116
      go_wp2_with (first
          | (go_at_call 146; refine (N1 _).mono ?_; rintro e w0 ⟨rfl, hb0⟩; have hr0 := (hb0.block _ HL.out).trans HR.out; have HB0 := Lib.hid (HB.out.trans (hb0.mono HB.out.size)); have HL0 := Lib.hid (Nat.lt_of_lt_of_le HL.out hb0.size); have HR0 := Lib.hid hr0; have b1 := cell_of_row w0 _ 1 _ _ _ hr0; clear hb0 hr0)
          | (go_at_call 149; refine (W1 _).mono ?_; rintro e w1 ⟨rfl, hb1⟩; have hr1 := (hb1.block _ HL0.out).trans HR0.out; have HB1 := Lib.hid (HB0.out.trans (hb1.mono HB0.out.size)); clear hb1; have c1 := cell_of_row w1 _ 1 _ _ _ hr1; have c2 := cell_of_row w1 _ 2 _ _ _ hr1; have c3 := cell_of_row w1 _ 3 _ _ _ hr1; have c4 := cell_of_row w1 _ 4 _ _ _ hr1; have c5 := cell_of_row w1 _ 5 _ _ _ hr1; have c6 := cell_of_row w1 _ 6 _ _ _ hr1; have c7 := cell_of_row w1 _ 7 _ _ _ hr1; have c8 := cell_of_row w1 _ 8 _ _ _ hr1; have c9 := cell_of_row w1 _ 9 _ _ _ hr1; have cf : ∀ o, w1.frozen? ⟨w.heap.size, o, none⟩ = false := fun o => (by simp [World.frozen?, hr1]); clear hr1)
          | (go_at_call 152; refine (none_yes _ _ _ _ _).mono ?_; rintro e w2 ⟨rfl, hb2⟩))
      go_ret
      exact ⟨rfl, (below_set HB1.out).trans (hb2.mono (by have := HB1.out.size; simp [World.setCell]; omega))⟩
    · obtain ⟨rfl, hs0, rfl, rfl, hno⟩ := h
      obtain rfl := empty_of hs0
      obtain ⟨_, _, _, _, rfl, rfl, rfl, rfl, rfl, rfl⟩ := none_all hv hno
      clear hb hv hns hB hxs
      go_enter Tryz.func116, Tryz.ntmps116
      go_wp2_with (first
          | (go_at_call 152; refine (none_yes _ _ _ _ _).mono ?_; rintro e w2 ⟨rfl, hb2⟩))
      go_ret
      exact ⟨rfl, HB.out.trans (hb2.mono HB.out.size)⟩
    · obtain ⟨rfl, hs0, rfl, rfl, hno⟩ := h
      obtain rfl := empty_of hs0
      obtain ⟨_, _, _, _, rfl, rfl, rfl, rfl, rfl, rfl⟩ := none_all hv hno
      clear hb hv hns hB hxs
      go_enter Tryz.func116, Tryz.ntmps116
      go_wp2_with (first
          | (go_at_call 152; refine (none_yes _ _ _ _ _).mono ?_; rintro e w2 ⟨rfl, hb2⟩))
      go_ret
      exact ⟨rfl, HB.out.trans (hb2.mono HB.out.size)⟩
    · obtain ⟨rfl, hs0, rfl, hno⟩ := h
      obtain rfl := empty_of hs0
      obtain ⟨_, _, _, _, rfl, rfl, rfl, rfl, rfl, rfl⟩ := none_all hv hno
      have tm : ((m : Int) == (m : Int)) = true := beq_self_eq_true _
      clear hb hv hns hB hxs
      go_enter Tryz.func116, Tryz.ntmps116
      go_wp2_with (first
          | (go_at_call 152; refine (none_yes _ _ _ _ _).mono ?_; rintro e w2 ⟨rfl, hb2⟩))
      go_ret
      exact ⟨rfl, HB.out.trans (hb2.mono HB.out.size)⟩
end Go.Proofs.YtcmohggnehkjeaaGreat
namespace Go.Proofs.YtcmohggnehkjeaaGreat
open Go.RowKit

def cgo (g : Nat → Int → Int) (most : Int) : Nat → Nat → Int → Int
  | 0, _, n => n
  | r + 1, i, n => if n = most then n else cgo g most r (i + 1) (n + g i (most - n))
theorem cgo_in (g : Nat → Int → Int) (most : Int) (hg : ∀ i q, 1 ≤ q → q ≤ most → 1 ≤ g i q ∧ g i q ≤ q) : ∀ r i n, 1 ≤ n → n ≤ most → 1 ≤ cgo g most r i n ∧ cgo g most r i n ≤ most := by
  intro r
  induction r with
  | zero => intro i n h1 h2; exact ⟨h1, h2⟩
  | succ r ih =>
    intro i n h1 h2
    unfold cgo
    split
    · exact ⟨h1, h2⟩
    · have := hg i (most - n) (by omega) (by omega)
      exact ih _ _ (by omega) (by omega)
/-- How many parts, up to so many. -/
def cntL : ET → Int → Int
  | .bad, _ => 1
  | .mk _ _ _ _ _ m xs, most => cgo (fun i q => cntL (xs i) q) most m 0 1
theorem cntL_in : ∀ (t : ET) (most : Int), 1 ≤ most → 1 ≤ cntL t most ∧ cntL t most ≤ most := by
  intro t
  induction t with
  | bad => intro most h; exact ⟨Int.le_refl _, h⟩
  | mk k s v c ns m xs ih =>
    intro most h
    unfold cntL
    exact cgo_in _ most (fun i q h1 h2 => ih i q h1) m 0 1 (Int.le_refl _) h
theorem EVal.one {w : World} {lim : Nat} {v : Array Value} {t : ET} (h : EVal w lim v t) : v.all (·.oneCell') = true := by
  cases h with
  | mk k s a0 a1 a2 a3 a4 a5 v A c ca B m cb ns xs vs hk hs hv hc hm hns hB hxs =>
    generalize hx : (#[a0, a1, a2, a3, a4, a5] : Array Value) = x at hv
    cases hv
    unfold fields at hx
    simp at hx
    obtain ⟨rfl, rfl, rfl, rfl, rfl, rfl⟩ := hx
    simp [efields, Value.oneCell']
set_option maxRecDepth 20000 in
set_option maxHeartbeats 2000000 in
theorem count_f : ∀ (t : ET) (v : Array Value) (most : Int) (w : World), EVal w w.heap.size v t → 1 ≤ most → most ≤ 1000 →
    Calls Tryz.prog 78 #[.agg v, .int .i64 most] w fun e w' => e = .returned (.int .i64 (cntL t most)) ∧ Below w.heap.size w w' := by
  intro t
  induction t with
  | bad => intro v n w hv; cases hv
  | mk k s v0 c ns m xs ih =>
    intro v most w hv h1 h5
    cases hv with
    | mk _ _ a0 a1 a2 a3 a4 a5 _ A _ ca B _ cb _ _ vs hk hs hv hc hm hns hB hxs =>
      have hmx : m ≤ 9223372036854775807 := by have := hm; unfold maxLen at this; omega
      unfold efields
      clear hv
      go_enter Tryz.func78, Tryz.ntmps78
      go_wp2_with fail
      obtain ⟨W1, hW1⟩ : ∃ W1, W1 = w.alloc (.cells #[.int .i64 k, .string s, a0, a1, a2, a3, a4, a5, .slice A c ca, .slice B m cb] 44) := ⟨_, rfl⟩
      have hbW : Below w.heap.size w W1 := by rw [hW1]; exact (Below.refl _ _).alloc (Nat.le_refl _) _
      have hsz : W1.heap.size = w.heap.size + 1 := by rw [hW1]; simp
      rw [← hW1]
      have HW := Lib.hid hsz
      clear hW1 hsz
      go_loopw [5, 11] (fun nv iv wr => ∃ (i : Nat) (q : Int), i ≤ m ∧ iv = .int .i64 i ∧ nv = .int .i64 q ∧ 1 ≤ q ∧ q ≤ most ∧ Hid (cgo (fun i q => cntL (xs i) q) most (m - i) i q = cgo (fun i q => cntL (xs i) q) most m 0 1) ∧ Below W1.heap.size W1 wr) (fun _ iv _ => m - (intOf iv).toNat)
      case atStart => exact ⟨0, 1, Nat.zero_le _, rfl, rfl, by omega, by omega, Lib.hid rfl, Below.refl _ _⟩
      case round =>
        obtain ⟨i, q, hi, rfl, rfl, hq0, hq5, hh, hb⟩ := hrel
        have R := fun (hcond : i = m ∨ q = most) => (show cntL (.mk k s v0 c ns m xs) most = q by
          unfold cntL
          rw [← hh.out]
          rcases hcond with rfl | rfl
          · rw [show i - i = 0 by omega]; rfl
          · cases hmi : m - i with
            | zero => rfl
            | succ r => unfold cgo; rw [if_pos rfl])
        have RH := Lib.hid R
        clear R
        have hfin : Below w.heap.size w wr := hbW.trans (hb.mono (by have := HW.out; omega))
        have HF := Lib.hid hfin
        clear hfin
        by_cases hlt : i < m
        · obtain ⟨g, o, rfl, hg, hx⟩ := hB (by omega)
          have hten := hx i hlt
          have hvi := hxs i hlt
          generalize vs i = vi at *
          have htenr : TenAt wr g (o + i * 10) vi := hten.keep fun o => (hb.cell (p := ⟨g, o, none⟩) (show g < W1.heap.size by have := HW.out; omega)).trans (hbW.cell (p := ⟨g, o, none⟩) hg)
          have hvr : EVal wr wr.heap.size vi (xs i) := ((hvi.stay hbW).mono (by have := HW.out; omega)).stay hb |>.mono hb.size
          obtain ⟨b0, b1, b2, b3, b4, b5, b6, b7, b8, b9, rfl⟩ := hvi.ten
          obtain ⟨c0, c1, c2, c3, c4, c5, c6, c7, c8, c9⟩ := htenr.cells
          have hone := Lib.hid hvr.one
          have hvz := hvr.stay ((Below.refl wr.heap.size wr).alloc (Nat.le_refl _) (.cells #[b0, b1, b2, b3, b4, b5, b6, b7, b8, b9] 44))
          have HVZ := Lib.hid (hvz.mono (lim' := (wr.alloc (.cells #[b0, b1, b2, b3, b4, b5, b6, b7, b8, b9] 44)).heap.size) (by simp))
          have HBZ : Hid (Below w.heap.size w (wr.alloc (.cells #[b0, b1, b2, b3, b4, b5, b6, b7, b8, b9] 44))) := Lib.hid (HF.out.alloc (by have := HF.out.size; omega) _)
          have HBY : Hid (Below W1.heap.size W1 (wr.alloc (.cells #[b0, b1, b2, b3, b4, b5, b6, b7, b8, b9] 44))) := Lib.hid (hb.alloc hb.size _)
          have HEB := Lib.hid (EB.new wr #[b0, b1, b2, b3, b4, b5, b6, b7, b8, b9])
          clear hx hten htenr hvi hvr hvz hxs hns
          go_wp2_with (refine stE rfl _ _ rfl _ #[b0, b1, b2, b3, b4, b5, b6, b7, b8, b9] _ rfl rfl (EB.new _ _) rfl rfl hone.out ?_; refine Hid.out ?_)
          refine Lib.hid ?_
          rw [alloc_setRow]
          obtain ⟨S, hS⟩ : ∃ S, S = wr.heap.size := ⟨_, rfl⟩
          rw [← hS] at HEB ⊢
          generalize wr.alloc (.cells #[b0, b1, b2, b3, b4, b5, b6, b7, b8, b9] 44) = wz at *
          clear c0 c1 c2 c3 c4 c5 c6 c7 c8 c9 hS
          by_cases hq : q = most
          · have E := Lib.hid (RH.out (.inr hq))
            have tq : (q == most) = true := by simpa using hq
            clear hq
            go_wp2_with fail
            go_ret
            exact ⟨by rw [E.out]; rfl, HBZ.out⟩
          · have tq : (q == most) = false := by simpa using hq
            have hcall := Lib.hid (ih i _ (most - q) wz HVZ.out (by omega) (by omega))
            have hin := cntL_in (xs i) (most - q) (by omega)
            have hh' : Hid (cgo (fun i q => cntL (xs i) q) most (m - (i + 1)) (i + 1) (q + cntL (xs i) (most - q)) = cgo (fun i q => cntL (xs i) q) most m 0 1) := Lib.hid (by
              rw [← hh.out, show m - i = (m - (i + 1)) + 1 by omega]
              conv => rhs; unfold cgo
              rw [if_neg hq])
            generalize cntL (xs i) (most - q) = z at *
            clear hq ih hh RH
            go_wp2_with (first
              | (refine ldE rfl (.tmp 7) rfl S #[b0, b1, b2, b3, b4, b5, b6, b7, b8, b9] rfl HEB.out rfl ?_)
              | (go_at_call 78; refine hcall.out.mono ?_; rintro e w' ⟨rfl, hb'⟩))
            go_roundw
            case rel => exact ⟨i + 1, q + z, by omega, by go_num, by go_num, by omega, by omega, hh', HBY.out.trans (hb'.mono HBY.out.size)⟩
            case measure => simp [intOf]; omega
        · have E := Lib.hid (RH.out (.inl (by omega)))
          clear hB hxs hns
          go_wp2_with fail
          go_ret
          exact ⟨by rw [E.out]; rfl, HF.out⟩
end Go.Proofs.YtcmohggnehkjeaaGreat
namespace Go.Proofs.YtcmohggnehkjeaaGreat
open Go.RowKit

/-- Right as far as it is asked here, within so many. -/
def subB : Nat → ET → Bool
  | 0, _ => false
  | _ + 1, .bad => false
  | q + 1, .mk k s v c _ m xs => alonE k s v c m && (List.range m).all (fun i => subB q (xs i))
set_option maxRecDepth 20000 in
set_option maxHeartbeats 2000000 in
theorem within_yes : ∀ (d : Nat) (t : ET) (v : Array Value) (w : World), d ≤ 1000 → EVal w w.heap.size v t → subB d t = true →
    Calls Tryz.prog 79 #[.agg v, .int .i64 d] w fun e w' => e = .returned (.bool true) ∧ Below w.heap.size w w' := by
  intro d
  induction d with
  | zero => intro t v w _ _ h; simp [subB] at h
  | succ d ih =>
    intro t v w hd hv h
    have hv0 := hv
    cases hv with
    | mk k s a0 a1 a2 a3 a4 a5 v0 A c ca B m cb ns xs vs hk hs hv hc hm hns hB hxs =>
      unfold subB at h
      rw [Bool.and_eq_true] at h
      obtain ⟨hal, hall⟩ := h
      rw [List.all_eq_true] at hall
      have hsub : ∀ i, i < m → subB d (xs i) = true := fun i hi => hall i (List.mem_range.2 hi)
      have hmx : m ≤ 9223372036854775807 := by have := hm; unfold maxLen at this; omega
      have hbW : Below w.heap.size w (w.alloc (.cells (efields k s a0 a1 a2 a3 a4 a5 A c ca B m cb) 44)) := (Below.refl _ _).alloc (Nat.le_refl _) _
      have AL := Lib.hid (alonE_yes ((hv0.stay hbW).mono hbW.size) hal)
      have HB := Lib.hid hbW
      have hr := heap_alloc_new w (.cells (efields k s a0 a1 a2 a3 a4 a5 A c ca B m cb) 44)
      have HR := Lib.hid hr
      have HL : Hid (w.heap.size < (w.alloc (.cells (efields k s a0 a1 a2 a3 a4 a5 A c ca B m cb) 44)).heap.size) := Lib.hid (by simp)
      have td : (((d + 1 : Nat) : Int) == 0) = false := by rw [beq_eq_false_iff_ne]; omega
      have HD := Lib.hid (show ((d + 1 : Nat) : Int) - 1 = (d : Int) by omega)
      obtain ⟨q, hq⟩ : ∃ q, ((d + 1 : Nat) : Int) = q := ⟨_, rfl⟩
      rw [hq] at td HD ⊢
      have hqb : q ≤ 1000 ∧ 1 ≤ q := by omega
      unfold efields at *
      clear hbW hr hv hv0 hal hall hq
      go_enter Tryz.func79, Tryz.ntmps79
      go_wp2_with (go_at_call 116; refine AL.out.mono ?_; rintro e w1 ⟨rfl, hb1⟩; refine Hid.out ?_)
      refine Lib.hid ?_
      have hr1 := (hb1.block _ HL.out).trans HR.out
      have h9 := cell_of_row w1 _ 9 _ _ _ hr1
      have HB1 := Lib.hid (HB.out.trans (hb1.mono HB.out.size))
      have HL1 := Lib.hid (Nat.lt_of_lt_of_le HL.out hb1.size)
      clear hr1 hb1 AL HR
      go_wp2_with fail
      go_loopw [17] (fun iv wr => ∃ i : Nat, i ≤ m ∧ iv = .int .i64 i ∧ Below w1.heap.size w1 wr) (fun iv _ => m - (intOf iv).toNat)
      case atStart => exact ⟨0, Nat.zero_le _, rfl, Below.refl _ _⟩
      case round =>
        obtain ⟨i, hi, rfl, hb⟩ := hrel
        have HF := Lib.hid (HB1.out.trans (hb.mono HB1.out.size))
        by_cases hlt : i < m
        · obtain ⟨g, o, rfl, hg, hx⟩ := hB (by omega)
          have hten := hx i hlt
          have hvi := hxs i hlt
          have hsi := hsub i hlt
          generalize vs i = vi at *
          have htenr : TenAt wr g (o + i * 10) vi := hten.keep fun o => HF.out.cell (p := ⟨g, o, none⟩) hg
          have hvr : EVal wr wr.heap.size vi (xs i) := (hvi.stay HF.out).mono HF.out.size
          obtain ⟨b0, b1, b2, b3, b4, b5, b6, b7, b8, b9, rfl⟩ := hvi.ten
          obtain ⟨c0, c1, c2, c3, c4, c5, c6, c7, c8, c9⟩ := htenr.cells
          have hone := Lib.hid hvr.one
          have hvz := hvr.stay ((Below.refl wr.heap.size wr).alloc (Nat.le_refl _) (.cells #[b0, b1, b2, b3, b4, b5, b6, b7, b8, b9] 44))
          have hcall := Lib.hid (ih (xs i) _ (wr.alloc (.cells #[b0, b1, b2, b3, b4, b5, b6, b7, b8, b9] 44)) (by omega) (hvz.mono (by simp)) hsi)
          have HBY : Hid (Below w1.heap.size w1 (wr.alloc (.cells #[b0, b1, b2, b3, b4, b5, b6, b7, b8, b9] 44))) := Lib.hid (hb.alloc hb.size _)
          have HEB := Lib.hid (EB.new wr #[b0, b1, b2, b3, b4, b5, b6, b7, b8, b9])
          clear hx hten htenr hvi hvr hvz hxs hns hsub
          go_wp2_with (refine stE rfl _ _ rfl _ #[b0, b1, b2, b3, b4, b5, b6, b7, b8, b9] _ rfl rfl (EB.new _ _) rfl rfl hone.out ?_; refine Hid.out ?_)
          refine Lib.hid ?_
          rw [alloc_setRow]
          obtain ⟨S, hS⟩ : ∃ S, S = wr.heap.size := ⟨_, rfl⟩
          rw [← hS] at HEB ⊢
          generalize wr.alloc (.cells #[b0, b1, b2, b3, b4, b5, b6, b7, b8, b9] 44) = wz at *
          clear c0 c1 c2 c3 c4 c5 c6 c7 c8 c9 hS
          have hq1 := HD.out
          go_wp2_with (first
            | (refine ldE rfl (.tmp 6) rfl S #[b0, b1, b2, b3, b4, b5, b6, b7, b8, b9] rfl HEB.out rfl ?_)
            | (go_at_call 79; refine hcall.out.mono ?_; rintro e w' ⟨rfl, hb'⟩))
          go_roundw
          case rel => exact ⟨i + 1, by omega, by go_num, HBY.out.trans (hb'.mono HBY.out.size)⟩
          case measure => simp [intOf]; omega
        · clear hB hxs hns hsub
          go_wp2_with fail
          go_ret
          exact ⟨rfl, HF.out⟩
/-- Right, as far as it is asked here. -/
def subR (t : ET) : Bool := decide (cntL t 201 ≤ 200) && subB 12 t
set_option maxRecDepth 20000 in
theorem Right_yes {t : ET} {v : Array Value} {w : World} (hv : EVal w w.heap.size v t) (h : subR t = true) : Calls Tryz.prog 45 #[.agg v] w fun e w' => e = .returned (.bool true) ∧ Below w.heap.size w w' := by
  unfold subR at h
  rw [Bool.and_eq_true, decide_eq_true_eq] at h
  obtain ⟨hc, hs⟩ := h
  obtain ⟨b0, b1, b2, b3, b4, b5, b6, b7, b8, b9, rfl⟩ := hv.ten
  have hb : Below w.heap.size w (w.alloc (.cells #[b0, b1, b2, b3, b4, b5, b6, b7, b8, b9] 44)) := (Below.refl _ _).alloc (Nat.le_refl _) _
  have C := Lib.hid (count_f t _ 201 _ ((hv.stay hb).mono hb.size) (by decide) (by decide))
  have W := Lib.hid (fun W (h : Below (w.alloc (.cells #[b0, b1, b2, b3, b4, b5, b6, b7, b8, b9] 44)).heap.size (w.alloc (.cells #[b0, b1, b2, b3, b4, b5, b6, b7, b8, b9] 44)) W) => within_yes 12 t _ W (by decide) (((hv.stay hb).mono hb.size).stay h |>.mono h.size) hs)
  have HB := Lib.hid hb
  have hE := EB.new w #[b0, b1, b2, b3, b4, b5, b6, b7, b8, b9]
  have HE := Lib.hid hE
  generalize cntL t 201 = z at *
  clear hb hE hv hs
  go_enter Tryz.func45, Tryz.ntmps45
  go_wp2_with (go_at_call 78; refine C.out.mono ?_; rintro e w1 ⟨rfl, hb1⟩; refine Hid.out ?_)
  refine Lib.hid ?_
  have hE1 := HE.out.of (hb1.block _ HE.out.lt)
  have W1 := Lib.hid (W.out _ hb1)
  have HB1 := Lib.hid (HB.out.trans (hb1.mono HB.out.size))
  clear hb1 W C
  go_wp2_with (first
    | (refine ldW (by kernel_rfl) (.tmp 1) rfl w.heap.size #[b0, b1, b2, b3, b4, b5, b6, b7, b8, b9] rfl hE1 rfl ?_)
    | (go_at_call 79; refine W1.out.mono ?_; rintro e w2 ⟨rfl, hb2⟩))
  go_ret
  exact ⟨rfl, HB1.out.trans (hb2.mono HB1.out.size)⟩
end Go.Proofs.YtcmohggnehkjeaaGreat

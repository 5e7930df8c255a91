/-
  The landed package types: Same.
  The landed package types: caught.
  The landed package types: Join, Is.
  The landed package types: Is.
  The landed package types: among.
  The landed package types: variables; a list of the one variable x.
  The landed package types: ofVar, of the one variable x.
  The landed package types: listOf.
-/
import Derived.Test.YtcmohggnehkjeaaGreatGG
import Derived.Defers
import Derived.Recover
import Derived.Deep.RegionLaw
import Derived.Test.YtcmohggnehkjeaaGreatGB
namespace Go.Proofs.YtcmohggnehkjeaaGreat
open Go.RowKit

/-- The same, part by part. -/
def sameB : TT → TT → Bool
  | .bad, _ => false
  | .mk k c ns m xs, b => match b with
    | .bad => false
    | .mk k' c' ns' m' xs' => decide (k = k') && nmEq c c' ns ns' && (decide (m = m') && (List.range m).all (fun i => sameB (xs i) (xs' i)))
/-- Two boxes of types. -/
theorem two_boxes (w : World) (a b : Array Value) : Below w.heap.size w ((w.alloc (.cells a 25)).alloc (.cells b 25)) ∧ TB ((w.alloc (.cells a 25)).alloc (.cells b 25)) w.heap.size a ∧ TB ((w.alloc (.cells a 25)).alloc (.cells b 25)) (w.heap.size + 1) b := by
  refine ⟨((Below.refl _ _).alloc (Nat.le_refl _) _).alloc (by simp) _, (TB.new w _).of (Below.heap_alloc _ _ _ (by simp)), ?_⟩
  have := TB.new (w.alloc (.cells a 25)) b
  rw [World.size_alloc] at this
  exact this
theorem TypesAt.stay {w w' : World} {Q : Nat → Prop} {B : Option Addr} {m : Nat} {xs : Nat → TT} {vs : Nat → Array Value} (h : TypesAt w Q B m xs vs) (hb : Below w.heap.size w w') : TypesAt w' Q B m xs vs :=
  ⟨fun h0 => by
    obtain ⟨g, o, e, hq, hg, hx⟩ := h.1 h0
    exact ⟨g, o, e, hq, Nat.lt_of_lt_of_le hg hb.size, fun i hi => (hx i hi).keep fun o => hb.cell (p := ⟨g, o, none⟩) hg⟩, fun i hi => (h.2 i hi).stay hb⟩
theorem all_range {m : Nat} {p : Nat → Bool} : (List.range m).all p = true ↔ ∀ i, i < m → p i = true := by simp [List.all_eq_true]
set_option maxRecDepth 20000 in
set_option maxHeartbeats 2000000 in
theorem equalF_any {w : World} {B B' : Option Addr} {m cb m' cb' : Nat} {xs ys : Nat → TT} {vs us : Nat → Array Value} {Q Q' : Nat → Prop} (hT : TypesAt w Q B m xs vs) (hT' : TypesAt w Q' B' m' ys us) (hm : m ≤ maxLen)
    (hS : ∀ i, i < m → i < m' → ∀ W, Below w.heap.size w W → Calls Tryz.prog 12 #[.agg (vs i), .agg (us i)] W fun e w' => e = .returned (.bool (sameB (xs i) (ys i))) ∧ Below W.heap.size W w') :
    Calls Tryz.prog 37 #[.slice B m cb, .slice B' m' cb', .func (.func 12) #[] #[]] w fun e w' => e = .returned (.bool (decide (m = m') && (List.range m).all fun i => sameB (xs i) (ys i))) ∧ Below w.heap.size w w' := by
  have hcx : m ≤ 9223372036854775807 := by unfold maxLen at hm; omega
  obtain ⟨r, hr⟩ : ∃ r, r = (decide (m = m') && (List.range m).all fun i => sameB (xs i) (ys i)) := ⟨_, rfl⟩
  rw [← hr]
  have HR := Lib.hid hr
  clear hr
  have HT := Lib.hid hT
  have HT' := Lib.hid hT'
  have HF := Lib.hid hS
  clear hT hT' hS hm
  by_cases hcc : m = m'
  · subst hcc
    have t1 : ((m : Int) != (m : Int)) = false := by simp
    go_enter Tryz.func37, Tryz.ntmps37
    go_wp2_with fail
    go_loopw [17] (fun iv wr => ∃ i : Nat, i ≤ m ∧ iv = .int .i64 i ∧ Hid (Below w.heap.size w wr ∧ ∀ j, j < i → sameB (xs j) (ys j) = true)) (fun iv _ => m - (intOf iv).toNat)
    case atStart => exact ⟨0, Nat.zero_le _, rfl, Lib.hid ⟨Below.refl _ _, fun j hj => absurd hj (Nat.not_lt_zero j)⟩⟩
    case round =>
      obtain ⟨i, hi, rfl, hW⟩ := hrel
      by_cases hlt : i < m
      · obtain ⟨g, o, rfl, _, hg, hx⟩ := HT.out.1 (by omega)
        obtain ⟨g', o', rfl, _, hg', hx'⟩ := HT'.out.1 (by omega)
        have hti := HT.out.2 i hlt
        have hti' := HT'.out.2 i hlt
        have hf := HF.out i hlt hlt
        have hxi := (hx i hlt).keep fun o => hW.out.1.cell (p := ⟨g, o, none⟩) hg
        have hxi' := (hx' i hlt).keep fun o => hW.out.1.cell (p := ⟨g', o, none⟩) hg'
        have hbI := hW.out.1
        obtain ⟨sb, hsb⟩ : ∃ b, sameB (xs i) (ys i) = b := ⟨_, rfl⟩
        have HSB := Lib.hid hsb
        rw [hsb] at hf
        clear hsb hx hx'
        generalize vs i = v at *
        generalize us i = u at *
        obtain ⟨k1, A1, c1, ca1, B1, m1, cb1, rfl⟩ := hti.form
        obtain ⟨k2, A2, c2, ca2, B2, m2, cb2, rfl⟩ := hti'.form
        obtain ⟨e0, e1, e2⟩ := hxi.cells
        obtain ⟨d0, d1, d2⟩ := hxi'.cells
        have HG := Lib.hid (And.intro hg hg')
        have HBI := Lib.hid hbI
        have HFI := Lib.hid hf
        have ti : (i : Int) < m := by omega
        have ti0 : (0 : Int) ≤ i := by omega
        have HSZ := Lib.hid hbI.size
        have f0 : ∀ a, (wr.alloc (.cells a 25)).cell? ⟨g', o' + i * 3, none⟩ = some (.int .i64 k2) := fun a => (World.cell?_of_block (a := ⟨g', o' + i * 3, none⟩) (Below.heap_alloc _ _ _ (show g' < wr.heap.size by have := HSZ.out; omega))).trans d0
        have f1 : ∀ a, (wr.alloc (.cells a 25)).cell? ⟨g', o' + i * 3 + 1, none⟩ = some (.slice A2 c2 ca2) := fun a => (World.cell?_of_block (a := ⟨g', o' + i * 3 + 1, none⟩) (Below.heap_alloc _ _ _ (show g' < wr.heap.size by have := HSZ.out; omega))).trans d1
        have f2 : ∀ a, (wr.alloc (.cells a 25)).cell? ⟨g', o' + i * 3 + 2, none⟩ = some (.slice B2 m2 cb2) := fun a => (World.cell?_of_block (a := ⟨g', o' + i * 3 + 2, none⟩) (Below.heap_alloc _ _ _ (show g' < wr.heap.size by have := HSZ.out; omega))).trans d2
        clear hti hti' hxi hxi' hg hg' hbI hf d0 d1 d2
        have HBB : Hid (Below w.heap.size w ((wr.alloc (.cells #[.int .i64 k1, .slice A1 c1 ca1, .slice B1 m1 cb1] 25)).alloc (.cells #[.int .i64 k2, .slice A2 c2 ca2, .slice B2 m2 cb2] 25))) := Lib.hid ((HBI.out.alloc HSZ.out _).alloc (by rw [World.size_alloc]; have := HSZ.out; omega) _)
        cases sb with
        | false =>
          have HN : Hid (r = false) := Lib.hid (by
            cases hr' : r with
            | false => rfl
            | true =>
              rw [HR.out, Bool.and_eq_true] at hr'
              have := all_range.1 hr'.2 i hlt
              rw [HSB.out] at this
              cases this)
          go_wp2_with (go_at_call 12; refine (HFI.out _ HBB.out).mono ?_; rintro e w2 ⟨rfl, hb2⟩)
          go_ret
          exact ⟨by rw [HN.out]; rfl, HBB.out.trans (hb2.mono HBB.out.size)⟩
        | true =>
          go_wp2_with (go_at_call 12; refine (HFI.out _ HBB.out).mono ?_; rintro e w2 ⟨rfl, hb2⟩)
          go_roundw
          case rel => exact ⟨i + 1, by omega, by go_num, Lib.hid ⟨HBB.out.trans (hb2.mono HBB.out.size), fun j hj => by
            by_cases e : j = i
            · subst e; exact HSB.out
            · exact hW.out.2 j (by omega)⟩⟩
          case measure => simp [intOf]; omega
      · have HN : Hid (r = true) := Lib.hid (by rw [HR.out, Bool.and_eq_true]; exact ⟨by simp, all_range.2 fun j hj => hW.out.2 j (by omega)⟩)
        go_wp2_with fail
        go_ret
        exact ⟨by rw [HN.out]; rfl, hW.out.1⟩
  · have t1 : ((m : Int) != (m' : Int)) = true := by simp; omega
    have HN : Hid (r = false) := Lib.hid (by rw [HR.out, decide_eq_false hcc, Bool.false_and])
    clear hcc
    go_enter Tryz.func37, Tryz.ntmps37
    go_wp2_with fail
    go_ret
    exact ⟨by rw [HN.out]; rfl, Below.refl _ _⟩
set_option maxRecDepth 20000 in
set_option maxHeartbeats 2000000 in
theorem Same_t : ∀ (a b : TT) (v u : Array Value) (Q Q' : Nat → Prop) (w : World), TW w Q v a → TW w Q' u b → Calls Tryz.prog 12 #[.agg v, .agg u] w fun e w' => e = .returned (.bool (sameB a b)) ∧ Below w.heap.size w w' := by
  intro a
  induction a with
  | bad => intro b v u Q Q' w hv; cases hv
  | mk k c ns m xs ih =>
    intro b v u Q Q' w hv hu
    cases b with
    | bad => cases hu
    | mk k' c' ns' m' xs' =>
      cases hv with
      | mk _ A _ ca B _ cb _ _ vs hk hc hm hA hB0 hns hB hxs =>
        cases hu with
        | mk _ A' _ ca' B' _ cb' _ _ us hk' hc' hm' hA' hB0' hns' hB' hxs' =>
          obtain ⟨r, hr⟩ : ∃ r, r = sameB (.mk k c ns m xs) (.mk k' c' ns' m' xs') := ⟨_, rfl⟩
          rw [← hr]
          rw [sameB] at hr
          have hN : NamesAt w Q A c ns := hns
          have hN' : NamesAt w Q' A' c' ns' := hns'
          have hTT : TypesAt w Q B m xs vs := ⟨hB, hxs⟩
          have hTT' : TypesAt w Q' B' m' xs' us := ⟨hB', hxs'⟩
          unfold tfields
          obtain ⟨hb0, hx1, hx2⟩ := two_boxes w #[.int .i64 k, .slice A c ca, .slice B m cb] #[.int .i64 k', .slice A' c' ca', .slice B' m' cb']
          have hEN := fun W (hb : Below w.heap.size w W) => eqnames_any (ca := ca) (ca' := ca') (hN.stay hb) (hN'.stay hb) (by omega) (by omega)
          have hEF := fun W (hb : Below w.heap.size w W) => equalF_any (w := W) (cb := cb) (cb' := cb') (hTT.stay hb) (hTT'.stay hb) (by omega) (fun i hi hi' W' hb' => ih i (xs' i) (vs i) (us i) Q Q' W' ((hxs i hi).stay (hb.trans (hb'.mono hb.size))) ((hxs' i hi').stay (hb.trans (hb'.mono hb.size))))
          have HEN := Lib.hid hEN
          have HEF := Lib.hid hEF
          have HB0 := Lib.hid hb0
          have HX := Lib.hid (And.intro hx1 hx2)
          have HR := Lib.hid hr
          clear hA hB0 hA' hB0' hns hns' hB hB' hxs hxs' hN hN' hTT hTT' hEN hEF hb0 hx1 hx2 hr hc hc' hm hm' hk hk' ih
          by_cases hkk : k = k'
          · subst hkk
            have tk : (k == k) = true := beq_self_eq_true _
            obtain ⟨p, hp⟩ : ∃ p, nmEq c c' ns ns' = p := ⟨_, rfl⟩
            obtain ⟨q, hq⟩ : ∃ q, (decide (m = m') && (List.range m).all fun i => sameB (xs i) (xs' i)) = q := ⟨_, rfl⟩
            have hr := HR.out
            rw [hp, hq, decide_eq_true rfl, Bool.true_and] at hr
            have HR2 := Lib.hid hr
            rw [hp] at HEN
            rw [hq] at HEF
            clear hr hp hq HR
            cases p with
            | false =>
              go_enter Tryz.func12, Tryz.ntmps12
              go_wp2_with (go_at_call 36; refine (HEN.out _ HB0.out).mono ?_; rintro e w1 ⟨rfl, hb1⟩)
              go_ret
              exact ⟨by rw [HR2.out]; rfl, HB0.out.trans (hb1.mono HB0.out.size)⟩
            | true =>
              go_enter Tryz.func12, Tryz.ntmps12
              go_wp2_with (first
                | (go_at_call 36; refine (HEN.out _ HB0.out).mono ?_; rintro e w1 ⟨rfl, hb1⟩; have z0 := (HX.out.1.below hb1).cells.2.2.1; have z1 := (HX.out.2.below hb1).cells.2.2.1)
                | (go_at_call 37; refine (HEF.out _ (HB0.out.trans (hb1.mono HB0.out.size))).mono ?_; rintro e w2 ⟨rfl, hb2⟩))
              go_ret
              exact ⟨by rw [HR2.out]; cases q <;> rfl, (HB0.out.trans (hb1.mono HB0.out.size)).trans (hb2.mono (HB0.out.trans (hb1.mono HB0.out.size)).size)⟩
          · have tk : (k == k') = false := by rw [beq_eq_false_iff_ne]; exact hkk
            have HN : Hid (r = false) := Lib.hid (by rw [HR.out, decide_eq_false hkk, Bool.false_and, Bool.false_and])
            clear hkk
            go_enter Tryz.func12, Tryz.ntmps12
            go_wp2_with fail
            go_ret
            exact ⟨by rw [HN.out]; rfl, HB0.out⟩
end Go.Proofs.YtcmohggnehkjeaaGreat
namespace Go.Proofs.YtcmohggnehkjeaaGreat
open Go.RowKit

theorem catchT_idle (q q' : Addr) (w : World) : CallsD Tryz.prog 70 #[.pointer (some q), .pointer (some q')] .returning w fun e u' w' => e = .returned (.tuple #[]) ∧ u' = .returning ∧ w' = w := by
  refine callsD_of_wpS Tryz.func70 rfl fun c₀ cs hu => ?_
  apply wpS_seq
  apply wpS_region
  simp [wpOpsS, go_sem, recoverD, hu, Tryz.ntmps70, Exit.thenS]
  refine wpS_of_wp ?_
  go_wp2_with fail
  cases c₀
  simp_all [bodyPostS, results, Tryz.results70]
theorem errno_set {w : World} {S : Nat} {x : Value} (h : w.heap[S]? = some (.cells #[x] 28 (0, 0))) (v : Value) : (w.setCell ⟨S, 0, none⟩ v).heap[S]? = some (.cells #[v] 28 (0, 0)) := by
  simp [World.setCell, Array.getElem?_modify, h]
theorem assert_gave (c : Int) (w : World) : (Instr.typeAssert (.iface 104 (.agg #[.int .i64 c])) 20 104 true).run Tryz.prog w = .ok (.tuple #[.agg #[.int .i64 c], .bool true]) w := by kernel_rfl
/-- What the one that gave up leaves: its answer is none, its error is laid. -/
def PutBoth (R S : Nat) (c : Int) (w w' : World) : Prop :=
  TB w' R #[.int .i64 0, .slice none 0 0, .slice none 0 0] ∧ w'.heap[S]? = some (.cells #[.int .i64 c] 28 (0, 0)) ∧ w'.os = w.os ∧ w'.tape = w.tape ∧ w'.output = w.output ∧ w.heap.size ≤ w'.heap.size ∧ ∀ b, b < w.heap.size → b ≠ R → b ≠ S → w'.heap[b]? = w.heap[b]?
set_option maxRecDepth 100000 in
theorem catchT_panics (R S : Nat) (x c : Int) (v0 v1 v2 : Value) (older : List PanicEntry) (w : World) (hR : TB w R #[v0, v1, v2]) (hc : w.heap[S]? = some (.cells #[.int .i64 x] 28 (0, 0))) (hRS : R ≠ S) :
    CallsD Tryz.prog 70 #[.pointer (some ⟨R, 0, none⟩), .pointer (some ⟨S, 0, none⟩)] (.panicking ({ v := .iface 104 (.agg #[.int .i64 c]), recovered := false } :: older)) w fun e u' w' => e = .returned (.tuple #[]) ∧ u' = .panicking ({ v := .iface 104 (.agg #[.int .i64 c]), recovered := true } :: older) ∧ PutBoth R S c w w' := by
  have TA := assert_gave c w
  have sl : S < w.heap.size := (Array.getElem?_eq_some_iff.1 hc).1
  refine callsD_of_wpS Tryz.func70 rfl fun c₀ cs hu => ?_
  apply wpS_seq
  apply wpS_region
  simp [wpOpsS, go_sem, recoverD, hu, Tryz.ntmps70, Exit.thenS]
  have hf : #[Value.pointer (some ⟨R, 0, none⟩), .pointer (some ⟨S, 0, none⟩)] ++ (Array.replicate 12 undef).setIfInBounds 3 (Value.iface 104 (.agg #[Value.int IntKind.i64 c])) = #[.pointer (some ⟨R, 0, none⟩), .pointer (some ⟨S, 0, none⟩), undef, undef, undef, .iface 104 (.agg #[.int .i64 c]), undef, undef, undef, undef, undef, undef, undef, undef] := rfl
  rw [hf]
  refine wpS_of_wp ?_
  go_wp2_with fail
  obtain ⟨W, hW⟩ : ∃ W, W = w.alloc (.cells #[.int .i64 c] 104) := ⟨_, rfl⟩
  have hbW : Below w.heap.size w W := by rw [hW]; exact (Below.refl _ _).alloc (Nat.le_refl _) _
  have hx : W.cell? ⟨w.heap.size, 0, none⟩ = some (.int .i64 c) := by have h := heap_alloc_new w (.cells #[.int .i64 c] 104); rw [← hW] at h; simp [World.cell?, h]
  have hR' := hR.below hbW
  have hc' := (hbW.block S sl).trans hc
  obtain ⟨r0, r1, r2, rf, rl⟩ := hR'.cells
  have s0 : W.cell? ⟨S, 0, none⟩ = some (.int .i64 x) := by simp [World.cell?, hc']
  have sf : W.frozen? ⟨S, 0, none⟩ = false := by simp [World.frozen?, hc']
  rw [← hW]
  have HW := Lib.hid (And.intro hW (And.intro hbW (And.intro hR' hc')))
  have rl' : R < w.heap.size := hR.lt
  have n1 : R ≠ w.heap.size := by omega
  have n2 : S ≠ w.heap.size := by omega
  have n3 := n1.symm
  have n4 := n2.symm
  have n5 := hRS.symm
  generalize hgs : w.heap.size = g at *
  clear hW hbW hR' hc' hR hc
  have HP : Hid (PutBoth R S c w ((((W.setCell ⟨R, 0, none⟩ (.int .i64 0)).setCell ⟨R, 1, none⟩ (.slice none 0 0)).setCell ⟨R, 2, none⟩ (.slice none 0 0)).setCell ⟨S, 0, none⟩ (.int .i64 c)).drew) := Lib.hid (by
    have hb := HW.out.2.1
    have hR1 := ((HW.out.2.2.1.set 0 (.int .i64 0)).set 1 (.slice none 0 0)).set 2 (.slice none 0 0)
    refine ⟨hR1.of (Below.heap_setCell _ _ _ _ (by simpa using hRS)), ?_, hb.os, hb.tape, hb.output, ?_, fun b hlt hbR hbS => ?_⟩
    · have h0 : ((((W.setCell ⟨R, 0, none⟩ (.int .i64 0)).setCell ⟨R, 1, none⟩ (.slice none 0 0)).setCell ⟨R, 2, none⟩ (.slice none 0 0))).heap[S]? = some (.cells #[.int .i64 x] 28 (0, 0)) :=
        (Below.heap_setCell _ _ _ _ (by simpa using n5)).trans ((Below.heap_setCell _ _ _ _ (by simpa using n5)).trans ((Below.heap_setCell _ _ _ _ (by simpa using n5)).trans HW.out.2.2.2))
      generalize (((W.setCell ⟨R, 0, none⟩ (.int .i64 0)).setCell ⟨R, 1, none⟩ (.slice none 0 0)).setCell ⟨R, 2, none⟩ (.slice none 0 0)) = X at h0 ⊢
      exact errno_set h0 _
    · have := hb.size
      have e : ∀ (X : World) (a : Addr) (v : Value), (X.setCell a v).heap.size = X.heap.size := fun X a v => by simp [World.setCell]
      show w.heap.size ≤ (World.setCell _ _ _).heap.size
      rw [e, e, e, e]
      exact this
    · refine (Below.heap_setCell _ _ _ _ (by simpa using hbS)).trans ?_
      refine (Below.heap_setCell _ _ _ _ (by simpa using hbR)).trans ?_
      refine (Below.heap_setCell _ _ _ _ (by simpa using hbR)).trans ?_
      refine (Below.heap_setCell _ _ _ _ (by simpa using hbR)).trans ?_
      exact hb.block b (by omega))
  go_region_law (fail)
  all_goals
    generalize World.drew _ = W3 at HP ⊢
    go_wp2_with fail
    simp [bodyPostS, results, Tryz.results70]
    exact HP.out
/-- How a finder of types ends: a type, or the panic. -/
def Finds (Q : Nat → Prop) (r : Except Int TT) (w : World) (e : Ending) (w' : World) : Prop :=
  Below w.heap.size w w' ∧ match r with
  | .ok t => ∃ x, e = .returned (.agg x) ∧ TW w' (fun g => Q g ∨ w.heap.size ≤ g) x t
  | .error c => e = .panicked (gaveP c)
/-- What caught answers. -/
def Caught (r : Except Int TT) (w : World) (e : Ending) (w' : World) : Prop :=
  Below w.heap.size w w' ∧ match r with
  | .ok t => ∃ x, e = .returned (.tuple #[.agg x, .int .i64 0]) ∧ TW w' (fun g => w.heap.size ≤ g) x t
  | .error c => e = .returned (.tuple #[.agg #[.int .i64 0, .slice none 0 0, .slice none 0 0], .int .i64 c])
theorem makeFunc_go (fn : Fn) (first cap : Array Value) (w : World) : (Instr.makeFunc fn first cap).run Tryz.prog w = .ok (.func fn first cap) w := rfl
set_option maxRecDepth 100000 in
set_option maxHeartbeats 2000000 in
theorem caughtJ_err {Q : Nat → Prop} {c : Int} {p q : Addr} {w : World}
    (H : ∀ W, Below w.heap.size w W → Calls Tryz.prog 34 #[.pointer (some p), .pointer (some q)] W (Finds Q (.error c) W)) :
    Calls Tryz.prog 33 #[.func (.func 34) #[] #[.pointer (some p), .pointer (some q)]] w (Caught (.error c) w) := by
  obtain ⟨W0, hW0⟩ : ∃ W0, W0 = (w.alloc (.cells #[.int .i64 0, .slice none 0 0, .slice none 0 0] 25)).alloc (.cells #[.int .i64 0] 28) := ⟨_, rfl⟩
  have hb0 : Below w.heap.size w W0 := by rw [hW0]; exact ((Below.refl _ _).alloc (Nat.le_refl _) _).alloc (by simp) _
  have hs0 : W0.heap.size = w.heap.size + 2 := by rw [hW0]; simp
  have hx0 : TB W0 w.heap.size #[.int .i64 0, .slice none 0 0, .slice none 0 0] := by
    rw [hW0]; exact (TB.new w _).of (Below.heap_alloc _ _ _ (by simp))
  have hy0 : W0.heap[w.heap.size + 1]? = some (.cells #[.int .i64 0] 28 (0, 0)) := by
    rw [hW0]
    have := heap_alloc_new (w.alloc (.cells #[.int .i64 0, .slice none 0 0, .slice none 0 0] 25)) (.cells #[.int .i64 0] 28)
    rw [World.size_alloc] at this; exact this
  have C := H W0 hb0
  unfold Finds at C
  unfold Caught
  simp only at C ⊢
  have MF := makeFunc_go
  have HX0 := Lib.hid hx0
  have HY0 := Lib.hid hy0
  have HB0 := Lib.hid hb0
  have HZ := Lib.hid hs0
  have e0 : (w.alloc (.cells #[.int .i64 0, .slice none 0 0, .slice none 0 0] 25)).alloc (.cells #[.int .i64 0] 28) = W0 := hW0.symm
  have HE := Lib.hid e0
  have HC := Lib.hid C
  clear hb0 hs0 hx0 hy0 hW0 e0 C H
  go_enter_defers Tryz.func33, Tryz.ntmps33
  go_wp2_with fail
  rw [HE.out]
  go_wp2_with (go_at_call 34; refine HC.out.mono ?_; rintro e w1 ⟨hb, rfl⟩)
  have hx1 := HX0.out.below hb
  have hy1 := (hb.block (w.heap.size + 1) (by have := HZ.out; omega)).trans HY0.out
  have HB1 := Lib.hid (HB0.out.trans (hb.mono HB0.out.size))
  have HZ1 := Lib.hid (show w.heap.size + 2 ≤ w1.heap.size by have := hb.size; have := HZ.out; omega)
  clear hb
  refine leaves_cons (f := 70) (args := #[.pointer (some ⟨w.heap.size, 0, none⟩), .pointer (some ⟨w.heap.size + 1, 0, none⟩)]) (by simp) (by simp [go_sem]) ?_
  refine (catchT_panics w.heap.size (w.heap.size + 1) 0 c _ _ _ [] _ hx1 hy1 (by omega)).mono ?_
  rintro e u' w2 ⟨rfl, rfl, hp⟩
  obtain ⟨p1, p2, p3, p4, p5, p6, p7⟩ := hp
  have hfin : Below w.heap.size w w2 := ⟨p3.trans HB1.out.os, p4.trans HB1.out.tape, p5.trans HB1.out.output, Nat.le_trans HB1.out.size p6, fun b hb => (p7 b (by have := HZ1.out; omega) (by omega) (by omega)).trans (HB1.out.block b hb)⟩
  obtain ⟨z0, z1, z2, _, _⟩ := p1.cells
  have q0 : w2.cell? ⟨w.heap.size + 1, 0, none⟩ = some (.int .i64 c) := by simp [World.cell?, p2]
  simp [Leaves, settle, results, Tryz.results33, go_sem, q0, asAddr, z0, z1, z2, hfin]
set_option maxRecDepth 100000 in
set_option maxHeartbeats 2000000 in
theorem caughtJ_ok {Q : Nat → Prop} {t : TT} {p q : Addr} {w : World}
    (H : ∀ W, Below w.heap.size w W → Calls Tryz.prog 34 #[.pointer (some p), .pointer (some q)] W (Finds Q (.ok t) W))
    (hf : tfew t) : Calls Tryz.prog 33 #[.func (.func 34) #[] #[.pointer (some p), .pointer (some q)]] w (Caught (.ok t) w) := by
  obtain ⟨W0, hW0⟩ : ∃ W0, W0 = (w.alloc (.cells #[.int .i64 0, .slice none 0 0, .slice none 0 0] 25)).alloc (.cells #[.int .i64 0] 28) := ⟨_, rfl⟩
  have hb0 : Below w.heap.size w W0 := by rw [hW0]; exact ((Below.refl _ _).alloc (Nat.le_refl _) _).alloc (by simp) _
  have hs0 : W0.heap.size = w.heap.size + 2 := by rw [hW0]; simp
  have hx0 : TB W0 w.heap.size #[.int .i64 0, .slice none 0 0, .slice none 0 0] := by
    rw [hW0]; exact (TB.new w _).of (Below.heap_alloc _ _ _ (by simp))
  have hy0 : W0.heap[w.heap.size + 1]? = some (.cells #[.int .i64 0] 28 (0, 0)) := by
    rw [hW0]
    have := heap_alloc_new (w.alloc (.cells #[.int .i64 0, .slice none 0 0, .slice none 0 0] 25)) (.cells #[.int .i64 0] 28)
    rw [World.size_alloc] at this; exact this
  have C := H W0 hb0
  unfold Finds at C
  unfold Caught
  simp only at C ⊢
  have MF := makeFunc_go
  have HT := Lib.hid hf
  have HX0 := Lib.hid hx0
  have HY0 := Lib.hid hy0
  have HB0 := Lib.hid hb0
  have HZ := Lib.hid hs0
  have e0 : (w.alloc (.cells #[.int .i64 0, .slice none 0 0, .slice none 0 0] 25)).alloc (.cells #[.int .i64 0] 28) = W0 := hW0.symm
  have HE := Lib.hid e0
  have HC := Lib.hid C
  clear hb0 hs0 hx0 hy0 hW0 e0 C H hf
  go_enter_defers Tryz.func33, Tryz.ntmps33
  go_wp2_with fail
  rw [HE.out]
  go_wp2_with (first
    | (go_at_call 34; refine HC.out.mono ?_; rintro e w1 ⟨hb, x, rfl, hx⟩; have HX1 := Lib.hid (HX0.out.below hb); have HY1 := Lib.hid ((hb.block (w.heap.size + 1) (by have := HZ.out; omega)).trans HY0.out); have HB1 := Lib.hid (HB0.out.trans (hb.mono HB0.out.size)); have HZ1 := Lib.hid (show w.heap.size + 2 ≤ w1.heap.size by have := hb.size; have := HZ.out; omega); have HF1 := Lib.hid (fresh_typ t x _ w1 hx HT.out); clear hb hx)
    | (go_at_call 71; refine HF1.out.mono ?_; rintro e w2 ⟨y, rfl, hy, hb2⟩; refine Hid.out ?_))
  refine Lib.hid ?_
  have HX2 := Lib.hid (HX1.out.below hb2)
  have HY2 := Lib.hid ((hb2.block (w.heap.size + 1) (by have := HZ1.out; omega)).trans HY1.out)
  have HB2 := Lib.hid (HB1.out.trans (hb2.mono HB1.out.size))
  have HY := Lib.hid hy
  have HZ2 := Lib.hid hb2.size
  clear hb2 hy
  go_wp2_with (refine stT rfl _ _ rfl w.heap.size y _ rfl rfl HX2.out rfl HY.out.size HY.out.one ?_; refine Hid.out ?_)
  refine Lib.hid ?_
  obtain ⟨W3, hW3⟩ : ∃ W, W = w2.setRow w.heap.size y := ⟨_, rfl⟩
  rw [← hW3]
  have hx3 : TB W3 w.heap.size y := by rw [hW3]; exact HX2.out.put y
  have hy3 : W3.heap[w.heap.size + 1]? = some (.cells #[.int .i64 0] 28 (0, 0)) := by rw [hW3]; exact (setRow_other w2 w.heap.size _ y (by omega)).trans HY2.out
  have hk3 : ∀ b, b ≠ w.heap.size → W3.heap[b]? = w2.heap[b]? := fun b hb => by rw [hW3]; exact setRow_other w2 w.heap.size b y hb
  have hs3 : W3.heap.size = w2.heap.size := by rw [hW3]; simp [World.setRow]
  have ho3 : W3.os = w2.os ∧ W3.tape = w2.tape ∧ W3.output = w2.output := by rw [hW3]; exact ⟨rfl, rfl, rfl⟩
  have q0 : W3.cell? ⟨w.heap.size + 1, 0, none⟩ = some (.int .i64 0) := by simp [World.cell?, hy3]
  have q1 : W3.frozen? ⟨w.heap.size + 1, 0, none⟩ = false := by simp [World.frozen?, hy3]
  have K3 := Lib.hid (And.intro hk3 (And.intro hs3 (And.intro ho3 (And.intro hx3 hy3))))
  clear hW3 hx3 hy3 hk3 hs3 ho3
  go_wp2_with fail
  obtain ⟨W4, hW4⟩ : ∃ W, W = W3.setCell ⟨w.heap.size + 1, 0, none⟩ (.int .i64 0) := ⟨_, rfl⟩
  have hk4 : ∀ b, b ≠ w.heap.size + 1 → W4.heap[b]? = W3.heap[b]? := fun b hb => by rw [hW4]; exact Below.heap_setCell _ _ _ _ (by simpa using hb)
  have hs4 : W4.heap.size = W3.heap.size := by rw [hW4]; simp [World.setCell]
  have ho4 : W4.os = W3.os ∧ W4.tape = W3.tape ∧ W4.output = W3.output := by rw [hW4]; exact ⟨rfl, rfl, rfl⟩
  have hx4 : TB W4 w.heap.size y := K3.out.2.2.2.1.of (hk4 _ (by omega))
  have q4 : W4.cell? ⟨w.heap.size + 1, 0, none⟩ = some (.int .i64 0) := by rw [hW4]; simp [World.cell?, errno_set K3.out.2.2.2.2]
  rw [← hW4]
  clear hW4 q0 q1
  have hy4 : TW W4 (fun g => w.heap.size ≤ g) y t := (HY.out.keep (w' := W4) (by rw [hs4, K3.out.2.1]; exact Nat.le_refl _) fun g hg _ => (hk4 g (by have := HZ1.out; omega)).trans (K3.out.1 g (by have := HZ1.out; omega))).imp fun g hg _ => by have := HZ1.out; omega
  have hfin : Below w.heap.size w W4 := ⟨ho4.1.trans (K3.out.2.2.1.1.trans HB2.out.os), ho4.2.1.trans (K3.out.2.2.1.2.1.trans HB2.out.tape), ho4.2.2.trans (K3.out.2.2.1.2.2.trans HB2.out.output), by rw [hs4, K3.out.2.1]; exact HB2.out.size, fun b hb => (hk4 b (by omega)).trans ((K3.out.1 b (by omega)).trans (HB2.out.block b hb))⟩
  have HF := Lib.hid (And.intro hfin hy4)
  clear hk4 hs4 ho4 hfin hy4
  refine leaves_cons (f := 70) (args := #[.pointer (some ⟨w.heap.size, 0, none⟩), .pointer (some ⟨w.heap.size + 1, 0, none⟩)]) (by simp) (by simp [go_sem]) ?_
  refine (catchT_idle ⟨w.heap.size, 0, none⟩ ⟨w.heap.size + 1, 0, none⟩ _).mono ?_
  rintro e u' w5 ⟨rfl, rfl, rfl⟩
  obtain ⟨y0, y1, y2, y3, y4, y5, y6, rfl⟩ := HF.out.2.form
  obtain ⟨z0, z1, z2, _, _⟩ := hx4.cells
  simp [Leaves, settle, results, Tryz.results33, go_sem, q4, asAddr, z0, z1, z2]
  exact ⟨HF.out.1, HF.out.2⟩
set_option maxRecDepth 100000 in
set_option maxHeartbeats 2000000 in
theorem caughtC_err {Q : Nat → Prop} {c : Int} {p q : Addr} {w : World}
    (H : ∀ W, Below w.heap.size w W → Calls Tryz.prog 48 #[.pointer (some p), .pointer (some q)] W (Finds Q (.error c) W)) :
    Calls Tryz.prog 33 #[.func (.func 48) #[] #[.pointer (some p), .pointer (some q)]] w (Caught (.error c) w) := by
  obtain ⟨W0, hW0⟩ : ∃ W0, W0 = (w.alloc (.cells #[.int .i64 0, .slice none 0 0, .slice none 0 0] 25)).alloc (.cells #[.int .i64 0] 28) := ⟨_, rfl⟩
  have hb0 : Below w.heap.size w W0 := by rw [hW0]; exact ((Below.refl _ _).alloc (Nat.le_refl _) _).alloc (by simp) _
  have hs0 : W0.heap.size = w.heap.size + 2 := by rw [hW0]; simp
  have hx0 : TB W0 w.heap.size #[.int .i64 0, .slice none 0 0, .slice none 0 0] := by
    rw [hW0]; exact (TB.new w _).of (Below.heap_alloc _ _ _ (by simp))
  have hy0 : W0.heap[w.heap.size + 1]? = some (.cells #[.int .i64 0] 28 (0, 0)) := by
    rw [hW0]
    have := heap_alloc_new (w.alloc (.cells #[.int .i64 0, .slice none 0 0, .slice none 0 0] 25)) (.cells #[.int .i64 0] 28)
    rw [World.size_alloc] at this; exact this
  have C := H W0 hb0
  unfold Finds at C
  unfold Caught
  simp only at C ⊢
  have MF := makeFunc_go
  have HX0 := Lib.hid hx0
  have HY0 := Lib.hid hy0
  have HB0 := Lib.hid hb0
  have HZ := Lib.hid hs0
  have e0 : (w.alloc (.cells #[.int .i64 0, .slice none 0 0, .slice none 0 0] 25)).alloc (.cells #[.int .i64 0] 28) = W0 := hW0.symm
  have HE := Lib.hid e0
  have HC := Lib.hid C
  clear hb0 hs0 hx0 hy0 hW0 e0 C H
  go_enter_defers Tryz.func33, Tryz.ntmps33
  go_wp2_with fail
  rw [HE.out]
  go_wp2_with (go_at_call 48; refine HC.out.mono ?_; rintro e w1 ⟨hb, rfl⟩)
  have hx1 := HX0.out.below hb
  have hy1 := (hb.block (w.heap.size + 1) (by have := HZ.out; omega)).trans HY0.out
  have HB1 := Lib.hid (HB0.out.trans (hb.mono HB0.out.size))
  have HZ1 := Lib.hid (show w.heap.size + 2 ≤ w1.heap.size by have := hb.size; have := HZ.out; omega)
  clear hb
  refine leaves_cons (f := 70) (args := #[.pointer (some ⟨w.heap.size, 0, none⟩), .pointer (some ⟨w.heap.size + 1, 0, none⟩)]) (by simp) (by simp [go_sem]) ?_
  refine (catchT_panics w.heap.size (w.heap.size + 1) 0 c _ _ _ [] _ hx1 hy1 (by omega)).mono ?_
  rintro e u' w2 ⟨rfl, rfl, hp⟩
  obtain ⟨p1, p2, p3, p4, p5, p6, p7⟩ := hp
  have hfin : Below w.heap.size w w2 := ⟨p3.trans HB1.out.os, p4.trans HB1.out.tape, p5.trans HB1.out.output, Nat.le_trans HB1.out.size p6, fun b hb => (p7 b (by have := HZ1.out; omega) (by omega) (by omega)).trans (HB1.out.block b hb)⟩
  obtain ⟨z0, z1, z2, _, _⟩ := p1.cells
  have q0 : w2.cell? ⟨w.heap.size + 1, 0, none⟩ = some (.int .i64 c) := by simp [World.cell?, p2]
  simp [Leaves, settle, results, Tryz.results33, go_sem, q0, asAddr, z0, z1, z2, hfin]
set_option maxRecDepth 100000 in
set_option maxHeartbeats 2000000 in
theorem caughtC_ok {Q : Nat → Prop} {t : TT} {p q : Addr} {w : World}
    (H : ∀ W, Below w.heap.size w W → Calls Tryz.prog 48 #[.pointer (some p), .pointer (some q)] W (Finds Q (.ok t) W))
    (hf : tfew t) : Calls Tryz.prog 33 #[.func (.func 48) #[] #[.pointer (some p), .pointer (some q)]] w (Caught (.ok t) w) := by
  obtain ⟨W0, hW0⟩ : ∃ W0, W0 = (w.alloc (.cells #[.int .i64 0, .slice none 0 0, .slice none 0 0] 25)).alloc (.cells #[.int .i64 0] 28) := ⟨_, rfl⟩
  have hb0 : Below w.heap.size w W0 := by rw [hW0]; exact ((Below.refl _ _).alloc (Nat.le_refl _) _).alloc (by simp) _
  have hs0 : W0.heap.size = w.heap.size + 2 := by rw [hW0]; simp
  have hx0 : TB W0 w.heap.size #[.int .i64 0, .slice none 0 0, .slice none 0 0] := by
    rw [hW0]; exact (TB.new w _).of (Below.heap_alloc _ _ _ (by simp))
  have hy0 : W0.heap[w.heap.size + 1]? = some (.cells #[.int .i64 0] 28 (0, 0)) := by
    rw [hW0]
    have := heap_alloc_new (w.alloc (.cells #[.int .i64 0, .slice none 0 0, .slice none 0 0] 25)) (.cells #[.int .i64 0] 28)
    rw [World.size_alloc] at this; exact this
  have C := H W0 hb0
  unfold Finds at C
  unfold Caught
  simp only at C ⊢
  have MF := makeFunc_go
  have HT := Lib.hid hf
  have HX0 := Lib.hid hx0
  have HY0 := Lib.hid hy0
  have HB0 := Lib.hid hb0
  have HZ := Lib.hid hs0
  have e0 : (w.alloc (.cells #[.int .i64 0, .slice none 0 0, .slice none 0 0] 25)).alloc (.cells #[.int .i64 0] 28) = W0 := hW0.symm
  have HE := Lib.hid e0
  have HC := Lib.hid C
  clear hb0 hs0 hx0 hy0 hW0 e0 C H hf
  go_enter_defers Tryz.func33, Tryz.ntmps33
  go_wp2_with fail
  rw [HE.out]
  go_wp2_with (first
    | (go_at_call 48; refine HC.out.mono ?_; rintro e w1 ⟨hb, x, rfl, hx⟩; have HX1 := Lib.hid (HX0.out.below hb); have HY1 := Lib.hid ((hb.block (w.heap.size + 1) (by have := HZ.out; omega)).trans HY0.out); have HB1 := Lib.hid (HB0.out.trans (hb.mono HB0.out.size)); have HZ1 := Lib.hid (show w.heap.size + 2 ≤ w1.heap.size by have := hb.size; have := HZ.out; omega); have HF1 := Lib.hid (fresh_typ t x _ w1 hx HT.out); clear hb hx)
    | (go_at_call 71; refine HF1.out.mono ?_; rintro e w2 ⟨y, rfl, hy, hb2⟩; refine Hid.out ?_))
  refine Lib.hid ?_
  have HX2 := Lib.hid (HX1.out.below hb2)
  have HY2 := Lib.hid ((hb2.block (w.heap.size + 1) (by have := HZ1.out; omega)).trans HY1.out)
  have HB2 := Lib.hid (HB1.out.trans (hb2.mono HB1.out.size))
  have HY := Lib.hid hy
  have HZ2 := Lib.hid hb2.size
  clear hb2 hy
  go_wp2_with (refine stT rfl _ _ rfl w.heap.size y _ rfl rfl HX2.out rfl HY.out.size HY.out.one ?_; refine Hid.out ?_)
  refine Lib.hid ?_
  obtain ⟨W3, hW3⟩ : ∃ W, W = w2.setRow w.heap.size y := ⟨_, rfl⟩
  rw [← hW3]
  have hx3 : TB W3 w.heap.size y := by rw [hW3]; exact HX2.out.put y
  have hy3 : W3.heap[w.heap.size + 1]? = some (.cells #[.int .i64 0] 28 (0, 0)) := by rw [hW3]; exact (setRow_other w2 w.heap.size _ y (by omega)).trans HY2.out
  have hk3 : ∀ b, b ≠ w.heap.size → W3.heap[b]? = w2.heap[b]? := fun b hb => by rw [hW3]; exact setRow_other w2 w.heap.size b y hb
  have hs3 : W3.heap.size = w2.heap.size := by rw [hW3]; simp [World.setRow]
  have ho3 : W3.os = w2.os ∧ W3.tape = w2.tape ∧ W3.output = w2.output := by rw [hW3]; exact ⟨rfl, rfl, rfl⟩
  have q0 : W3.cell? ⟨w.heap.size + 1, 0, none⟩ = some (.int .i64 0) := by simp [World.cell?, hy3]
  have q1 : W3.frozen? ⟨w.heap.size + 1, 0, none⟩ = false := by simp [World.frozen?, hy3]
  have K3 := Lib.hid (And.intro hk3 (And.intro hs3 (And.intro ho3 (And.intro hx3 hy3))))
  clear hW3 hx3 hy3 hk3 hs3 ho3
  go_wp2_with fail
  obtain ⟨W4, hW4⟩ : ∃ W, W = W3.setCell ⟨w.heap.size + 1, 0, none⟩ (.int .i64 0) := ⟨_, rfl⟩
  have hk4 : ∀ b, b ≠ w.heap.size + 1 → W4.heap[b]? = W3.heap[b]? := fun b hb => by rw [hW4]; exact Below.heap_setCell _ _ _ _ (by simpa using hb)
  have hs4 : W4.heap.size = W3.heap.size := by rw [hW4]; simp [World.setCell]
  have ho4 : W4.os = W3.os ∧ W4.tape = W3.tape ∧ W4.output = W3.output := by rw [hW4]; exact ⟨rfl, rfl, rfl⟩
  have hx4 : TB W4 w.heap.size y := K3.out.2.2.2.1.of (hk4 _ (by omega))
  have q4 : W4.cell? ⟨w.heap.size + 1, 0, none⟩ = some (.int .i64 0) := by rw [hW4]; simp [World.cell?, errno_set K3.out.2.2.2.2]
  rw [← hW4]
  clear hW4 q0 q1
  have hy4 : TW W4 (fun g => w.heap.size ≤ g) y t := (HY.out.keep (w' := W4) (by rw [hs4, K3.out.2.1]; exact Nat.le_refl _) fun g hg _ => (hk4 g (by have := HZ1.out; omega)).trans (K3.out.1 g (by have := HZ1.out; omega))).imp fun g hg _ => by have := HZ1.out; omega
  have hfin : Below w.heap.size w W4 := ⟨ho4.1.trans (K3.out.2.2.1.1.trans HB2.out.os), ho4.2.1.trans (K3.out.2.2.1.2.1.trans HB2.out.tape), ho4.2.2.trans (K3.out.2.2.1.2.2.trans HB2.out.output), by rw [hs4, K3.out.2.1]; exact HB2.out.size, fun b hb => (hk4 b (by omega)).trans ((K3.out.1 b (by omega)).trans (HB2.out.block b hb))⟩
  have HF := Lib.hid (And.intro hfin hy4)
  clear hk4 hs4 ho4 hfin hy4
  refine leaves_cons (f := 70) (args := #[.pointer (some ⟨w.heap.size, 0, none⟩), .pointer (some ⟨w.heap.size + 1, 0, none⟩)]) (by simp) (by simp [go_sem]) ?_
  refine (catchT_idle ⟨w.heap.size, 0, none⟩ ⟨w.heap.size + 1, 0, none⟩ _).mono ?_
  rintro e u' w5 ⟨rfl, rfl, rfl⟩
  obtain ⟨y0, y1, y2, y3, y4, y5, y6, rfl⟩ := HF.out.2.form
  obtain ⟨z0, z1, z2, _, _⟩ := hx4.cells
  simp [Leaves, settle, results, Tryz.results33, go_sem, q4, asAddr, z0, z1, z2]
  exact ⟨HF.out.1, HF.out.2⟩
end Go.Proofs.YtcmohggnehkjeaaGreat
namespace Go.Proofs.YtcmohggnehkjeaaGreat
open Go.RowKit

theorem sumN_le {g : Nat → Nat} : ∀ {m i : Nat}, i < m → g i ≤ sumN g m
  | m + 1, i, h => by
    rw [show sumN g (m + 1) = sumN g m + g m from rfl]
    by_cases e : i = m
    · subst e; omega
    · have := sumN_le (g := g) (show i < m by omega); omega
theorem sumN_count {g : Nat → Nat} : ∀ {m : Nat}, (∀ i, i < m → 1 ≤ g i) → m ≤ sumN g m
  | 0, _ => Nat.zero_le _
  | m + 1, h => by
    rw [show sumN g (m + 1) = sumN g m + g m from rfl]
    have := sumN_count (g := g) (m := m) (fun i hi => h i (by omega))
    have := h m (by omega)
    omega
theorem right_pos : ∀ (t : TT) (far : Int), trightV t far = true → 1 ≤ ttot t := by
  intro t far h
  cases t with
  | bad => rw [trightV] at h; cases h
  | mk k c ns m xs => rw [ttot]; omega
theorem jname_short {s : ByteArray} (h : nameB s = true) : s.size ≤ 30 := by
  unfold nameB at h
  simp only [Bool.and_eq_true, decide_eq_true_eq] at h
  exact h.1.2
theorem rise_short {c : Nat} {ns : Nat → ByteArray} (h : riseB c ns = true) : ∀ i, i < c → (ns i).size ≤ 30 := fun i hi => by
  have := List.all_eq_true.1 h i (List.mem_range.2 hi)
  unfold riseAt at this
  rw [Bool.and_eq_true] at this
  exact jname_short this.1
/-- A right type has the shape of one, and is small. -/
theorem right_shape : ∀ (t : TT) (far : Int), trightV t far = true → ttot t ≤ 200 → shp t ∧ tfew t := by
  intro t
  induction t with
  | bad => intro far h; rw [trightV] at h; cases h
  | mk k c ns m xs ih =>
    intro far h ht
    rw [trightV, Bool.and_eq_true] at h
    rw [ttot] at ht
    by_cases hk : k = 5 ∨ k = 6
    · rw [if_pos hk, Bool.and_eq_true] at h
      have hx := fun i (hi : i < m) => List.all_eq_true.1 h.2.2 i (List.mem_range.2 hi)
      have hp : m ≤ sumN (fun i => ttot (xs i)) m := sumN_count fun i hi => right_pos _ _ (hx i hi)
      have hit := fun i (hi : i < m) => ih i (far - 1) (hx i hi) (by have := sumN_le (g := fun i => ttot (xs i)) hi; omega)
      have hh := h.2.1
      unfold theadB at hh
      by_cases h5 : k = 5
      · subst h5
        rw [if_pos rfl, Bool.and_eq_true, decide_eq_true_eq, decide_eq_true_eq] at hh
        obtain ⟨rfl, rfl⟩ := hh
        exact ⟨⟨by simp, fun i hi => (hit i hi).1⟩, by omega, by omega, fun i hi => absurd hi (Nat.not_lt_zero i), fun i hi => (hit i hi).2⟩
      · obtain rfl : k = 6 := hk.resolve_left h5
        rw [if_neg (by decide), Bool.and_eq_true, beq_iff_eq] at hh
        have hc : c = m := by omega
        subst hc
        exact ⟨⟨by simp, fun i hi => (hit i hi).1⟩, by omega, by omega, fun i hi => by have := rise_short hh.1 i hi; omega, fun i hi => (hit i hi).2⟩
    · rw [if_neg hk] at h
      have h2 := h.2
      unfold tplainB at h2
      simp only [Bool.and_eq_true, decide_eq_true_eq] at h2
      obtain ⟨_, _, rfl, rfl⟩ := h2
      refine ⟨⟨?_, fun i hi => absurd hi (Nat.not_lt_zero i)⟩, by omega, by omega, fun i hi => absurd hi (Nat.not_lt_zero i), fun i hi => absurd hi (Nat.not_lt_zero i)⟩
      rw [if_neg fun h => hk (.inl h), if_neg fun h => hk (.inr h)]
theorem jtok_ttot {t : TT} {v : Array Value} {w : World} {lim : Nat} (hv : TVal w lim v t) (h : tokV t = true) : ttot t ≤ 200 ∧ trightV t 12 = true := by
  have hcnt := tcnt_tot hv 0 (by omega) (by omega)
  unfold tokV at h
  rw [hcnt, Bool.and_eq_true] at h
  have := of_decide_eq_true h.1
  exact ⟨by omega, h.2⟩
theorem TW.right {w : World} {Q : Nat → Prop} {v : Array Value} {t : TT} (hv : TW w Q v t) (h : tokV t = true) : shp t ∧ tfew t :=
  right_shape t 12 (jtok_ttot hv.val h).2 (jtok_ttot hv.val h).1
theorem join_fit : ∀ (a b t : TT), joinP a b = some t → shp a → shp b → tfew a → tfew b → shp t ∧ tfew t := by
  intro a
  induction a with
  | bad => intro b t h; rw [joinP] at h; cases h
  | mk k c ns m xs ih =>
    intro b t h sa sb ha hb
    cases b with
    | bad => simp only [joinP] at h; cases h
    | mk k' c' ns' m' xs' =>
      simp only [joinP] at h
      by_cases h7 : k = 7
      · rw [if_pos h7] at h; cases h; exact ⟨sb, hb⟩
      · rw [if_neg h7] at h
        by_cases h7' : k' = 7
        · rw [if_pos h7'] at h; cases h; exact ⟨sa, ha⟩
        · rw [if_neg h7'] at h
          by_cases hk : k = k' ∧ nmEq c c' ns ns' = true
          · rw [if_pos hk] at h
            obtain ⟨rfl, hn⟩ := hk
            by_cases hall : (List.range m).all (fun i => (joinP (xs i) (xs' i)).isSome) = true
            · rw [if_pos hall] at h
              cases h
              have hcc := (nmEq_iff.1 hn).1
              have hmm : m' = m := by
                have h1 := sa.1
                have h2 := sb.1
                rw [hcc] at h1
                rw [h1, h2]
              have hit : ∀ i, i < m → shp ((joinP (xs i) (xs' i)).getD .bad) ∧ tfew ((joinP (xs i) (xs' i)).getD .bad) := fun i hi => by
                have hs := List.all_eq_true.1 hall i (List.mem_range.2 hi)
                obtain ⟨u, hu⟩ := Option.isSome_iff_exists.1 hs
                rw [hu, Option.getD_some]
                exact ih i (xs' i) u hu (sa.2 i hi) (sb.2 i (by omega)) (ha.2.2.2 i hi) (hb.2.2.2 i (by omega))
              exact ⟨⟨sa.1, fun i hi => (hit i hi).1⟩, ha.1, ha.2.1, ha.2.2.1, fun i hi => (hit i hi).2⟩
            · rw [if_neg hall] at h; cases h
          · rw [if_neg hk] at h; cases h
/-- What Join finds. -/
def joinE (a b : TT) : Except Int TT := match joinP a b with
  | some t => .ok t
  | none => .error 6
set_option maxRecDepth 20000 in
set_option maxHeartbeats 2000000 in
theorem join_clos {a b : TT} {v u : Array Value} {R S : Nat} {w : World} (hR : TB w R v) (hS : TB w S u) (hv : TW w (fun _ => True) v a) (hu : TW w (fun _ => True) u b) (ha : shp a ∧ tfew a) (hb : shp b) :
    Calls Tryz.prog 34 #[.pointer (some ⟨R, 0, none⟩), .pointer (some ⟨S, 0, none⟩)] w (Finds (fun _ => True) (joinE a b) w) := by
  have hbx : Below w.heap.size w (w.alloc (.cells #[.int .i64 0, .slice none 0 0, .slice none 0 0] 25)) := (Below.refl _ _).alloc (Nat.le_refl _) _
  have C := join_any a b v u (fun g => g < w.heap.size) _ ((hv.imp fun _ _ hl => hl).stay hbx) ((hu.imp fun _ _ hl => hl).stay hbx) ha.1 hb ha.2
  have hR1 := hR.below hbx
  have hS1 := hS.below hbx
  have hX := TB.new w #[.int .i64 0, .slice none 0 0, .slice none 0 0]
  obtain ⟨x0, x1, x2, x3, x4, x5, x6, rfl⟩ := hv.form
  obtain ⟨y0, y1, y2, y3, y4, y5, y6, rfl⟩ := hu.form
  have HB := Lib.hid hbx
  have HX := Lib.hid hX
  obtain ⟨r0, r1, r2, _, _⟩ := hR1.cells
  obtain ⟨s0, s1, s2, _, _⟩ := hS1.cells
  unfold joinE
  have HC := Lib.hid C
  clear C hbx hX hR hS hv hu hR1 hS1 ha hb
  cases hj : joinP a b with
  | none =>
    rw [hj] at HC
    go_enter Tryz.func34, Tryz.ntmps34
    go_wp2_with (go_at_call 35; refine HC.out.mono ?_; rintro e w1 ⟨hb1, rfl⟩)
    exact ⟨rfl, HB.out.trans (hb1.mono HB.out.size), rfl⟩
  | some t =>
    rw [hj] at HC
    go_enter Tryz.func34, Tryz.ntmps34
    go_wp2_with (go_at_call 35; refine HC.out.mono ?_; rintro e w1 ⟨hb1, x, rfl, hx⟩; refine Hid.out ?_)
    refine Lib.hid ?_
    have HX1 := Lib.hid (HX.out.below hb1)
    have HB1 := Lib.hid (HB.out.trans (hb1.mono HB.out.size))
    have HY := Lib.hid hx
    clear hb1 hx
    go_wp2_with (refine stT rfl _ _ rfl w.heap.size x _ rfl rfl HX1.out rfl HY.out.size HY.out.one ?_)
    refine bodyPost_ret (results_typ rfl _ _ w.heap.size _ rfl (HX1.out.put x) HY.out.size) rfl ⟨?_, _, rfl, ?_⟩
    · exact ⟨HB1.out.os, HB1.out.tape, HB1.out.output, by simp [World.setRow]; exact HB1.out.size, fun b hb => (setRow_other _ _ _ _ (by omega)).trans (HB1.out.block b hb)⟩
    · refine (HY.out.keep (w' := w1.setRow w.heap.size x) (by simp [World.setRow]) fun g hg _ => setRow_other _ _ _ _ ?_).imp fun _ _ _ => .inl trivial
      rcases hg with hg | hg
      · omega
      · rw [World.size_alloc] at hg; omega
/-- Join's answer. -/
def joinR (a b : TT) : Except Int TT := if tokV a = true ∧ tokV b = true then joinE a b else .error 2
theorem results_typ2 {fn : Func} {p i : Tmp} (h : fn.results = #[.cell p 25, .tmp i]) (tmps : Array Value) (w : World) (R : Nat) (v : Array Value) (y : Value) (hp : tmps.getD p undef = .pointer (some ⟨R, 0, none⟩)) (hy : tmps.getD i undef = y) (hg : TB w R v) (hv : v.size = 3) :
    (results fn tmps).run Tryz.prog w = .ok (.tuple #[.agg v, y]) w := by
  have hp' : tmps[p]?.getD undef = .pointer (some ⟨R, 0, none⟩) := by simpa using hp
  have hy' : tmps[i]?.getD undef = y := by simpa using hy
  simp [results, h, hp', hy', asAddr, run_loadVar_row w R 25 25 v (0, 0) _ hg Tryz.underlying25 rfl (by rw [info25s, hv])]
theorem below_row {n g : Nat} {w w' : World} (h : Below n w w') (hg : n ≤ g) (v : Array Value) : Below n w (w'.setRow g v) :=
  ⟨h.os, h.tape, h.output, by simp [World.setRow]; exact h.size, fun b hb => (setRow_other _ _ _ _ (by omega)).trans (h.block b hb)⟩
theorem joinR_no {a b : TT} (h : ¬ (tokV a = true ∧ tokV b = true)) : joinR a b = .error 2 := by unfold joinR; rw [if_neg h]
set_option maxRecDepth 20000 in
set_option maxHeartbeats 2000000 in
theorem Join_t {a b : TT} {v u : Array Value} {Q Q' : Nat → Prop} {w : World} (hv : TW w Q v a) (hu : TW w Q' u b) :
    Calls Tryz.prog 11 #[.agg v, .agg u] w (Caught (joinR a b) w) := by
  have hv := hv.imp (Q := fun _ => True) fun _ _ _ => trivial
  have hu := hu.imp (Q := fun _ => True) fun _ _ _ => trivial
  obtain ⟨hb0, hx0, hx1, hx2⟩ := join_boxes w v u #[.int .i64 0, .slice none 0 0, .slice none 0 0]
  obtain ⟨x0, x1, x2, x3, x4, x5, x6, rfl⟩ := hv.form
  obtain ⟨y0, y1, y2, y3, y4, y5, y6, rfl⟩ := hu.form
  have T := Lib.hid fun W (hb : Below w.heap.size w W) => typeright_f ((hv.stay hb).val)
  have T' := Lib.hid fun W (hb : Below w.heap.size w W) => typeright_f ((hu.stay hb).val)
  have HB0 := Lib.hid hb0
  have HX := Lib.hid (And.intro hx0 (And.intro hx1 hx2))
  obtain ⟨r0, r1, r2, _, _⟩ := hx0.cells
  have HV := Lib.hid (And.intro hv hu)
  clear hv hu hb0 hx0 hx1 hx2
  cases ta : tokV a with
  | false =>
    have hr : joinR a b = .error 2 := joinR_no (by rw [ta]; simp)
    rw [hr]
    rw [ta] at T
    clear hr ta
    go_enter Tryz.func11, Tryz.ntmps11
    go_wp2_with (go_at_call 32; refine (T.out _ HB0.out).mono ?_; rintro e w1 ⟨rfl, hb1⟩; refine Hid.out ?_)
    refine Lib.hid ?_
    have HBN := Lib.hid hb1
    clear hb1
    have HX2 := Lib.hid (HX.out.2.2.below HBN.out)
    have HB2 := Lib.hid (HB0.out.trans (HBN.out.mono HB0.out.size))
    go_wp2_with (refine stT rfl _ _ rfl (w.heap.size + 1 + 1) #[.int .i64 0, .slice none 0 0, .slice none 0 0] _ rfl rfl HX2.out rfl rfl (by simp [Value.oneCell']) ?_)
    exact bodyPost_ret (results_typ2 rfl _ _ (w.heap.size + 1 + 1) _ _ rfl rfl (HX2.out.put _) rfl) rfl ⟨below_row HB2.out (by omega) _, rfl⟩
  | true =>
    rw [ta] at T
    cases tb : tokV b with
    | false =>
      have hr : joinR a b = .error 2 := joinR_no (by rw [tb]; simp)
      rw [hr]
      rw [tb] at T'
      clear hr ta tb
      go_enter Tryz.func11, Tryz.ntmps11
      go_wp2_with (go_at_call 32; refine (T.out _ HB0.out).mono ?_; rintro e w1 ⟨rfl, hb1⟩; refine Hid.out ?_)
      refine Lib.hid ?_
      have HB1 := Lib.hid (HB0.out.trans (hb1.mono HB0.out.size))
      obtain ⟨s0, s1, s2, _, _⟩ := (HX.out.2.1.below hb1).cells
      have hb1' := Lib.hid hb1
      clear hb1
      go_wp2_with (go_at_call 32; refine (T'.out _ HB1.out).mono ?_; rintro e w2 ⟨rfl, hb2⟩; refine Hid.out ?_)
      refine Lib.hid ?_
      have HBN := Lib.hid (hb1'.out.trans (hb2.mono hb1'.out.size))
      clear hb2
      have HX2 := Lib.hid (HX.out.2.2.below HBN.out)
      have HB2 := Lib.hid (HB0.out.trans (HBN.out.mono HB0.out.size))
      go_wp2_with (refine stT rfl _ _ rfl (w.heap.size + 1 + 1) #[.int .i64 0, .slice none 0 0, .slice none 0 0] _ rfl rfl HX2.out rfl rfl (by simp [Value.oneCell']) ?_)
      exact bodyPost_ret (results_typ2 rfl _ _ (w.heap.size + 1 + 1) _ _ rfl rfl (HX2.out.put _) rfl) rfl ⟨below_row HB2.out (by omega) _, rfl⟩
    | true =>
      obtain ⟨r, hr⟩ : ∃ r, r = joinE a b := ⟨_, rfl⟩
      rw [show joinR a b = r by unfold joinR; rw [if_pos ⟨ta, tb⟩, hr]]
      have HJ := Lib.hid hr
      rw [tb] at T'
      have ha := HV.out.1.right ta
      have hb := HV.out.2.right tb
      have CL := Lib.hid fun W (hbW : Below w.heap.size w W) (h1 : TB W w.heap.size _) (h2 : TB W (w.heap.size + 1) _) => join_clos h1 h2 (HV.out.1.stay hbW) (HV.out.2.stay hbW) ha hb.1
      have HF := Lib.hid (And.intro ha hb)
      clear hr ta tb ha hb
      go_enter Tryz.func11, Tryz.ntmps11
      go_wp2_with (go_at_call 32; refine (T.out _ HB0.out).mono ?_; rintro e w1 ⟨rfl, hb1⟩; refine Hid.out ?_)
      refine Lib.hid ?_
      have HB1 := Lib.hid (HB0.out.trans (hb1.mono HB0.out.size))
      obtain ⟨s0, s1, s2, _, _⟩ := (HX.out.2.1.below hb1).cells
      have hb1' := Lib.hid hb1
      clear hb1
      go_wp2_with (go_at_call 32; refine (T'.out _ HB1.out).mono ?_; rintro e w2 ⟨rfl, hb2⟩; refine Hid.out ?_)
      refine Lib.hid ?_
      have HBN := Lib.hid (hb1'.out.trans (hb2.mono hb1'.out.size))
      clear hb2
      have HB2 := Lib.hid (HB0.out.trans (HBN.out.mono HB0.out.size))
      have HX2 := Lib.hid (And.intro (HX.out.1.below HBN.out) (And.intro (HX.out.2.1.below HBN.out) (HX.out.2.2.below HBN.out)))
      have MF := makeFunc_go
      have CC : Hid (Calls Tryz.prog 33 #[.func (.func 34) #[] #[.pointer (some ⟨w.heap.size, 0, none⟩), .pointer (some ⟨w.heap.size + 1, 0, none⟩)]] w2 (Caught r w2)) := Lib.hid (by
        rw [HJ.out]
        have H := fun W (hb : Below w2.heap.size w2 W) => CL.out W (HB2.out.trans (hb.mono HB2.out.size)) (HX2.out.1.below hb) (HX2.out.2.1.below hb)
        cases hj : joinP a b with
        | none =>
          have e : joinE a b = .error 6 := by unfold joinE; rw [hj]
          rw [e] at H ⊢
          exact caughtJ_err H
        | some t =>
          have e : joinE a b = .ok t := by unfold joinE; rw [hj]
          rw [e] at H ⊢
          exact caughtJ_ok H (join_fit a b t hj HF.out.1.1 HF.out.2.1 HF.out.1.2 HF.out.2.2).2)
      unfold Caught at CC
      clear HJ
      cases r with
      | error c =>
        simp only at CC
        go_wp2_with (go_at_call 33; refine CC.out.mono ?_; rintro e w3 ⟨hb3, rfl⟩; refine Hid.out ?_)
        refine Lib.hid ?_
        have HX3 := Lib.hid (HX2.out.2.2.below hb3)
        have HB3 := Lib.hid (HB2.out.trans (hb3.mono HB2.out.size))
        clear hb3
        go_wp2_with (refine stT rfl _ _ rfl (w.heap.size + 1 + 1) #[.int .i64 0, .slice none 0 0, .slice none 0 0] _ rfl rfl HX3.out rfl rfl (by simp [Value.oneCell']) ?_)
        exact bodyPost_ret (results_typ2 rfl _ _ (w.heap.size + 1 + 1) _ _ rfl rfl (HX3.out.put _) rfl) rfl ⟨below_row HB3.out (by omega) _, rfl⟩
      | ok t =>
        simp only at CC
        go_wp2_with (go_at_call 33; refine CC.out.mono ?_; rintro e w3 ⟨hb3, x, rfl, hx⟩; refine Hid.out ?_)
        refine Lib.hid ?_
        have HX3 := Lib.hid (HX2.out.2.2.below hb3)
        have HB3 := Lib.hid (HB2.out.trans (hb3.mono HB2.out.size))
        have HY := Lib.hid hx
        have HZ := Lib.hid HX2.out.2.2.lt
        have HS := Lib.hid HB2.out.size
        clear hb3 hx
        go_wp2_with (refine stT rfl _ _ rfl (w.heap.size + 1 + 1) x _ rfl rfl HX3.out rfl HY.out.size HY.out.one ?_)
        refine bodyPost_ret (results_typ2 rfl _ _ (w.heap.size + 1 + 1) _ _ rfl rfl (HX3.out.put _) HY.out.size) rfl ⟨below_row HB3.out (by omega) _, _, rfl, ?_⟩
        refine (HY.out.keep (by simp [World.setRow]) fun g hg _ => setRow_other _ _ _ _ ?_).imp fun g hg _ => ?_
        · have := HZ.out; omega
        · have := HS.out; omega
end Go.Proofs.YtcmohggnehkjeaaGreat
namespace Go.Proofs.YtcmohggnehkjeaaGreat
open Go.RowKit

/-- May what is of the one stand for the other. -/
def isB (a b : TT) : Bool := match joinR a b with
  | .ok t => sameB t b
  | .error _ => false
theorem joinR_err {a b : TT} {c : Int} (h : joinR a b = .error c) : c = 2 ∨ c = 6 := by
  unfold joinR joinE at h
  by_cases ht : tokV a = true ∧ tokV b = true
  · rw [if_pos ht] at h
    cases hj : joinP a b with
    | none => rw [hj] at h; cases h; exact .inr rfl
    | some t => rw [hj] at h; cases h
  · rw [if_neg ht] at h
    cases h
    exact .inl rfl
set_option maxRecDepth 20000 in
set_option maxHeartbeats 2000000 in
theorem Is_t {a b : TT} {v u : Array Value} {Q Q' : Nat → Prop} {w : World} (hv : TW w Q v a) (hu : TW w Q' u b) :
    Calls Tryz.prog 14 #[.agg v, .agg u] w fun e w' => e = .returned (.bool (isB a b)) ∧ Below w.heap.size w w' := by
  obtain ⟨hb0, hx0, hx1⟩ := two_boxes w v u
  obtain ⟨x0, x1, x2, x3, x4, x5, x6, rfl⟩ := hv.form
  obtain ⟨y0, y1, y2, y3, y4, y5, y6, rfl⟩ := hu.form
  have J := Join_t (hv.stay hb0) (hu.stay hb0)
  unfold isB
  obtain ⟨r, hr⟩ : ∃ r, joinR a b = r := ⟨_, rfl⟩
  rw [hr] at J ⊢
  unfold Caught at J
  obtain ⟨r0, r1, r2, _, _⟩ := hx0.cells
  obtain ⟨s0, s1, s2, _, _⟩ := hx1.cells
  have HB0 := Lib.hid hb0
  have HX1 := Lib.hid hx1
  have HU := Lib.hid hu
  have HJ := Lib.hid J
  have HR := Lib.hid hr
  clear hb0 hx0 hx1 hv hu J hr
  cases r with
  | error c =>
    simp only at HJ ⊢
    have hc := HR.out
    have hc0 : c ≠ 0 := fun e => by
      subst e
      rcases joinR_err hc with h | h <;> exact absurd h (by decide)
    have tc : (c == 0) = false := by rw [beq_eq_false_iff_ne]; exact hc0
    clear hc hc0
    go_enter Tryz.func14, Tryz.ntmps14
    go_wp2_with (go_at_call 11; refine HJ.out.mono ?_; rintro e w1 ⟨hb1, rfl⟩)
    go_ret
    exact ⟨rfl, (HB0.out.trans (hb1.mono HB0.out.size)).alloc (Nat.le_trans HB0.out.size hb1.size) _⟩
  | ok t =>
    simp only at HJ ⊢
    go_enter Tryz.func14, Tryz.ntmps14
    go_wp2_with (go_at_call 11; refine HJ.out.mono ?_; rintro e w1 ⟨hb1, x, rfl, hx⟩; refine Hid.out ?_)
    refine Lib.hid ?_
    obtain ⟨z0, z1, z2, z3, z4, z5, z6, rfl⟩ := hx.form
    have hb2 : Below w1.heap.size w1 (w1.alloc (.cells #[.int .i64 z0, .slice z1 z2 z3, .slice z4 z5 z6] 25)) := (Below.refl _ _).alloc (Nat.le_refl _) _
    obtain ⟨s0, s1, s2, _, _⟩ := ((HX1.out.below hb1).below hb2).cells
    have HBN := Lib.hid ((HB0.out.trans (hb1.mono HB0.out.size)).trans (hb2.mono (Nat.le_trans HB0.out.size hb1.size)))
    have S := Lib.hid (Same_t _ _ _ _ _ _ _ (hx.stay hb2) (HU.out.stay HBN.out))
    have HSZ := Lib.hid (show w.heap.size ≤ w1.heap.size from Nat.le_trans HB0.out.size hb1.size)
    clear hb1 hb2 hx
    go_wp2_with (go_at_call 12; refine S.out.mono ?_; rintro e w2 ⟨rfl, hb3⟩)
    go_ret
    exact ⟨rfl, HBN.out.trans (hb3.mono HBN.out.size)⟩
end Go.Proofs.YtcmohggnehkjeaaGreat
namespace Go.Proofs.YtcmohggnehkjeaaGreat
open Go.RowKit

/-- Ints at an address. -/
def IntsAt (w : World) (A : Option Addr) (L : List Int) : Prop :=
  0 < L.length → ∃ g o, A = some ⟨g, o, none⟩ ∧ g < w.heap.size ∧ ∀ i x, L[i]? = some x → w.cell? ⟨g, o + i, none⟩ = some (.int .i64 x)
theorem IntsAt.stay {w w' : World} {A : Option Addr} {L : List Int} (h : IntsAt w A L) (hb : Below w.heap.size w w') : IntsAt w' A L := fun h0 => by
  obtain ⟨g, o, e, hg, hx⟩ := h h0
  exact ⟨g, o, e, Nat.lt_of_lt_of_le hg hb.size, fun i x hi => (hb.cell (p := ⟨g, o + i, none⟩) hg).trans (hx i x hi)⟩
/-- What Index answers. -/
def IdxE (L : List Int) (k : Int) (e : Ending) : Prop := if k ∈ L then ∃ j : Nat, e = .returned (.int .i64 j) else e = .returned (.int .i64 (-1))
set_option maxHeartbeats 1000000 in
theorem indexI_any {w : World} {A : Option Addr} {L : List Int} {k : Int} {c : Nat} (h : IntsAt w A L) (hl : L.length ≤ 1000) :
    Calls Tryz.prog 183 #[.slice A L.length c, .int .i64 k] w fun e w' => IdxE L k e ∧ w = w' := by
  obtain ⟨n, hn⟩ : ∃ n, n = L.length := ⟨_, rfl⟩
  rw [← hn]
  have H := Lib.hid h
  have HL := Lib.hid (And.intro hl hn)
  have hcx : n ≤ 9223372036854775807 := by omega
  clear h hl hn
  go_enter Tryz.func183, Tryz.ntmps183
  go_wp2_with fail
  go_loopw [8] (fun iv wr => wr = w ∧ ∃ i : Nat, i ≤ n ∧ iv = .int .i64 i ∧ Hid (∀ j, j < i → L[j]? ≠ some k)) (fun iv _ => n - (intOf iv).toNat)
  case atStart => exact ⟨rfl, 0, Nat.zero_le _, rfl, Lib.hid fun j hj => absurd hj (Nat.not_lt_zero j)⟩
  case round =>
    obtain ⟨rfl, i, hi, rfl, hW⟩ := hrel
    by_cases hlt : i < n
    · obtain ⟨g, o, rfl, _, hx⟩ := H.out (by have := HL.out.2; omega)
      obtain ⟨x, hxi⟩ : ∃ x, L[i]? = some x := ⟨_, List.getElem?_eq_getElem (by have := HL.out.2; omega)⟩
      have s0 := hx i x hxi
      have HXI := Lib.hid hxi
      have ti : (i : Int) < n := by omega
      have ti0 : (0 : Int) ≤ i := by omega
      clear hx hxi
      by_cases hk : k = x
      · have tk : (k == x) = true := by rw [hk]; exact beq_self_eq_true _
        have HK := Lib.hid hk
        clear hk
        go_wp2_with fail
        go_ret
        refine ⟨?_, rfl⟩
        unfold IdxE
        rw [if_pos]
        · exact ⟨i, rfl⟩
        · rw [HK.out]; exact List.mem_of_getElem? HXI.out
      · have tk : (k == x) = false := by rw [beq_eq_false_iff_ne]; exact hk
        have HK := Lib.hid hk
        clear hk
        go_wp2_with fail
        go_roundw
        case rel => exact ⟨trivial, i + 1, by omega, by go_num, Lib.hid fun j hj => by
          by_cases e : j = i
          · subst e; rw [HXI.out]; intro h; cases h; exact HK.out rfl
          · exact hW.out j (by omega)⟩
        case measure => simp [intOf]; omega
    · go_wp2_with fail
      go_ret
      refine ⟨?_, rfl⟩
      unfold IdxE
      rw [if_neg]
      · rfl
      · intro hm
        obtain ⟨j, hj, e⟩ := List.getElem_of_mem hm
        exact hW.out j (by have := HL.out.2; omega) (by rw [List.getElem?_eq_getElem hj, e])
theorem containsI_any {w : World} {A : Option Addr} {L : List Int} {k : Int} {c : Nat} (h : IntsAt w A L) (hl : L.length ≤ 1000) :
    Calls Tryz.prog 155 #[.slice A L.length c, .int .i64 k] w fun e w' => e = .returned (.bool (decide (k ∈ L))) ∧ w = w' := by
  have C := indexI_any (k := k) (c := c) h hl
  by_cases hk : k ∈ L
  · simp only [IdxE, if_pos hk] at C
    rw [decide_eq_true hk]
    clear hk h
    go_enter Tryz.func155, Tryz.ntmps155
    go_wp2_with (go_at_call 183; refine C.mono ?_; rintro e w1 ⟨⟨j, rfl⟩, rfl⟩; have tj : (0 : Int) ≤ j := by omega)
    go_ret
    exact ⟨rfl, rfl⟩
  · simp only [IdxE, if_neg hk] at C
    rw [decide_eq_false hk]
    clear hk h
    go_enter Tryz.func155, Tryz.ntmps155
    go_wp2_with (go_at_call 183; refine C.mono ?_; rintro e w1 ⟨rfl, rfl⟩)
    go_ret
    exact ⟨rfl, rfl⟩
set_option maxRecDepth 20000 in
set_option maxHeartbeats 2000000 in
theorem among_any {w : World} {K : Option Addr} {L : List Int} {k : Int} {kc : Nat} {A B : Option Addr} {c ca m cb : Nat} (h : IntsAt w K L) (hl : L.length ≤ 1000) :
    Calls Tryz.prog 121 #[.agg #[.int .i64 k, .slice A c ca, .slice B m cb], .slice K L.length kc] w fun e w' => (if k ∈ L then e = .returned (.agg #[.int .i64 k, .slice A c ca, .slice B m cb]) else e = .panicked (gaveP 6)) ∧ Below w.heap.size w w' := by
  obtain ⟨hb0, hx0, hx1⟩ := two_boxes w #[.int .i64 k, .slice A c ca, .slice B m cb] #[.int .i64 0, .slice none 0 0, .slice none 0 0]
  have C := containsI_any (k := k) (c := kc) (h.stay hb0) hl
  obtain ⟨r0, r1, r2, rf, _⟩ := hx0.cells
  have HB := Lib.hid hb0
  have HX := Lib.hid hx1
  have HC := Lib.hid C
  obtain ⟨n, hn⟩ : ∃ n, n = L.length := ⟨_, rfl⟩
  rw [← hn] at HC ⊢
  clear hb0 hx0 hx1 C hl hn
  by_cases hk : k ∈ L
  · rw [decide_eq_true hk] at HC
    simp only [if_pos hk]
    clear hk h
    go_enter Tryz.func121, Tryz.ntmps121
    go_wp2_with (first
      | (go_at_call 155; refine HC.out.mono ?_; rintro e w1 ⟨rfl, rfl⟩)
      | (go_at_call 72; refine (tinsist_yes _).mono ?_; rintro e w2 ⟨rfl, rfl⟩)
      | (refine stT rfl _ _ rfl (w.heap.size + 1) #[.int .i64 k, .slice A c ca, .slice B m cb] _ rfl rfl HX.out rfl rfl (by simp [Value.oneCell']) ?_))
    exact bodyPost_ret (results_typ rfl _ _ (w.heap.size + 1) _ rfl (HX.out.put _) rfl) rfl ⟨rfl, below_row HB.out (by omega) _⟩
  · rw [decide_eq_false hk] at HC
    simp only [if_neg hk]
    clear hk h
    go_enter Tryz.func121, Tryz.ntmps121
    go_wp2_with (first
      | (go_at_call 155; refine HC.out.mono ?_; rintro e w1 ⟨rfl, rfl⟩)
      | (go_at_call 72; refine (tinsist_no _).mono ?_; rintro e w2 ⟨rfl, rfl⟩))
    exact ⟨rfl, rfl, HB.out⟩
end Go.Proofs.YtcmohggnehkjeaaGreat
namespace Go.Proofs.YtcmohggnehkjeaaGreat
open Go.RowKit

def xName : ByteArray := ⟨#[120]⟩
def xCells : Array Value := #[.string xName, .int .i64 0, .int .i64 2, .slice none 0 0, .slice none 0 0, .int .i64 0, .int .i64 0, .float .f64 0, .string ⟨#[]⟩, .slice none 0 0, .slice none 0 0]
def xVar : Value := .agg xCells
/-- The list of x alone. -/
def VarsAt (w : World) (g : Nat) : Prop := w.heap[g]? = some (.cells xCells 77 (0, 0))
theorem VarsAt.below {w w' : World} {g : Nat} (h : VarsAt w g) (hb : Below w.heap.size w w') : VarsAt w' g := (hb.block g (Array.getElem?_eq_some_iff.1 h).1).trans h
def tyInt : TT := .mk 2 0 (fun _ => ⟨#[]⟩) 0 (fun _ => .bad)
theorem tyInt_at (w : World) (Q : Nat → Prop) : TW w Q #[.int .i64 2, .slice none 0 0, .slice none 0 0] tyInt :=
  .mk 2 none 0 0 none 0 0 _ _ (fun _ => #[]) (by omega) (by unfold maxLen; omega) (by unfold maxLen; omega) (fun _ => rfl) (fun _ => rfl) (fun h => absurd h (by omega)) (fun h => absurd h (by omega)) (fun i hi => absurd hi (Nat.not_lt_zero i))
theorem tyInt_ok : tokV tyInt = true := by kernel_rfl
set_option maxRecDepth 20000 in
set_option maxHeartbeats 2000000 in
theorem isWrong_x (w : World) : Calls Tryz.prog 47 #[xVar] w fun e w' => e = .returned (.bool false) ∧ Below w.heap.size w w' := by
  have hb : Below w.heap.size w (w.alloc (.cells xCells 77)) := (Below.refl _ _).alloc (Nat.le_refl _) _
  have T := typeright_f ((tyInt_at (w.alloc (.cells xCells 77)) fun _ => True).val)
  rw [tyInt_ok] at T
  unfold xVar
  unfold xCells at *
  have HB := Lib.hid hb
  have HT := Lib.hid T
  clear hb T
  go_enter Tryz.func47, Tryz.ntmps47
  go_wp2_with (go_at_call 32; refine HT.out.mono ?_; rintro e w1 ⟨rfl, hb1⟩)
  go_ret
  exact ⟨rfl, HB.out.trans (hb1.mono HB.out.size)⟩
theorem VarsAt.cells {w : World} {g : Nat} (h : VarsAt w g) : w.cell? ⟨g, 0, none⟩ = some (.string xName) ∧ w.cell? ⟨g, 1, none⟩ = some (.int .i64 0) ∧ w.cell? ⟨g, 2, none⟩ = some (.int .i64 2) ∧ w.cell? ⟨g, 3, none⟩ = some (.slice none 0 0) ∧ w.cell? ⟨g, 4, none⟩ = some (.slice none 0 0) ∧ w.cell? ⟨g, 5, none⟩ = some (.int .i64 0) ∧ w.cell? ⟨g, 6, none⟩ = some (.int .i64 0) ∧ w.cell? ⟨g, 7, none⟩ = some (.float .f64 0) ∧ w.cell? ⟨g, 8, none⟩ = some (.string ⟨#[]⟩) ∧ w.cell? ⟨g, 9, none⟩ = some (.slice none 0 0) ∧ w.cell? ⟨g, 10, none⟩ = some (.slice none 0 0) := by
  unfold VarsAt xCells at h
  refine ⟨?_, ?_, ?_, ?_, ?_, ?_, ?_, ?_, ?_, ?_, ?_⟩ <;> simp [World.cell?, h]
set_option maxRecDepth 20000 in
set_option maxHeartbeats 2000000 in
theorem indexW_x {w : World} {g : Nat} (h : VarsAt w g) : Calls Tryz.prog 80 #[.slice (some ⟨g, 0, none⟩) 1 1, .func (.func 47) #[] #[]] w fun e w' => e = .returned (.int .i64 (-1)) ∧ Below w.heap.size w w' := by
  obtain ⟨c0, c1, c2, c3, c4, c5, c6, c7, c8, c9, c10⟩ := h.cells
  have W := isWrong_x w
  unfold xVar xCells at W
  go_enter Tryz.func80, Tryz.ntmps80
  go_wp2_with fail
  go_loopw [8] (fun iv wr => ∃ i : Nat, i ≤ 1 ∧ iv = .int .i64 i ∧ (i = 0 → wr = w) ∧ Below w.heap.size w wr) (fun iv _ => 1 - (intOf iv).toNat)
  case atStart => exact ⟨0, by omega, rfl, fun _ => rfl, Below.refl _ _⟩
  case round =>
    obtain ⟨i, hi, rfl, hw, hb⟩ := hrel
    have hb := Lib.hid hb
    by_cases h0 : i = 0
    · subst h0
      obtain rfl := hw rfl
      clear hw
      go_wp2_with (go_at_call 47; refine W.mono ?_; rintro e w1 ⟨rfl, hb1⟩)
      go_roundw
      case rel => exact ⟨1, by omega, by go_num, (by intro h; omega), hb1⟩
      case measure => simp [intOf]
    · obtain rfl : i = 1 := by omega
      clear hw
      go_wp2_with fail
      go_ret
      exact ⟨rfl, hb.out⟩
theorem containsW_x {w : World} {g : Nat} (h : VarsAt w g) : Calls Tryz.prog 46 #[.slice (some ⟨g, 0, none⟩) 1 1, .func (.func 47) #[] #[]] w fun e w' => e = .returned (.bool false) ∧ Below w.heap.size w w' := by
  have C := indexW_x h
  clear h
  go_enter Tryz.func46, Tryz.ntmps46
  go_wp2_with (go_at_call 80; refine C.mono ?_; rintro e w1 ⟨rfl, hb1⟩)
  go_ret
  exact ⟨rfl, hb1⟩
end Go.Proofs.YtcmohggnehkjeaaGreat
namespace Go.Proofs.YtcmohggnehkjeaaGreat
open Go.RowKit

/-- A box with a name. -/
def NmBox (w : World) (p : Nat) (s : ByteArray) : Prop := w.heap[p]? = some (.cells #[.string s] 9 (0, 0))
theorem NmBox.below {w w' : World} {p : Nat} {s : ByteArray} (h : NmBox w p s) (hb : Below w.heap.size w w') : NmBox w' p s := (hb.block p (Array.getElem?_eq_some_iff.1 h).1).trans h
theorem NmBox.cell {w : World} {p : Nat} {s : ByteArray} (h : NmBox w p s) : w.cell? ⟨p, 0, none⟩ = some (.string s) := by unfold NmBox at h; simp [World.cell?, h]
set_option maxRecDepth 20000 in
set_option maxHeartbeats 2000000 in
theorem named_x {w : World} {p : Nat} {s : ByteArray} (h : NmBox w p s) : Calls Tryz.prog 153 #[xVar, .pointer (some ⟨p, 0, none⟩)] w fun e w' => e = .returned (.bool (decide (xName = s))) ∧ Below w.heap.size w w' := by
  have hb : Below w.heap.size w (w.alloc (.cells xCells 77)) := (Below.refl _ _).alloc (Nat.le_refl _) _
  have c0 := (h.below hb).cell
  by_cases e : xName = s
  · have tb := str_eq e
    rw [decide_eq_true e]
    unfold xVar xCells at *
    have HB := Lib.hid hb
    clear hb h e
    go_enter Tryz.func153, Tryz.ntmps153
    go_wp2_with fail
    go_ret
    exact ⟨rfl, HB.out⟩
  · have tb := str_ne e
    rw [decide_eq_false e]
    unfold xVar xCells at *
    have HB := Lib.hid hb
    clear hb h e
    go_enter Tryz.func153, Tryz.ntmps153
    go_wp2_with fail
    go_ret
    exact ⟨rfl, HB.out⟩
/-- Where x stands. -/
def atV (s : ByteArray) : Int := if xName = s then 0 else -1
set_option maxRecDepth 20000 in
set_option maxHeartbeats 2000000 in
theorem indexN_x {w : World} {g p : Nat} {s : ByteArray} (h : VarsAt w g) (hp : NmBox w p s) : Calls Tryz.prog 80 #[.slice (some ⟨g, 0, none⟩) 1 1, .func (.func 153) #[] #[.pointer (some ⟨p, 0, none⟩)]] w fun e w' => e = .returned (.int .i64 (atV s)) ∧ Below w.heap.size w w' := by
  obtain ⟨c0, c1, c2, c3, c4, c5, c6, c7, c8, c9, c10⟩ := h.cells
  have W := named_x hp
  unfold xVar xCells at W
  by_cases es : xName = s
  · rw [decide_eq_true es] at W
    rw [show atV s = 0 by unfold atV; rw [if_pos es]]
    have HW := Lib.hid W
    clear W es hp h
    go_enter Tryz.func80, Tryz.ntmps80
    go_wp2_with fail
    go_loopw [8] (fun iv wr => iv = .int .i64 0 ∧ wr = w) (fun _ _ => 0)
    case atStart => exact ⟨rfl, rfl⟩
    case round =>
      obtain ⟨rfl, rfl⟩ := hrel
      go_wp2_with (go_at_call 153; refine HW.out.mono ?_; rintro e w1 ⟨rfl, hb1⟩)
      go_ret
      exact ⟨rfl, hb1⟩
  · rw [decide_eq_false es] at W
    rw [show atV s = -1 by unfold atV; rw [if_neg es]]
    have HW := Lib.hid W
    clear W es hp h
    go_enter Tryz.func80, Tryz.ntmps80
    go_wp2_with fail
    go_loopw [8] (fun iv wr => ∃ i : Nat, i ≤ 1 ∧ iv = .int .i64 i ∧ (i = 0 → wr = w) ∧ Below w.heap.size w wr) (fun iv _ => 1 - (intOf iv).toNat)
    case atStart => exact ⟨0, by omega, rfl, fun _ => rfl, Below.refl _ _⟩
    case round =>
      obtain ⟨i, hi, rfl, hw, hb⟩ := hrel
      have hb := Lib.hid hb
      by_cases h0 : i = 0
      · subst h0
        obtain rfl := hw rfl
        clear hw
        go_wp2_with (go_at_call 153; refine HW.out.mono ?_; rintro e w1 ⟨rfl, hb1⟩)
        go_roundw
        case rel => exact ⟨1, by omega, by go_num, (by intro h; omega), hb1⟩
        case measure => simp [intOf]
      · obtain rfl : i = 1 := by omega
        clear hw
        go_wp2_with fail
        go_ret
        exact ⟨rfl, hb.out⟩
set_option maxRecDepth 20000 in
set_option maxHeartbeats 2000000 in
theorem ofVar_x {w : World} {g : Nat} {s : ByteArray} (h : VarsAt w g) : Calls Tryz.prog 117 #[.slice (some ⟨g, 0, none⟩) 1 1, .string s] w fun e w' => (if xName = s then e = .returned (.agg #[.int .i64 2, .slice none 0 0, .slice none 0 0]) else e = .panicked (gaveP 11)) ∧ Below w.heap.size w w' := by
  obtain ⟨W, hW⟩ : ∃ W, W = (w.alloc (.cells #[.string s] 9)).alloc (.cells #[.int .i64 0, .slice none 0 0, .slice none 0 0] 25) := ⟨_, rfl⟩
  have hb0 : Below w.heap.size w W := by rw [hW]; exact ((Below.refl _ _).alloc (Nat.le_refl _) _).alloc (by simp) _
  have hn : NmBox W w.heap.size s := by
    rw [hW]; exact (Below.heap_alloc _ _ _ (by simp)).trans (heap_alloc_new w _)
  have hx : TB W (w.heap.size + 1) #[.int .i64 0, .slice none 0 0, .slice none 0 0] := by
    have := TB.new (w.alloc (.cells #[.string s] 9)) #[.int .i64 0, .slice none 0 0, .slice none 0 0]
    rw [World.size_alloc, ← hW] at this
    exact this
  have C := indexN_x (h.below hb0) hn
  have MF := makeFunc_go
  have HB := Lib.hid hb0
  have HX := Lib.hid hx
  have HV := Lib.hid (h.below hb0)
  rw [hW] at C
  have HC := Lib.hid C
  have HW := Lib.hid hW
  clear hb0 hn hx C hW h
  by_cases es : xName = s
  · rw [show atV s = 0 by unfold atV; rw [if_pos es]] at HC
    simp only [if_pos es]
    clear es
    go_enter Tryz.func117, Tryz.ntmps117
    go_wp2_with (go_at_call 80; refine HC.out.mono ?_; rintro e w1 ⟨rfl, hb1⟩; refine Hid.out ?_)
    refine Lib.hid ?_
    rw [← HW.out] at hb1
    obtain ⟨c0, c1, c2, c3, c4, c5, c6, c7, c8, c9, c10⟩ := (HV.out.below hb1).cells
    have HX1 := Lib.hid (HX.out.below hb1)
    have HB1 := Lib.hid (HB.out.trans (hb1.mono HB.out.size))
    clear hb1
    go_wp2_with (refine stT rfl _ _ rfl (w.heap.size + 1) #[.int .i64 2, .slice none 0 0, .slice none 0 0] _ rfl rfl HX1.out rfl rfl (by simp [Value.oneCell']) ?_)
    exact bodyPost_ret (results_typ rfl _ _ (w.heap.size + 1) _ rfl (HX1.out.put _) rfl) rfl ⟨rfl, below_row HB1.out (by omega) _⟩
  · rw [show atV s = -1 by unfold atV; rw [if_neg es]] at HC
    simp only [if_neg es]
    unfold gaveP
    clear es
    go_enter Tryz.func117, Tryz.ntmps117
    go_wp2_with (go_at_call 80; refine HC.out.mono ?_; rintro e w1 ⟨rfl, hb1⟩; refine Hid.out ?_)
    refine Lib.hid ?_
    rw [← HW.out] at hb1
    have HB1 := Lib.hid (HB.out.trans (hb1.mono HB.out.size))
    clear hb1
    go_wp2_with fail
    exact ⟨rfl, rfl, HB1.out⟩
end Go.Proofs.YtcmohggnehkjeaaGreat
namespace Go.Proofs.YtcmohggnehkjeaaGreat
open Go.RowKit

def tyNone : TT := .mk 7 0 (fun _ => ⟨#[]⟩) 0 (fun _ => .bad)
theorem tyNone_at (w : World) (Q : Nat → Prop) : TW w Q #[.int .i64 7, .slice none 0 0, .slice none 0 0] tyNone :=
  .mk 7 none 0 0 none 0 0 _ _ (fun _ => #[]) (by omega) (by unfold maxLen; omega) (by unfold maxLen; omega) (fun _ => rfl) (fun _ => rfl) (fun h => absurd h (by omega)) (fun h => absurd h (by omega)) (fun i hi => absurd hi (Nat.not_lt_zero i))
/-- What all of them may be. -/
def listG (xs : Nat → TT) : Nat → Option TT
  | 0 => some tyNone
  | i + 1 => match listG xs i with
    | none => none
    | some t => joinP t (xs i)
theorem listG_fit {xs : Nat → TT} : ∀ {m : Nat} {t : TT}, (∀ i, i < m → shp (xs i) ∧ tfew (xs i)) → listG xs m = some t → shp t ∧ tfew t
  | 0, t, _, h => by
    rw [listG] at h
    cases h
    exact ⟨⟨by simp, fun i hi => absurd hi (Nat.not_lt_zero i)⟩, by omega, by omega, fun i hi => absurd hi (Nat.not_lt_zero i), fun i hi => absurd hi (Nat.not_lt_zero i)⟩
  | m + 1, t, hx, h => by
    rw [listG] at h
    cases hg : listG xs m with
    | none => rw [hg] at h; cases h
    | some u =>
      rw [hg] at h
      have hu := listG_fit (fun i hi => hx i (by omega)) hg
      exact join_fit u (xs m) t h hu.1 (hx m (by omega)).1 hu.2 (hx m (by omega)).2
theorem listG_none {xs : Nat → TT} : ∀ {m i : Nat}, i ≤ m → listG xs i = none → listG xs m = none
  | 0, i, h, e => by
    obtain rfl : i = 0 := by omega
    exact e
  | m + 1, i, h, e => by
    by_cases hi : i = m + 1
    · rw [← hi]; exact e
    · rw [listG, listG_none (m := m) (by omega) e]
def listE (xs : Nat → TT) (m : Nat) : Except Int TT := match listG xs m with
  | none => .error 6
  | some t => .ok (.mk 5 0 (fun _ => ⟨#[]⟩) 1 (fun _ => t))
/-- The blocks amid listOf that what was found may lie in. -/
def Pl (Q : Nat → Prop) (n g : Nat) : Prop := (Q g ∧ g < n) ∨ n + 2 ≤ g
/-- The world amid listOf: its answer's box, the box of what was found. -/
def LMid (Q : Nat → Prop) (w wr : World) (r : Option TT) : Prop :=
  Below w.heap.size w wr ∧ TB wr w.heap.size #[.int .i64 0, .slice none 0 0, .slice none 0 0] ∧ ∃ u, TB wr (w.heap.size + 1) u ∧ match r with
  | none => False
  | some t => TW wr (Pl Q w.heap.size) u t
set_option maxRecDepth 20000 in
set_option maxHeartbeats 4000000 in
theorem listOf_any {w : World} {B : Option Addr} {m cb : Nat} {xs : Nat → TT} {vs : Nat → Array Value} {Q : Nat → Prop} (hT : TypesAt w Q B m xs vs) (hm : m ≤ 1000) (hx : ∀ i, i < m → shp (xs i) ∧ tfew (xs i)) :
    Calls Tryz.prog 118 #[.slice B m cb] w (Finds Q (listE xs m) w) := by
  obtain ⟨hb0, hx0, hx1⟩ := two_boxes w #[.int .i64 0, .slice none 0 0, .slice none 0 0] #[.int .i64 0, .slice none 0 0, .slice none 0 0]
  have HT := Lib.hid hT
  have HF := Lib.hid hx
  have HB := Lib.hid hb0
  have HX := Lib.hid (And.intro hx0 hx1)
  have hcx : m ≤ 9223372036854775807 := by omega
  obtain ⟨c0, c1, c2, cf, cl⟩ := hx1.cells
  clear hT hx hb0 hx0 hx1
  go_enter Tryz.func118, Tryz.ntmps118
  go_wp2_with (refine stT rfl _ _ rfl (w.heap.size + 1) #[.int .i64 7, .slice none 0 0, .slice none 0 0] _ rfl rfl HX.out.2 rfl rfl (by simp [Value.oneCell']) ?_; refine Hid.out ?_)
  refine Lib.hid ?_
  obtain ⟨W0, hW0⟩ : ∃ W, W = ((w.alloc (.cells #[.int .i64 0, .slice none 0 0, .slice none 0 0] 25)).alloc (.cells #[.int .i64 0, .slice none 0 0, .slice none 0 0] 25)).setRow (w.heap.size + 1) #[.int .i64 7, .slice none 0 0, .slice none 0 0] := ⟨_, rfl⟩
  have hS0 : Hid (LMid Q w W0 (some tyNone)) := Lib.hid (by
    rw [hW0]
    exact ⟨below_row HB.out (by omega) _, HX.out.1.row (by omega), #[.int .i64 7, .slice none 0 0, .slice none 0 0], HX.out.2.put _, tyNone_at _ _⟩)
  rw [← hW0]
  clear hW0 c0 c1 c2 cf cl
  go_wp2_with fail
  go_loopw [9] (fun iv wr => ∃ i : Nat, i ≤ m ∧ iv = .int .i64 i ∧ Hid (LMid Q w wr (listG xs i))) (fun iv _ => m - (intOf iv).toNat)
  case atStart => exact ⟨0, Nat.zero_le _, rfl, hS0⟩
  case round =>
    obtain ⟨i, hi, rfl, hW⟩ := hrel
    clear hS0 HB HX
    obtain ⟨r, hr⟩ : ∃ r, listG xs i = r := ⟨_, rfl⟩
    rw [hr] at hW
    have HR := Lib.hid hr
    clear hr
    cases r with
    | none => exact absurd hW.out.2.2 (by intro h; obtain ⟨u, _, h⟩ := h; exact h)
    | some t =>
      obtain ⟨hb, hx0, u, hxR, hu⟩ := hW.out
      obtain ⟨y0, y1, y2, y3, y4, y5, y6, rfl⟩ := hu.form
      by_cases hlt : i < m
      · obtain ⟨g, o, rfl, hq, hg, hxi⟩ := HT.out.1 (by omega)
        have hti := ((HT.out.2 i hlt).imp (Q := Pl Q w.heap.size) fun g hg hl => .inl ⟨hg, hl⟩).stay hb
        have hcl := (hxi i hlt).keep fun o => hb.cell (p := ⟨g, o, none⟩) hg
        generalize vs i = v at hti hcl
        obtain ⟨k1, A1, c1, ca1, B1, m1, cb1, rfl⟩ := hti.form
        obtain ⟨e0, e1, e2⟩ := hcl.cells
        have hbx : Below wr.heap.size wr (wr.alloc (.cells #[.int .i64 k1, .slice A1 c1 ca1, .slice B1 m1 cb1] 25)) := (Below.refl _ _).alloc (Nat.le_refl _) _
        have hxR2 := hxR.below hbx
        obtain ⟨d0, d1, d2, _, _⟩ := hxR2.cells
        have hX0 := hx0.below hbx
        have hIN : ∀ W, Below wr.heap.size wr W → TW W (Pl Q w.heap.size) _ t ∧ TW W (Pl Q w.heap.size) _ (xs i) := fun W hbW => ⟨hu.stay hbW, hti.stay hbW⟩
        have hT1 := hIN _ hbx
        have ht := listG_fit (fun j hj => HF.out j (by omega)) HR.out
        have C := join_any t (xs i) _ _ _ _ hT1.1 hT1.2 ht.1 (HF.out i hlt).1 ht.2
        have HXR := Lib.hid hxR2
        have HX0 := Lib.hid hX0
        have HBb := Lib.hid (hb.trans (hbx.mono hb.size))
        have HSZ := Lib.hid (show w.heap.size + 2 ≤ wr.heap.size by have := hxR.lt; omega)
        have ti : (i : Int) < m := by omega
        have ti0 : (0 : Int) ≤ i := by omega
        clear hb hx0 hxR hu hxi hti hcl hbx hxR2 hX0 hIN hT1 ht hq hg
        obtain ⟨q, hq⟩ : ∃ q, joinP t (xs i) = q := ⟨_, rfl⟩
        rw [hq] at C
        have HQ := Lib.hid hq
        have HC := Lib.hid C
        clear C hq
        cases q with
        | none =>
          have HE : Hid (listE xs m = .error 6) := Lib.hid (by
            unfold listE
            rw [listG_none (i := i + 1) (by omega) (by rw [listG, HR.out]; exact HQ.out)])
          go_wp2_with (go_at_call 35; refine HC.out.mono ?_; rintro e w1 ⟨hb1, rfl⟩)
          refine ⟨rfl, HBb.out.trans (hb1.mono HBb.out.size), ?_⟩
          rw [HE.out]
        | some t1 =>
          go_wp2_with (go_at_call 35; refine HC.out.mono ?_; rintro e w1 ⟨hb1, x, rfl, hx⟩; refine Hid.out ?_)
          refine Lib.hid ?_
          have HXR1 := Lib.hid (HXR.out.below hb1)
          have HX01 := Lib.hid (HX0.out.below hb1)
          have HB1 := Lib.hid (HBb.out.trans (hb1.mono HBb.out.size))
          have HY := Lib.hid hx
          clear hb1 hx
          go_wp2_with (refine stT rfl _ _ rfl (w.heap.size + 1) x _ rfl rfl HXR1.out rfl HY.out.size HY.out.one ?_; refine Hid.out ?_)
          refine Lib.hid ?_
          have HL : Hid (LMid Q w (w1.setRow (w.heap.size + 1) x) (listG xs (i + 1))) := Lib.hid (by
            rw [listG, HR.out]
            simp only [HQ.out]
            refine ⟨below_row HB1.out (by omega) _, HX01.out.row (by omega), x, HXR1.out.put _, ?_⟩
            refine (HY.out.keep (w' := w1.setRow (w.heap.size + 1) x) (by simp [World.setRow]) fun b hb _ => setRow_other _ _ _ _ ?_).imp fun b hb _ => ?_
            · rcases hb with (hb | hb) | hb
              · have := hb.2; omega
              · omega
              · rw [World.size_alloc] at hb; have := HSZ.out; omega
            · rcases hb with hb | hb
              · exact hb
              · rw [World.size_alloc] at hb; have := HSZ.out; exact .inr (by omega))
          generalize w1.setRow (w.heap.size + 1) x = W2 at HL ⊢
          go_wp2_with fail
          go_roundw
          case rel => exact ⟨i + 1, by omega, by go_num, HL⟩
          case measure => simp [intOf]; omega
      · obtain rfl : i = m := by omega
        obtain ⟨d0, d1, d2, _, _⟩ := hxR.cells
        have HBb := Lib.hid hb
        have HX0 := Lib.hid hx0
        have HU := Lib.hid hu
        have HLR := Lib.hid hxR.lt
        clear hb hx0 hxR hu
        have hba : Below wr.heap.size wr (wr.alloc (.cells #[.int .i64 y0, .slice y1 y2 y3, .slice y4 y5 y6] 25)) := (Below.refl _ _).alloc (Nat.le_refl _) _
        have HX1 := Lib.hid (HX0.out.below hba)
        have HBA := Lib.hid hba
        have HNB := Lib.hid (TB.new wr #[.int .i64 y0, .slice y1 y2 y3, .slice y4 y5 y6])
        have HE : Hid (listE xs i = .ok (.mk 5 0 (fun _ => ⟨#[]⟩) 1 (fun _ => t))) := Lib.hid (by unfold listE; rw [HR.out])
        clear hba
        go_wp2_with (refine stT rfl _ _ rfl w.heap.size #[.int .i64 5, .slice none 0 0, .slice (some ⟨wr.heap.size, 0, none⟩) 1 1] _ rfl rfl HX1.out rfl rfl (by simp [Value.oneCell']) ?_)
        refine bodyPost_ret (results_typ rfl _ _ w.heap.size _ rfl (HX1.out.put _) rfl) rfl ⟨below_row (HBb.out.trans (HBA.out.mono HBb.out.size)) (Nat.le_refl _) _, ?_⟩
        rw [HE.out]
        refine ⟨_, rfl, ?_⟩
        have hNB : TB ((wr.alloc (.cells #[.int .i64 y0, .slice y1 y2 y3, .slice y4 y5 y6] 25)).setRow w.heap.size #[.int .i64 5, .slice none 0 0, .slice (some ⟨wr.heap.size, 0, none⟩) 1 1]) wr.heap.size #[.int .i64 y0, .slice y1 y2 y3, .slice y4 y5 y6] := HNB.out.row (by have := HLR.out; omega)
        obtain ⟨f0, f1, f2, _, fl⟩ := hNB.cells
        refine .mk 5 none 0 0 (some ⟨wr.heap.size, 0, none⟩) 1 1 _ _ (fun _ => #[.int .i64 y0, .slice y1 y2 y3, .slice y4 y5 y6]) (by omega) (by unfold maxLen; omega) (by unfold maxLen; omega) (fun _ => rfl) (fun h => by cases h) (fun h => absurd h (by omega)) (fun _ => ⟨wr.heap.size, 0, rfl, .inr (by have := HBb.out.size; omega), fl, fun j hj => ?_⟩) (fun j _ => ?_)
        · obtain rfl : j = 0 := by omega
          intro q hq
          match q, hq with
          | 0, _ => exact f0
          | 1, _ => exact f1
          | 2, _ => exact f2
        · refine ((HU.out.stay HBA.out).keep (w' := (wr.alloc _).setRow w.heap.size _) (by simp [World.setRow]) fun b hb _ => setRow_other _ _ _ _ ?_).imp fun b hb _ => ?_
          · rcases hb with hb | hb
            · have := hb.2; omega
            · omega
          · rcases hb with hb | hb
            · exact .inl hb.1
            · exact .inr (by omega)
end Go.Proofs.YtcmohggnehkjeaaGreat

/-
  The program's writer of commands: values, none at all, and the command whole.
-/
import Derived.Test.YtekojglcbalhnaaGreatDoorM28
namespace Go.Proofs.YtekojglcbalhnaaGreatDoor
open Go.RowKit

theorem canon_zero (f : Nat) : decide (canonW f = canonW 0) = decide (f = 0) := by
  have h0 : canonW 0 = 0 := by decide
  rw [h0, decide_eq_decide]
  unfold canonW
  by_cases h : nanB f = true
  · rw [if_pos h]
    have : f ≠ 0 := fun e => by subst e; exact absurd h (by decide)
    omega
  · rw [if_neg h]
set_option maxRecDepth 20000 in
set_option maxHeartbeats 1000000 in
theorem pnone_any {t : VT} {v : Array Value} {w : World} (hv : Val w w.heap.size v t) : Calls Tryz.prog 71 #[.agg v] w fun e w' => e = .returned (.bool (noneB t)) ∧ Below w.heap.size w w' := by
  cases hv with
  | mk k n f s A c ca B m cb ns xs vs hk hn hf hs hc hm hns hB hxs =>
    have hbW : Below w.heap.size w (w.alloc (.cells #[.int .i64 k, .int .i64 n, .float .f64 f, .string s, .slice A c ca, .slice B m cb] 28)) := (Below.refl _ _).alloc (Nat.le_refl _) _
    have BR := bits_run
    unfold fields noneB
    dsimp only
    rw [canon_zero]
    obtain ⟨b1, h1⟩ : ∃ b, decide (k = 0) = b := ⟨_, rfl⟩
    obtain ⟨b2, h2⟩ : ∃ b, decide (n = 0) = b := ⟨_, rfl⟩
    obtain ⟨b3, h3⟩ : ∃ b, decide (f = 0) = b := ⟨_, rfl⟩
    obtain ⟨b4, h4⟩ : ∃ b, decide (s.toList = []) = b := ⟨_, rfl⟩
    obtain ⟨b5, h5⟩ : ∃ b, decide (c = 0) = b := ⟨_, rfl⟩
    obtain ⟨b6, h6⟩ : ∃ b, decide (m = 0) = b := ⟨_, rfl⟩
    have t1 : (k == 0) = b1 := by rw [← h1, Bool.eq_iff_iff]; simp
    have t2 : (n == 0) = b2 := by rw [← h2, Bool.eq_iff_iff]; simp
    have t3 : ((f : Int) == 0) = b3 := by rw [← h3, Bool.eq_iff_iff]; simp
    have t4 : (s.toList == []) = b4 := by rw [← h4, Bool.eq_iff_iff]; simp
    have t4' : s.toList.isEmpty = b4 := by rw [← h4, Bool.eq_iff_iff]; simp
    have t5 : ((c : Int) == 0) = b5 := by rw [← h5, Bool.eq_iff_iff]; simp
    have t6 : ((m : Int) == 0) = b6 := by rw [← h6, Bool.eq_iff_iff]; simp
    rw [h1, h2, h3, h4, h5, h6]
    clear h1 h2 h3 h4 h5 h6 hns hB hxs hk hn hf
    cases b1 with
    | false =>
      go_enter Tryz.func71, Tryz.ntmps71
      go_wp2_with fail
      go_ret
      exact ⟨rfl, hbW⟩
    | true =>
      cases b2 with
      | false =>
        go_enter Tryz.func71, Tryz.ntmps71
        go_wp2_with fail
        go_ret
        exact ⟨rfl, hbW⟩
      | true =>
        cases b3 with
        | false =>
          go_enter Tryz.func71, Tryz.ntmps71
          go_wp2_with fail
          go_ret
          exact ⟨rfl, hbW⟩
        | true =>
          cases b4 with
          | false =>
            go_enter Tryz.func71, Tryz.ntmps71
            go_wp2_with fail
            go_ret
            exact ⟨rfl, hbW⟩
          | true =>
            cases b5 with
            | false =>
              go_enter Tryz.func71, Tryz.ntmps71
              go_wp2_with fail
              go_ret
              exact ⟨rfl, hbW⟩
            | true =>
              go_enter Tryz.func71, Tryz.ntmps71
              go_wp2_with fail
              go_ret
              exact ⟨rfl, hbW⟩
/-- The cells of a box that is no row of bytes stay. -/
theorem box_wk {w : World} {V : Array Value} {t : TypeId} {g : Nat} (hg : g < w.heap.size) (ht : t ≠ 5) : Hid (∀ w', Wk g (w.alloc (.cells V t)) w' → ∀ j, w'.cell? ⟨w.heap.size, j, none⟩ = V[j]?) := Lib.hid fun w' hk j => by
  have h0 := heap_alloc_new w (.cells V t)
  have h1 := (hk.block w.heap.size (by simp) (by omega) (.inr fun cur => by rw [h0]; simp; intro _ h; exact absurd h.symm (by exact fun e => ht e.symm))).trans h0
  simp [World.cell?, h1]
set_option maxRecDepth 20000 in
set_option maxHeartbeats 1000000 in
theorem wvalue_any {t : VT} {v : Array Value} {w : World} {g : Nat} {L : List UInt8} (h : Wr w g L) (hv : Val w g v t) (hL : L.length ≤ 10000000) :
    Calls Tryz.prog 72 #[.pointer (some ⟨g, 0, none⟩), .agg v] w fun e w' => Wk g w w' ∧ if okV t = true then e = .returned (.tuple #[]) ∧ Wr w' g (L ++ valL t) else e = .panicked (errL 5) := by
  have hbW : Below w.heap.size w (w.alloc (.cells v 28)) := (Below.refl _ _).alloc (Nat.le_refl _) _
  have hlt := h.lt
  have hvW : Val (w.alloc (.cells v 28)) (w.alloc (.cells v 28)).heap.size v t := (hv.stay (hbW.mono (Nat.le_of_lt hlt))).mono (by simp; omega)
  have C := Value_f hvW
  have hfew : okV t = true → (valB t).size ≤ 130000 := fun ho => by
    have := valL_few hv ⟨12, (ok_parts ho).1⟩ (ok_parts ho).2
    unfold valL at this; rwa [lst_len] at this
  have P := fun (w1 : World) (hb : Below (w.alloc (.cells v 28)).heap.size (w.alloc (.cells v 28)) w1) (ho : okV t = true) => put_any (s := valB t) ((h.alloc (.cells v 28)).past hb) (by omega) (by have := hfew ho; omega)
  have HP := Lib.hid P
  have HB := Lib.hid hbW
  unfold wrV at C
  obtain ⟨a0, a1, a2, a3, a4, a5, rfl⟩ := hv.six
  clear P hbW hvW hv hfew h
  cases ho : okV t with
  | false =>
    rw [ho] at C
    simp only [Bool.false_eq_true, reduceIte] at C ⊢
    clear HP ho
    go_enter Tryz.func72, Tryz.ntmps72
    go_wp2_with (first | (go_at_call 104; refine C.mono ?_; rintro e w1 ⟨rfl, hb1⟩; have HB1 := Lib.hid hb1; clear hb1) | (go_at_call 63; refine (pinsist_no _).mono ?_; rintro e w2 ⟨rfl, rfl⟩))
    exact ⟨rfl, Wk.of_below (HB.out.trans (HB1.out.mono HB.out.size)), rfl⟩
  | true =>
    rw [ho] at C
    simp only [reduceIte] at C ⊢
    have HQ := Lib.hid fun w1 hb => HP.out w1 hb ho
    unfold valL
    generalize valB t = s at *
    clear HP ho
    go_enter Tryz.func72, Tryz.ntmps72
    go_wp2_with (first | (go_at_call 104; refine C.mono ?_; rintro e w1 ⟨rfl, hb1⟩; have HB1 := Lib.hid hb1; clear hb1) | (go_at_call 63; refine (pinsist_yes _).mono ?_; rintro e w2 ⟨rfl, rfl⟩) | (go_at_call 52; refine (HQ.out _ HB1.out).mono ?_; rintro e w3 ⟨rfl, h3, hk3⟩))
    go_end0
    exact ⟨(Wk.of_below (HB.out.trans (HB1.out.mono HB.out.size))).trans hk3, rfl, h3⟩
theorem Val.kind {w : World} {lim : Nat} {v : Array Value} {t : VT} (h : Val w lim v t) : ∃ n f s A c ca B m cb, v = #[.int .i64 (kindV t), .int .i64 n, .float .f64 f, .string s, .slice A c ca, .slice B m cb] := by
  cases h; exact ⟨_, _, _, _, _, _, _, _, _, rfl⟩
theorem uint_0 : uintL 0 = [0] := by rw [uintL_last (by omega)]; rfl
theorem uint_1 : uintL 1 = [1] := by rw [uintL_last (by omega)]; rfl
set_option maxRecDepth 20000 in
set_option maxHeartbeats 1000000 in
theorem wsome_any {t : VT} {v : Array Value} {w : World} {g : Nat} {L : List UInt8} (h : Wr w g L) (hv : Val w g v t) (hL : L.length ≤ 1000000) :
    Calls Tryz.prog 38 #[.pointer (some ⟨g, 0, none⟩), .agg v] w fun e w' => Wk g w w' ∧ if someB t = true then e = .returned (.tuple #[]) ∧ Wr w' g (L ++ someL t) else e = .panicked (errL 5) := by
  have hlt := h.lt
  have hbW : Below w.heap.size w (w.alloc (.cells v 28)) := (Below.refl _ _).alloc (Nat.le_refl _) _
  have hvW : Val (w.alloc (.cells v 28)) (w.alloc (.cells v 28)).heap.size v t := (hv.stay (hbW.mono (Nat.le_of_lt hlt))).mono (by simp; omega)
  have HK := box_wk (w := w) (V := v) (t := 28) hlt (by decide)
  have hW := h.alloc (.cells v 28)
  obtain ⟨n, f, s, A, c, ca, B, m, cb, hv0⟩ := hv.kind
  have HB := Lib.hid hbW
  have HWr := Lib.hid hW
  by_cases hk : kindV t = 0
  · have N := pnone_any hvW
    have S0 := fun w1 (hb : Below (w.alloc (.cells v 28)).heap.size (w.alloc (.cells v 28)) w1) => wsmall_ok (n := 0) (hW.past hb) (by omega) (by omega)
    have e1 : someB t = noneB t := by unfold someB; rw [if_pos hk]
    have e2 : someL t = [0] := by unfold someL; rw [if_pos hk]
    rw [uint_0] at S0
    rw [e1, e2]
    rw [hk] at hv0
    subst hv0
    have HS0 := Lib.hid S0
    clear S0 e1 e2 hk hv hvW hbW hW
    cases hn : noneB t with
    | false =>
      rw [hn] at N
      simp only [Bool.false_eq_true, reduceIte]
      clear hn
      go_enter Tryz.func38, Tryz.ntmps38
      go_wp2_with (first | (go_at_call 71; refine N.mono ?_; rintro e w1 ⟨rfl, hb1⟩; have HB1 := Lib.hid hb1; clear hb1) | (go_at_call 63; refine (pinsist_no _).mono ?_; rintro e w2 ⟨rfl, rfl⟩))
      exact ⟨rfl, Wk.of_below (HB.out.trans (HB1.out.mono HB.out.size)), rfl⟩
    | true =>
      rw [hn] at N
      simp only [reduceIte]
      clear hn
      go_enter Tryz.func38, Tryz.ntmps38
      go_wp2_with (first | (go_at_call 71; refine N.mono ?_; rintro e w1 ⟨rfl, hb1⟩; have HB1 := Lib.hid hb1; clear hb1) | (go_at_call 63; refine (pinsist_yes _).mono ?_; rintro e w2 ⟨rfl, rfl⟩) | (go_at_call 37; refine (HS0.out _ HB1.out).mono ?_; rintro e w3 ⟨rfl, h3, hk3⟩))
      (try simp only [Exit.inBlock, Exit.then]); refine bodyPost_ret (results_none rfl _ _ _) rfl ?_
      exact ⟨(Wk.of_below (HB.out.trans (HB1.out.mono HB.out.size))).trans hk3, rfl, h3⟩
  · have tk : (kindV t == 0) = false := by simpa using hk
    have S1 := wsmall_ok (n := 1) hW (by omega) (by omega)
    rw [uint_1] at S1
    have e1 : someB t = okV t := by unfold someB; rw [if_neg hk]
    have e2 : L ++ someL t = (L ++ [1]) ++ valL t := by unfold someL; rw [if_neg hk]; simp
    have V1 := fun w1 (hk1 : Wk g (w.alloc (.cells v 28)) w1) (h1 : Wr w1 g (L ++ [1])) => wvalue_any (t := t) (v := v) h1 (hv.stay ((hbW.mono (Nat.le_of_lt hlt)).trans (hk1.below (by simp; omega)))) (by simp; omega)
    have HV := Lib.hid V1
    rw [e1, e2]
    subst hv0
    generalize kindV t = k at *
    clear V1 e1 e2 hk hv hvW hbW hW
    have HO : Hid (okV t = okV t) := Lib.hid rfl
    go_enter Tryz.func38, Tryz.ntmps38
    go_wp2_with (go_at_call 37; refine S1.mono ?_; rintro e w1 ⟨rfl, h1, hk1⟩; refine Hid.out ?_)
    refine Lib.hid ?_
    have c0 : w1.cell? ⟨w.heap.size, 0, none⟩ = some (.int .i64 k) := HK.out w1 hk1 0
    have c1 : w1.cell? ⟨w.heap.size, 1, none⟩ = some (.int .i64 n) := HK.out w1 hk1 1
    have c2 : w1.cell? ⟨w.heap.size, 2, none⟩ = some (.float .f64 f) := HK.out w1 hk1 2
    have c3 : w1.cell? ⟨w.heap.size, 3, none⟩ = some (.string s) := HK.out w1 hk1 3
    have c4 : w1.cell? ⟨w.heap.size, 4, none⟩ = some (.slice A c ca) := HK.out w1 hk1 4
    have c5 : w1.cell? ⟨w.heap.size, 5, none⟩ = some (.slice B m cb) := HK.out w1 hk1 5
    have HV1 := Lib.hid (HV.out w1 hk1 h1)
    have HK1 := Lib.hid ((Wk.of_below HB.out).trans hk1)
    clear h1 hk1 HV
    go_wp2_with fail
    refine HV1.out.mono ?_
    rintro e w2 ⟨hk2, he⟩
    by_cases ho : okV t = true
    · rw [if_pos ho] at he
      obtain ⟨rfl, h2⟩ := he
      go_wp2_with fail
      go_end0
      exact ⟨HK1.out.trans hk2, rfl, by simpa using h2⟩
    · rw [if_neg ho] at he
      subst he
      exact ⟨rfl, HK1.out.trans hk2, by rw [if_neg ho]⟩
/-- A command's cells. -/
def cfields (k n l i d : Int) (a0 a1 a2 a3 a4 a5 b0 b1 b2 b3 b4 b5 : Value) : Array Value := #[.int .i64 k, .int .i64 n, .int .i64 l, .int .i64 i, .int .i64 d, a0, a1, a2, a3, a4, a5, b0, b1, b2, b3, b4, b5]
/-- A command by value is this one. -/
def CmdAt (w : World) (lim : Nat) (v : Array Value) (c : Cm) : Prop :=
  ∃ a0 a1 a2 a3 a4 a5 b0 b1 b2 b3 b4 b5, v = cfields c.k c.n c.l c.i c.d a0 a1 a2 a3 a4 a5 b0 b1 b2 b3 b4 b5 ∧ Val w lim #[a0, a1, a2, a3, a4, a5] c.K ∧ Val w lim #[b0, b1, b2, b3, b4, b5] c.V
theorem CmdAt.stay {w w' : World} {lim : Nat} {v : Array Value} {c : Cm} (h : CmdAt w lim v c) (hb : Below lim w w') : CmdAt w' lim v c := by
  obtain ⟨a0, a1, a2, a3, a4, a5, b0, b1, b2, b3, b4, b5, e, hK, hV⟩ := h
  exact ⟨_, _, _, _, _, _, _, _, _, _, _, _, e, hK.stay hb, hV.stay hb⟩
theorem CmdAt.mono {w : World} {lim lim' : Nat} {v : Array Value} {c : Cm} (h : CmdAt w lim v c) (hl : lim ≤ lim') : CmdAt w lim' v c := by
  obtain ⟨a0, a1, a2, a3, a4, a5, b0, b1, b2, b3, b4, b5, e, hK, hV⟩ := h
  exact ⟨_, _, _, _, _, _, _, _, _, _, _, _, e, hK.mono hl, hV.mono hl⟩
/-- What a small number's call does. -/
theorem wsmall_any {w : World} {g : Nat} {L : List UInt8} {n : Int} (h : Wr w g L) (hL : L.length ≤ 10000000) :
    Calls Tryz.prog 37 #[.pointer (some ⟨g, 0, none⟩), .int .i64 n] w fun e w' => Wk g w w' ∧ if okS n = true then e = .returned (.tuple #[]) ∧ Wr w' g (L ++ uintL n.toNat) else e = .panicked (errL 5) := by
  by_cases hn : okS n = true
  · have h1 := okS_iff.1 hn
    have := wsmall_ok (n := n.toNat) h hL (by omega)
    rw [show ((n.toNat : Nat) : Int) = n by omega] at this
    exact this.mono fun e w' ⟨h1, h2, h3⟩ => ⟨h3, by rw [if_pos hn]; exact ⟨h1, h2⟩⟩
  · exact (wsmall_bad (g := g) (w := w) (fun h => hn (okS_iff.2 h))).mono fun e w' ⟨h1, h2⟩ => by subst h2; exact ⟨Wk.refl _ _, by rw [if_neg hn]; exact h1⟩
end Go.Proofs.YtekojglcbalhnaaGreatDoor

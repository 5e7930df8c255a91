/-
  What the law PackCmds calls: what was written is read as it was; what both readers answer, in one form.
  The document's writer of commands: num, val, none, some.
  The document's Cmd.
-/
import Derived.Test.YtekojglcbalhnaaGreatDoorM38
import Derived.Test.YtekojglcbalhnaaGreatDoorM10
import Derived.Test.YtekojglcbalhnaaGreatDoorM28
import Derived.Test.YtekojglcbalhnaaGreatDoorM30
import Derived.Test.YtekojglcbalhnaaGreatDoorM09
namespace Go.Proofs.YtekojglcbalhnaaGreatDoor
open Go.RowKit

theorem none_same {t : VT} (h : noneB t = true) : ordV noneT t = 0 := by
  cases t with
  | bad => cases h
  | mk k n f s c ns m xs =>
    unfold noneB at h
    simp only [Bool.and_eq_true, decide_eq_true_eq] at h
    obtain ⟨rfl, rfl, _, hs, rfl, rfl⟩ := h
    unfold noneT leaf ordV
    rw [if_neg (by simp), if_neg (by omega), if_neg (by omega), if_neg (by omega)]
    have h1 : plainI 0 0 ⟨#[]⟩ 0 (fun _ => ⟨#[]⟩) 0 s 0 ns = 0 := by
      have e : (⟨#[]⟩ : ByteArray).toList = [] := by decide +kernel
      have ht : textI ⟨#[]⟩ s = 0 := by
        unfold textI lessS
        rw [hs, e]
        rfl
      unfold plainI
      rw [if_neg (by omega), if_neg (by omega), if_neg (by simp [signI]), ht]
      simp [rowI, firstGo, signI]
    rw [h1]
    simp [firstGo, signI]
theorem snorm_same {t : VT} (h : someB t = true) (hf : floatsIn t) : ordV (snorm t) t = 0 := by
  unfold someB at h
  unfold snorm
  by_cases hk : kindV t = 0
  · rw [if_pos hk] at h ⊢
    exact none_same h
  · rw [if_neg hk] at h ⊢
    exact norm_same t 12 (ok_parts h).1 hf
theorem someL_few {t : VT} {v : Array Value} {w : World} {lim : Nat} (hv : Val w lim v t) (h : someB t = true) : (someL t).length ≤ 130001 := by
  unfold someB at h
  unfold someL
  by_cases hk : kindV t = 0
  · rw [if_pos hk]; simp
  · rw [if_neg hk] at h ⊢
    have ⟨h1, h2⟩ := ok_tot hv h
    have := valL_few hv ⟨12, h2⟩ h1
    simp only [List.length_cons]; omega
theorem cmdB_parts {c : Cm} (h : cmdB c = true) : someB c.K = true ∧ someB c.V = true := by
  unfold cmdB at h
  simp only [Bool.and_eq_true] at h
  exact h.2.2.2.2.2
theorem cmdL_few {c : Cm} {v : Array Value} {w : World} {lim : Nat} (hv : CmdAt w lim v c) (h : cmdB c = true) : (strL (cmdL c)).size ≤ 270000 := by
  obtain ⟨a0, a1, a2, a3, a4, a5, b0, b1, b2, b3, b4, b5, rfl, hK, hV⟩ := hv
  have ⟨h1, h2⟩ := cmdB_parts h
  have h3 := someL_few hK h1
  have h4 := someL_few hV h2
  unfold cmdB at h
  simp only [Bool.and_eq_true] at h
  have e1 := okS_iff.1 h.1
  have e2 := okS_iff.1 h.2.1
  have e3 := okS_iff.1 h.2.2.1
  have e4 := okS_iff.1 h.2.2.2.1
  have e5 := okS_iff.1 h.2.2.2.2.1
  have u : ∀ n : Int, n ≤ 10000 → (uintL n.toNat).length ≤ 10 := fun n hn => uintL_len10 (by omega)
  have := u _ e1.2
  have := u _ e2.2
  have := u _ e3.2
  have := u _ e4.2
  have := u _ e5.2
  have e : (strL (cmdL c)).size = (cmdL c).length := by unfold strL; simp [ByteArray.size]
  rw [e]
  unfold cmdL
  simp only [List.length_append]
  omega
def zeroC : Cm := ⟨0, 0, 0, 0, 0, noneT, noneT⟩
/-- What a command's reader answers: the command, what follows, the error. -/
def rdv (s : ByteArray) (a : Int) : Cm × Int × Int := if a < 0 ∨ (s.size : Int) < a then (zeroC, 0, 3) else match cmdP (left s a.toNat) with
  | none => (zeroC, 0, 5)
  | some (c, l) => (c, ((s.size - l.length : Nat) : Int), 0)
theorem zeroC_at (w : World) : CmdAt w w.heap.size zero17 zeroC := by
  have h := (own_none w (fun _ => True)).val
  exact ⟨_, _, _, _, _, _, _, _, _, _, _, _, rfl, h, h⟩
theorem rdv_err (s : ByteArray) (a : Int) : (rdv s a).2.2 = 0 ∨ (rdv s a).2.2 = 3 ∨ (rdv s a).2.2 = 5 := by
  unfold rdv
  split
  · exact .inr (.inl rfl)
  · split
    · exact .inr (.inr rfl)
    · exact .inl rfl
theorem rd_row {s : ByteArray} {a : Int} {w w' : World} {e : Ending} (h : RdCmd s a w e w') : Below w.heap.size w w' ∧ ∃ v, e = .returned (.tuple #[.agg v, .int .i64 (rdv s a).2.1, .int .i64 (rdv s a).2.2]) ∧ CmdAt w' w'.heap.size v (rdv s a).1 := by
  unfold RdCmd at h
  unfold rdv
  by_cases hp : a < 0 ∨ (s.size : Int) < a
  · rw [if_pos hp] at h ⊢
    exact ⟨h.2, zero17, h.1, zeroC_at _⟩
  · rw [if_neg hp] at h ⊢
    unfold RcEnds at h
    cases hc : cmdP (left s a.toNat) with
    | none => rw [hc] at h; exact ⟨h.1, zero17, h.2, zeroC_at _⟩
    | some z =>
      obtain ⟨c, l⟩ := z
      rw [hc] at h
      obtain ⟨hb, v, he, ho⟩ := h
      exact ⟨hb, v, he, ho.at⟩
/-- A command by value, its cells by name. -/
theorem CmdAt.named {w : World} {lim : Nat} {v : Array Value} {c : Cm} (h : CmdAt w lim v c) : ∃ (k n ll i d : Int) (p0 p1 : Int) (p2 : Nat) (p3 : ByteArray) (p4 : Option Addr) (p5 p6 : Nat) (p7 : Option Addr) (p8 p9 : Nat) (q0 q1 : Int) (q2 : Nat) (q3 : ByteArray) (q4 : Option Addr) (q5 q6 : Nat) (q7 : Option Addr) (q8 q9 : Nat), v = #[.int .i64 k, .int .i64 n, .int .i64 ll, .int .i64 i, .int .i64 d, .int .i64 p0, .int .i64 p1, .float .f64 p2, .string p3, .slice p4 p5 p6, .slice p7 p8 p9, .int .i64 q0, .int .i64 q1, .float .f64 q2, .string q3, .slice q4 q5 q6, .slice q7 q8 q9] := by
  obtain ⟨a0, a1, a2, a3, a4, a5, b0, b1, b2, b3, b4, b5, rfl, hK, hV⟩ := h
  obtain ⟨p0, p1, p2, p3, p4, p5, p6, p7, p8, p9, hp⟩ := hK.eight
  obtain ⟨q0, q1, q2, q3, q4, q5, q6, q7, q8, q9, hq⟩ := hV.eight
  simp only [Array.mk.injEq, List.cons.injEq, and_true] at hp hq
  obtain ⟨rfl, rfl, rfl, rfl, rfl, rfl⟩ := hp
  obtain ⟨rfl, rfl, rfl, rfl, rfl, rfl⟩ := hq
  exact ⟨_, _, _, _, _, _, _, _, _, _, _, _, _, _, _, _, _, _, _, _, _, _, _, _, _, rfl⟩
/-- What was written is read as it was, whatever stands ahead and behind. -/
theorem rdv_back {c : Cm} {v : Array Value} {w : World} {lim : Nat} (hv : CmdAt w lim v c) (h : cmdB c = true) (A B : ByteArray) : rdv (A ++ strL (cmdL c) ++ B) A.size = (cnorm c, (A.size : Int) + ((strL (cmdL c)).size : Int), 0) := by
  obtain ⟨a0, a1, a2, a3, a4, a5, b0, b1, b2, b3, b4, b5, rfl, hK, hV⟩ := hv
  have hs : (A ++ strL (cmdL c) ++ B).size = A.size + (strL (cmdL c)).size + B.size := by rw [ByteArray.size_append, ByteArray.size_append]
  have e : (strL (cmdL c)).data.toList = cmdL c := by unfold strL; rfl
  have hb := cmd_back h hK.fin hV.fin B.data.toList
  unfold rdv
  rw [if_neg (by omega), show ((A.size : Nat) : Int).toNat = A.size by omega, left_amid, e, hb]
  have hl : B.data.toList.length = B.size := lst_len B
  simp only [Prod.mk.injEq, true_and, and_true]
  rw [hs, hl]
  omega
theorem back_same {c : Cm} {v : Array Value} {w : World} {lim : Nat} (hv : CmdAt w lim v c) (h : cmdB c = true) : ordV (cnorm c).K c.K = 0 ∧ ordV (cnorm c).V c.V = 0 := by
  obtain ⟨a0, a1, a2, a3, a4, a5, b0, b1, b2, b3, b4, b5, rfl, hK, hV⟩ := hv
  have ⟨h1, h2⟩ := cmdB_parts h
  exact ⟨snorm_same h1 hK.fin.1, snorm_same h2 hV.fin.1⟩
end Go.Proofs.YtekojglcbalhnaaGreatDoor
namespace Go.Proofs.YtekojglcbalhnaaGreatDoor
open Go.RowKit

/-- The document's writer: the bytes so far; is something no command? -/
def Ow (w : World) (g : Nat) (S : ByteArray) (b : Bool) : Prop := w.heap[g]? = some (.cells #[.string S, .bool b] 61 (0, 0))
theorem Ow.cells {w : World} {g : Nat} {S : ByteArray} {b : Bool} (h : Ow w g S b) : w.cell? ⟨g, 0, none⟩ = some (.string S) ∧ w.cell? ⟨g, 1, none⟩ = some (.bool b) ∧ ∀ o, w.frozen? ⟨g, o, none⟩ = false := by
  unfold Ow at h
  refine ⟨?_, ?_, fun o => ?_⟩
  · simp [World.cell?, h]
  · simp [World.cell?, h]
  · simp [World.frozen?, h]
theorem Ow.lt {w : World} {g : Nat} {S : ByteArray} {b : Bool} (h : Ow w g S b) : g < w.heap.size := (Array.getElem?_eq_some_iff.1 h).1
theorem Ow.past {w w' : World} {g : Nat} {S : ByteArray} {b : Bool} (h : Ow w g S b) (hb : Below w.heap.size w w') : Ow w' g S b := (hb.block g h.lt).trans h
theorem Ow.set0 {w : World} {g : Nat} {S : ByteArray} {b : Bool} (h : Ow w g S b) (T : ByteArray) : Ow (w.setCell ⟨g, 0, none⟩ (.string T)) g T b := by
  unfold Ow at *
  simp [World.setCell, Array.getElem?_modify, h]
theorem Ow.set1 {w : World} {g : Nat} {S : ByteArray} {b : Bool} (h : Ow w g S b) (c : Bool) : Ow (w.setCell ⟨g, 1, none⟩ (.bool c)) g S c := by
  unfold Ow at *
  simp [World.setCell, Array.getElem?_modify, h]
theorem Ow.drew {w : World} {g : Nat} {S : ByteArray} {b : Bool} (h : Ow w g S b) : Ow w.drew g S b := h
set_option maxRecDepth 20000 in
set_option maxHeartbeats 1000000 in
theorem onum_ok {w : World} {g : Nat} {S : ByteArray} {b : Bool} {n : Nat} (h : Ow w g S b) (hn : n ≤ 10000) (hS : S.size ≤ 1000000000) :
    Calls Tryz.prog 17 #[.pointer (some ⟨g, 0, none⟩), .int .i64 n] w fun e w' => e = .returned (.tuple #[]) ∧ Past g w w' ∧ Ow w' g (S ++ strL (uintL n)) b := by
  obtain ⟨c0, c1, cf⟩ := h.cells
  obtain ⟨d0, d1, df⟩ := h.drew.cells
  have U := Uint_any (n := n) (by omega) w.drew
  have hl := uintL_len10 (n := n) (by omega)
  have hz : (strL (uintL n)).size = (uintL n).length := by rw [← lst_len, lst_strL]
  have hno : ¬ 9223372036854775807 < S.size + (strL (uintL n)).size := by omega
  have E1 : IntKind.u64.wrap (n : Int) = n := by rw [IntKind.wrap_u64]; omega
  have t1 : decide ((n : Int) < (0 : Int)) = false := by simp
  have t2 : decide ((10000 : Int) < (n : Int)) = false := by simp; omega
  have HU := Lib.hid U
  have H := Lib.hid h
  have HD := Lib.hid ((Past.refl g w).drew)
  generalize strL (uintL n) = s at *
  clear U h hn hl hz hS cf
  go_enter Tryz.func17, Tryz.ntmps17
  go_wp2_with fail
  go_region_law (first
    | (go_simp; go_at_call 39; (with_reducible refine HU.out.mono ?_); rintro e w1 ⟨rfl, hb1⟩; have h1 := H.out.drew.past hb1; obtain ⟨x0, x1, xf⟩ := h1.cells; have HF := Lib.hid (And.intro (h1.set0 (S ++ s)) ((HD.out.trans (Past.of_below hb1)).set 0 (.string (S ++ s)))); clear h1 hb1))
  all_goals
    go_simp
    go_wp2_with fail
    go_end0
    exact ⟨rfl, HF.out.2, HF.out.1⟩
theorem onum_bad {w : World} {g : Nat} {S : ByteArray} {b : Bool} {n : Int} (h : Ow w g S b) (hn : ¬ (0 ≤ n ∧ n ≤ 10000)) :
    Calls Tryz.prog 17 #[.pointer (some ⟨g, 0, none⟩), .int .i64 n] w fun e w' => e = .returned (.tuple #[]) ∧ Past g w w' ∧ Ow w' g S true := by
  obtain ⟨c0, c1, cf⟩ := h.cells
  have HF := Lib.hid (And.intro (h.set1 true) ((Past.refl g w).set 1 (.bool true)))
  clear h
  by_cases h0 : n < 0
  · have t1 : decide (n < (0 : Int)) = true := by simpa using h0
    clear h0 hn
    go_enter Tryz.func17, Tryz.ntmps17
    go_wp2_with fail
    refine bodyPost_ret (results_none rfl _ _ _) rfl ?_
    exact ⟨rfl, HF.out.2, HF.out.1⟩
  · have t1 : decide (n < (0 : Int)) = false := by simpa using h0
    have t2 : decide ((10000 : Int) < n) = true := by simp; omega
    clear h0 hn
    go_enter Tryz.func17, Tryz.ntmps17
    go_wp2_with fail
    refine bodyPost_ret (results_none rfl _ _ _) rfl ?_
    exact ⟨rfl, HF.out.2, HF.out.1⟩
theorem onum_any {w : World} {g : Nat} {S : ByteArray} {b : Bool} {n : Int} (h : Ow w g S b) (hS : S.size ≤ 1000000000) :
    Calls Tryz.prog 17 #[.pointer (some ⟨g, 0, none⟩), .int .i64 n] w fun e w' => e = .returned (.tuple #[]) ∧ Past g w w' ∧ if okS n = true then Ow w' g (S ++ strL (uintL n.toNat)) b else Ow w' g S true := by
  by_cases hn : okS n = true
  · have h1 := okS_iff.1 hn
    have := onum_ok (n := n.toNat) h (by omega) hS
    rw [show ((n.toNat : Nat) : Int) = n by omega] at this
    exact this.mono fun e w' ⟨h1, h2, h3⟩ => ⟨h1, h2, by rw [if_pos hn]; exact h3⟩
  · exact (onum_bad h (fun h => hn (okS_iff.2 h))).mono fun e w' ⟨h1, h2, h3⟩ => ⟨h1, h2, by rw [if_neg hn]; exact h3⟩
/-- A value is nothing at all, as the document asks it: an expression with it is right. -/
theorem okE_none (t : VT) : okE (.mk 2 ⟨#[120]⟩ t 0 (fun _ => ⟨#[]⟩) 0 (fun _ => .bad)) = noneB t := by
  unfold okE
  have h1 : ecntV (.mk 2 ⟨#[120]⟩ t 0 (fun _ => ⟨#[]⟩) 0 (fun _ => .bad)) 0 = 1 := by
    simp [ecntV, cntGo]
    rfl
  rw [h1]
  unfold rightE
  have e1 : shapeE 2 0 12 = true := by decide
  have e2 : nameE 2 ⟨#[120]⟩ = true := by decide
  have e3 : lenE 2 0 0 = true := by decide
  have e4 : fieldsE 0 (fun _ => ⟨#[]⟩) = true := by decide
  rw [e1, e2, e3, e4]
  have e5 : valE 2 t = noneB t := by
    unfold valE
    rfl
  rw [e5]
  simp
set_option maxRecDepth 20000 in
set_option maxHeartbeats 1000000 in
theorem onone_any {t : VT} {v : Array Value} {w : World} (hv : Val w w.heap.size v t) : Calls Tryz.prog 40 #[.agg v] w fun e w' => e = .returned (.bool (noneB t)) ∧ Below w.heap.size w w' := by
  obtain ⟨b0, b1, b2, b3, b4, b5, b6, b7, b8, b9, rfl⟩ := hv.eight
  obtain ⟨W2, hW2⟩ : ∃ W2, W2 = (w.alloc (.cells #[.int .i64 b0, .int .i64 b1, .float .f64 b2, .string b3, .slice b4 b5 b6, .slice b7 b8 b9] 28)).alloc (.cells #[.int .i64 2, .string ⟨#[120]⟩, .int .i64 b0, .int .i64 b1, .float .f64 b2, .string b3, .slice b4 b5 b6, .slice b7 b8 b9, .slice none 0 0, .slice none 0 0] 97) := ⟨_, rfl⟩
  have hb2 : Below w.heap.size w W2 := by rw [hW2]; exact ((Below.refl _ _).alloc (Nat.le_refl _) _).alloc (by simp) _
  have hv2 := (hv.stay hb2).mono hb2.size
  have HE : EVal W2 W2.heap.size (efields 2 ⟨#[120]⟩ (.int .i64 b0) (.int .i64 b1) (.float .f64 b2) (.string b3) (.slice b4 b5 b6) (.slice b7 b8 b9) none 0 0 none 0 0) (.mk 2 ⟨#[120]⟩ t 0 (fun _ => ⟨#[]⟩) 0 (fun _ => .bad)) :=
    .mk 2 ⟨#[120]⟩ _ _ _ _ _ _ t none 0 0 none 0 0 _ _ (fun _ => #[]) (by omega) (by decide) hv2 ⟨Nat.le_refl _, Nat.zero_le _⟩ ⟨Nat.le_refl _, Nat.zero_le _⟩ (fun h => absurd h (Nat.lt_irrefl 0)) (fun h => absurd h (Nat.lt_irrefl 0)) (fun i h => absurd h (Nat.not_lt_zero i))
  have R := Right_e HE
  rw [okE_none] at R
  unfold efields at R
  have SF := float_store
  have HB := Lib.hid hb2
  rw [hW2] at R
  have HW := Lib.hid hW2
  generalize noneB t = r at *
  clear hv hb2 hv2 HE hW2
  have HR := Lib.hid R
  clear R
  go_enter Tryz.func40, Tryz.ntmps40
  go_wp2_with (go_at_call 73; refine HR.out.mono ?_; rintro e w3 ⟨rfl, hb3⟩; rw [← HW.out] at hb3)
  go_ret
  exact ⟨rfl, HB.out.trans (hb3.mono HB.out.size)⟩
set_option maxRecDepth 20000 in
set_option maxHeartbeats 2000000 in
theorem oval_any {t : VT} {v : Array Value} {w : World} {g : Nat} {S : ByteArray} {b : Bool} (h : Ow w g S b) (hv : Val w g v t) (hS : S.size ≤ 1000000000) :
    Calls Tryz.prog 41 #[.pointer (some ⟨g, 0, none⟩), .agg v] w fun e w' => e = .returned (.tuple #[]) ∧ Past g w w' ∧ if okV t = true then Ow w' g (S ++ valB t) b else Ow w' g S true := by
  obtain ⟨b0, b1, b2, b3, b4, b5, b6, b7, b8, b9, rfl⟩ := hv.eight
  have hlt := h.lt
  obtain ⟨W1, hW1⟩ : ∃ W1, W1 = w.alloc (.cells #[.int .i64 b0, .int .i64 b1, .float .f64 b2, .string b3, .slice b4 b5 b6, .slice b7 b8 b9] 28) := ⟨_, rfl⟩
  have hbW : Below w.heap.size w W1 := by rw [hW1]; exact (Below.refl _ _).alloc (Nat.le_refl _) _
  have hbx : W1.heap[w.heap.size]? = some (.cells #[.int .i64 b0, .int .i64 b1, .float .f64 b2, .string b3, .slice b4 b5 b6, .slice b7 b8 b9] 28 (0, 0)) := by rw [hW1]; exact heap_alloc_new w _
  have hs1 : W1.heap.size = w.heap.size + 1 := by rw [hW1]; simp
  have hvW : ∀ W, Below W1.heap.size W1 W → Val W W.heap.size #[.int .i64 b0, .int .i64 b1, .float .f64 b2, .string b3, .slice b4 b5 b6, .slice b7 b8 b9] t := fun W hb => (hv.stay ((hbW.mono (Nat.le_of_lt hlt)).trans (hb.mono (by omega)))).mono (by have := hb.size; omega)
  have R := Right_any (hvW W1 (Below.refl _ _))
  have HB := Lib.hid hbW
  have HX := Lib.hid hbx
  have HO := Lib.hid (h.past hbW)
  have HV := Lib.hid hvW
  have HZ := Lib.hid hs1
  have HG := Lib.hid hlt
  have e0 : w.alloc (.cells #[.int .i64 b0, .int .i64 b1, .float .f64 b2, .string b3, .slice b4 b5 b6, .slice b7 b8 b9] 28) = W1 := hW1.symm
  have HE := Lib.hid e0
  rw [hW1] at R
  clear h hv hbW hbx hs1 hvW hlt hW1 e0
  cases ho : okV t with
  | false =>
    rw [ho] at R
    simp only [Bool.false_eq_true, reduceIte]
    have HR := Lib.hid R
    clear R ho
    go_enter Tryz.func41, Tryz.ntmps41
    go_wp2_with (go_at_call 74; refine HR.out.mono ?_; rintro e w1 ⟨rfl, hb1⟩; rw [HE.out] at hb1; have h1 := HO.out.past hb1; obtain ⟨x0, x1, xf⟩ := h1.cells; have HF := Lib.hid (And.intro (h1.set1 true) (((Past.of_below (g := g) HB.out).trans (Past.of_below hb1)).set 1 (.bool true))); clear h1 hb1)
    refine bodyPost_ret (results_none rfl _ _ _) rfl ?_
    exact ⟨rfl, HF.out.2, HF.out.1⟩
  | true =>
    rw [ho] at R
    simp only [reduceIte]
    have HR := Lib.hid R
    have hp := ok_parts ho
    have hw := wt_right t 12 hp.1
    have hvs : (valB t).size ≤ 130000 := by
      have := valL_few (HV.out W1 (Below.refl _ _)) ⟨12, hp.1⟩ hp.2
      unfold valL at this; rwa [lst_len] at this
    have hno : ¬ 9223372036854775807 < S.size + (valB t).size := by omega
    have V := Lib.hid fun (W : World) (hb : Below W1.heap.size W1 W) => bytes_ref t #[.int .i64 b0, .int .i64 b1, .float .f64 b2, .string b3, .slice b4 b5 b6, .slice b7 b8 b9] W (HV.out W hb) ⟨12, hp.1⟩ (by omega)
    generalize valB t = s at *
    clear R ho hp hw hvs hS HV
    go_enter Tryz.func41, Tryz.ntmps41
    go_wp2_with (go_at_call 74; refine HR.out.mono ?_; rintro e w1 ⟨rfl, hb1⟩; rw [HE.out] at hb1; refine Hid.out ?_)
    refine Lib.hid ?_
    have hx1 : w1.heap[w.heap.size]? = some (.cells #[.int .i64 b0, .int .i64 b1, .float .f64 b2, .string b3, .slice b4 b5 b6, .slice b7 b8 b9] 28 (0, 0)) := (hb1.block _ (by have := HZ.out; omega)).trans HX.out
    have hc : ∀ j, w1.cell? ⟨w.heap.size, j, none⟩ = (#[.int .i64 b0, .int .i64 b1, .float .f64 b2, .string b3, .slice b4 b5 b6, .slice b7 b8 b9] : Array Value)[j]? := fun j => by simp [World.cell?, hx1]
    have y0 : w1.cell? ⟨w.heap.size, 0, none⟩ = some (.int .i64 b0) := hc 0
    have y1 : w1.cell? ⟨w.heap.size, 1, none⟩ = some (.int .i64 b1) := hc 1
    have y2 : w1.cell? ⟨w.heap.size, 2, none⟩ = some (.float .f64 b2) := hc 2
    have y3 : w1.cell? ⟨w.heap.size, 3, none⟩ = some (.string b3) := hc 3
    have y4 : w1.cell? ⟨w.heap.size, 4, none⟩ = some (.slice b4 b5 b6) := hc 4
    have y5 : w1.cell? ⟨w.heap.size, 5, none⟩ = some (.slice b7 b8 b9) := hc 5
    have h1 := HO.out.past hb1
    obtain ⟨x0, x1, xf⟩ := h1.cells
    have H1 := Lib.hid h1
    have HD := Lib.hid (((Past.of_below (g := g) HB.out).trans (Past.of_below hb1)).drew)
    have HV1 := Lib.hid (V.out w1.drew hb1.drew)
    clear hx1 hc h1 hb1 V xf
    go_wp2_with fail
    go_region_law (first
      | (go_simp; go_at_call 75; (with_reducible refine HV1.out.mono ?_); rintro e w2 ⟨rfl, hb2⟩; have h2 := H1.out.drew.past hb2; obtain ⟨u0, u1, uf⟩ := h2.cells; have HF := Lib.hid (And.intro (h2.set0 (S ++ s)) ((HD.out.trans (Past.of_below hb2)).set 0 (.string (S ++ s)))); clear h2 hb2))
    all_goals
      go_simp
      go_wp2_with fail
      go_end0
      exact ⟨rfl, HF.out.2, HF.out.1⟩
theorem someL_bytes (t : VT) : strL (someL t) = if kindV t = 0 then ⟨#[0]⟩ else ⟨#[1]⟩ ++ valB t := by
  unfold someL
  by_cases h : kindV t = 0
  · rw [if_pos h, if_pos h]; rfl
  · rw [if_neg h, if_neg h]
    have : strL [1] ++ strL (valL t) = strL (1 :: valL t) := strL_append [1] (valL t)
    rw [← this]
    unfold valL
    rw [str_lst]
    rfl
set_option maxRecDepth 20000 in
set_option maxHeartbeats 2000000 in
theorem osome_any {t : VT} {v : Array Value} {w : World} {g : Nat} {S : ByteArray} {b : Bool} (h : Ow w g S b) (hv : Val w g v t) (hS : S.size ≤ 900000000) :
    Calls Tryz.prog 18 #[.pointer (some ⟨g, 0, none⟩), .agg v] w fun e w' => e = .returned (.tuple #[]) ∧ Past g w w' ∧ ∃ S' b', Ow w' g S' b' ∧ S'.size ≤ S.size + 130001 ∧ (someB t = true → S' = S ++ strL (someL t) ∧ b' = b) ∧ (¬ someB t = true → b' = true) := by
  obtain ⟨n, f, s, A, c, ca, B, m, cb, hv0⟩ := hv.kind
  have hlt := h.lt
  have SB := someL_bytes t
  have hbs : okV t = true → (valB t).size ≤ 130000 := fun ho => by
    have hp := ok_parts ho
    have := valL_few hv ⟨12, hp.1⟩ hp.2
    unfold valL at this; rwa [lst_len] at this
  obtain ⟨W1, hW1⟩ : ∃ W1, W1 = w.alloc (.cells v 28) := ⟨_, rfl⟩
  have hbW : Below w.heap.size w W1 := by rw [hW1]; exact (Below.refl _ _).alloc (Nat.le_refl _) _
  have hbx : W1.heap[w.heap.size]? = some (.cells v 28 (0, 0)) := by rw [hW1]; exact heap_alloc_new w _
  have hs1 : W1.heap.size = w.heap.size + 1 := by rw [hW1]; simp
  have hvg : Val W1 g v t := hv.stay (hbW.mono (Nat.le_of_lt hlt))
  have N := onone_any (hvg.mono (by omega))
  have HO := Lib.hid (h.past hbW)
  have HP := Lib.hid (Past.of_below (g := g) hbW)
  have HX := Lib.hid hbx
  have HZ := Lib.hid hs1
  have HG := Lib.hid hlt
  have HV := Lib.hid hvg
  have hno : ¬ 9223372036854775807 < S.size + 1 := by omega
  have HS := Lib.hid hS
  have HBS := Lib.hid hbs
  clear h hv hbW hbx hs1 hlt hvg hS hbs
  by_cases hk : kindV t = 0
  · have e1 : someB t = noneB t := by unfold someB; rw [if_pos hk]
    rw [if_pos hk] at SB
    rw [SB, e1]
    rw [hk] at hv0
    have e0 : w.alloc (.cells v 28) = W1 := hW1.symm
    rw [hW1] at N
    subst hv0
    have HE := Lib.hid e0
    clear SB e1 hk hW1 e0 HV HBS
    obtain ⟨c0, c1, cf⟩ := HO.out.cells
    rw [← HE.out] at c0 c1 cf
    have fin : ∀ (W : World) (bb : Bool), Ow W g S bb → Past g w W → Hid (W.cell? ⟨g, 1, none⟩ = some (.bool bb) ∧ W.frozen? ⟨g, 1, none⟩ = false ∧ ∀ bn, (W.setCell ⟨g, 1, none⟩ (.bool bn)).cell? ⟨g, 0, none⟩ = some (.string S) ∧ (W.setCell ⟨g, 1, none⟩ (.bool bn)).frozen? ⟨g, 0, none⟩ = false ∧ Ow ((W.setCell ⟨g, 1, none⟩ (.bool bn)).setCell ⟨g, 0, none⟩ (.string (S ++ ⟨#[0]⟩))) g (S ++ ⟨#[0]⟩) bn ∧ Past g w ((W.setCell ⟨g, 1, none⟩ (.bool bn)).setCell ⟨g, 0, none⟩ (.string (S ++ ⟨#[0]⟩)))) := fun W bb hO hP => Lib.hid ⟨hO.cells.2.1, hO.cells.2.2 1, fun bn => ⟨(hO.set1 bn).cells.1, (hO.set1 bn).cells.2.2 0, (hO.set1 bn).set0 _, (hP.set 1 _).set 0 _⟩⟩
    have FIN := Lib.hid fin
    have hsz : (S ++ (⟨#[0]⟩ : ByteArray)).size ≤ S.size + 130001 := by
      have : (S ++ (⟨#[0]⟩ : ByteArray)).size = S.size + 1 := by rw [ByteArray.size_append]; rfl
      omega
    have HSZ := Lib.hid hsz
    clear fin hsz
    cases b with
    | true =>
      have F1 := FIN.out W1 true HO.out HP.out
      rw [← HE.out] at F1
      obtain ⟨y0, y1, -, -⟩ := F1.out.2.2 true
      go_enter Tryz.func18, Tryz.ntmps18
      go_wp2_with fail
      refine bodyPost_ret (results_none rfl _ _ _) rfl ?_
      exact ⟨rfl, (F1.out.2.2 true).2.2.2, _, true, (F1.out.2.2 true).2.2.1, HSZ.out, fun _ => ⟨rfl, rfl⟩, fun _ => rfl⟩
    | false =>
      cases hn : noneB t with
      | false =>
        rw [hn] at N
        have HN := Lib.hid N
        clear N hn
        go_enter Tryz.func18, Tryz.ntmps18
        go_wp2_with (go_at_call 40; refine HN.out.mono ?_; rintro e w2 ⟨rfl, hb2⟩; rw [HE.out] at hb2; have F2 := FIN.out w2 false (HO.out.past hb2) (HP.out.trans (Past.of_below hb2)); obtain ⟨x0, x1, -⟩ := F2.out; obtain ⟨y0, y1, -, -⟩ := F2.out.2.2 true; clear hb2)
        refine bodyPost_ret (results_none rfl _ _ _) rfl ?_
        exact ⟨rfl, (F2.out.2.2 true).2.2.2, _, true, (F2.out.2.2 true).2.2.1, HSZ.out, fun h => absurd h (by decide), fun _ => rfl⟩
      | true =>
        rw [hn] at N
        have HN := Lib.hid N
        clear N hn
        go_enter Tryz.func18, Tryz.ntmps18
        go_wp2_with (go_at_call 40; refine HN.out.mono ?_; rintro e w2 ⟨rfl, hb2⟩; rw [HE.out] at hb2; have F2 := FIN.out w2 false (HO.out.past hb2) (HP.out.trans (Past.of_below hb2)); obtain ⟨x0, x1, -⟩ := F2.out; obtain ⟨y0, y1, -, -⟩ := F2.out.2.2 false; clear hb2)
        refine bodyPost_ret (results_none rfl _ _ _) rfl ?_
        exact ⟨rfl, (F2.out.2.2 false).2.2.2, _, false, (F2.out.2.2 false).2.2.1, HSZ.out, fun _ => ⟨rfl, rfl⟩, fun h => absurd trivial h⟩
  · have e1 : someB t = okV t := by unfold someB; rw [if_neg hk]
    rw [if_neg hk] at SB
    rw [SB, e1]
    have tk : (kindV t == 0) = false := by simpa using hk
    obtain ⟨kk, hkk⟩ : ∃ kk, kk = kindV t := ⟨_, rfl⟩
    rw [← hkk] at hv0 tk
    have e0 : w.alloc (.cells v 28) = W1 := hW1.symm
    subst hv0
    have HE := Lib.hid e0
    clear SB e1 hk hkk hW1 e0 N
    obtain ⟨c0, c1, cf⟩ := HO.out.cells
    have hO2 := HO.out.set0 (S ++ ⟨#[1]⟩)
    have hP2 := HP.out.set 0 (.string (S ++ ⟨#[1]⟩))
    have hx2 : (W1.setCell ⟨g, 0, none⟩ (.string (S ++ ⟨#[1]⟩))).heap[w.heap.size]? = some (.cells #[.int .i64 kk, .int .i64 n, .float .f64 f, .string s, .slice A c ca, .slice B m cb] 28 (0, 0)) := (Below.heap_setCell _ _ _ _ (by have := HG.out; simp; omega)).trans HX.out
    have hc : ∀ j, (W1.setCell ⟨g, 0, none⟩ (.string (S ++ ⟨#[1]⟩))).cell? ⟨w.heap.size, j, none⟩ = (#[.int .i64 kk, .int .i64 n, .float .f64 f, .string s, .slice A c ca, .slice B m cb] : Array Value)[j]? := fun j => by simp only [World.cell?, hx2]; rfl
    have hv2 : Val (W1.setCell ⟨g, 0, none⟩ (.string (S ++ ⟨#[1]⟩))) g #[.int .i64 kk, .int .i64 n, .float .f64 f, .string s, .slice A c ca, .slice B m cb] t := HV.out.keep fun g' o hg' => World.cell?_of_block (w := W1) (Below.heap_setCell _ _ _ _ (by simp; omega))
    have hsz : (S ++ (⟨#[1]⟩ : ByteArray)).size = S.size + 1 := by rw [ByteArray.size_append]; rfl
    have VA := oval_any hO2 hv2 (by have := HS.out; omega)
    have ASS : (S ++ (⟨#[1]⟩ : ByteArray)) ++ valB t = S ++ ((⟨#[1]⟩ : ByteArray) ++ valB t) := ByteArray.append_assoc
    have y0 : (W1.setCell ⟨g, 0, none⟩ (.string (S ++ ⟨#[1]⟩))).cell? ⟨w.heap.size, 0, none⟩ = some (.int .i64 kk) := hc 0
    have y1 : (W1.setCell ⟨g, 0, none⟩ (.string (S ++ ⟨#[1]⟩))).cell? ⟨w.heap.size, 1, none⟩ = some (.int .i64 n) := hc 1
    have y2 : (W1.setCell ⟨g, 0, none⟩ (.string (S ++ ⟨#[1]⟩))).cell? ⟨w.heap.size, 2, none⟩ = some (.float .f64 f) := hc 2
    have y3 : (W1.setCell ⟨g, 0, none⟩ (.string (S ++ ⟨#[1]⟩))).cell? ⟨w.heap.size, 3, none⟩ = some (.string s) := hc 3
    have y4 : (W1.setCell ⟨g, 0, none⟩ (.string (S ++ ⟨#[1]⟩))).cell? ⟨w.heap.size, 4, none⟩ = some (.slice A c ca) := hc 4
    have y5 : (W1.setCell ⟨g, 0, none⟩ (.string (S ++ ⟨#[1]⟩))).cell? ⟨w.heap.size, 5, none⟩ = some (.slice B m cb) := hc 5
    have HVA := Lib.hid VA
    have HP2 := Lib.hid hP2
    have HA := Lib.hid ASS
    have hc' : ∀ j, W1.cell? ⟨w.heap.size, j, none⟩ = (#[.int .i64 kk, .int .i64 n, .float .f64 f, .string s, .slice A c ca, .slice B m cb] : Array Value)[j]? := fun j => by have := HX.out; simp [World.cell?, this]
    have x0 : W1.cell? ⟨w.heap.size, 0, none⟩ = some (.int .i64 kk) := hc' 0
    clear hO2 hP2 hx2 hc hv2 VA ASS hc'
    rw [← HE.out] at c0 c1 cf x0 y0 y1 y2 y3 y4 y5 HVA
    go_enter Tryz.func18, Tryz.ntmps18
    go_wp2_with fail
    refine HVA.out.mono ?_
    rintro e w2 ⟨rfl, hp2, he⟩
    rw [HE.out] at hp2
    go_wp2_with fail
    go_end0
    refine ⟨rfl, HP2.out.trans hp2, ?_⟩
    by_cases ho : okV t = true
    · rw [if_pos ho] at he
      refine ⟨_, b, he, ?_, fun _ => ⟨HA.out, rfl⟩, fun h => absurd ho h⟩
      rw [ByteArray.size_append, hsz]; have := HBS.out ho; omega
    · rw [if_neg ho] at he
      exact ⟨_, true, he, by omega, fun h => absurd h ho, fun _ => rfl⟩
end Go.Proofs.YtekojglcbalhnaaGreatDoor
namespace Go.Proofs.YtekojglcbalhnaaGreatDoor
open Go.RowKit

theorem onum_inv {w : World} {g : Nat} {S : ByteArray} {b : Bool} {n : Int} (h : Ow w g S b) (hS : S.size ≤ 1000000000) :
    Calls Tryz.prog 17 #[.pointer (some ⟨g, 0, none⟩), .int .i64 n] w fun e w' => e = .returned (.tuple #[]) ∧ Past g w w' ∧ ∃ S' b', Ow w' g S' b' ∧ S'.size ≤ S.size + 10 ∧ (okS n = true → S' = S ++ strL (uintL n.toNat) ∧ b' = b) ∧ (¬ okS n = true → b' = true) :=
  (onum_any h hS).mono fun e w' ⟨h1, h2, h3⟩ => by
    refine ⟨h1, h2, ?_⟩
    by_cases hn : okS n = true
    · rw [if_pos hn] at h3
      refine ⟨_, b, h3, ?_, fun _ => ⟨rfl, rfl⟩, fun h => absurd hn h⟩
      have := uintL_len10 (n := n.toNat) (by have := okS_iff.1 hn; omega)
      rw [ByteArray.size_append, ← lst_len (strL (uintL n.toNat)), lst_strL]; omega
    · rw [if_neg hn] at h3
      exact ⟨_, true, h3, by omega, fun h => absurd h hn, fun _ => rfl⟩
set_option maxRecDepth 20000 in
set_option maxHeartbeats 4000000 in
theorem Cmd_r {c : Cm} {v : Array Value} {w : World} (hv : CmdAt w w.heap.size v c) :
    Calls Tryz.prog 7 #[.agg v] w fun e w' => e = .returned (if cmdB c = true then .tuple #[.string (strL (cmdL c)), .int .i64 0] else .tuple #[.string ⟨#[]⟩, .int .i64 5]) ∧ Below w.heap.size w w' := by
  obtain ⟨a0, a1, a2, a3, a4, a5, c0, c1, c2, c3, c4, c5, rfl, hK, hV⟩ := hv
  obtain ⟨p0, p1, p2, p3, p4, p5, p6, p7, p8, p9, hp⟩ := hK.eight
  obtain ⟨q0, q1, q2, q3, q4, q5, q6, q7, q8, q9, hq⟩ := hV.eight
  simp only [Array.mk.injEq, List.cons.injEq, and_true] at hp hq
  obtain ⟨rfl, rfl, rfl, rfl, rfl, rfl⟩ := hp
  obtain ⟨rfl, rfl, rfl, rfl, rfl, rfl⟩ := hq
  obtain ⟨k, n, l, i, d, K, V⟩ := c
  dsimp only at *
  unfold cfields
  obtain ⟨W0, hW0⟩ : ∃ W0, W0 = (w.alloc (.cells #[.int .i64 k, .int .i64 n, .int .i64 l, .int .i64 i, .int .i64 d, .int .i64 p0, .int .i64 p1, .float .f64 p2, .string p3, .slice p4 p5 p6, .slice p7 p8 p9, .int .i64 q0, .int .i64 q1, .float .f64 q2, .string q3, .slice q4 q5 q6, .slice q7 q8 q9] 30)).alloc (.cells #[.string ⟨#[]⟩, .bool false] 61) := ⟨_, rfl⟩
  have hb0 : Below w.heap.size w W0 := by rw [hW0]; exact ((Below.refl _ _).alloc (Nat.le_refl _) _).alloc (by simp) _
  have hs0 : W0.heap.size = w.heap.size + 2 := by rw [hW0]; simp
  have hx0 : W0.heap[w.heap.size]? = some (.cells #[.int .i64 k, .int .i64 n, .int .i64 l, .int .i64 i, .int .i64 d, .int .i64 p0, .int .i64 p1, .float .f64 p2, .string p3, .slice p4 p5 p6, .slice p7 p8 p9, .int .i64 q0, .int .i64 q1, .float .f64 q2, .string q3, .slice q4 q5 q6, .slice q7 q8 q9] 30 (0, 0)) := by
    rw [hW0, Below.heap_alloc _ _ _ (by simp)]; exact heap_alloc_new w _
  have ho0 : Ow W0 (w.heap.size + 1) ⟨#[]⟩ false := by
    rw [hW0]
    have := heap_alloc_new (w.alloc (.cells #[.int .i64 k, .int .i64 n, .int .i64 l, .int .i64 i, .int .i64 d, .int .i64 p0, .int .i64 p1, .float .f64 p2, .string p3, .slice p4 p5 p6, .slice p7 p8 p9, .int .i64 q0, .int .i64 q1, .float .f64 q2, .string q3, .slice q4 q5 q6, .slice q7 q8 q9] 30)) (.cells #[.string ⟨#[]⟩, .bool false] 61)
    rw [World.size_alloc] at this; exact this
  have hK0 : Hid (∀ W, Past (w.heap.size + 1) W0 W → Val W (w.heap.size + 1) #[.int .i64 p0, .int .i64 p1, .float .f64 p2, .string p3, .slice p4 p5 p6, .slice p7 p8 p9] K ∧ Val W (w.heap.size + 1) #[.int .i64 q0, .int .i64 q1, .float .f64 q2, .string q3, .slice q4 q5 q6, .slice q7 q8 q9] V) := Lib.hid fun W hW => by
    have hb := hb0.trans (hW.below (B := w.heap.size) (by omega) (by omega))
    exact ⟨(hK.stay hb).mono (by omega), (hV.stay hb).mono (by omega)⟩
  have hC0 : Hid (∀ W, Past (w.heap.size + 1) W0 W → ∀ j, W.cell? ⟨w.heap.size, j, none⟩ = (#[.int .i64 k, .int .i64 n, .int .i64 l, .int .i64 i, .int .i64 d, .int .i64 p0, .int .i64 p1, .float .f64 p2, .string p3, .slice p4 p5 p6, .slice p7 p8 p9, .int .i64 q0, .int .i64 q1, .float .f64 q2, .string q3, .slice q4 q5 q6, .slice q7 q8 q9] : Array Value)[j]?) := Lib.hid fun W hW j => by
    have := (hW.block w.heap.size (by omega) (by omega)).trans hx0
    simp [World.cell?, this]
  have e0 : (w.alloc (.cells #[.int .i64 k, .int .i64 n, .int .i64 l, .int .i64 i, .int .i64 d, .int .i64 p0, .int .i64 p1, .float .f64 p2, .string p3, .slice p4 p5 p6, .slice p7 p8 p9, .int .i64 q0, .int .i64 q1, .float .f64 q2, .string q3, .slice q4 q5 q6, .slice q7 q8 q9] 30)).alloc (.cells #[.string ⟨#[]⟩, .bool false] 61) = W0 := hW0.symm
  have HE := Lib.hid e0
  have HB := Lib.hid hb0
  have HZ := Lib.hid hs0
  have HO0 := Lib.hid ho0
  have HX0 := Lib.hid (Past.refl (w.heap.size + 1) W0)
  have HI0 : Hid (((⟨#[]⟩ : ByteArray) = ⟨#[]⟩)) := Lib.hid rfl
  obtain ⟨S0, hS0⟩ : ∃ S0 : ByteArray, S0 = ⟨#[]⟩ := ⟨_, rfl⟩
  rw [← hS0] at HO0
  have hz0 : S0.size ≤ 0 := by rw [hS0]; exact Nat.le_refl _
  obtain ⟨t0, ht0⟩ : ∃ t0 : Bool, t0 = false := ⟨_, rfl⟩
  rw [← ht0] at HO0
  have HS0 := Lib.hid (And.intro hS0 ht0)
  have y0 : W0.cell? ⟨w.heap.size, 0, none⟩ = some (.int .i64 k) := hC0.out W0 (Past.refl _ _) 0
  clear hK hV hb0 hs0 hx0 ho0 hW0 HI0 hS0 ht0
  have hfin : Hid (∀ (S : ByteArray) (t : Bool), (cmdB ⟨k, n, l, i, d, K, V⟩ = true → S = strL (cmdL ⟨k, n, l, i, d, K, V⟩) ∧ t = false) → (¬ cmdB ⟨k, n, l, i, d, K, V⟩ = true → t = true) → (if cmdB ⟨k, n, l, i, d, K, V⟩ = true then Value.tuple #[.string (strL (cmdL ⟨k, n, l, i, d, K, V⟩)), .int .i64 0] else .tuple #[.string ⟨#[]⟩, .int .i64 5]) = if t = true then .tuple #[.string ⟨#[]⟩, .int .i64 5] else .tuple #[.string S, .int .i64 0]) := Lib.hid fun S t h1 h2 => by
    by_cases h : cmdB ⟨k, n, l, i, d, K, V⟩ = true
    · obtain ⟨rfl, rfl⟩ := h1 h
      rw [if_pos h, if_neg (by decide)]
    · obtain rfl := h2 h
      rw [if_neg h, if_pos rfl]
  obtain ⟨R, hR⟩ : ∃ R, R = (if cmdB ⟨k, n, l, i, d, K, V⟩ = true then Value.tuple #[.string (strL (cmdL ⟨k, n, l, i, d, K, V⟩)), .int .i64 0] else .tuple #[.string ⟨#[]⟩, .int .i64 5]) := ⟨_, rfl⟩
  rw [← hR] at hfin
  simp only [← hR]
  clear hR
  go_enter Tryz.func7, Tryz.ntmps7
  go_wp2_with fail
  first | rw [HE.out] | skip
  refine (onum_inv (n := k) HO0.out (by omega)).mono ?_
  rintro e w1 ⟨rfl, hp, S1, t1, hO, hz1, hy, hn⟩
  refine Hid.out ?_
  refine Lib.hid ?_
  have HX1 := Lib.hid (HX0.out.trans hp)
  have HO1 := Lib.hid hO
  have HS1 := Lib.hid (And.intro hy hn)
  clear hp hO hy hn y0 e0
  have y0 : w1.cell? ⟨w.heap.size, 1, none⟩ = some (.int .i64 n) := hC0.out w1 HX1.out 1
  go_wp2_with fail
  refine (onum_inv (n := n) HO1.out (by omega)).mono ?_
  rintro e w2 ⟨rfl, hp, S2, t2, hO, hz2, hy, hn⟩
  refine Hid.out ?_
  refine Lib.hid ?_
  have HX2 := Lib.hid (HX1.out.trans hp)
  have HO2 := Lib.hid hO
  have HS2 := Lib.hid (And.intro hy hn)
  clear hp hO hy hn y0
  have y0 : w2.cell? ⟨w.heap.size, 2, none⟩ = some (.int .i64 l) := hC0.out w2 HX2.out 2
  go_wp2_with fail
  refine (onum_inv (n := l) HO2.out (by omega)).mono ?_
  rintro e w3 ⟨rfl, hp, S3, t3, hO, hz3, hy, hn⟩
  refine Hid.out ?_
  refine Lib.hid ?_
  have HX3 := Lib.hid (HX2.out.trans hp)
  have HO3 := Lib.hid hO
  have HS3 := Lib.hid (And.intro hy hn)
  clear hp hO hy hn y0
  have y0 : w3.cell? ⟨w.heap.size, 3, none⟩ = some (.int .i64 i) := hC0.out w3 HX3.out 3
  go_wp2_with fail
  refine (onum_inv (n := i) HO3.out (by omega)).mono ?_
  rintro e w4 ⟨rfl, hp, S4, t4, hO, hz4, hy, hn⟩
  refine Hid.out ?_
  refine Lib.hid ?_
  have HX4 := Lib.hid (HX3.out.trans hp)
  have HO4 := Lib.hid hO
  have HS4 := Lib.hid (And.intro hy hn)
  clear hp hO hy hn y0
  have y0 : w4.cell? ⟨w.heap.size, 4, none⟩ = some (.int .i64 d) := hC0.out w4 HX4.out 4
  go_wp2_with fail
  refine (onum_inv (n := d) HO4.out (by omega)).mono ?_
  rintro e w5 ⟨rfl, hp, S5, t5, hO, hz5, hy, hn⟩
  refine Hid.out ?_
  refine Lib.hid ?_
  have HX5 := Lib.hid (HX4.out.trans hp)
  have HO5 := Lib.hid hO
  have HS5 := Lib.hid (And.intro hy hn)
  clear hp hO hy hn y0
  have y0 : w5.cell? ⟨w.heap.size, 5, none⟩ = some (.int .i64 p0) := hC0.out w5 HX5.out 5
  have y1 : w5.cell? ⟨w.heap.size, 6, none⟩ = some (.int .i64 p1) := hC0.out w5 HX5.out 6
  have y2 : w5.cell? ⟨w.heap.size, 7, none⟩ = some (.float .f64 p2) := hC0.out w5 HX5.out 7
  have y3 : w5.cell? ⟨w.heap.size, 8, none⟩ = some (.string p3) := hC0.out w5 HX5.out 8
  have y4 : w5.cell? ⟨w.heap.size, 9, none⟩ = some (.slice p4 p5 p6) := hC0.out w5 HX5.out 9
  have y5 : w5.cell? ⟨w.heap.size, 10, none⟩ = some (.slice p7 p8 p9) := hC0.out w5 HX5.out 10
  go_wp2_with fail
  refine (osome_any (t := K) HO5.out (hK0.out _ HX5.out).1 (by omega)).mono ?_
  rintro e w6 ⟨rfl, hp, S6, t6, hO, hz6, hy, hn⟩
  refine Hid.out ?_
  refine Lib.hid ?_
  have HX6 := Lib.hid (HX5.out.trans hp)
  have HO6 := Lib.hid hO
  have HS6 := Lib.hid (And.intro hy hn)
  clear hp hO hy hn y0 y1 y2 y3 y4 y5
  have y0 : w6.cell? ⟨w.heap.size, 11, none⟩ = some (.int .i64 q0) := hC0.out w6 HX6.out 11
  have y1 : w6.cell? ⟨w.heap.size, 12, none⟩ = some (.int .i64 q1) := hC0.out w6 HX6.out 12
  have y2 : w6.cell? ⟨w.heap.size, 13, none⟩ = some (.float .f64 q2) := hC0.out w6 HX6.out 13
  have y3 : w6.cell? ⟨w.heap.size, 14, none⟩ = some (.string q3) := hC0.out w6 HX6.out 14
  have y4 : w6.cell? ⟨w.heap.size, 15, none⟩ = some (.slice q4 q5 q6) := hC0.out w6 HX6.out 15
  have y5 : w6.cell? ⟨w.heap.size, 16, none⟩ = some (.slice q7 q8 q9) := hC0.out w6 HX6.out 16
  go_wp2_with fail
  refine (osome_any (t := V) HO6.out (hK0.out _ HX6.out).2 (by omega)).mono ?_
  rintro e w7 ⟨rfl, hp, S7, t7, hO, hz7, hy, hn⟩
  refine Hid.out ?_
  refine Lib.hid ?_
  have HX7 := Lib.hid (HX6.out.trans hp)
  have HO7 := Lib.hid hO
  have HS7 := Lib.hid (And.intro hy hn)
  clear hp hO hy hn y0 y1 y2 y3 y4 y5
  have E : R = if t7 = true then .tuple #[.string ⟨#[]⟩, .int .i64 5] else .tuple #[.string S7, .int .i64 0] := hfin.out S7 t7 (fun h => by
    unfold cmdB at h
    simp only [Bool.and_eq_true] at h
    obtain ⟨h1, h2, h3, h4, h5, h6, h7⟩ := h
    rw [(HS7.out.1 h7).1, (HS6.out.1 h6).1, (HS5.out.1 h5).1, (HS4.out.1 h4).1, (HS3.out.1 h3).1, (HS2.out.1 h2).1, (HS1.out.1 h1).1, HS0.out.1, (HS7.out.1 h7).2, (HS6.out.1 h6).2, (HS5.out.1 h5).2, (HS4.out.1 h4).2, (HS3.out.1 h3).2, (HS2.out.1 h2).2, (HS1.out.1 h1).2]
    refine ⟨?_, HS0.out.2⟩
    have e0 : (⟨#[]⟩ : ByteArray) = strL [] := rfl
    rw [e0]
    simp only [strL_append]
    unfold cmdL
    simp) (fun h => by
    by_cases h7 : someB V = true
    · by_cases h6 : someB K = true
      · by_cases h5 : okS d = true
        · by_cases h4 : okS i = true
          · by_cases h3 : okS l = true
            · by_cases h2 : okS n = true
              · by_cases h1 : okS k = true
                · exact absurd (by simp [cmdB, h1, h2, h3, h4, h5, h6, h7]) h
                · rw [(HS7.out.1 h7).2, (HS6.out.1 h6).2, (HS5.out.1 h5).2, (HS4.out.1 h4).2, (HS3.out.1 h3).2, (HS2.out.1 h2).2]; exact HS1.out.2 h1
              · rw [(HS7.out.1 h7).2, (HS6.out.1 h6).2, (HS5.out.1 h5).2, (HS4.out.1 h4).2, (HS3.out.1 h3).2]; exact HS2.out.2 h2
            · rw [(HS7.out.1 h7).2, (HS6.out.1 h6).2, (HS5.out.1 h5).2, (HS4.out.1 h4).2]; exact HS3.out.2 h3
          · rw [(HS7.out.1 h7).2, (HS6.out.1 h6).2, (HS5.out.1 h5).2]; exact HS4.out.2 h4
        · rw [(HS7.out.1 h7).2, (HS6.out.1 h6).2]; exact HS5.out.2 h5
      · rw [(HS7.out.1 h7).2]; exact HS6.out.2 h6
    · exact HS7.out.2 h7)
  have hb7 : Below w.heap.size w w7 := HB.out.trans (HX7.out.below (by omega) (by have := HZ.out; omega))
  obtain ⟨y0, y1, yf⟩ := HO7.out.cells
  have HB7 := Lib.hid hb7
  have HRE := Lib.hid E
  clear E hb7 hfin
  cases t7 with
  | true =>
    go_wp2_with fail
    go_ret2
    exact ⟨by rw [HRE.out]; rfl, HB7.out⟩
  | false =>
    go_wp2_with fail
    go_ret2
    exact ⟨by rw [HRE.out]; rfl, HB7.out⟩
end Go.Proofs.YtekojglcbalhnaaGreatDoor

/-
  Contract of the program's readType: records, and whole.
  Contracts of the program's isRightWithin, isRight, TypeRight, of types.
-/
import Derived.Test.YteclpehbpicpaaaM33
import Derived.Test.YteclpehbpicpaaaM31
namespace Go.Proofs.Yteclpehbpicpaaa
open Go.RowKit

theorem RTEnds.error {s : ByteArray} {w : World} {g : Nat} {c : Nat} {x : Ending} {w' : World} (h : RTEnds s w g (.error c) x w') : x = .panicked (errL c) ∧ Past g w w' := ⟨h.2, h.1⟩
theorem RTEnds.okay {s : ByteArray} {w : World} {g : Nat} {xs : List (ByteArray × TT)} {p : Nat} {l : List UInt8} {x : Ending} {w' : World} (h : RTEnds s w g (.ok (xs, p, l)) x w') :
    ∃ A c ca B m cb, x = .returned (.tuple #[.slice A c ca, .slice B m cb]) ∧ Past g w w' ∧ TOwn w' (fun b => w.heap.size ≤ b) (tfields 6 A c ca B m cb) (trec xs) ∧ ∃ a : Nat, a ≤ s.size ∧ l = left s a ∧ Dr w' g s a p := by
  obtain ⟨hp, ⟨nv, itv, N, L, rfl, ⟨B, hB, hRec⟩, hN, hL, hx2, hx1⟩, hr⟩ := h
  obtain ⟨A, c, ca, B', m, cb, rfl, rfl, hvo⟩ := TOwn.tree (w := w') (lo := B) (base := B) (Nat.le_refl _) (fun b hb => hb.1) hRec.1 hRec.2.1 (by rw [hN, hL]) xs hx2 hx1
  exact ⟨A, c, ca, B', m, cb, rfl, hp, hvo.imp fun b hb _ => Nat.le_trans hB hb, hr⟩
set_option maxRecDepth 20000 in
set_option maxHeartbeats 400000 in
theorem rt_6e {w : World} {g : Nat} {s : ByteArray} {a p a1 : Nat} {d : Int} {c : Nat} (hk : kindP d p (left s a) = .ok (6, left s a1)) (S : ∀ W a2, left s a1 = left s a2 → a2 ≤ s.size → Dr W g s a2 ((p + 1 : Nat) : Int) → Calls Try.prog 115 #[.pointer (some ⟨g, 0, none⟩), .int .i64 d, (.func (.func 95) #[] #[])] W fun x w' => RTEnds s W g (.error c) x w') (h : Dr w g s a p) (hp : p ≤ 200) (ha : a ≤ s.size) (hs : s.size ≤ 1000000000) :
    Calls Try.prog 95 #[.pointer (some ⟨g, 0, none⟩), .int .i64 d] w fun x w' => DTEnds s w g (.error c) x w' := by
  have hW : Past g w (w.alloc (.cells #[.int .i64 0, .slice none 0 0, .slice none 0 0] 30)) := (Past.refl g w).alloc _
  have K := kind_any (d := d) (h.alloc (.cells #[.int .i64 0, .slice none 0 0, .slice none 0 0] 30)) (by omega) ha hs
  rw [hk] at K
  have K' := K.mono fun e w1 h => DEnds.okay h
  have HW := Lib.hid hW
  have HS := Lib.hid S
  clear h hW K hk S
  go_enter Try.func95, Try.ntmps95
  go_wp2_with (first
    | (go_at_call 110; refine K'.mono ?_; rintro x w1 ⟨rfl, hp1, a2, ha2, hl2, h1⟩; have hP2 := (Past.refl g w1).alloc (.cells #[.int .i64 6, .slice none 0 0, .slice none 0 0] 30); have h2 := h1.alloc (.cells #[.int .i64 6, .slice none 0 0, .slice none 0 0] 30); have C := (HS.out _ a2 hl2 ha2 h2).mono fun e w1 h => RTEnds.error h)
    | (go_at_call 115; refine C.mono ?_; rintro x w3 ⟨rfl, hp3⟩))
  exact ⟨rfl, HW.out.trans (hp1.trans (hP2.trans hp3)), rfl⟩
set_option maxRecDepth 20000 in
set_option maxHeartbeats 400000 in
theorem rt_6 {w : World} {g : Nat} {s : ByteArray} {a p a1 p' : Nat} {d : Int} {xs : List (ByteArray × TT)} {l : List UInt8} (hk : kindP d p (left s a) = .ok (6, left s a1)) (S : ∀ W a2, left s a1 = left s a2 → a2 ≤ s.size → Dr W g s a2 ((p + 1 : Nat) : Int) → Calls Try.prog 115 #[.pointer (some ⟨g, 0, none⟩), .int .i64 d, (.func (.func 95) #[] #[])] W fun x w' => RTEnds s W g (.ok (xs, p', l)) x w') (h : Dr w g s a p) (hp : p ≤ 200) (ha : a ≤ s.size) (hs : s.size ≤ 1000000000) :
    Calls Try.prog 95 #[.pointer (some ⟨g, 0, none⟩), .int .i64 d] w fun x w' => DTEnds s w g (.ok (trec xs, p', l)) x w' := by
  have hW : Past g w (w.alloc (.cells #[.int .i64 0, .slice none 0 0, .slice none 0 0] 30)) := (Past.refl g w).alloc _
  have hR := Bt.new w #[.int .i64 0, .slice none 0 0, .slice none 0 0]
  have K := kind_any (d := d) (h.alloc (.cells #[.int .i64 0, .slice none 0 0, .slice none 0 0] 30)) (by omega) ha hs
  rw [hk] at K
  have K' := K.mono fun e w1 h => DEnds.okay h
  have hg := h.lt
  have HR := Lib.hid hR
  have HW := Lib.hid hW
  have HG := Lib.hid hg
  have HS := Lib.hid S
  clear h hR hW K hk S
  go_enter Try.func95, Try.ntmps95
  go_wp2_with (first
    | (go_at_call 110; refine K'.mono ?_; rintro x w1 ⟨rfl, hp1, a2, ha2, hl2, h1⟩; have HP1 := Lib.hid hp1; have hP2 := (Past.refl g w1).alloc (.cells #[.int .i64 6, .slice none 0 0, .slice none 0 0] 30); have h2 := h1.alloc (.cells #[.int .i64 6, .slice none 0 0, .slice none 0 0] 30); have hlt1 := h1.lt; have C := (HS.out _ a2 hl2 ha2 h2).mono fun e w1 h => RTEnds.okay h; clear hl2 ha2 h1 h2 hp1)
    | (go_at_call 115; refine C.mono ?_; rintro x w3 ⟨A, c, ca, B, m, cb, rfl, hp3, hv3, a3, ha3, hl3, h3⟩; have hgw : g ≠ w.heap.size := (by have := HG.out; omega); have hR1 := HR.out.past HP1.out hgw.symm; have hlt := hR1.lt; have hR3 := (hR1.alloc (.cells #[.int .i64 6, .slice none 0 0, .slice none 0 0] 30)).past hp3 hgw.symm; obtain ⟨q0, q1, q2, qf, ql⟩ := hR3.cells; have hV3 := (Bt.new w1 #[.int .i64 6, .slice none 0 0, .slice none 0 0]).past hp3 (by omega); obtain ⟨v0, v1, v2, vf, vl⟩ := hV3.cells; have HR3 := Lib.hid hR3; have HV3 := Lib.hid hV3; have H3 := Lib.hid h3; have HL3 := Lib.hid hl3; have HA3 := Lib.hid ha3; have HVO := Lib.hid hv3; clear hR1 hR3 hV3 h3 hl3 ha3 hv3))
  have hgw := HG.out
  refine bodyPost_ret (results_box3 rfl _ _ w.heap.size (.int .i64 6) (.slice A c ca) (.slice B m cb) rfl (((HR3.out.other (S := w1.heap.size) (by omega) 1 (.slice A c ca)).other (S := w1.heap.size) (by omega) 2 (.slice B m cb)).put3 (.int .i64 6) (.slice A c ca) (.slice B m cb))) rfl ⟨?_, ⟨_, rfl, ?_⟩, a3, HA3.out, HL3.out, ?_⟩
  · exact ((((HW.out.trans (HP1.out.trans (hP2.trans hp3))).setNew (R := w1.heap.size) (by omega) 1 (.slice A c ca)).setNew (R := w1.heap.size) (by omega) 2 (.slice B m cb)).put3 (R := w.heap.size) (Nat.le_refl _) (.int .i64 6) (.slice A c ca) (.slice B m cb))
  · have hv := HVO.out
    have hz : w1.heap.size < (w1.alloc (.cells #[.int .i64 6, .slice none 0 0, .slice none 0 0] 30)).heap.size := by simp
    generalize hW1 : (w1.alloc (.cells #[.int .i64 6, .slice none 0 0, .slice none 0 0] 30)).heap.size = B1 at hv hz
    exact (((hv.set (R := w1.heap.size) (by omega) 1 (.slice A c ca)).set (R := w1.heap.size) (by omega) 2 (.slice B m cb)).put3 (R := w.heap.size) (by omega) (.int .i64 6) (.slice A c ca) (.slice B m cb)).imp fun b hb _ => by omega
  · exact (((H3.out.other (R := w1.heap.size) (by omega) 1 (.slice A c ca)).other (R := w1.heap.size) (by omega) 2 (.slice B m cb)).put3 (R := w.heap.size) (by omega) (.int .i64 6) (.slice A c ca) (.slice B m cb))
theorem tP_nil (q p : Nat) : tP (q + 1) p [] = if 200 < p + 1 then .error 5 else .error 14 := rfl
theorem tP_cons (q p : Nat) (b : UInt8) (r : List UInt8) : tP (q + 1) p (b :: r) = if 200 < p + 1 then .error 5 else
      if b.toNat < 1 ∨ 7 < b.toNat then .error 5
      else if b.toNat = 5 then (match tP q (p + 1) r with | .error c => .error c | .ok (t, p', r) => .ok (tlist t, p', r))
      else if b.toNat = 6 then match mP r with
        | .error c => .error c
        | .ok (n, r) => match titemsP (tP q) n (p + 1) r with
          | .error c => .error c
          | .ok (xs, p', r) => .ok (trec xs, p', r)
      else .ok (tleaf b.toNat, p + 1, r) := rfl
theorem titemsP_parts {F : Nat → List UInt8 → Except Nat (TT × Nat × List UInt8)} (hF : ∀ p l t p' r, F p l = .ok (t, p', r) → p' ≤ 200) : ∀ (n p : Nat) (l : List UInt8) xs p' r, p ≤ 200 → titemsP F n p l = .ok (xs, p', r) → p' ≤ 200 := by
  intro n
  induction n with
  | zero => intro p l xs p' r hp h; rw [titemsP] at h; cases h; exact hp
  | succ n ih =>
    intro p l xs p' r hp h
    rw [titemsP] at h
    cases hz : sP 30 l with
    | error c => rw [hz] at h; cases h
    | ok q =>
      obtain ⟨nm, l1⟩ := q
      rw [hz] at h
      dsimp only at h
      cases hf : F p l1 with
      | error c => rw [hf] at h; cases h
      | ok q =>
        obtain ⟨t, p1, l2⟩ := q
        rw [hf] at h
        dsimp only at h
        cases hi : titemsP F n p1 l2 with
        | error c => rw [hi] at h; cases h
        | ok q =>
          obtain ⟨xs2, p2, l3⟩ := q
          rw [hi] at h
          cases h
          exact ih p1 l2 _ _ _ (hF _ _ _ _ _ hf) hi
theorem tP_parts : ∀ (q p : Nat) (l : List UInt8) t p' r, tP q p l = .ok (t, p', r) → p' ≤ 200 := by
  intro q
  induction q with
  | zero => intro p l t p' r h; rw [tP] at h; cases h
  | succ q ih =>
    intro p l t p' r h
    cases l with
    | nil =>
      rw [tP_nil] at h
      by_cases h1 : 200 < p + 1
      · rw [if_pos h1] at h; cases h
      · rw [if_neg h1] at h; cases h
    | cons b l =>
      rw [tP_cons] at h
      by_cases h1 : 200 < p + 1
      · rw [if_pos h1] at h; cases h
      · rw [if_neg h1] at h
        by_cases h2 : b.toNat < 1 ∨ 7 < b.toNat
        · rw [if_pos h2] at h; cases h
        · rw [if_neg h2] at h
          by_cases h5 : b.toNat = 5
          · rw [if_pos h5] at h
            cases hp : tP q (p + 1) l with
            | error c => rw [hp] at h; cases h
            | ok z => obtain ⟨t1, p1, r1⟩ := z; rw [hp] at h; cases h; exact ih _ _ _ _ _ hp
          · rw [if_neg h5] at h
            by_cases h6 : b.toNat = 6
            · rw [if_pos h6] at h
              cases hm : mP l with
              | error c => rw [hm] at h; cases h
              | ok z =>
                obtain ⟨n, r1⟩ := z
                rw [hm] at h
                dsimp only at h
                cases hi : titemsP (tP q) n (p + 1) r1 with
                | error c => rw [hi] at h; cases h
                | ok z =>
                  obtain ⟨xs, p2, r2⟩ := z
                  rw [hi] at h
                  cases h
                  exact titemsP_parts ih _ _ _ _ _ _ (by omega) hi
            · rw [if_neg h6] at h; cases h; omega
/-- The program's reader of a type answers tP. -/
theorem rt_any {g : Nat} {s : ByteArray} (hs : s.size ≤ 1000000000) : ∀ (q : Nat) (w : World) (a p : Nat), q ≤ 12 → Dr w g s a p → a ≤ s.size → p ≤ 200 →
    Calls Try.prog 95 #[.pointer (some ⟨g, 0, none⟩), .int .i64 (12 - (q : Int))] w fun x w' => DTEnds s w g (tP q p (left s a)) x w' := by
  intro q
  induction q with
  | zero =>
    intro w a p hq h ha hp
    exact rt_kind (kind_err (.inl (by omega))) h hp ha hs
  | succ q ih =>
    intro w a p hq h ha hp
    have hd : (12 - ((q + 1 : Nat) : Int)) + 1 = 12 - (q : Int) := by omega
    by_cases h1 : 200 < p + 1
    · have e : tP (q + 1) p (left s a) = .error 5 := by
        cases left s a with
        | nil => rw [tP_nil, if_pos h1]
        | cons b l => rw [tP_cons, if_pos h1]
      rw [e]
      exact rt_kind (kind_err (.inr h1)) h hp ha hs
    · have hb : ¬ (12 ≤ 12 - ((q + 1 : Nat) : Int) ∨ 200 < p + 1) := by omega
      by_cases ha' : a < s.size
      · rw [left_cons ha', tP_cons, if_neg h1]
        have hk := kind_cons (b := s[a]) (l := left s (a + 1)) hb
        rw [← left_cons ha'] at hk
        generalize s[a].toNat = k at hk
        by_cases h2 : k < 1 ∨ 7 < k
        · rw [if_pos h2]
          exact rt_no hk h2 h hp ha hs
        · rw [if_neg h2]
          have ih' : ∀ (w : World) (a p : Nat), Dr w g s a p → a ≤ s.size → p ≤ 200 → Calls Try.prog 95 #[.pointer (some ⟨g, 0, none⟩), .int .i64 ((12 - ((q + 1 : Nat) : Int)) + 1)] w fun x w' => DTEnds s w g (tP q p (left s a)) x w' := fun w a p h1 h2 h3 => by rw [hd]; exact ih w a p (by omega) h1 h2 h3
          obtain rfl | rfl | rfl | rfl | rfl | rfl | rfl : k = 1 ∨ k = 2 ∨ k = 3 ∨ k = 4 ∨ k = 5 ∨ k = 6 ∨ k = 7 := by omega
          · exact rt_1 hk h hp ha hs
          · exact rt_2 hk h hp ha hs
          · exact rt_3 hk h hp ha hs
          · exact rt_4 hk h hp ha hs
          · exact rt_5 (F := tP q) (by omega) ih' hk h (by omega) ha hs
          · rw [if_neg (by decide), if_pos rfl]
            cases hm : mP (left s (a + 1)) with
            | error c => exact rt_6e hk (fun W a2 e ha2 hW => tf_err (e ▸ hm) hW ha2 hs) h hp ha hs
            | ok z =>
              obtain ⟨n, l0⟩ := z
              have S : ∀ W a2, left s (a + 1) = left s a2 → a2 ≤ s.size → Dr W g s a2 ((p + 1 : Nat) : Int) → Calls Try.prog 115 #[.pointer (some ⟨g, 0, none⟩), .int .i64 (12 - ((q + 1 : Nat) : Int)), (.func (.func 95) #[] #[])] W fun x w' => RTEnds s W g (titemsP (tP q) n (p + 1) l0) x w' :=
                fun W a2 e ha2 hW => tf_ok (F := tP q) (by omega) (tP_parts q) ih' (e ▸ hm) (mP_le hm) hW (by omega) ha2 hs
              dsimp only
              cases hi : titemsP (tP q) n (p + 1) l0 with
              | error c => rw [hi] at S; exact rt_6e hk S h hp ha hs
              | ok z => obtain ⟨xs, p', r⟩ := z; rw [hi] at S; exact rt_6 hk S h hp ha hs
          · exact rt_7 hk h hp ha hs
      · rw [left_nil (by omega), tP_nil, if_neg h1]
        have hk := kind_nil hb
        rw [← left_nil (s := s) (a := a) (by omega)] at hk
        exact rt_kind hk h hp ha hs
end Go.Proofs.Yteclpehbpicpaaa
namespace Go.Proofs.Yteclpehbpicpaaa
open Go.RowKit

set_option maxHeartbeats 2000000 in
theorem twithin_any : ∀ (t : TT) (v : Array Value) (far : Int) (w : World), TVal w w.heap.size v t → 0 ≤ far → far ≤ 1000 →
    Calls Try.prog 106 #[.agg v, .int .i64 far, .func (.func 76) #[] #[], .func (.func 77) #[] #[]] w fun e w' => e = .returned (.bool (trightV t far)) ∧ Below w.heap.size w w' := by
  intro t
  induction t with
  | bad => intro v q w hv; cases hv
  | mk k c ns m xs ih =>
    intro v far w hv h0 h9
    cases hv with
    | mk _ A _ ca B _ cb _ _ vs hk hc hm hns hB hxs =>
      have hmx : m ≤ 9223372036854775807 := by have := hm; unfold maxLen at this; omega
      have hcx : c ≤ 9223372036854775807 := by have := hc; unfold maxLen at this; omega
      have hbW : Below w.heap.size w (w.alloc (.cells (tfields k A c ca B m cb) 30)) := (Below.refl _ _).alloc (Nat.le_refl _) _
      have HK := box3_stays (w := w) (a0 := .int .i64 k) (a1 := .slice A c ca) (a2 := .slice B m cb) (t := 30)
      have I := fun W => titems_any (k := k) (A := A) (c := c) (ca := ca) (B := B) (m := m) (cb := cb) W
      have AL := talone_f (k := k) (A := A) (c := c) (ca := ca) (B := B) (m := m) (cb := cb) (ns := ns) (strs_mono (strs_keep hns hbW) hbW.size) hcx
      unfold tfields at *
      by_cases hz : far = 0
      · have R : Hid (trightV (.mk k c ns m xs) far = false) := Lib.hid (by unfold trightV; rw [decide_eq_false (by omega), Bool.false_and])
        subst hz
        clear ih hxs hB AL I hns
        go_enter Try.func106, Try.ntmps106
        go_wp2_with fail
        go_ret
        exact ⟨by rw [R.out]; rfl, hbW⟩
      · have tz : (far == 0) = false := by simpa using hz
        have RM := tright_mk k c ns m xs (show 1 ≤ far by omega)
        cases ha : taloneB k c ns m with
        | false =>
          rw [ha] at AL
          have R : Hid (trightV (.mk k c ns m xs) far = false) := Lib.hid (by rw [RM, ha, Bool.false_and])
          clear ih hxs hB I hns RM ha
          go_enter Try.func106, Try.ntmps106
          go_wp2_with (go_at_call 77; refine AL.mono ?_; rintro e w1 ⟨rfl, hb1⟩)
          go_ret
          exact ⟨by rw [R.out]; rfl, hbW.trans (hb1.mono hbW.size)⟩
        | true =>
          rw [ha] at AL RM
          rw [Bool.true_and] at RM
          have HR := Lib.hid RM
          clear RM ha
          go_enter Try.func106, Try.ntmps106
          go_wp2_with (first | (go_at_call 77; refine AL.mono ?_; rintro e w1 ⟨rfl, hb1⟩; obtain ⟨q0, q1, q2⟩ := HK.out w1 hb1) | (go_at_call 76; refine (I _).mono ?_; rintro e w2 ⟨rfl, hb2⟩))
          have hW1 : Below w.heap.size w w1 := hbW.trans (hb1.mono hbW.size)
          have hW2 : Below w.heap.size w w2 := hW1.trans (hb2.mono hW1.size)
          clear hbW hb1 I AL hW1 hb2 q0 q1 q2
          go_loopw [23] (fun iv wr => ∃ (i : Nat), i ≤ m ∧ iv = .int .i64 i ∧ Hid (∀ j, j < i → trightV (xs j) (far - 1) = true) ∧ Below w2.heap.size w2 wr) (fun iv _ => m - (intOf iv).toNat)
          case atStart => exact ⟨0, Nat.zero_le _, rfl, Lib.hid fun j hj => absurd hj (by omega), Below.refl _ _⟩
          case round =>
            obtain ⟨i, hi, rfl, hh, hb⟩ := hrel
            have hfin : Below w.heap.size w wr := hW2.trans (hb.mono hW2.size)
            by_cases hlt : i < m
            · obtain ⟨g, o, rfl, hg, hx⟩ := hB (by omega)
              have hsix := (hx i hlt).keep (w' := wr) fun o => hfin.cell (p := ⟨g, o, none⟩) hg
              have hvr := ((hxs i hlt).stay hfin).mono hfin.size
              have hcall := fun (V : World) (hV : Below wr.heap.size wr V) => ih i (vs i) (far - 1) V ((hvr.stay hV).mono hV.size) (by omega) (by omega)
              obtain ⟨b0, b1, b2, b3, b4, b5, b6, hv0⟩ := (hxs i hlt).four
              rw [hv0] at hsix hcall
              obtain ⟨e0, e1, e2⟩ := hsix.cells
              have hbN : ∀ x, Below wr.heap.size wr (wr.alloc x) := fun x => (Below.refl _ _).alloc (Nat.le_refl _) x
              cases hr : trightV (xs i) (far - 1) with
              | false =>
                have R : Hid (trightV (.mk k c ns m xs) far = false) := Lib.hid (by
                  rw [HR.out, List.all_eq_false]
                  exact ⟨i, List.mem_range.2 hlt, by rw [hr]; simp⟩)
                rw [hr] at hcall
                have HF := Lib.hid hfin
                clear hv0 hsix hvr hx hB ih hxs hns hfin hr hh
                go_wp2_with (go_at_call 106; refine (hcall _ (hbN _)).mono ?_; rintro e w3 ⟨rfl, hb3⟩)
                go_ret
                have h2 := (hbN _).trans (hb3.mono (hbN _).size)
                exact ⟨by rw [R.out]; rfl, HF.out.trans (h2.mono HF.out.size)⟩
              | true =>
                have hN : Hid (∀ j, j < i + 1 → trightV (xs j) (far - 1) = true) := Lib.hid fun j hj => by
                  by_cases e : j = i
                  · subst e; exact hr
                  · exact hh.out j (by omega)
                rw [hr] at hcall
                have HF := Lib.hid hfin
                clear hv0 hsix hvr hx hB ih hxs hns hfin hr hh
                go_wp2_with (go_at_call 106; refine (hcall _ (hbN _)).mono ?_; rintro e w3 ⟨rfl, hb3⟩)
                go_roundw
                case rel => exact ⟨i + 1, by omega, by go_num, hN, hb.trans (((hbN _).trans (hb3.mono (hbN _).size)).mono hb.size)⟩
                case measure => simp [intOf]; omega
            · have R : Hid (trightV (.mk k c ns m xs) far = true) := Lib.hid (by
                rw [HR.out, List.all_eq_true]
                exact fun j hj => hh.out j (by have := List.mem_range.1 hj; omega))
              clear hB hxs ih hns hh
              go_wp2_with fail
              go_ret
              exact ⟨by rw [R.out]; rfl, hfin⟩
theorem tisright_any {t : TT} {v : Array Value} {w : World} (hv : TVal w w.heap.size v t) :
    Calls Try.prog 75 #[.agg v, .func (.func 76) #[] #[], .func (.func 77) #[] #[]] w fun e w' => e = .returned (.bool (tokV t)) ∧ Below w.heap.size w w' := by
  have hbW : Below w.heap.size w (w.alloc (.cells v 30)) := (Below.refl _ _).alloc (Nat.le_refl _) _
  have hvW := (hv.stay hbW).mono hbW.size
  have P := tcap_any t v 201 _ hvW (by omega) (by omega)
  have R := fun w' (hb : Below (w.alloc (.cells v 30)).heap.size (w.alloc (.cells v 30)) w') => twithin_any t v 12 w' ((hvW.stay hb).mono hb.size) (by omega) (by omega)
  have hcnt := tcnt_tot hv 0 (by omega) (by omega)
  obtain ⟨a0, a1, a2, rfl⟩ := hv.three
  have HK := box3_stays (w := w) (a0 := a0) (a1 := a1) (a2 := a2) (t := 30)
  have HR := Lib.hid R
  have hok : tokV t = (decide (ttot t ≤ 200) && trightV t 12) := by
    unfold tokV; rw [hcnt]
    congr 1
    rw [decide_eq_decide]
    omega
  rw [hok]
  generalize trightV t 12 = r at *
  clear hv hvW R hcnt hok
  by_cases hp : ttot t ≤ 200
  · have e1 : min (ttot t : Int) 201 = ttot t := by omega
    rw [e1] at P
    generalize ttot t = z at *
    go_enter Try.func75, Try.ntmps75
    go_wp2_with (first | (go_at_call 105; refine P.mono ?_; rintro e w1 ⟨rfl, hb1⟩; obtain ⟨c0, c1, c2⟩ := HK.out w1 hb1) | (go_at_call 106; refine (HR.out w1 hb1).mono ?_; rintro e w2 ⟨rfl, hb2⟩))
    go_ret
    have hfin := hbW.trans (hb1.mono hbW.size)
    exact ⟨by rw [decide_eq_true hp, Bool.true_and]; rfl, hfin.trans (hb2.mono hfin.size)⟩
  · have e1 : min (ttot t : Int) 201 = 201 := by omega
    rw [e1] at P
    generalize ttot t = z at *
    go_enter Try.func75, Try.ntmps75
    go_wp2_with (first | (go_at_call 105; refine P.mono ?_; rintro e w1 ⟨rfl, hb1⟩; obtain ⟨c0, c1, c2⟩ := HK.out w1 hb1) | (go_at_call 106; refine (HR.out w1 hb1).mono ?_; rintro e w2 ⟨rfl, hb2⟩))
    go_ret
    have hfin := hbW.trans (hb1.mono hbW.size)
    exact ⟨by rw [decide_eq_false hp, Bool.false_and]; rfl, hfin⟩
theorem typeright_f {t : TT} {v : Array Value} {w : World} (hv : TVal w w.heap.size v t) : Calls Try.prog 43 #[.agg v] w fun e w' => e = .returned (.bool (tokV t)) ∧ Below w.heap.size w w' := by
  have hbW : Below w.heap.size w (w.alloc (.cells v 30)) := (Below.refl _ _).alloc (Nat.le_refl _) _
  have P := tisright_any ((hv.stay hbW).mono hbW.size)
  obtain ⟨a0, a1, a2, rfl⟩ := hv.three
  clear hv
  go_enter Try.func43, Try.ntmps43
  go_wp2_with (go_at_call 75; refine P.mono ?_; rintro e w1 ⟨rfl, hb1⟩)
  go_ret
  exact ⟨rfl, hbW.trans (hb1.mono hbW.size)⟩
end Go.Proofs.Yteclpehbpicpaaa

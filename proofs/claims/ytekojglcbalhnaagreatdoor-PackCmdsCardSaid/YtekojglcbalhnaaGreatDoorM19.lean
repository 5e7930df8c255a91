/-
  Contract of the program's readValue: records, and whole.
  Contract of the program's readRightValue.
  The face of the program's readers: the deferred closure that recovers, and read.
  Contract of the program's ReadUint.
-/
import Derived.Test.YtekojglcbalhnaaGreatDoorM18
import Derived.Test.YtekojglcbalhnaaGreatDoorM09
import Derived.Test.YtekojglcbalhnaaGreatDoorM15
import Derived.Defers
import Derived.Recover
namespace Go.Proofs.YtekojglcbalhnaaGreatDoor
open Go.RowKit

theorem RFEnds.error {s : ByteArray} {w : World} {g : Nat} {c : Nat} {x : Ending} {w' : World} (h : RFEnds s w g (.error c) x w') : x = .panicked (errL c) ∧ Past g w w' := ⟨h.2, h.1⟩
theorem RFEnds.okay {s : ByteArray} {w : World} {g : Nat} {xs : List (ByteArray × VT)} {p : Nat} {l : List UInt8} {x : Ending} {w' : World} (h : RFEnds s w g (.ok (xs, p, l)) x w') :
    ∃ A c ca B m cb, x = .returned (.tuple #[.slice A c ca, .slice B m cb]) ∧ Past g w w' ∧ VOwn w' (fun b => w.heap.size ≤ b) (fields 6 0 0 ⟨#[]⟩ A c ca B m cb) (treeOf 6 xs) ∧ ∃ a : Nat, a ≤ s.size ∧ l = left s a ∧ Dr w' g s a p := by
  obtain ⟨hp, ⟨nv, itv, N, L, rfl, ⟨B, hB, hRec⟩, hN, hL, hx2, hx1⟩, hr⟩ := h
  obtain ⟨A, c, ca, B', m, cb, rfl, rfl, hvo⟩ := VOwn.tree (w := w') (lo := B) (base := B) (k := 6) (.inr rfl) (Nat.le_refl _) (fun b hb => hb.1) hRec.1 hRec.2.1 (by rw [if_pos rfl, hN, hL]) xs hx2 (fun _ => hx1)
  exact ⟨A, c, ca, B', m, cb, rfl, hp, hvo.imp fun b hb _ => Nat.le_trans hB hb, hr⟩
set_option maxRecDepth 20000 in
set_option maxHeartbeats 1000000 in
theorem rv_6e {w : World} {g : Nat} {s : ByteArray} {a p a1 : Nat} {d : Int} {c : Nat} (hk : kindP d p (left s a) = .ok (6, left s a1)) (S : ∀ W a2, left s a1 = left s a2 → a2 ≤ s.size → Dr W g s a2 ((p + 1 : Nat) : Int) → Calls Tryz.prog 199 #[.pointer (some ⟨g, 0, none⟩), .int .i64 d, (.func (.func 167) #[] #[])] W fun x w' => RFEnds s W g (.error c) x w') (h : Dr w g s a p) (hp : p ≤ 200) (ha : a ≤ s.size) (hs : s.size ≤ 1000000000) :
    Calls Tryz.prog 167 #[.pointer (some ⟨g, 0, none⟩), .int .i64 d] w fun x w' => DVEnds s w g (.error c) x w' := by
  have hW : Past g w (w.alloc (.cells #[.int .i64 0, .int .i64 0, .float .f64 0, .string ⟨#[]⟩, .slice none 0 0, .slice none 0 0] 28)) := (Past.refl g w).alloc _
  have K := kind_any (d := d) (h.alloc (.cells #[.int .i64 0, .int .i64 0, .float .f64 0, .string ⟨#[]⟩, .slice none 0 0, .slice none 0 0] 28)) (by omega) ha hs
  rw [hk] at K
  have K' := K.mono fun e w1 h => DEnds.okay h
  have HW := Lib.hid hW
  have HS := Lib.hid S
  have SF := float_store
  clear h hW K hk S
  go_enter Tryz.func167, Tryz.ntmps167
  go_wp2_with (first
    | (go_at_call 193; refine K'.mono ?_; rintro x w1 ⟨rfl, hp1, a2, ha2, hl2, h1⟩; have hP2 := (Past.refl g w1).alloc (.cells #[.int .i64 6, .int .i64 0, .float .f64 0, .string ⟨#[]⟩, .slice none 0 0, .slice none 0 0] 28); have h2 := h1.alloc (.cells #[.int .i64 6, .int .i64 0, .float .f64 0, .string ⟨#[]⟩, .slice none 0 0, .slice none 0 0] 28); have C := (HS.out _ a2 hl2 ha2 h2).mono fun e w1 h => RFEnds.error h)
    | (go_at_call 199; refine C.mono ?_; rintro x w3 ⟨rfl, hp3⟩))
  exact ⟨rfl, HW.out.trans (hp1.trans (hP2.trans hp3)), rfl⟩
set_option maxRecDepth 20000 in
set_option maxHeartbeats 1000000 in
theorem rv_6 {w : World} {g : Nat} {s : ByteArray} {a p a1 p' : Nat} {d : Int} {xs : List (ByteArray × VT)} {l : List UInt8} (hk : kindP d p (left s a) = .ok (6, left s a1)) (S : ∀ W a2, left s a1 = left s a2 → a2 ≤ s.size → Dr W g s a2 ((p + 1 : Nat) : Int) → Calls Tryz.prog 199 #[.pointer (some ⟨g, 0, none⟩), .int .i64 d, (.func (.func 167) #[] #[])] W fun x w' => RFEnds s W g (.ok (xs, p', l)) x w') (h : Dr w g s a p) (hp : p ≤ 200) (ha : a ≤ s.size) (hs : s.size ≤ 1000000000) :
    Calls Tryz.prog 167 #[.pointer (some ⟨g, 0, none⟩), .int .i64 d] w fun x w' => DVEnds s w g (.ok (treeOf 6 xs, p', l)) x w' := by
  have hW : Past g w (w.alloc (.cells #[.int .i64 0, .int .i64 0, .float .f64 0, .string ⟨#[]⟩, .slice none 0 0, .slice none 0 0] 28)) := (Past.refl g w).alloc _
  have hR := Bx.new w #[.int .i64 0, .int .i64 0, .float .f64 0, .string ⟨#[]⟩, .slice none 0 0, .slice none 0 0]
  have K := kind_any (d := d) (h.alloc (.cells #[.int .i64 0, .int .i64 0, .float .f64 0, .string ⟨#[]⟩, .slice none 0 0, .slice none 0 0] 28)) (by omega) ha hs
  rw [hk] at K
  have K' := K.mono fun e w1 h => DEnds.okay h
  have hg := h.lt
  have HR := Lib.hid hR
  have HW := Lib.hid hW
  have HG := Lib.hid hg
  have HS := Lib.hid S
  have SF := float_store
  clear h hR hW K hk S
  go_enter Tryz.func167, Tryz.ntmps167
  go_wp2_with (first
    | (go_at_call 193; refine K'.mono ?_; rintro x w1 ⟨rfl, hp1, a2, ha2, hl2, h1⟩; have HP1 := Lib.hid hp1; have hP2 := (Past.refl g w1).alloc (.cells #[.int .i64 6, .int .i64 0, .float .f64 0, .string ⟨#[]⟩, .slice none 0 0, .slice none 0 0] 28); have h2 := h1.alloc (.cells #[.int .i64 6, .int .i64 0, .float .f64 0, .string ⟨#[]⟩, .slice none 0 0, .slice none 0 0] 28); have hlt1 := h1.lt; have C := (HS.out _ a2 hl2 ha2 h2).mono fun e w1 h => RFEnds.okay h; clear hl2 ha2 h1 h2 hp1)
    | (go_at_call 199; refine C.mono ?_; rintro x w3 ⟨A, c, ca, B, m, cb, rfl, hp3, hv3, a3, ha3, hl3, h3⟩; have hgw : g ≠ w.heap.size := (by have := HG.out; omega); have hR1 := HR.out.past HP1.out hgw.symm; have hlt := hR1.lt; have hR3 := (hR1.alloc (.cells #[.int .i64 6, .int .i64 0, .float .f64 0, .string ⟨#[]⟩, .slice none 0 0, .slice none 0 0] 28)).past hp3 hgw.symm; obtain ⟨q0, q1, q2, q3, q4, q5, qf, ql⟩ := hR3.cells; have hV3 := (Bx.new w1 #[.int .i64 6, .int .i64 0, .float .f64 0, .string ⟨#[]⟩, .slice none 0 0, .slice none 0 0]).past hp3 (by omega); obtain ⟨v0, v1, v2, v3, v4, v5, vf, vl⟩ := hV3.cells; have HR3 := Lib.hid hR3; have HV3 := Lib.hid hV3; have H3 := Lib.hid h3; have HL3 := Lib.hid hl3; have HA3 := Lib.hid ha3; have HVO := Lib.hid hv3; clear hR1 hR3 hV3 h3 hl3 ha3 hv3))
  have hgw := HG.out
  refine bodyPost_ret (results_six rfl _ _ w.heap.size (.int .i64 6) (.int .i64 0) (.float .f64 0) (.string ⟨#[]⟩) (.slice A c ca) (.slice B m cb) rfl (((HR3.out.other (S := w1.heap.size) (by omega) _ _).other (S := w1.heap.size) (by omega) _ _).six _ _ _ _ _ _)) rfl ⟨?_, ⟨_, rfl, ?_⟩, a3, HA3.out, HL3.out, ?_⟩
  · exact ((((HW.out.trans (HP1.out.trans (hP2.trans hp3))).setNew (by omega) _ _).setNew (by omega) _ _).six (Nat.le_refl _) _ _ _ _ _ _)
  · have hv := HVO.out
    have hz : w1.heap.size < (w1.alloc (.cells #[.int .i64 6, .int .i64 0, .float .f64 0, .string ⟨#[]⟩, .slice none 0 0, .slice none 0 0] 28)).heap.size := by simp
    generalize hW1 : (w1.alloc (.cells #[.int .i64 6, .int .i64 0, .float .f64 0, .string ⟨#[]⟩, .slice none 0 0, .slice none 0 0] 28)).heap.size = B1 at hv hz
    exact ((hv.keep (w' := (w3.setCell ⟨w1.heap.size, 4, none⟩ (.slice A c ca)).setCell ⟨w1.heap.size, 5, none⟩ (.slice B m cb)) (by simp [World.setCell]) (fun k hk hl => by
      rw [Below.heap_setCell _ _ _ _ (by simp; omega), Below.heap_setCell _ _ _ _ (by simp; omega)])).six (by omega) _ _ _ _ _ _).imp fun b hb _ => by omega
  · exact (((H3.out.other (R := w1.heap.size) (by omega) _ _).other (R := w1.heap.size) (by omega) _ _).six (by omega) _ _ _ _ _ _)
theorem kind_err {d : Int} {p : Nat} {l : List UInt8} (h : 12 ≤ d ∨ 200 < p + 1) : kindP d p l = .error 5 := by
  unfold kindP
  exact if_pos (h.imp id fun h => by omega)
theorem kind_nil {d : Int} {p : Nat} (h : ¬ (12 ≤ d ∨ 200 < p + 1)) : kindP d p [] = .error 14 := by
  unfold kindP
  rw [if_neg (fun hh => h (hh.imp id fun h => by omega))]
theorem kind_cons {d : Int} {p : Nat} {b : UInt8} {l : List UInt8} (h : ¬ (12 ≤ d ∨ 200 < p + 1)) : kindP d p (b :: l) = .ok (b.toNat, l) := by
  unfold kindP
  rw [if_neg (fun hh => h (hh.imp id fun h => by omega))]
theorem plain_1 (l : List UInt8) : plainP 1 l = (match truthP l with | .error c => .error c | .ok (n, r) => .ok (leaf 1 n 0 ⟨#[]⟩, r)) := by
  rw [plainP_1]
  cases l with
  | nil => rfl
  | cons c l =>
    unfold truthP
    dsimp only
    by_cases h : 1 < c.toNat
    · rw [if_pos h, if_pos h]
    · rw [if_neg h, if_neg h]
theorem truth_le {l r : List UInt8} {n : Nat} (h : truthP l = .ok (n, r)) : n ≤ 1 := by
  cases l with
  | nil => cases h
  | cons c l =>
    unfold truthP at h
    dsimp only at h
    by_cases h1 : 1 < c.toNat
    · rw [if_pos h1] at h; cases h
    · rw [if_neg h1] at h; cases h; omega
theorem plain_3 (l : List UInt8) : plainP 3 l = (match floatP l with | .error c => .error c | .ok (b, r) => .ok (leaf 3 0 b ⟨#[]⟩, r)) := by
  rw [plainP_3]
  unfold floatP
  cases wP 8 0 l with
  | error c => rfl
  | ok z =>
    obtain ⟨b, r⟩ := z
    dsimp only
    by_cases h : canonW b = b
    · rw [if_pos h, if_pos h]
    · rw [if_neg h, if_neg h]
theorem float_lt {l r : List UInt8} {b : Nat} (h : floatP l = .ok (b, r)) : b < 18446744073709551616 := by
  unfold floatP at h
  cases hw : wP 8 0 l with
  | error c => rw [hw] at h; cases h
  | ok z =>
    obtain ⟨b', r'⟩ := z
    rw [hw] at h
    dsimp only at h
    have := wP_lt 8 0 b' l r' 0 rfl (by decide) hw
    by_cases h1 : canonW b' = b'
    · rw [if_pos h1] at h; cases h; exact this
    · rw [if_neg h1] at h; cases h
theorem rv_plain {w : World} {g : Nat} {s : ByteArray} {a p a1 k : Nat} {d : Int} (hk : kindP d p (left s a) = .ok (k, left s a1)) (h1 : 1 ≤ k) (h4 : k ≤ 4) (h : Dr w g s a p) (hp : p ≤ 200) (ha : a ≤ s.size) (hs : s.size ≤ 1000000000) :
    Calls Tryz.prog 167 #[.pointer (some ⟨g, 0, none⟩), .int .i64 d] w fun x w' => DVEnds s w g (match plainP k (left s a1) with | .error c => .error c | .ok (t, r) => .ok (t, p + 1, r)) x w' := by
  obtain rfl | rfl | rfl | rfl : k = 1 ∨ k = 2 ∨ k = 3 ∨ k = 4 := by omega
  · rw [plain_1]
    cases hi : truthP (left s a1) with
    | error c => exact rv_1e hk hi h hp ha hs
    | ok z => obtain ⟨n, r⟩ := z; exact rv_1 hk hi (truth_le hi) h hp ha hs
  · rw [plainP_2]
    cases hi : iP (left s a1) with
    | error c => exact rv_2e hk hi h hp ha hs
    | ok z => obtain ⟨n, r⟩ := z; exact rv_2 hk hi (iP_bound hi) h hp ha hs
  · rw [plain_3]
    cases hi : floatP (left s a1) with
    | error c => exact rv_3e hk hi h hp ha hs
    | ok z => obtain ⟨n, r⟩ := z; exact rv_3 hk hi (Lib.hid (float_lt hi)) h hp ha hs
  · rw [plainP_4]
    cases hi : sP 200 (left s a1) with
    | error c => exact rv_4e hk hi h hp ha hs
    | ok z => obtain ⟨n, r⟩ := z; exact rv_4 hk hi (sP_size200 hi) h hp ha hs
/-- The program's reader of a value answers vP. -/
theorem rv_any {g : Nat} {s : ByteArray} (hs : s.size ≤ 1000000000) : ∀ (q : Nat) (w : World) (a p : Nat), q ≤ 12 → Dr w g s a p → a ≤ s.size → p ≤ 200 →
    Calls Tryz.prog 167 #[.pointer (some ⟨g, 0, none⟩), .int .i64 (12 - (q : Int))] w fun x w' => DVEnds s w g (vP q p (left s a)) x w' := by
  intro q
  induction q with
  | zero =>
    intro w a p hq h ha hp
    exact rv_kind (kind_err (.inl (by omega))) h hp ha hs
  | succ q ih =>
    intro w a p hq h ha hp
    have hd : (12 - ((q + 1 : Nat) : Int)) + 1 = 12 - (q : Int) := by omega
    by_cases h1 : 200 < p + 1
    · have e : vP (q + 1) p (left s a) = .error 5 := by
        cases left s a with
        | nil => rw [vP_nil, if_pos h1]
        | cons b l => rw [vP_cons, if_pos h1]
      rw [e]
      exact rv_kind (kind_err (.inr h1)) h hp ha hs
    · have hb : ¬ (12 ≤ 12 - ((q + 1 : Nat) : Int) ∨ 200 < p + 1) := by omega
      by_cases ha' : a < s.size
      · rw [left_cons ha', vP_cons, if_neg h1]
        have hk := kind_cons (b := s[a]) (l := left s (a + 1)) hb
        rw [← left_cons ha'] at hk
        generalize s[a].toNat = k at hk
        by_cases h2 : k < 1 ∨ 6 < k
        · rw [if_pos h2]
          exact rv_no hk h2 h hp ha hs
        · rw [if_neg h2]
          by_cases h3 : k ≤ 4
          · rw [if_pos h3]
            exact rv_plain hk (by omega) h3 h hp ha hs
          · rw [if_neg h3]
            have ih' : ∀ (w : World) (a p : Nat), Dr w g s a p → a ≤ s.size → p ≤ 200 → Calls Tryz.prog 167 #[.pointer (some ⟨g, 0, none⟩), .int .i64 ((12 - ((q + 1 : Nat) : Int)) + 1)] w fun x w' => DVEnds s w g (vP q p (left s a)) x w' := fun w a p h1 h2 h3 => by rw [hd]; exact ih w a p (by omega) h1 h2 h3
            obtain rfl | rfl : k = 5 ∨ k = 6 := by omega
            · cases hm : mP (left s (a + 1)) with
              | error c => exact rv_5e hk hm h hp ha hs
              | ok z =>
                obtain ⟨n, l0⟩ := z
                have := rv_5 (F := vP q) (by omega) (vP_parts q) ih' hk hm (mP_le hm) h (by omega) ha hs
                rw [endP_eq] at this
                exact this
            · cases hm : mP (left s (a + 1)) with
              | error c => exact rv_6e hk (fun W a2 e ha2 hW => rf_err (e ▸ hm) hW ha2 hs) h hp ha hs
              | ok z =>
                obtain ⟨n, l0⟩ := z
                have S : ∀ W a2, left s (a + 1) = left s a2 → a2 ≤ s.size → Dr W g s a2 ((p + 1 : Nat) : Int) → Calls Tryz.prog 199 #[.pointer (some ⟨g, 0, none⟩), .int .i64 (12 - ((q + 1 : Nat) : Int)), (.func (.func 167) #[] #[])] W fun x w' => RFEnds s W g (itemsP (vP q) 6 n (p + 1) l0) x w' :=
                  fun W a2 e ha2 hW => rf_ok (F := vP q) (by omega) (vP_parts q) ih' (e ▸ hm) (mP_le hm) hW (by omega) ha2 hs
                dsimp only
                cases hi : itemsP (vP q) 6 n (p + 1) l0 with
                | error c => rw [hi] at S; exact rv_6e hk S h hp ha hs
                | ok z => obtain ⟨xs, p', r⟩ := z; rw [hi] at S; exact rv_6 hk S h hp ha hs
      · rw [left_nil (by omega), vP_nil, if_neg h1]
        have hk := kind_nil hb
        rw [← left_nil (s := s) (a := a) (by omega)] at hk
        exact rv_kind hk h hp ha hs
end Go.Proofs.YtekojglcbalhnaaGreatDoor
namespace Go.Proofs.YtekojglcbalhnaaGreatDoor
open Go.RowKit

/-- What readRightValue answers. -/
def rrV (l : List UInt8) : Except Nat (VT × List UInt8) := match vP 12 0 l with | .error c => .error c | .ok (t, _, r) => if okV t = true then .ok (t, r) else .error 5
def RREnds (s : ByteArray) (w : World) (g : Nat) (r : Except Nat (VT × List UInt8)) (x : Ending) (w' : World) : Prop :=
  Past g w w' ∧ match r with
  | .error c => x = .panicked (errL c)
  | .ok (t, l) => (∃ v, x = .returned (.agg v) ∧ VOwn w' (fun b => w.heap.size ≤ b) v t) ∧ ∃ a p : Nat, a ≤ s.size ∧ l = left s a ∧ Dr w' g s a p
theorem results_box {fn : Func} {k : Nat} (h : fn.results = #[.cell k 28]) (tmps : Array Value) (w : World) (R : Nat) (a0 a1 a2 a3 a4 a5 : Value)
    (hp : tmps.getD k undef = .pointer (some ⟨R, 0, none⟩)) (hg : Bx w R #[a0, a1, a2, a3, a4, a5]) :
    (results fn tmps).run Tryz.prog w = .ok (.agg #[a0, a1, a2, a3, a4, a5]) w := by
  have hp' : tmps[k]?.getD undef = .pointer (some ⟨R, 0, none⟩) := by simpa using hp
  simp [results, h, hp', asAddr, run_loadVar_row w R 28 28 #[a0, a1, a2, a3, a4, a5] (0, 0) _ hg Tryz.underlying28 rfl (by rw [info27]; rfl)]
theorem VOwn.alloc {w : World} {P : Nat → Prop} {v : Array Value} {t : VT} (h : VOwn w P v t) (x : Obj) : VOwn (w.alloc x) P v t := h.keep (by simp) fun k _ hk => Below.heap_alloc _ _ _ hk
set_option maxRecDepth 20000 in
theorem rr_any {w : World} {g : Nat} {s : ByteArray} {a : Nat} (h : Dr w g s a 0) (ha : a ≤ s.size) (hs : s.size ≤ 1000000000) :
    Calls Tryz.prog 143 #[.pointer (some ⟨g, 0, none⟩)] w fun x w' => RREnds s w g (rrV (left s a)) x w' := by
  have hW : Past g w (w.alloc (.cells #[.int .i64 0, .int .i64 0, .float .f64 0, .string ⟨#[]⟩, .slice none 0 0, .slice none 0 0] 28)) := (Past.refl g w).alloc _
  have hR := Bx.new w #[.int .i64 0, .int .i64 0, .float .f64 0, .string ⟨#[]⟩, .slice none 0 0, .slice none 0 0]
  have V := rv_any hs 12 _ a 0 (by omega) (h.alloc (.cells #[.int .i64 0, .int .i64 0, .float .f64 0, .string ⟨#[]⟩, .slice none 0 0, .slice none 0 0] 28)) ha (by omega)
  have SF := float_store
  have HW := Lib.hid hW
  have HR := Lib.hid hR
  have e0 : (12 : Int) - ((12 : Nat) : Int) = 0 := by omega
  rw [e0] at V
  have hg := h.lt
  have hgw : g ≠ w.heap.size := by omega
  clear hW hR
  have Y := Lib.hid insist_yes
  have N := Lib.hid insist_no
  unfold rrV
  cases hv : vP 12 0 (left s a) with
  | error c =>
    rw [hv] at V
    have V' := V.mono fun e w1 h => DVEnds.error h
    clear V h hv
    go_enter Tryz.func143, Tryz.ntmps143
    go_wp2_with (go_at_call 167; refine V'.mono ?_; rintro x w1 ⟨rfl, hp1⟩)
    exact ⟨rfl, HW.out.trans hp1, rfl⟩
  | ok z =>
    obtain ⟨t, p, l⟩ := z
    rw [hv] at V
    clear hv
    have V' := V.mono fun e w1 h => DVEnds.okay h
    dsimp only
    cases hok : okV t with
    | false =>
      rw [if_neg Bool.false_ne_true]
      have HOK := Lib.hid hok
      clear V h hok
      go_enter Tryz.func143, Tryz.ntmps143
      go_wp2_with (first
        | (go_at_call 167; refine V'.mono ?_; rintro x w1 ⟨b0, b1, b2, b3, b4, b5, b6, b7, b8, b9, rfl, hp1, hv1, a1, ha1, hl1, hr1⟩; have hR1 := HR.out.past hp1 hgw.symm; obtain ⟨r0, r1, r2, r3, r4, r5, rf, rl⟩ := hR1.cells; have hVb := Bx.new w1 #[.int .i64 b0, .int .i64 b1, .float .f64 b2, .string b3, .slice b4 b5 b6, .slice b7 b8 b9]; have hv2 := hv1.alloc (.cells #[.int .i64 b0, .int .i64 b1, .float .f64 b2, .string b3, .slice b4 b5 b6, .slice b7 b8 b9] 28); have R := right_f hv2.val; rw [HOK.out] at R; have hlt1 := hr1.lt; clear hv1 hr1 ha1 hl1)
        | (go_at_call 126; refine R.mono ?_; rintro x w2 ⟨rfl, hb2⟩)
        | (go_at_call 141; refine (N.out _).mono ?_; rintro x w3 ⟨rfl, rfl⟩))
      exact ⟨rfl, HW.out.trans (hp1.trans (((Past.refl g w1).alloc (.cells #[.int .i64 b0, .int .i64 b1, .float .f64 b2, .string b3, .slice b4 b5 b6, .slice b7 b8 b9] 28)).trans (Past.of_below hb2))), rfl⟩
    | true =>
      rw [if_pos rfl]
      have HOK := Lib.hid hok
      clear V h hok
      go_enter Tryz.func143, Tryz.ntmps143
      go_wp2_with (first
        | (go_at_call 167; refine V'.mono ?_; rintro x w1 ⟨b0, b1, b2, b3, b4, b5, b6, b7, b8, b9, rfl, hp1, hv1, a1, ha1, hl1, hr1⟩; have hR1 := HR.out.past hp1 hgw.symm; obtain ⟨r0, r1, r2, r3, r4, r5, rf, rl⟩ := hR1.cells; have hVb := Bx.new w1 #[.int .i64 b0, .int .i64 b1, .float .f64 b2, .string b3, .slice b4 b5 b6, .slice b7 b8 b9]; have hv2 := hv1.alloc (.cells #[.int .i64 b0, .int .i64 b1, .float .f64 b2, .string b3, .slice b4 b5 b6, .slice b7 b8 b9] 28); have R := right_f hv2.val; rw [HOK.out] at R; have HV1 := Lib.hid hv2; have HR1 := Lib.hid hr1; have HA1 := Lib.hid ha1; have HL1 := Lib.hid hl1; clear hv1 hr1 ha1 hl1)
        | (go_at_call 126; refine R.mono ?_; rintro x w2 ⟨rfl, hb2⟩; have hV2 := hVb.below hb2 (by simp); obtain ⟨v0, v1, v2, v3, v4, v5, vf, vl⟩ := hV2.cells; have hR2 := (hR1.alloc (.cells #[.int .i64 b0, .int .i64 b1, .float .f64 b2, .string b3, .slice b4 b5 b6, .slice b7 b8 b9] 28)).below hb2 (by simp; omega); obtain ⟨q0, q1, q2, q3, q4, q5, qf, ql⟩ := hR2.cells; have HR2 := Lib.hid hR2; clear hR2)
        | (go_at_call 141; refine (Y.out _).mono ?_; rintro x w3 ⟨rfl, rfl⟩))
      have hne : g ≠ w.heap.size := hgw
      refine bodyPost_ret (results_box rfl _ _ w.heap.size (.int .i64 b0) (.int .i64 b1) (.float .f64 b2) (.string b3) (.slice b4 b5 b6) (.slice b7 b8 b9) rfl (HR2.out.six _ _ _ _ _ _)) rfl ⟨?_, ⟨_, rfl, ?_⟩, a1, p, HA1.out, HL1.out, ?_⟩
      · exact (HW.out.trans (hp1.trans (((Past.refl g w1).alloc (.cells #[.int .i64 b0, .int .i64 b1, .float .f64 b2, .string b3, .slice b4 b5 b6, .slice b7 b8 b9] 28)).trans (Past.of_below hb2)))).six (Nat.le_refl _) _ _ _ _ _ _
      · have hv := HV1.out.keep hb2.size (fun k _ hk => hb2.block k hk)
        have hz : w.heap.size < (w.alloc (.cells #[.int .i64 0, .int .i64 0, .float .f64 0, .string ⟨#[]⟩, .slice none 0 0, .slice none 0 0] 28)).heap.size := by simp
        generalize (w.alloc (.cells #[.int .i64 0, .int .i64 0, .float .f64 0, .string ⟨#[]⟩, .slice none 0 0, .slice none 0 0] 28)).heap.size = B1 at hv hz
        exact (hv.six (by omega) _ _ _ _ _ _).imp fun b hb _ => by omega
      · exact ((HR1.out.alloc _).past hb2).six (by omega) _ _ _ _ _ _
end Go.Proofs.YtekojglcbalhnaaGreatDoor
namespace Go.Proofs.YtekojglcbalhnaaGreatDoor
open Go.RowKit

theorem catch_idle (q : Addr) (w : World) : CallsD Tryz.prog 139 #[.pointer (some q)] .returning w fun e u' w' => e = .returned (.tuple #[]) ∧ u' = .returning ∧ w' = w := by
  refine callsD_of_wpS Tryz.func139 rfl fun c₀ cs hu => ?_
  apply wpS_seq
  apply wpS_region
  simp [wpOpsS, go_sem, recoverD, hu, Tryz.ntmps139, Exit.thenS]
  refine wpS_of_wp ?_
  go_wp2_with fail
  cases c₀
  simp_all [bodyPostS, results, Tryz.results139]
theorem assert_errno (c : Int) (w : World) : (Instr.typeAssert (.iface 33 (.int .i64 c)) 20 33 true).run Tryz.prog w = .ok (.tuple #[.int .i64 c, .bool true]) w := by kernel_rfl
set_option maxRecDepth 100000 in
theorem catch_panics (q : Addr) (x c : Int) (older : List PanicEntry) (w : World) (hc : w.cell? q = some (.int .i64 x)) (hz : w.frozen? q = false) :
    CallsD Tryz.prog 139 #[.pointer (some q)] (.panicking ({ v := .iface 33 (.int .i64 c), recovered := false } :: older)) w fun e u' w' => e = .returned (.tuple #[]) ∧ u' = .panicking ({ v := .iface 33 (.int .i64 c), recovered := true } :: older) ∧ w' = w.setCell q (.int .i64 c) := by
  have TA := assert_errno c w
  refine callsD_of_wpS Tryz.func139 rfl fun c₀ cs hu => ?_
  apply wpS_seq
  apply wpS_region
  simp [wpOpsS, go_sem, recoverD, hu, Tryz.ntmps139, Exit.thenS]
  have hf : #[Value.pointer (some q)] ++ (Array.replicate 10 undef).setIfInBounds 3 (Value.iface 33 (Value.int IntKind.i64 c)) = #[.pointer (some q), undef, undef, undef, .iface 33 (.int .i64 c), undef, undef, undef, undef, undef, undef] := rfl
  rw [hf]
  refine wpS_of_wp ?_
  go_wp2_with fail
  simp [bodyPostS, results, Tryz.results139]
theorem makeFunc_run (fn : Fn) (first cap : Array Value) (w : World) : (Instr.makeFunc fn first cap).run Tryz.prog w = .ok (.func fn first cap) w := rfl
/-- A place that is none. -/
theorem readU_range {s : ByteArray} {a : Int} {f : Value} {w : World} (ha : a < 0 ∨ (s.size : Int) < a) :
    Calls Tryz.prog 111 #[.string s, .int .i64 a, f] w fun e w' => e = .returned (.tuple #[.int .u64 0, .int .i64 0, .int .i64 3]) ∧ Below w.heap.size w w' := by
  have hbW : Below w.heap.size w (w.alloc (.cells #[.int .i64 3] 33)) := (Below.refl _ _).alloc (Nat.le_refl _) _
  by_cases h : a < 0
  · go_enter_defers Tryz.func111, Tryz.ntmps111
    go_wp2_with fail
    simp [bodyPostD, Leaves, results, Tryz.results111, go_sem, hbW]
  · have h2 : (s.size : Int) < a := by omega
    go_enter_defers Tryz.func111, Tryz.ntmps111
    go_wp2_with fail
    simp [bodyPostD, Leaves, results, Tryz.results111, go_sem, hbW]
/-- What a face answers, and where it goes on. -/
def faceV {α : Type} (s : ByteArray) (val : α → Value) (zero : Value) : Except Nat (α × List UInt8) → Value
  | .error c => .tuple #[zero, .int .i64 0, .int .i64 c]
  | .ok (n, l) => .tuple #[val n, .int .i64 ((s.size - l.length : Nat) : Int), .int .i64 0]
theorem left_at {s : ByteArray} {a : Nat} (h : a ≤ s.size) : s.size - (left s a).length = a := by rw [left_len]; omega
/-- The world ahead of what a face calls: the error's place, and the reader. -/
theorem face_world {w : World} {s : ByteArray} {a : Int} {W1 : World} (hW1 : W1 = (w.alloc (.cells #[.int .i64 0] 33)).alloc (.cells #[.string s, .int .i64 a, .int .i64 0] 197)) :
    Dr W1 (w.heap.size + 1) s a 0 ∧ Below w.heap.size w W1 ∧ W1.heap[w.heap.size]? = some (.cells #[.int .i64 0] 33 (0, 0)) ∧ w.heap.size < W1.heap.size := by
  subst hW1
  refine ⟨?_, ((Below.refl _ _).alloc (Nat.le_refl _) _).alloc (by simp) _, ?_, by simp; omega⟩
  · have := heap_alloc_new (w.alloc (.cells #[.int .i64 0] 33)) (.cells #[.string s, .int .i64 a, .int .i64 0] 197)
    rw [World.size_alloc] at this
    exact this
  · rw [Below.heap_alloc _ _ _ (by simp)]; exact heap_alloc_new _ _
theorem face_cell {W1 w1 : World} {k : Nat} (hE : W1.heap[k]? = some (.cells #[.int .i64 0] 33 (0, 0))) (hk : k < W1.heap.size) (hp : Past (k + 1) W1 w1) :
    w1.cell? ⟨k, 0, none⟩ = some (.int .i64 0) ∧ w1.frozen? ⟨k, 0, none⟩ = false := by
  have h := (hp.block k hk (by omega)).trans hE
  exact ⟨by simp [World.cell?, h], by simp [World.frozen?, h]⟩
theorem face_below {w W1 w1 : World} (hb : Below w.heap.size w W1) (hk : w.heap.size < W1.heap.size) (hp : Past (w.heap.size + 1) W1 w1) : Below w.heap.size w w1 :=
  hb.trans ⟨hp.os, hp.tape, hp.output, hp.size, fun i hi => hp.block i (by omega) (by omega)⟩
set_option maxRecDepth 100000 in
set_option maxHeartbeats 1000000 in
theorem readU_ok {s : ByteArray} {a : Nat} {w : World} (ha : a ≤ s.size) (hs : s.size ≤ 1000000000) :
    Calls Tryz.prog 111 #[.string s, .int .i64 a, .func (.func 112) #[] #[]] w fun e w' => e = .returned (faceV s (fun n : Nat => .int .u64 n) (.int .u64 0) (uP 0 0 (left s a))) ∧ Below w.heap.size w w' := by
  obtain ⟨W1, hW1⟩ : ∃ W1, W1 = (w.alloc (.cells #[.int .i64 0] 33)).alloc (.cells #[.string s, .int .i64 a, .int .i64 0] 197) := ⟨_, rfl⟩
  obtain ⟨hD, hbW, hE, hlt⟩ := face_world hW1
  have R := readUint_ok hD ha hs
  have MF := makeFunc_run
  have t1 : decide ((s.size : Int) < (a : Int)) = false := by simp; omega
  generalize uP 0 0 (left s a) = r at *
  have HB := Lib.hid hbW
  have HE := Lib.hid hE
  have HL := Lib.hid hlt
  clear hD hbW hE hlt
  cases r with
  | error c =>
    have R1 : Calls Tryz.prog 112 #[.pointer (some ⟨w.heap.size + 1, 0, none⟩)] W1 fun e w1 => e = .panicked (errL c) ∧ Past (w.heap.size + 1) W1 w1 := R.mono fun e w1 h => ⟨h.2, h.1⟩
    unfold errL at R1
    have HR := Lib.hid R1
    have HW := Lib.hid hW1
    clear R R1 hW1
    go_enter_defers Tryz.func111, Tryz.ntmps111
    rw [HW.out] at HR
    go_wp2_with (go_at_call 112; refine HR.out.mono ?_; rintro e w1 ⟨rfl, hp1⟩; rw [← HW.out] at hp1)
    obtain ⟨q0, q1⟩ := face_cell HE.out HL.out hp1
    have hb1 := face_below HB.out HL.out hp1
    refine leaves_cons (f := 139) (args := #[.pointer (some ⟨w.heap.size, 0, none⟩)]) (by simp) (by simp [go_sem]) ?_
    refine (catch_panics ⟨w.heap.size, 0, none⟩ 0 c [] _ q0 q1).mono ?_
    rintro e u' w2 ⟨rfl, rfl, rfl⟩
    have hfin : Below w.heap.size w (w1.setCell ⟨w.heap.size, 0, none⟩ (.int .i64 c)) := hb1.setCell (Nat.le_refl _) _
    simp [Leaves, settle, results, Tryz.results111, go_sem, q0, faceV, hfin]
  | ok z =>
    obtain ⟨n, l⟩ := z
    have R1 : Calls Tryz.prog 112 #[.pointer (some ⟨w.heap.size + 1, 0, none⟩)] W1 fun e w1 => e = .returned (.int .u64 n) ∧ Past (w.heap.size + 1) W1 w1 ∧ Dr w1 (w.heap.size + 1) s ((s.size - l.length : Nat) : Int) 0 := R.mono fun e w1 h => by
      obtain ⟨hp, hx, a', ha', hl, hr⟩ := h
      refine ⟨hx, hp, ?_⟩
      rw [hl, left_at ha']; exact hr
    have e : faceV s (fun n : Nat => .int .u64 n) (.int .u64 0) (.ok (n, l)) = .tuple #[.int .u64 n, .int .i64 ((s.size - l.length : Nat) : Int), .int .i64 0] := rfl
    rw [e]
    clear e
    have HR := Lib.hid R1
    have HW := Lib.hid hW1
    generalize s.size - l.length = nx at *
    clear R R1 hW1
    go_enter_defers Tryz.func111, Tryz.ntmps111
    rw [HW.out] at HR
    go_wp2_with (go_at_call 112; refine HR.out.mono ?_; rintro e w1 ⟨rfl, hp1, hr1⟩; rw [← HW.out] at hp1)
    obtain ⟨q0, q1⟩ := face_cell HE.out HL.out hp1
    obtain ⟨d0, d1, d2, df⟩ := hr1.cells
    have hb1 := Lib.hid (face_below HB.out HL.out hp1)
    clear hp1 hr1 d0 d2
    go_region
    go_wp2_with fail
    obtain ⟨w2, hw2⟩ : ∃ w2, w2 = (w1.setCell ⟨w.heap.size, 0, none⟩ (.int .i64 0)).drew := ⟨_, rfl⟩
    have hb2 : Below w.heap.size w w2 := by rw [hw2]; exact (hb1.out.setCell (Nat.le_refl _) _).drew
    have q2 : w2.cell? ⟨w.heap.size, 0, none⟩ = some (.int .i64 0) := by
      rw [hw2, World.cell?_drew]; exact World.cell?_setCell_same _ _ _ q0
    rw [← hw2]
    clear hw2 q0 q1
    refine leaves_cons (f := 139) (args := #[.pointer (some ⟨w.heap.size, 0, none⟩)]) (by simp) (by simp [go_sem]) ?_
    refine (catch_idle ⟨w.heap.size, 0, none⟩ _).mono ?_
    rintro e u' w3 ⟨rfl, rfl, rfl⟩
    simp [Leaves, settle, results, Tryz.results111, go_sem, q2, hb2]
end Go.Proofs.YtekojglcbalhnaaGreatDoor
namespace Go.Proofs.YtekojglcbalhnaaGreatDoor
open Go.RowKit

/-- What ReadUint answers. -/
def rdU (s : ByteArray) (a : Int) : Value := if a < 0 ∨ (s.size : Int) < a then .tuple #[.int .u64 0, .int .i64 0, .int .i64 3] else faceV s (fun n : Nat => .int .u64 n) (.int .u64 0) (uP 0 0 (left s a.toNat))
theorem face_three {α : Type} (s : ByteArray) {k : IntKind} (val : α → Int) (r : Except Nat (α × List UInt8)) : ∃ x y z, faceV s (fun n => .int k (val n)) (.int k 0) r = .tuple #[.int k x, .int .i64 y, .int .i64 z] := by
  cases r with
  | error c => exact ⟨_, _, _, rfl⟩
  | ok z => obtain ⟨n, l⟩ := z; exact ⟨_, _, _, rfl⟩
theorem ReadUint_f {s : ByteArray} {a : Int} {w : World} (hs : s.size ≤ 1000000000) :
    Calls Tryz.prog 77 #[.string s, .int .i64 a] w fun e w' => e = .returned (rdU s a) ∧ Below w.heap.size w w' := by
  by_cases h : a < 0 ∨ (s.size : Int) < a
  · have F := readU_range (f := .func (.func 112) #[] #[]) (w := w) h
    unfold rdU
    rw [if_pos h]
    clear h
    go_enter Tryz.func77, Tryz.ntmps77
    go_wp2_with (go_at_call 111; refine F.mono ?_; rintro e w1 ⟨rfl, hb1⟩)
    go_ret3
    exact ⟨rfl, hb1⟩
  · have F := readU_ok (a := a.toNat) (w := w) (show a.toNat ≤ s.size by omega) hs
    have e : ((a.toNat : Nat) : Int) = a := by omega
    rw [e] at F
    unfold rdU
    rw [if_neg h]
    obtain ⟨x, y, z, hv⟩ := face_three s (k := .u64) (fun n : Nat => (n : Int)) (uP 0 0 (left s a.toNat))
    rw [hv] at F ⊢
    clear h e hv
    go_enter Tryz.func77, Tryz.ntmps77
    go_wp2_with (go_at_call 111; refine F.mono ?_; rintro e w1 ⟨rfl, hb1⟩)
    go_ret3
    exact ⟨rfl, hb1⟩
end Go.Proofs.YtekojglcbalhnaaGreatDoor

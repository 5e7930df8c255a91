/-
  Contract of the program's readValue: what it answers, its box, its plain kinds.
-/
import Derived.Test.YtekojglcbalhnaaGreatDoorM16
import Derived.Test.YtekojglcbalhnaaGreatDoorM15
namespace Go.Proofs.YtekojglcbalhnaaGreatDoor
open Go.RowKit

theorem Dr.other {w : World} {g : Nat} {s : ByteArray} {a p : Int} (h : Dr w g s a p) {R : Nat} (hR : R ≠ g) (o : Nat) (v : Value) : Dr (w.setCell ⟨R, o, none⟩ v) g s a p :=
  (Below.heap_setCell _ _ _ _ (by simp; omega)).trans h
theorem Dr.alloc {w : World} {g : Nat} {s : ByteArray} {a p : Int} (h : Dr w g s a p) (x : Obj) : Dr (w.alloc x) g s a p := h.past ((Below.refl _ _).alloc (Nat.le_refl _) x)
theorem Dr.six {w : World} {g : Nat} {s : ByteArray} {a p : Int} (h : Dr w g s a p) {R : Nat} (hR : R ≠ g) (v0 v1 v2 v3 v4 v5 : Value) :
    Dr ((((((w.setCell ⟨R, 0, none⟩ v0).setCell ⟨R, 1, none⟩ v1).setCell ⟨R, 2, none⟩ v2).setCell ⟨R, 3, none⟩ v3).setCell ⟨R, 4, none⟩ v4).setCell ⟨R, 5, none⟩ v5) g s a p :=
  (((((h.other hR 0 v0).other hR 1 v1).other hR 2 v2).other hR 3 v3).other hR 4 v4).other hR 5 v5
/-- How the program's reading of a value ends. -/
def DVEnds (s : ByteArray) (w : World) (g : Nat) (r : Except Nat (VT × Nat × List UInt8)) (x : Ending) (w' : World) : Prop :=
  Past g w w' ∧ match r with
  | .error c => x = .panicked (errL c)
  | .ok (t, p, l) => (∃ v, x = .returned (.agg v) ∧ VOwn w' (fun b => w.heap.size ≤ b) v t) ∧ ∃ a : Nat, a ≤ s.size ∧ l = left s a ∧ Dr w' g s a p
def truthP (l : List UInt8) : Except Nat (Nat × List UInt8) := match l with | [] => .error 14 | c :: r => if 1 < c.toNat then .error 5 else .ok (c.toNat, r)
def floatP (l : List UInt8) : Except Nat (Nat × List UInt8) := match wP 8 0 l with | .error c => .error c | .ok (b, r) => if canonW b = b then .ok (b, r) else .error 5
theorem readTruth_any {w : World} {g : Nat} {s : ByteArray} {a : Nat} {p : Int} (h : Dr w g s a p) (ha : a ≤ s.size) (hs : s.size ≤ 1000000000) :
    Calls Tryz.prog 194 #[.pointer (some ⟨g, 0, none⟩)] w fun x w' => DEnds s w g p (truthP (left s a)) x w' (fun n : Nat => .int .i64 n) := by
  by_cases hlt : a < s.size
  · rw [left_cons hlt]
    unfold truthP
    dsimp only
    by_cases hb : 1 < s[a].toNat
    · rw [if_pos hb]
      exact (readTruth_no h hs hlt hb).mono fun x w' hx => ⟨hx.2, hx.1⟩
    · rw [if_neg hb]
      exact (readTruth_yes h hs hlt hb).mono fun x w' hx => ⟨hx.2.2, hx.1, a + 1, hlt, rfl, hx.2.1⟩
  · rw [left_nil (by omega)]
    exact (readTruth_end h hs (by omega)).mono fun x w' hx => ⟨hx.2, hx.1⟩
theorem wP_few : ∀ (k b : Nat) (l : List UInt8), l.length < k → wP k b l = .error 14 := by
  intro k
  induction k with
  | zero => intro b l h; simp at h
  | succ k ih =>
    intro b l h
    cases l with
    | nil => rfl
    | cons c l => rw [wP]; exact ih _ _ (by simpa using h)
theorem readFloat_any {w : World} {g : Nat} {s : ByteArray} {a : Nat} {p : Int} (h : Dr w g s a p) (ha : a ≤ s.size) (hs : s.size ≤ 1000000000) :
    Calls Tryz.prog 196 #[.pointer (some ⟨g, 0, none⟩)] w fun x w' => DEnds s w g p (floatP (left s a)) x w' (fun b : Nat => .float .f64 b) := by
  have hl := left_len s a
  by_cases hlt : a + 8 ≤ s.size
  · have e : floatP (left s a) = if canonW (accW ((left s a).take 8) 0) = accW ((left s a).take 8) 0 then .ok (accW ((left s a).take 8) 0, left s (a + 8)) else .error 5 := by
      unfold floatP
      rw [wP_acc 8 0 _ (by omega)]
      dsimp only
      have : (left s a).drop 8 = left s (a + 8) := by unfold left; rw [List.drop_drop]
      rw [this]
    rw [e]
    exact readFloat_ok h hs hlt
  · have e : floatP (left s a) = .error 14 := by unfold floatP; rw [wP_few 8 0 _ (by omega)]
    rw [e]
    exact (readFloat_torn h ha hs (by omega)).mono fun x w' hx => ⟨hx.2, hx.1⟩
set_option maxRecDepth 20000 in
set_option maxHeartbeats 1000000 in
theorem rv_kind {w : World} {g : Nat} {s : ByteArray} {a p : Nat} {d : Int} {c : Nat} (hk : kindP d p (left s a) = .error c) (h : Dr w g s a p) (hp : p ≤ 200) (ha : a ≤ s.size) (hs : s.size ≤ 1000000000) :
    Calls Tryz.prog 167 #[.pointer (some ⟨g, 0, none⟩), .int .i64 d] w fun x w' => DVEnds s w g (.error c) x w' := by
  have hW : Past g w (w.alloc (.cells #[.int .i64 0, .int .i64 0, .float .f64 0, .string ⟨#[]⟩, .slice none 0 0, .slice none 0 0] 28)) := (Past.refl g w).alloc _
  have K := kind_any (d := d) (h.alloc (.cells #[.int .i64 0, .int .i64 0, .float .f64 0, .string ⟨#[]⟩, .slice none 0 0, .slice none 0 0] 28)) (by omega) ha hs
  rw [hk] at K
  have K' := K.mono fun e w1 h => DEnds.error h
  have HW := Lib.hid hW
  clear h hW K hk
  go_enter Tryz.func167, Tryz.ntmps167
  go_wp2_with (first | (go_at_call 193; refine K'.mono ?_; rintro x w1 ⟨rfl, hp1⟩))
  exact ⟨rfl, HW.out.trans hp1, rfl⟩
set_option maxRecDepth 20000 in
set_option maxHeartbeats 1000000 in
theorem rv_1e {w : World} {g : Nat} {s : ByteArray} {a p a1 : Nat} {d : Int} {c : Nat} (hk : kindP d p (left s a) = .ok (1, left s a1)) (hi : truthP (left s a1) = .error c) (h : Dr w g s a p) (hp : p ≤ 200) (ha : a ≤ s.size) (hs : s.size ≤ 1000000000) :
    Calls Tryz.prog 167 #[.pointer (some ⟨g, 0, none⟩), .int .i64 d] w fun x w' => DVEnds s w g (.error c) x w' := by
  have hW : Past g w (w.alloc (.cells #[.int .i64 0, .int .i64 0, .float .f64 0, .string ⟨#[]⟩, .slice none 0 0, .slice none 0 0] 28)) := (Past.refl g w).alloc _
  have hR := Bx.new w #[.int .i64 0, .int .i64 0, .float .f64 0, .string ⟨#[]⟩, .slice none 0 0, .slice none 0 0]
  have K := kind_any (d := d) (h.alloc (.cells #[.int .i64 0, .int .i64 0, .float .f64 0, .string ⟨#[]⟩, .slice none 0 0, .slice none 0 0] 28)) (by omega) ha hs
  rw [hk] at K
  have K' := K.mono fun e w1 h => DEnds.okay h
  have hg := h.lt
  have HR := Lib.hid hR
  have HW := Lib.hid hW
  have HG := Lib.hid hg
  have HI := Lib.hid hi
  have SF := float_store
  clear h hR hW K hk hi
  go_enter Tryz.func167, Tryz.ntmps167
  go_wp2_with (first
    | (go_at_call 193; refine K'.mono ?_; rintro x w1 ⟨rfl, hp1, a2, ha2, hl2, h1⟩; have HL := Lib.hid hl2; have HA := Lib.hid ha2; have HP1 := Lib.hid hp1; have hP2 := (Past.refl g w1).alloc (.cells #[.int .i64 1, .int .i64 0, .float .f64 0, .string ⟨#[]⟩, .slice none 0 0, .slice none 0 0] 28); have h2 := h1.alloc (.cells #[.int .i64 1, .int .i64 0, .float .f64 0, .string ⟨#[]⟩, .slice none 0 0, .slice none 0 0] 28); have hlt1 := h1.lt; have C := readTruth_any h2 HA.out hs; rw [← HL.out, HI.out] at C; have C' := C.mono fun e w1 h => DEnds.error h; clear C hl2 ha2 h1 h2 hp1)
    | (go_at_call 194; refine C'.mono ?_; rintro x w3 ⟨rfl, hp3⟩))
  exact ⟨rfl, HW.out.trans (HP1.out.trans (hP2.trans hp3)), rfl⟩
set_option maxRecDepth 20000 in
set_option maxHeartbeats 1000000 in
theorem rv_1 {w : World} {g : Nat} {s : ByteArray} {a p a1 : Nat} {d : Int} {n : Nat} {l : List UInt8} (hk : kindP d p (left s a) = .ok (1, left s a1)) (hi : truthP (left s a1) = .ok (n, l)) (hn : n ≤ 1) (h : Dr w g s a p) (hp : p ≤ 200) (ha : a ≤ s.size) (hs : s.size ≤ 1000000000) :
    Calls Tryz.prog 167 #[.pointer (some ⟨g, 0, none⟩), .int .i64 d] w fun x w' => DVEnds s w g (.ok (leaf 1 n 0 ⟨#[]⟩, p + 1, l)) x w' := by
  have hW : Past g w (w.alloc (.cells #[.int .i64 0, .int .i64 0, .float .f64 0, .string ⟨#[]⟩, .slice none 0 0, .slice none 0 0] 28)) := (Past.refl g w).alloc _
  have hR := Bx.new w #[.int .i64 0, .int .i64 0, .float .f64 0, .string ⟨#[]⟩, .slice none 0 0, .slice none 0 0]
  have K := kind_any (d := d) (h.alloc (.cells #[.int .i64 0, .int .i64 0, .float .f64 0, .string ⟨#[]⟩, .slice none 0 0, .slice none 0 0] 28)) (by omega) ha hs
  rw [hk] at K
  have K' := K.mono fun e w1 h => DEnds.okay h
  have hg := h.lt
  have HR := Lib.hid hR
  have HW := Lib.hid hW
  have HG := Lib.hid hg
  have HI := Lib.hid hi
  have SF := float_store
  clear h hR hW K hk hi
  go_enter Tryz.func167, Tryz.ntmps167
  go_wp2_with (first
    | (go_at_call 193; refine K'.mono ?_; rintro x w1 ⟨rfl, hp1, a2, ha2, hl2, h1⟩; have HL := Lib.hid hl2; have HA := Lib.hid ha2; have HP1 := Lib.hid hp1; have hP2 := (Past.refl g w1).alloc (.cells #[.int .i64 1, .int .i64 0, .float .f64 0, .string ⟨#[]⟩, .slice none 0 0, .slice none 0 0] 28); have h2 := h1.alloc (.cells #[.int .i64 1, .int .i64 0, .float .f64 0, .string ⟨#[]⟩, .slice none 0 0, .slice none 0 0] 28); have hlt1 := h1.lt; have C := readTruth_any h2 HA.out hs; rw [← HL.out, HI.out] at C; have C' := C.mono fun e w1 h => DEnds.okay h; clear C hl2 ha2 h1 h2 hp1)
    | (go_at_call 194; refine C'.mono ?_; rintro x w3 ⟨rfl, hp3, a3, ha3, hl3, h3⟩; have hgw : g ≠ w.heap.size := (by have := HG.out; omega); have hR1 := HR.out.past HP1.out hgw.symm; have hR3 := (hR1.alloc (.cells #[.int .i64 1, .int .i64 0, .float .f64 0, .string ⟨#[]⟩, .slice none 0 0, .slice none 0 0] 28)).past hp3 hgw.symm; obtain ⟨q0, q1, q2, q3, q4, q5, qf, ql⟩ := hR3.cells; have hV3 := (Bx.new w1 #[.int .i64 1, .int .i64 0, .float .f64 0, .string ⟨#[]⟩, .slice none 0 0, .slice none 0 0]).past hp3 (by omega); obtain ⟨v0, v1, v2, v3, v4, v5, vf, vl⟩ := hV3.cells; have hlt := hR1.lt; have HR1 := Lib.hid hR1; have HR3 := Lib.hid hR3; have H3 := Lib.hid h3; have HL3 := Lib.hid hl3; have HA3 := Lib.hid ha3; clear hR1 hR3 h3 hl3 ha3))
  have hgw := HG.out
  refine bodyPost_ret (results_six rfl _ _ w.heap.size (.int .i64 1) (.int .i64 n) (.float .f64 0) (.string ⟨#[]⟩) (.slice none 0 0) (.slice none 0 0) rfl ((HR3.out.other (S := w1.heap.size) (by omega) _ _).six _ _ _ _ _ _)) rfl ⟨?_, ⟨_, rfl, VOwn.leaf (by omega) (by omega) (by decide) (by decide)⟩, a3, HA3.out, HL3.out, ?_⟩
  · exact (((HW.out.trans (HP1.out.trans (hP2.trans hp3))).setNew (by omega) _ _).six (Nat.le_refl _) _ _ _ _ _ _)
  · exact ((H3.out.other (R := w1.heap.size) (by omega) _ _).six (by omega) _ _ _ _ _ _)
set_option maxRecDepth 20000 in
set_option maxHeartbeats 1000000 in
theorem rv_2e {w : World} {g : Nat} {s : ByteArray} {a p a1 : Nat} {d : Int} {c : Nat} (hk : kindP d p (left s a) = .ok (2, left s a1)) (hi : iP (left s a1) = .error c) (h : Dr w g s a p) (hp : p ≤ 200) (ha : a ≤ s.size) (hs : s.size ≤ 1000000000) :
    Calls Tryz.prog 167 #[.pointer (some ⟨g, 0, none⟩), .int .i64 d] w fun x w' => DVEnds s w g (.error c) x w' := by
  have hW : Past g w (w.alloc (.cells #[.int .i64 0, .int .i64 0, .float .f64 0, .string ⟨#[]⟩, .slice none 0 0, .slice none 0 0] 28)) := (Past.refl g w).alloc _
  have hR := Bx.new w #[.int .i64 0, .int .i64 0, .float .f64 0, .string ⟨#[]⟩, .slice none 0 0, .slice none 0 0]
  have K := kind_any (d := d) (h.alloc (.cells #[.int .i64 0, .int .i64 0, .float .f64 0, .string ⟨#[]⟩, .slice none 0 0, .slice none 0 0] 28)) (by omega) ha hs
  rw [hk] at K
  have K' := K.mono fun e w1 h => DEnds.okay h
  have hg := h.lt
  have HR := Lib.hid hR
  have HW := Lib.hid hW
  have HG := Lib.hid hg
  have HI := Lib.hid hi
  have SF := float_store
  clear h hR hW K hk hi
  go_enter Tryz.func167, Tryz.ntmps167
  go_wp2_with (first
    | (go_at_call 193; refine K'.mono ?_; rintro x w1 ⟨rfl, hp1, a2, ha2, hl2, h1⟩; have HL := Lib.hid hl2; have HA := Lib.hid ha2; have HP1 := Lib.hid hp1; have hP2 := (Past.refl g w1).alloc (.cells #[.int .i64 2, .int .i64 0, .float .f64 0, .string ⟨#[]⟩, .slice none 0 0, .slice none 0 0] 28); have h2 := h1.alloc (.cells #[.int .i64 2, .int .i64 0, .float .f64 0, .string ⟨#[]⟩, .slice none 0 0, .slice none 0 0] 28); have hlt1 := h1.lt; have C := readInt_ok h2 HA.out hs; rw [← HL.out, HI.out] at C; have C' := C.mono fun e w1 h => DEnds.error h; clear C hl2 ha2 h1 h2 hp1)
    | (go_at_call 195; refine C'.mono ?_; rintro x w3 ⟨rfl, hp3⟩))
  exact ⟨rfl, HW.out.trans (HP1.out.trans (hP2.trans hp3)), rfl⟩
set_option maxRecDepth 20000 in
set_option maxHeartbeats 1000000 in
theorem rv_2 {w : World} {g : Nat} {s : ByteArray} {a p a1 : Nat} {d : Int} {n : Int} {l : List UInt8} (hk : kindP d p (left s a) = .ok (2, left s a1)) (hi : iP (left s a1) = .ok (n, l)) (hn : -9223372036854775808 ≤ n ∧ n ≤ 9223372036854775807) (h : Dr w g s a p) (hp : p ≤ 200) (ha : a ≤ s.size) (hs : s.size ≤ 1000000000) :
    Calls Tryz.prog 167 #[.pointer (some ⟨g, 0, none⟩), .int .i64 d] w fun x w' => DVEnds s w g (.ok (leaf 2 n 0 ⟨#[]⟩, p + 1, l)) x w' := by
  have hW : Past g w (w.alloc (.cells #[.int .i64 0, .int .i64 0, .float .f64 0, .string ⟨#[]⟩, .slice none 0 0, .slice none 0 0] 28)) := (Past.refl g w).alloc _
  have hR := Bx.new w #[.int .i64 0, .int .i64 0, .float .f64 0, .string ⟨#[]⟩, .slice none 0 0, .slice none 0 0]
  have K := kind_any (d := d) (h.alloc (.cells #[.int .i64 0, .int .i64 0, .float .f64 0, .string ⟨#[]⟩, .slice none 0 0, .slice none 0 0] 28)) (by omega) ha hs
  rw [hk] at K
  have K' := K.mono fun e w1 h => DEnds.okay h
  have hg := h.lt
  have HR := Lib.hid hR
  have HW := Lib.hid hW
  have HG := Lib.hid hg
  have HI := Lib.hid hi
  have SF := float_store
  clear h hR hW K hk hi
  go_enter Tryz.func167, Tryz.ntmps167
  go_wp2_with (first
    | (go_at_call 193; refine K'.mono ?_; rintro x w1 ⟨rfl, hp1, a2, ha2, hl2, h1⟩; have HL := Lib.hid hl2; have HA := Lib.hid ha2; have HP1 := Lib.hid hp1; have hP2 := (Past.refl g w1).alloc (.cells #[.int .i64 2, .int .i64 0, .float .f64 0, .string ⟨#[]⟩, .slice none 0 0, .slice none 0 0] 28); have h2 := h1.alloc (.cells #[.int .i64 2, .int .i64 0, .float .f64 0, .string ⟨#[]⟩, .slice none 0 0, .slice none 0 0] 28); have hlt1 := h1.lt; have C := readInt_ok h2 HA.out hs; rw [← HL.out, HI.out] at C; have C' := C.mono fun e w1 h => DEnds.okay h; clear C hl2 ha2 h1 h2 hp1)
    | (go_at_call 195; refine C'.mono ?_; rintro x w3 ⟨rfl, hp3, a3, ha3, hl3, h3⟩; have hgw : g ≠ w.heap.size := (by have := HG.out; omega); have hR1 := HR.out.past HP1.out hgw.symm; have hR3 := (hR1.alloc (.cells #[.int .i64 2, .int .i64 0, .float .f64 0, .string ⟨#[]⟩, .slice none 0 0, .slice none 0 0] 28)).past hp3 hgw.symm; obtain ⟨q0, q1, q2, q3, q4, q5, qf, ql⟩ := hR3.cells; have hV3 := (Bx.new w1 #[.int .i64 2, .int .i64 0, .float .f64 0, .string ⟨#[]⟩, .slice none 0 0, .slice none 0 0]).past hp3 (by omega); obtain ⟨v0, v1, v2, v3, v4, v5, vf, vl⟩ := hV3.cells; have hlt := hR1.lt; have HR1 := Lib.hid hR1; have HR3 := Lib.hid hR3; have H3 := Lib.hid h3; have HL3 := Lib.hid hl3; have HA3 := Lib.hid ha3; clear hR1 hR3 h3 hl3 ha3))
  have hgw := HG.out
  refine bodyPost_ret (results_six rfl _ _ w.heap.size (.int .i64 2) (.int .i64 n) (.float .f64 0) (.string ⟨#[]⟩) (.slice none 0 0) (.slice none 0 0) rfl ((HR3.out.other (S := w1.heap.size) (by omega) _ _).six _ _ _ _ _ _)) rfl ⟨?_, ⟨_, rfl, VOwn.leaf (by omega) hn (by decide) (by decide)⟩, a3, HA3.out, HL3.out, ?_⟩
  · exact (((HW.out.trans (HP1.out.trans (hP2.trans hp3))).setNew (by omega) _ _).six (Nat.le_refl _) _ _ _ _ _ _)
  · exact ((H3.out.other (R := w1.heap.size) (by omega) _ _).six (by omega) _ _ _ _ _ _)
set_option maxRecDepth 20000 in
set_option maxHeartbeats 1000000 in
theorem rv_3e {w : World} {g : Nat} {s : ByteArray} {a p a1 : Nat} {d : Int} {c : Nat} (hk : kindP d p (left s a) = .ok (3, left s a1)) (hi : floatP (left s a1) = .error c) (h : Dr w g s a p) (hp : p ≤ 200) (ha : a ≤ s.size) (hs : s.size ≤ 1000000000) :
    Calls Tryz.prog 167 #[.pointer (some ⟨g, 0, none⟩), .int .i64 d] w fun x w' => DVEnds s w g (.error c) x w' := by
  have hW : Past g w (w.alloc (.cells #[.int .i64 0, .int .i64 0, .float .f64 0, .string ⟨#[]⟩, .slice none 0 0, .slice none 0 0] 28)) := (Past.refl g w).alloc _
  have hR := Bx.new w #[.int .i64 0, .int .i64 0, .float .f64 0, .string ⟨#[]⟩, .slice none 0 0, .slice none 0 0]
  have K := kind_any (d := d) (h.alloc (.cells #[.int .i64 0, .int .i64 0, .float .f64 0, .string ⟨#[]⟩, .slice none 0 0, .slice none 0 0] 28)) (by omega) ha hs
  rw [hk] at K
  have K' := K.mono fun e w1 h => DEnds.okay h
  have hg := h.lt
  have HR := Lib.hid hR
  have HW := Lib.hid hW
  have HG := Lib.hid hg
  have HI := Lib.hid hi
  have SF := float_store
  clear h hR hW K hk hi
  go_enter Tryz.func167, Tryz.ntmps167
  go_wp2_with (first
    | (go_at_call 193; refine K'.mono ?_; rintro x w1 ⟨rfl, hp1, a2, ha2, hl2, h1⟩; have HL := Lib.hid hl2; have HA := Lib.hid ha2; have HP1 := Lib.hid hp1; have hP2 := (Past.refl g w1).alloc (.cells #[.int .i64 3, .int .i64 0, .float .f64 0, .string ⟨#[]⟩, .slice none 0 0, .slice none 0 0] 28); have h2 := h1.alloc (.cells #[.int .i64 3, .int .i64 0, .float .f64 0, .string ⟨#[]⟩, .slice none 0 0, .slice none 0 0] 28); have hlt1 := h1.lt; have C := readFloat_any h2 HA.out hs; rw [← HL.out, HI.out] at C; have C' := C.mono fun e w1 h => DEnds.error h; clear C hl2 ha2 h1 h2 hp1)
    | (go_at_call 196; refine C'.mono ?_; rintro x w3 ⟨rfl, hp3⟩))
  exact ⟨rfl, HW.out.trans (HP1.out.trans (hP2.trans hp3)), rfl⟩
set_option maxRecDepth 20000 in
set_option maxHeartbeats 1000000 in
theorem rv_3 {w : World} {g : Nat} {s : ByteArray} {a p a1 : Nat} {d : Int} {b : Nat} {l : List UInt8} (hk : kindP d p (left s a) = .ok (3, left s a1)) (hi : floatP (left s a1) = .ok (b, l)) (hn : Hid (b < 18446744073709551616)) (h : Dr w g s a p) (hp : p ≤ 200) (ha : a ≤ s.size) (hs : s.size ≤ 1000000000) :
    Calls Tryz.prog 167 #[.pointer (some ⟨g, 0, none⟩), .int .i64 d] w fun x w' => DVEnds s w g (.ok (leaf 3 0 b ⟨#[]⟩, p + 1, l)) x w' := by
  have hW : Past g w (w.alloc (.cells #[.int .i64 0, .int .i64 0, .float .f64 0, .string ⟨#[]⟩, .slice none 0 0, .slice none 0 0] 28)) := (Past.refl g w).alloc _
  have hR := Bx.new w #[.int .i64 0, .int .i64 0, .float .f64 0, .string ⟨#[]⟩, .slice none 0 0, .slice none 0 0]
  have K := kind_any (d := d) (h.alloc (.cells #[.int .i64 0, .int .i64 0, .float .f64 0, .string ⟨#[]⟩, .slice none 0 0, .slice none 0 0] 28)) (by omega) ha hs
  rw [hk] at K
  have K' := K.mono fun e w1 h => DEnds.okay h
  have hg := h.lt
  have HR := Lib.hid hR
  have HW := Lib.hid hW
  have HG := Lib.hid hg
  have HI := Lib.hid hi
  have SF := float_store
  clear h hR hW K hk hi
  go_enter Tryz.func167, Tryz.ntmps167
  go_wp2_with (first
    | (go_at_call 193; refine K'.mono ?_; rintro x w1 ⟨rfl, hp1, a2, ha2, hl2, h1⟩; have HL := Lib.hid hl2; have HA := Lib.hid ha2; have HP1 := Lib.hid hp1; have hP2 := (Past.refl g w1).alloc (.cells #[.int .i64 3, .int .i64 0, .float .f64 0, .string ⟨#[]⟩, .slice none 0 0, .slice none 0 0] 28); have h2 := h1.alloc (.cells #[.int .i64 3, .int .i64 0, .float .f64 0, .string ⟨#[]⟩, .slice none 0 0, .slice none 0 0] 28); have hlt1 := h1.lt; have C := readFloat_any h2 HA.out hs; rw [← HL.out, HI.out] at C; have C' := C.mono fun e w1 h => DEnds.okay h; clear C hl2 ha2 h1 h2 hp1)
    | (go_at_call 196; refine C'.mono ?_; rintro x w3 ⟨rfl, hp3, a3, ha3, hl3, h3⟩; have hgw : g ≠ w.heap.size := (by have := HG.out; omega); have hR1 := HR.out.past HP1.out hgw.symm; have hR3 := (hR1.alloc (.cells #[.int .i64 3, .int .i64 0, .float .f64 0, .string ⟨#[]⟩, .slice none 0 0, .slice none 0 0] 28)).past hp3 hgw.symm; obtain ⟨q0, q1, q2, q3, q4, q5, qf, ql⟩ := hR3.cells; have hV3 := (Bx.new w1 #[.int .i64 3, .int .i64 0, .float .f64 0, .string ⟨#[]⟩, .slice none 0 0, .slice none 0 0]).past hp3 (by omega); obtain ⟨v0, v1, v2, v3, v4, v5, vf, vl⟩ := hV3.cells; have hlt := hR1.lt; have HR1 := Lib.hid hR1; have HR3 := Lib.hid hR3; have H3 := Lib.hid h3; have HL3 := Lib.hid hl3; have HA3 := Lib.hid ha3; clear hR1 hR3 h3 hl3 ha3))
  have hgw := HG.out
  refine bodyPost_ret (results_six rfl _ _ w.heap.size (.int .i64 3) (.int .i64 0) (.float .f64 b) (.string ⟨#[]⟩) (.slice none 0 0) (.slice none 0 0) rfl ((HR3.out.other (S := w1.heap.size) (by omega) _ _).six _ _ _ _ _ _)) rfl ⟨?_, ⟨_, rfl, VOwn.leaf (by omega) (by omega) hn.out (by decide)⟩, a3, HA3.out, HL3.out, ?_⟩
  · exact (((HW.out.trans (HP1.out.trans (hP2.trans hp3))).setNew (by omega) _ _).six (Nat.le_refl _) _ _ _ _ _ _)
  · exact ((H3.out.other (R := w1.heap.size) (by omega) _ _).six (by omega) _ _ _ _ _ _)
set_option maxRecDepth 20000 in
set_option maxHeartbeats 1000000 in
theorem rv_4e {w : World} {g : Nat} {s : ByteArray} {a p a1 : Nat} {d : Int} {c : Nat} (hk : kindP d p (left s a) = .ok (4, left s a1)) (hi : sP 200 (left s a1) = .error c) (h : Dr w g s a p) (hp : p ≤ 200) (ha : a ≤ s.size) (hs : s.size ≤ 1000000000) :
    Calls Tryz.prog 167 #[.pointer (some ⟨g, 0, none⟩), .int .i64 d] w fun x w' => DVEnds s w g (.error c) x w' := by
  have hW : Past g w (w.alloc (.cells #[.int .i64 0, .int .i64 0, .float .f64 0, .string ⟨#[]⟩, .slice none 0 0, .slice none 0 0] 28)) := (Past.refl g w).alloc _
  have hR := Bx.new w #[.int .i64 0, .int .i64 0, .float .f64 0, .string ⟨#[]⟩, .slice none 0 0, .slice none 0 0]
  have K := kind_any (d := d) (h.alloc (.cells #[.int .i64 0, .int .i64 0, .float .f64 0, .string ⟨#[]⟩, .slice none 0 0, .slice none 0 0] 28)) (by omega) ha hs
  rw [hk] at K
  have K' := K.mono fun e w1 h => DEnds.okay h
  have hg := h.lt
  have HR := Lib.hid hR
  have HW := Lib.hid hW
  have HG := Lib.hid hg
  have HI := Lib.hid hi
  have SF := float_store
  clear h hR hW K hk hi
  go_enter Tryz.func167, Tryz.ntmps167
  go_wp2_with (first
    | (go_at_call 193; refine K'.mono ?_; rintro x w1 ⟨rfl, hp1, a2, ha2, hl2, h1⟩; have HL := Lib.hid hl2; have HA := Lib.hid ha2; have HP1 := Lib.hid hp1; have hP2 := (Past.refl g w1).alloc (.cells #[.int .i64 4, .int .i64 0, .float .f64 0, .string ⟨#[]⟩, .slice none 0 0, .slice none 0 0] 28); have h2 := h1.alloc (.cells #[.int .i64 4, .int .i64 0, .float .f64 0, .string ⟨#[]⟩, .slice none 0 0, .slice none 0 0] 28); have hlt1 := h1.lt; have C := readStr_ok (most := 200) h2 HA.out hs (by omega); rw [← HL.out, HI.out] at C; have C' := C.mono fun e w1 h => DEnds.error h; clear C hl2 ha2 h1 h2 hp1)
    | (go_at_call 197; refine C'.mono ?_; rintro x w3 ⟨rfl, hp3⟩))
  exact ⟨rfl, HW.out.trans (HP1.out.trans (hP2.trans hp3)), rfl⟩
set_option maxRecDepth 20000 in
set_option maxHeartbeats 1000000 in
theorem rv_4 {w : World} {g : Nat} {s : ByteArray} {a p a1 : Nat} {d : Int} {t : ByteArray} {l : List UInt8} (hk : kindP d p (left s a) = .ok (4, left s a1)) (hi : sP 200 (left s a1) = .ok (t, l)) (hn : t.size ≤ maxLen) (h : Dr w g s a p) (hp : p ≤ 200) (ha : a ≤ s.size) (hs : s.size ≤ 1000000000) :
    Calls Tryz.prog 167 #[.pointer (some ⟨g, 0, none⟩), .int .i64 d] w fun x w' => DVEnds s w g (.ok (leaf 4 0 0 t, p + 1, l)) x w' := by
  have hW : Past g w (w.alloc (.cells #[.int .i64 0, .int .i64 0, .float .f64 0, .string ⟨#[]⟩, .slice none 0 0, .slice none 0 0] 28)) := (Past.refl g w).alloc _
  have hR := Bx.new w #[.int .i64 0, .int .i64 0, .float .f64 0, .string ⟨#[]⟩, .slice none 0 0, .slice none 0 0]
  have K := kind_any (d := d) (h.alloc (.cells #[.int .i64 0, .int .i64 0, .float .f64 0, .string ⟨#[]⟩, .slice none 0 0, .slice none 0 0] 28)) (by omega) ha hs
  rw [hk] at K
  have K' := K.mono fun e w1 h => DEnds.okay h
  have hg := h.lt
  have HR := Lib.hid hR
  have HW := Lib.hid hW
  have HG := Lib.hid hg
  have HI := Lib.hid hi
  have SF := float_store
  clear h hR hW K hk hi
  go_enter Tryz.func167, Tryz.ntmps167
  go_wp2_with (first
    | (go_at_call 193; refine K'.mono ?_; rintro x w1 ⟨rfl, hp1, a2, ha2, hl2, h1⟩; have HL := Lib.hid hl2; have HA := Lib.hid ha2; have HP1 := Lib.hid hp1; have hP2 := (Past.refl g w1).alloc (.cells #[.int .i64 4, .int .i64 0, .float .f64 0, .string ⟨#[]⟩, .slice none 0 0, .slice none 0 0] 28); have h2 := h1.alloc (.cells #[.int .i64 4, .int .i64 0, .float .f64 0, .string ⟨#[]⟩, .slice none 0 0, .slice none 0 0] 28); have hlt1 := h1.lt; have C := readStr_ok (most := 200) h2 HA.out hs (by omega); rw [← HL.out, HI.out] at C; have C' := C.mono fun e w1 h => DEnds.okay h; clear C hl2 ha2 h1 h2 hp1)
    | (go_at_call 197; refine C'.mono ?_; rintro x w3 ⟨rfl, hp3, a3, ha3, hl3, h3⟩; have hgw : g ≠ w.heap.size := (by have := HG.out; omega); have hR1 := HR.out.past HP1.out hgw.symm; have hR3 := (hR1.alloc (.cells #[.int .i64 4, .int .i64 0, .float .f64 0, .string ⟨#[]⟩, .slice none 0 0, .slice none 0 0] 28)).past hp3 hgw.symm; obtain ⟨q0, q1, q2, q3, q4, q5, qf, ql⟩ := hR3.cells; have hV3 := (Bx.new w1 #[.int .i64 4, .int .i64 0, .float .f64 0, .string ⟨#[]⟩, .slice none 0 0, .slice none 0 0]).past hp3 (by omega); obtain ⟨v0, v1, v2, v3, v4, v5, vf, vl⟩ := hV3.cells; have hlt := hR1.lt; have HR1 := Lib.hid hR1; have HR3 := Lib.hid hR3; have H3 := Lib.hid h3; have HL3 := Lib.hid hl3; have HA3 := Lib.hid ha3; clear hR1 hR3 h3 hl3 ha3))
  have hgw := HG.out
  refine bodyPost_ret (results_six rfl _ _ w.heap.size (.int .i64 4) (.int .i64 0) (.float .f64 0) (.string t) (.slice none 0 0) (.slice none 0 0) rfl ((HR3.out.other (S := w1.heap.size) (by omega) _ _).six _ _ _ _ _ _)) rfl ⟨?_, ⟨_, rfl, VOwn.leaf (by omega) (by omega) (by decide) hn⟩, a3, HA3.out, HL3.out, ?_⟩
  · exact (((HW.out.trans (HP1.out.trans (hP2.trans hp3))).setNew (by omega) _ _).six (Nat.le_refl _) _ _ _ _ _ _)
  · exact ((H3.out.other (R := w1.heap.size) (by omega) _ _).six (by omega) _ _ _ _ _ _)
set_option maxRecDepth 20000 in
set_option maxHeartbeats 1000000 in
theorem rv_no {w : World} {g : Nat} {s : ByteArray} {a p a1 k : Nat} {d : Int} (hk : kindP d p (left s a) = .ok (k, left s a1)) (hi : k < 1 ∨ 6 < k) (h : Dr w g s a p) (hp : p ≤ 200) (ha : a ≤ s.size) (hs : s.size ≤ 1000000000) :
    Calls Tryz.prog 167 #[.pointer (some ⟨g, 0, none⟩), .int .i64 d] w fun x w' => DVEnds s w g (.error 5) x w' := by
  obtain ⟨ki, hki⟩ : ∃ ki : Int, ki = k := ⟨_, rfl⟩
  have t1 : (ki == 1) = false := by rw [beq_eq_false_iff_ne]; omega
  have t2 : (ki == 2) = false := by rw [beq_eq_false_iff_ne]; omega
  have t3 : (ki == 3) = false := by rw [beq_eq_false_iff_ne]; omega
  have t4 : (ki == 4) = false := by rw [beq_eq_false_iff_ne]; omega
  have t5 : (ki == 5) = false := by rw [beq_eq_false_iff_ne]; omega
  have t6 : (ki == 6) = false := by rw [beq_eq_false_iff_ne]; omega
  have hW : Past g w (w.alloc (.cells #[.int .i64 0, .int .i64 0, .float .f64 0, .string ⟨#[]⟩, .slice none 0 0, .slice none 0 0] 28)) := (Past.refl g w).alloc _
  have hR := Bx.new w #[.int .i64 0, .int .i64 0, .float .f64 0, .string ⟨#[]⟩, .slice none 0 0, .slice none 0 0]
  have K := kind_any (d := d) (h.alloc (.cells #[.int .i64 0, .int .i64 0, .float .f64 0, .string ⟨#[]⟩, .slice none 0 0, .slice none 0 0] 28)) (by omega) ha hs
  rw [hk] at K
  have K' := K.mono fun e w1 h => DEnds.okay h
  have hg := h.lt
  have HR := Lib.hid hR
  have HW := Lib.hid hW
  have HG := Lib.hid hg
  have HI := Lib.hid hi
  have SF := float_store
  rw [← hki] at K'
  have N := Lib.hid insist_no
  clear h hR hW K hk hi hki HI HR HG
  go_enter Tryz.func167, Tryz.ntmps167
  go_wp2_with (first
    | (go_at_call 193; refine K'.mono ?_; rintro x w1 ⟨rfl, hp1, a2, ha2, hl2, h1⟩; have hP2 := (Past.refl g w1).alloc (.cells #[.int .i64 ki, .int .i64 0, .float .f64 0, .string ⟨#[]⟩, .slice none 0 0, .slice none 0 0] 28))
    | (go_at_call 141; refine (N.out _).mono ?_; rintro x w3 ⟨rfl, rfl⟩))
  all_goals exact ⟨rfl, HW.out.trans (hp1.trans hP2), rfl⟩
end Go.Proofs.YtekojglcbalhnaaGreatDoor

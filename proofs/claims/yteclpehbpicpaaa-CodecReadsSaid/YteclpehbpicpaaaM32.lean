/-
  Types that a reader made: by value, in blocks of its own; what reading a type answers, plainly.
  Contract of the program's readType: plain kinds and lists.
-/
import Derived.Test.YteclpehbpicpaaaM30
import Derived.Test.YteclpehbpicpaaaM31
namespace Go.Proofs.Yteclpehbpicpaaa
open Go.RowKit

/-- A type by value is this tree, and lies in blocks that meet P. -/
inductive TOwn (w : World) (P : Nat → Prop) : Array Value → TT → Prop
  | mk (k : Int) (A : Option Addr) (c ca : Nat) (B : Option Addr) (m cb : Nat) (ns : Nat → ByteArray) (xs : Nat → TT) (vs : Nat → Array Value)
      (hk : -9223372036854775808 ≤ k ∧ k ≤ 9223372036854775807) (hc : c ≤ ca ∧ ca ≤ maxLen) (hm : m ≤ cb ∧ cb ≤ maxLen)
      (hns : StrsOwn w P A c ns)
      (hB : 0 < m → ∃ g o, B = some ⟨g, o, none⟩ ∧ P g ∧ g < w.heap.size ∧ ∀ i, i < m → ThreeAt w g (o + i * 3) (vs i))
      (hxs : ∀ i, i < m → TOwn w P (vs i) (xs i)) :
      TOwn w P (tfields k A c ca B m cb) (.mk k c ns m xs)
theorem TOwn.val {w : World} {P : Nat → Prop} {v : Array Value} {t : TT} (h : TOwn w P v t) : TVal w w.heap.size v t := by
  induction h with
  | mk k A c ca B m cb ns xs vs hk hc hm hns hB hxs ih =>
    refine .mk k A c ca B m cb ns xs vs hk hc hm (fun h0 => ?_) (fun h0 => ?_) ih
    · obtain ⟨g, o, e, _, hg, hx⟩ := hns h0
      exact ⟨g, o, e, hg, hx⟩
    · obtain ⟨g, o, e, _, hg, hx⟩ := hB h0
      exact ⟨g, o, e, hg, hx⟩
theorem TOwn.keep {w w' : World} {P : Nat → Prop} {v : Array Value} {t : TT} (h : TOwn w P v t) (hs' : w.heap.size ≤ w'.heap.size) (hw : ∀ g, P g → g < w.heap.size → w'.heap[g]? = w.heap[g]?) : TOwn w' P v t := by
  have hc' : ∀ g o, P g → g < w.heap.size → w'.cell? ⟨g, o, none⟩ = w.cell? ⟨g, o, none⟩ := fun g o h1 h2 => World.cell?_of_block (w := w) (a := ⟨g, o, none⟩) (hw g h1 h2)
  induction h with
  | mk k A c ca B m cb ns xs vs hk hc hm hns hB hxs ih =>
    refine .mk k A c ca B m cb ns xs vs hk hc hm (fun h0 => ?_) (fun h0 => ?_) ih
    · obtain ⟨g, o, e, hl, hg, hx⟩ := hns h0
      exact ⟨g, o, e, hl, by omega, fun i hi => ⟨(hc' _ _ hl hg).trans (hx i hi).1, (hx i hi).2⟩⟩
    · obtain ⟨g, o, e, hl, hg, hx⟩ := hB h0
      exact ⟨g, o, e, hl, by omega, fun i hi j hj => (hc' _ _ hl hg).trans (hx i hi j hj)⟩
theorem TOwn.imp {w : World} {P Q : Nat → Prop} {v : Array Value} {t : TT} (h : TOwn w P v t) (hi : ∀ g, P g → g < w.heap.size → Q g) : TOwn w Q v t := by
  induction h with
  | mk k A c ca B m cb ns xs vs hk hc hm hns hB hxs ih =>
    refine .mk k A c ca B m cb ns xs vs hk hc hm (fun h0 => ?_) (fun h0 => ?_) ih
    · obtain ⟨g, o, e, hl, hg, hx⟩ := hns h0
      exact ⟨g, o, e, hi g hl hg, hg, hx⟩
    · obtain ⟨g, o, e, hl, hg, hx⟩ := hB h0
      exact ⟨g, o, e, hi g hl hg, hg, hx⟩
theorem TOwn.past {g : Nat} {w w' : World} {P : Nat → Prop} {v : Array Value} {t : TT} (h : TOwn w P v t) (hp : Past g w w') (hg : ¬ P g) : TOwn w' P v t :=
  h.keep hp.size fun k h1 h2 => hp.block k h2 (fun e => hg (e ▸ h1))
theorem TOwn.alloc {w : World} {P : Nat → Prop} {v : Array Value} {t : TT} (h : TOwn w P v t) (x : Obj) : TOwn (w.alloc x) P v t := h.keep (by simp) fun k _ hk => Below.heap_alloc _ _ _ hk
theorem TOwn.drew {w : World} {P : Nat → Prop} {v : Array Value} {t : TT} (h : TOwn w P v t) : TOwn w.drew P v t := h.keep (Nat.le_refl _) fun _ _ _ => rfl
theorem TOwn.set {w : World} {P : Nat → Prop} {v : Array Value} {t : TT} (h : TOwn w P v t) {R : Nat} (hR : ¬ P R) (o : Nat) (u : Value) : TOwn (w.setCell ⟨R, o, none⟩ u) P v t :=
  h.keep (by simp [World.setCell]) fun k hk _ => Below.heap_setCell _ _ _ _ (fun e => hR ((show k = R from e) ▸ hk))
theorem TOwn.put3 {w : World} {P : Nat → Prop} {v : Array Value} {t : TT} (h : TOwn w P v t) {R : Nat} (hR : ¬ P R) (v0 v1 v2 : Value) :
    TOwn (((w.setCell ⟨R, 0, none⟩ v0).setCell ⟨R, 1, none⟩ v1).setCell ⟨R, 2, none⟩ v2) P v t := ((h.set hR 0 v0).set hR 1 v1).set hR 2 v2
def tleaf (k : Int) : TT := .mk k 0 (fun _ => ⟨#[]⟩) 0 (fun _ => .bad)
theorem TOwn.leaf {w : World} {P : Nat → Prop} {k : Int} (hk : -9223372036854775808 ≤ k ∧ k ≤ 9223372036854775807) : TOwn w P (tfields k none 0 0 none 0 0) (tleaf k) :=
  .mk k none 0 0 none 0 0 _ _ (fun _ => #[]) hk ⟨Nat.le_refl _, Nat.zero_le _⟩ ⟨Nat.le_refl _, Nat.zero_le _⟩ (fun h => absurd h (Nat.lt_irrefl 0)) (fun h => absurd h (Nat.lt_irrefl 0)) (fun i h => absurd h (Nat.not_lt_zero i))
theorem TOwn.size {w : World} {P : Nat → Prop} {v : Array Value} {t : TT} (h : TOwn w P v t) : v.size = 3 := by cases h; rfl

/-! ### What is read -/
def titemsP (F : Nat → List UInt8 → Except Nat (TT × Nat × List UInt8)) : Nat → Nat → List UInt8 → Except Nat (List (ByteArray × TT) × Nat × List UInt8)
  | 0, p, l => .ok ([], p, l)
  | n + 1, p, l =>
    match sP 30 l with
    | .error c => .error c
    | .ok (nm, l1) => match F p l1 with
      | .error c => .error c
      | .ok (t, p1, l2) => match titemsP F n p1 l2 with
        | .error c => .error c
        | .ok (xs, p2, l3) => .ok ((nm, t) :: xs, p2, l3)
def trec (xs : List (ByteArray × TT)) : TT := .mk 6 xs.length (fun i => (xs.getD i (⟨#[]⟩, .bad)).1) xs.length (fun i => (xs.getD i (⟨#[]⟩, .bad)).2)
def tlist (t : TT) : TT := .mk 5 0 (fun _ => ⟨#[]⟩) 1 (fun _ => t)
/-- A type, q levels deep at most, p parts ahead of it. -/
def tP : Nat → Nat → List UInt8 → Except Nat (TT × Nat × List UInt8)
  | 0, _, _ => .error 5
  | q + 1, p, l =>
    if 200 < p + 1 then .error 5 else
    match l with
    | [] => .error 14
    | b :: r =>
      if b.toNat < 1 ∨ 7 < b.toNat then .error 5
      else if b.toNat = 5 then (match tP q (p + 1) r with | .error c => .error c | .ok (t, p', r) => .ok (tlist t, p', r))
      else if b.toNat = 6 then match mP r with
        | .error c => .error c
        | .ok (n, r) => match titemsP (tP q) n (p + 1) r with
          | .error c => .error c
          | .ok (xs, p', r) => .ok (trec xs, p', r)
      else .ok (tleaf b.toNat, p + 1, r)
/-- How the program's reading of a type ends. -/
def DTEnds (s : ByteArray) (w : World) (g : Nat) (r : Except Nat (TT × Nat × List UInt8)) (x : Ending) (w' : World) : Prop :=
  Past g w w' ∧ match r with
  | .error c => x = .panicked (errL c)
  | .ok (t, p, l) => (∃ v, x = .returned (.agg v) ∧ TOwn w' (fun b => w.heap.size ≤ b) v t) ∧ ∃ a : Nat, a ≤ s.size ∧ l = left s a ∧ Dr w' g s a p
theorem DTEnds.error {s : ByteArray} {w : World} {g : Nat} {c : Nat} {x : Ending} {w' : World} (h : DTEnds s w g (.error c) x w') : x = .panicked (errL c) ∧ Past g w w' := ⟨h.2, h.1⟩
theorem DTEnds.okay {s : ByteArray} {w : World} {g : Nat} {t : TT} {p : Nat} {l : List UInt8} {x : Ending} {w' : World} (h : DTEnds s w g (.ok (t, p, l)) x w') :
    ∃ (b0 : Int) (b1 : Option Addr) (b2 b3 : Nat) (b4 : Option Addr) (b5 b6 : Nat), x = .returned (.agg #[.int .i64 b0, .slice b1 b2 b3, .slice b4 b5 b6]) ∧ Past g w w' ∧ TOwn w' (fun b => w.heap.size ≤ b) #[.int .i64 b0, .slice b1 b2 b3, .slice b4 b5 b6] t ∧ ∃ a : Nat, a ≤ s.size ∧ l = left s a ∧ Dr w' g s a p := by
  obtain ⟨hp, ⟨v, rfl, hv⟩, hr⟩ := h
  obtain ⟨b0, b1, b2, b3, b4, b5, b6, rfl⟩ := hv.val.four
  exact ⟨_, _, _, _, _, _, _, rfl, hp, hv, hr⟩
/-! ### Boxes -/
def Bt (w : World) (R : Nat) (cs : Array Value) : Prop := w.heap[R]? = some (.cells cs 30 (0, 0))
theorem Bt.new (w : World) (cs : Array Value) : Bt (w.alloc (.cells cs 30)) w.heap.size cs := heap_alloc_new w _
theorem Bt.lt {w : World} {R : Nat} {cs : Array Value} (h : Bt w R cs) : R < w.heap.size := (Array.getElem?_eq_some_iff.1 h).1
theorem Bt.alloc {w : World} {R : Nat} {cs : Array Value} (h : Bt w R cs) (x : Obj) : Bt (w.alloc x) R cs := (Below.heap_alloc _ _ _ h.lt).trans h
theorem Bt.past {g : Nat} {w w' : World} {R : Nat} {cs : Array Value} (h : Bt w R cs) (hp : Past g w w') (hR : R ≠ g) : Bt w' R cs := (hp.block R h.lt hR).trans h
theorem Bt.below {B : Nat} {w w' : World} {R : Nat} {cs : Array Value} (h : Bt w R cs) (hp : Below B w w') (hR : R < B) : Bt w' R cs := (hp.block R hR).trans h
theorem Bt.drew {w : World} {R : Nat} {cs : Array Value} (h : Bt w R cs) : Bt w.drew R cs := h
theorem Bt.other {w : World} {R : Nat} {cs : Array Value} (h : Bt w R cs) {S : Nat} (hR : S ≠ R) (o : Nat) (v : Value) : Bt (w.setCell ⟨S, o, none⟩ v) R cs := (Below.heap_setCell _ _ _ _ (by simp; omega)).trans h
theorem Bt.set {w : World} {R : Nat} {cs : Array Value} (h : Bt w R cs) (o : Nat) (v : Value) : Bt (w.setCell ⟨R, o, none⟩ v) R (cs.setIfInBounds o v) := by
  unfold Bt at *
  simp [World.setCell, Array.getElem?_modify, h]
theorem Bt.cells {w : World} {R : Nat} {a0 a1 a2 : Value} (h : Bt w R #[a0, a1, a2]) :
    w.cell? ⟨R, 0, none⟩ = some a0 ∧ w.cell? ⟨R, 1, none⟩ = some a1 ∧ w.cell? ⟨R, 2, none⟩ = some a2 ∧ (∀ o, w.frozen? ⟨R, o, none⟩ = false) ∧ R < w.heap.size := by
  have hl := h.lt
  unfold Bt at h
  refine ⟨?_, ?_, ?_, fun o => ?_, hl⟩
  all_goals first | (simp [World.cell?, h]; done) | (simp [World.frozen?, h]; done)
theorem Bt.put3 {w : World} {R : Nat} {a0 a1 a2 : Value} (h : Bt w R #[a0, a1, a2]) (v0 v1 v2 : Value) : Bt (((w.setCell ⟨R, 0, none⟩ v0).setCell ⟨R, 1, none⟩ v1).setCell ⟨R, 2, none⟩ v2) R #[v0, v1, v2] := by
  have := ((h.set 0 v0).set 1 v1).set 2 v2
  simpa using this
theorem Dr.put3 {w : World} {g : Nat} {s : ByteArray} {a p : Int} (h : Dr w g s a p) {R : Nat} (hR : R ≠ g) (v0 v1 v2 : Value) :
    Dr (((w.setCell ⟨R, 0, none⟩ v0).setCell ⟨R, 1, none⟩ v1).setCell ⟨R, 2, none⟩ v2) g s a p := ((h.other hR 0 v0).other hR 1 v1).other hR 2 v2
theorem Past.put3 {g : Nat} {a w : World} (h : Past g a w) {R : Nat} (hR : a.heap.size ≤ R) (v0 v1 v2 : Value) :
    Past g a (((w.setCell ⟨R, 0, none⟩ v0).setCell ⟨R, 1, none⟩ v1).setCell ⟨R, 2, none⟩ v2) := ((h.setNew hR 0 v0).setNew hR 1 v1).setNew hR 2 v2
theorem Below.put3 {B : Nat} {a w : World} (h : Below B a w) {R : Nat} (hR : B ≤ R) (v0 v1 v2 : Value) :
    Below B a (((w.setCell ⟨R, 0, none⟩ v0).setCell ⟨R, 1, none⟩ v1).setCell ⟨R, 2, none⟩ v2) := ((h.setCell hR v0).setCell hR v1).setCell hR v2
theorem results_box3 {fn : Func} {k : Nat} (h : fn.results = #[.cell k 30]) (tmps : Array Value) (w : World) (R : Nat) (a0 a1 a2 : Value)
    (hp : tmps.getD k undef = .pointer (some ⟨R, 0, none⟩)) (hg : Bt w R #[a0, a1, a2]) :
    (results fn tmps).run Try.prog w = .ok (.agg #[a0, a1, a2]) w := by
  have hp' : tmps[k]?.getD undef = .pointer (some ⟨R, 0, none⟩) := by simpa using hp
  simp [results, h, hp', asAddr, run_loadVar_row w R 30 30 #[a0, a1, a2] (0, 0) _ hg Try.underlying30 rfl (by kernel_rfl)]
end Go.Proofs.Yteclpehbpicpaaa
namespace Go.Proofs.Yteclpehbpicpaaa
open Go.RowKit

set_option maxRecDepth 20000 in
set_option maxHeartbeats 400000 in
theorem rt_kind {w : World} {g : Nat} {s : ByteArray} {a p : Nat} {d : Int} {c : Nat} (hk : kindP d p (left s a) = .error c) (h : Dr w g s a p) (hp : p ≤ 200) (ha : a ≤ s.size) (hs : s.size ≤ 1000000000) :
    Calls Try.prog 95 #[.pointer (some ⟨g, 0, none⟩), .int .i64 d] w fun x w' => DTEnds s w g (.error c) x w' := by
  have hW : Past g w (w.alloc (.cells #[.int .i64 0, .slice none 0 0, .slice none 0 0] 30)) := (Past.refl g w).alloc _
  have K := kind_any (d := d) (h.alloc (.cells #[.int .i64 0, .slice none 0 0, .slice none 0 0] 30)) (by omega) ha hs
  rw [hk] at K
  have K' := K.mono fun e w1 h => DEnds.error h
  have HW := Lib.hid hW
  clear h hW K hk
  go_enter Try.func95, Try.ntmps95
  go_wp2_with (first | (go_at_call 110; refine K'.mono ?_; rintro x w1 ⟨rfl, hp1⟩))
  exact ⟨rfl, HW.out.trans hp1, rfl⟩
set_option maxRecDepth 20000 in
set_option maxHeartbeats 400000 in
theorem TOwn.one {w : World} {lo g : Nat} {v : Array Value} {t : TT} (h : TOwn w (fun b => lo ≤ b) v t) (hg : w.heap.size = g) (hl : lo ≤ g) :
    TOwn (w.alloc (.cells v 30)) (fun b => lo ≤ b) (tfields 5 none 0 0 (some ⟨g, 0, none⟩) 1 1) (tlist t) := by
  subst hg
  have hb := heap_alloc_new w (.cells v 30)
  have hsz := h.size
  refine .mk 5 none 0 0 _ 1 1 _ _ (fun _ => v) (by omega) ⟨Nat.le_refl _, Nat.zero_le _⟩ ⟨Nat.le_refl _, by decide⟩ (fun h => absurd h (Nat.lt_irrefl 0)) (fun _ => ⟨_, 0, rfl, hl, by simp, fun i hi j hj => ?_⟩) (fun i hi => h.alloc _)
  obtain rfl : i = 0 := by omega
  rw [cell_of_row _ _ _ v 30 (0, 0) hb]
  simp
set_option maxRecDepth 20000 in
set_option maxHeartbeats 400000 in
theorem rt_no {w : World} {g : Nat} {s : ByteArray} {a p a1 k : Nat} {d : Int} (hk : kindP d p (left s a) = .ok (k, left s a1)) (hi : k < 1 ∨ 7 < k) (h : Dr w g s a p) (hp : p ≤ 200) (ha : a ≤ s.size) (hs : s.size ≤ 1000000000) :
    Calls Try.prog 95 #[.pointer (some ⟨g, 0, none⟩), .int .i64 d] w fun x w' => DTEnds s w g (.error 5) x w' := by
  obtain ⟨ki, hki⟩ : ∃ ki : Int, ki = k := ⟨_, rfl⟩
  have t1 : (ki == 1) = false := by rw [beq_eq_false_iff_ne]; omega
  have t2 : (ki == 2) = false := by rw [beq_eq_false_iff_ne]; omega
  have t3 : (ki == 3) = false := by rw [beq_eq_false_iff_ne]; omega
  have t4 : (ki == 4) = false := by rw [beq_eq_false_iff_ne]; omega
  have t5 : (ki == 5) = false := by rw [beq_eq_false_iff_ne]; omega
  have t6 : (ki == 6) = false := by rw [beq_eq_false_iff_ne]; omega
  have t7 : (ki == 7) = false := by rw [beq_eq_false_iff_ne]; omega
  have hW : Past g w (w.alloc (.cells #[.int .i64 0, .slice none 0 0, .slice none 0 0] 30)) := (Past.refl g w).alloc _
  have K := kind_any (d := d) (h.alloc (.cells #[.int .i64 0, .slice none 0 0, .slice none 0 0] 30)) (by omega) ha hs
  rw [hk] at K
  have K' := K.mono fun e w1 h => DEnds.okay h
  have HW := Lib.hid hW
  have N := Lib.hid insist_no
  rw [← hki] at K'
  clear h hW K hk hi hki
  go_enter Try.func95, Try.ntmps95
  go_wp2_with (first
    | (go_at_call 110; refine K'.mono ?_; rintro x w1 ⟨rfl, hp1, a2, ha2, hl2, h1⟩; have hP2 := (Past.refl g w1).alloc (.cells #[.int .i64 ki, .slice none 0 0, .slice none 0 0] 30))
    | (go_at_call 85; refine (N.out _).mono ?_; rintro x w3 ⟨rfl, rfl⟩))
  all_goals exact ⟨rfl, HW.out.trans (hp1.trans hP2), rfl⟩
set_option maxRecDepth 20000 in
set_option maxHeartbeats 400000 in
theorem rt_1 {w : World} {g : Nat} {s : ByteArray} {a p a1 : Nat} {d : Int} (hk : kindP d p (left s a) = .ok (1, left s a1)) (h : Dr w g s a p) (hp : p ≤ 200) (ha : a ≤ s.size) (hs : s.size ≤ 1000000000) :
    Calls Try.prog 95 #[.pointer (some ⟨g, 0, none⟩), .int .i64 d] w fun x w' => DTEnds s w g (.ok (tleaf 1, p + 1, left s a1)) x w' := by
  have hW : Past g w (w.alloc (.cells #[.int .i64 0, .slice none 0 0, .slice none 0 0] 30)) := (Past.refl g w).alloc _
  have hR := Bt.new w #[.int .i64 0, .slice none 0 0, .slice none 0 0]
  have K := kind_any (d := d) (h.alloc (.cells #[.int .i64 0, .slice none 0 0, .slice none 0 0] 30)) (by omega) ha hs
  rw [hk] at K
  have K' := K.mono fun e w1 h => DEnds.okay h
  have hg := h.lt
  have HR := Lib.hid hR
  have HW := Lib.hid hW
  have HG := Lib.hid hg
  clear h hR hW K hk
  go_enter Try.func95, Try.ntmps95
  go_wp2_with (first
    | (go_at_call 110; refine K'.mono ?_; rintro x w1 ⟨rfl, hp1, a2, ha2, hl2, h1⟩; have hgw : g ≠ w.heap.size := (by have := HG.out; omega); have hR1 := HR.out.past hp1 hgw.symm; have hlt := hR1.lt; obtain ⟨q0, q1, q2, qf, ql⟩ := hR1.cells; have HR2 := Lib.hid hR1; have H2 := Lib.hid h1; have HL2 := Lib.hid hl2; have HA2 := Lib.hid ha2; clear hR1 h1 hl2 ha2))
  have hgw2 := HG.out
  refine bodyPost_ret (results_box3 rfl _ _ w.heap.size (.int .i64 1) (.slice none 0 0) (.slice none 0 0) rfl ((HR2.out.put3 (.int .i64 1) (.slice none 0 0) (.slice none 0 0)).alloc (.cells #[.int .i64 1, .slice none 0 0, .slice none 0 0] 30))) rfl ⟨?_, ⟨_, rfl, TOwn.leaf (by omega)⟩, a2, HA2.out, HL2.out, ?_⟩
  · exact ((HW.out.trans hp1).put3 (Nat.le_refl _) (.int .i64 1) (.slice none 0 0) (.slice none 0 0)).alloc (.cells #[.int .i64 1, .slice none 0 0, .slice none 0 0] 30)
  · exact (H2.out.put3 (R := w.heap.size) (by omega) (.int .i64 1) (.slice none 0 0) (.slice none 0 0)).alloc (.cells #[.int .i64 1, .slice none 0 0, .slice none 0 0] 30)
set_option maxRecDepth 20000 in
set_option maxHeartbeats 400000 in
theorem rt_2 {w : World} {g : Nat} {s : ByteArray} {a p a1 : Nat} {d : Int} (hk : kindP d p (left s a) = .ok (2, left s a1)) (h : Dr w g s a p) (hp : p ≤ 200) (ha : a ≤ s.size) (hs : s.size ≤ 1000000000) :
    Calls Try.prog 95 #[.pointer (some ⟨g, 0, none⟩), .int .i64 d] w fun x w' => DTEnds s w g (.ok (tleaf 2, p + 1, left s a1)) x w' := by
  have hW : Past g w (w.alloc (.cells #[.int .i64 0, .slice none 0 0, .slice none 0 0] 30)) := (Past.refl g w).alloc _
  have hR := Bt.new w #[.int .i64 0, .slice none 0 0, .slice none 0 0]
  have K := kind_any (d := d) (h.alloc (.cells #[.int .i64 0, .slice none 0 0, .slice none 0 0] 30)) (by omega) ha hs
  rw [hk] at K
  have K' := K.mono fun e w1 h => DEnds.okay h
  have hg := h.lt
  have HR := Lib.hid hR
  have HW := Lib.hid hW
  have HG := Lib.hid hg
  clear h hR hW K hk
  go_enter Try.func95, Try.ntmps95
  go_wp2_with (first
    | (go_at_call 110; refine K'.mono ?_; rintro x w1 ⟨rfl, hp1, a2, ha2, hl2, h1⟩; have hgw : g ≠ w.heap.size := (by have := HG.out; omega); have hR1 := HR.out.past hp1 hgw.symm; have hlt := hR1.lt; obtain ⟨q0, q1, q2, qf, ql⟩ := hR1.cells; have HR2 := Lib.hid hR1; have H2 := Lib.hid h1; have HL2 := Lib.hid hl2; have HA2 := Lib.hid ha2; clear hR1 h1 hl2 ha2))
  have hgw2 := HG.out
  refine bodyPost_ret (results_box3 rfl _ _ w.heap.size (.int .i64 2) (.slice none 0 0) (.slice none 0 0) rfl ((HR2.out.put3 (.int .i64 2) (.slice none 0 0) (.slice none 0 0)).alloc (.cells #[.int .i64 2, .slice none 0 0, .slice none 0 0] 30))) rfl ⟨?_, ⟨_, rfl, TOwn.leaf (by omega)⟩, a2, HA2.out, HL2.out, ?_⟩
  · exact ((HW.out.trans hp1).put3 (Nat.le_refl _) (.int .i64 2) (.slice none 0 0) (.slice none 0 0)).alloc (.cells #[.int .i64 2, .slice none 0 0, .slice none 0 0] 30)
  · exact (H2.out.put3 (R := w.heap.size) (by omega) (.int .i64 2) (.slice none 0 0) (.slice none 0 0)).alloc (.cells #[.int .i64 2, .slice none 0 0, .slice none 0 0] 30)
set_option maxRecDepth 20000 in
set_option maxHeartbeats 400000 in
theorem rt_3 {w : World} {g : Nat} {s : ByteArray} {a p a1 : Nat} {d : Int} (hk : kindP d p (left s a) = .ok (3, left s a1)) (h : Dr w g s a p) (hp : p ≤ 200) (ha : a ≤ s.size) (hs : s.size ≤ 1000000000) :
    Calls Try.prog 95 #[.pointer (some ⟨g, 0, none⟩), .int .i64 d] w fun x w' => DTEnds s w g (.ok (tleaf 3, p + 1, left s a1)) x w' := by
  have hW : Past g w (w.alloc (.cells #[.int .i64 0, .slice none 0 0, .slice none 0 0] 30)) := (Past.refl g w).alloc _
  have hR := Bt.new w #[.int .i64 0, .slice none 0 0, .slice none 0 0]
  have K := kind_any (d := d) (h.alloc (.cells #[.int .i64 0, .slice none 0 0, .slice none 0 0] 30)) (by omega) ha hs
  rw [hk] at K
  have K' := K.mono fun e w1 h => DEnds.okay h
  have hg := h.lt
  have HR := Lib.hid hR
  have HW := Lib.hid hW
  have HG := Lib.hid hg
  clear h hR hW K hk
  go_enter Try.func95, Try.ntmps95
  go_wp2_with (first
    | (go_at_call 110; refine K'.mono ?_; rintro x w1 ⟨rfl, hp1, a2, ha2, hl2, h1⟩; have hgw : g ≠ w.heap.size := (by have := HG.out; omega); have hR1 := HR.out.past hp1 hgw.symm; have hlt := hR1.lt; obtain ⟨q0, q1, q2, qf, ql⟩ := hR1.cells; have HR2 := Lib.hid hR1; have H2 := Lib.hid h1; have HL2 := Lib.hid hl2; have HA2 := Lib.hid ha2; clear hR1 h1 hl2 ha2))
  have hgw2 := HG.out
  refine bodyPost_ret (results_box3 rfl _ _ w.heap.size (.int .i64 3) (.slice none 0 0) (.slice none 0 0) rfl ((HR2.out.put3 (.int .i64 3) (.slice none 0 0) (.slice none 0 0)).alloc (.cells #[.int .i64 3, .slice none 0 0, .slice none 0 0] 30))) rfl ⟨?_, ⟨_, rfl, TOwn.leaf (by omega)⟩, a2, HA2.out, HL2.out, ?_⟩
  · exact ((HW.out.trans hp1).put3 (Nat.le_refl _) (.int .i64 3) (.slice none 0 0) (.slice none 0 0)).alloc (.cells #[.int .i64 3, .slice none 0 0, .slice none 0 0] 30)
  · exact (H2.out.put3 (R := w.heap.size) (by omega) (.int .i64 3) (.slice none 0 0) (.slice none 0 0)).alloc (.cells #[.int .i64 3, .slice none 0 0, .slice none 0 0] 30)
set_option maxRecDepth 20000 in
set_option maxHeartbeats 400000 in
theorem rt_4 {w : World} {g : Nat} {s : ByteArray} {a p a1 : Nat} {d : Int} (hk : kindP d p (left s a) = .ok (4, left s a1)) (h : Dr w g s a p) (hp : p ≤ 200) (ha : a ≤ s.size) (hs : s.size ≤ 1000000000) :
    Calls Try.prog 95 #[.pointer (some ⟨g, 0, none⟩), .int .i64 d] w fun x w' => DTEnds s w g (.ok (tleaf 4, p + 1, left s a1)) x w' := by
  have hW : Past g w (w.alloc (.cells #[.int .i64 0, .slice none 0 0, .slice none 0 0] 30)) := (Past.refl g w).alloc _
  have hR := Bt.new w #[.int .i64 0, .slice none 0 0, .slice none 0 0]
  have K := kind_any (d := d) (h.alloc (.cells #[.int .i64 0, .slice none 0 0, .slice none 0 0] 30)) (by omega) ha hs
  rw [hk] at K
  have K' := K.mono fun e w1 h => DEnds.okay h
  have hg := h.lt
  have HR := Lib.hid hR
  have HW := Lib.hid hW
  have HG := Lib.hid hg
  clear h hR hW K hk
  go_enter Try.func95, Try.ntmps95
  go_wp2_with (first
    | (go_at_call 110; refine K'.mono ?_; rintro x w1 ⟨rfl, hp1, a2, ha2, hl2, h1⟩; have hgw : g ≠ w.heap.size := (by have := HG.out; omega); have hR1 := HR.out.past hp1 hgw.symm; have hlt := hR1.lt; obtain ⟨q0, q1, q2, qf, ql⟩ := hR1.cells; have HR2 := Lib.hid hR1; have H2 := Lib.hid h1; have HL2 := Lib.hid hl2; have HA2 := Lib.hid ha2; clear hR1 h1 hl2 ha2))
  have hgw2 := HG.out
  refine bodyPost_ret (results_box3 rfl _ _ w.heap.size (.int .i64 4) (.slice none 0 0) (.slice none 0 0) rfl ((HR2.out.put3 (.int .i64 4) (.slice none 0 0) (.slice none 0 0)).alloc (.cells #[.int .i64 4, .slice none 0 0, .slice none 0 0] 30))) rfl ⟨?_, ⟨_, rfl, TOwn.leaf (by omega)⟩, a2, HA2.out, HL2.out, ?_⟩
  · exact ((HW.out.trans hp1).put3 (Nat.le_refl _) (.int .i64 4) (.slice none 0 0) (.slice none 0 0)).alloc (.cells #[.int .i64 4, .slice none 0 0, .slice none 0 0] 30)
  · exact (H2.out.put3 (R := w.heap.size) (by omega) (.int .i64 4) (.slice none 0 0) (.slice none 0 0)).alloc (.cells #[.int .i64 4, .slice none 0 0, .slice none 0 0] 30)
set_option maxRecDepth 20000 in
set_option maxHeartbeats 400000 in
theorem rt_7 {w : World} {g : Nat} {s : ByteArray} {a p a1 : Nat} {d : Int} (hk : kindP d p (left s a) = .ok (7, left s a1)) (h : Dr w g s a p) (hp : p ≤ 200) (ha : a ≤ s.size) (hs : s.size ≤ 1000000000) :
    Calls Try.prog 95 #[.pointer (some ⟨g, 0, none⟩), .int .i64 d] w fun x w' => DTEnds s w g (.ok (tleaf 7, p + 1, left s a1)) x w' := by
  have hW : Past g w (w.alloc (.cells #[.int .i64 0, .slice none 0 0, .slice none 0 0] 30)) := (Past.refl g w).alloc _
  have hR := Bt.new w #[.int .i64 0, .slice none 0 0, .slice none 0 0]
  have K := kind_any (d := d) (h.alloc (.cells #[.int .i64 0, .slice none 0 0, .slice none 0 0] 30)) (by omega) ha hs
  rw [hk] at K
  have K' := K.mono fun e w1 h => DEnds.okay h
  have hg := h.lt
  have HR := Lib.hid hR
  have HW := Lib.hid hW
  have HG := Lib.hid hg
  clear h hR hW K hk
  go_enter Try.func95, Try.ntmps95
  go_wp2_with (first
    | (go_at_call 110; refine K'.mono ?_; rintro x w1 ⟨rfl, hp1, a2, ha2, hl2, h1⟩; have hgw : g ≠ w.heap.size := (by have := HG.out; omega); have hR1 := HR.out.past hp1 hgw.symm; have hlt := hR1.lt; obtain ⟨q0, q1, q2, qf, ql⟩ := hR1.cells; have HR2 := Lib.hid hR1; have H2 := Lib.hid h1; have HL2 := Lib.hid hl2; have HA2 := Lib.hid ha2; clear hR1 h1 hl2 ha2))
  have hgw2 := HG.out
  refine bodyPost_ret (results_box3 rfl _ _ w.heap.size (.int .i64 7) (.slice none 0 0) (.slice none 0 0) rfl ((HR2.out.put3 (.int .i64 7) (.slice none 0 0) (.slice none 0 0)).alloc (.cells #[.int .i64 7, .slice none 0 0, .slice none 0 0] 30))) rfl ⟨?_, ⟨_, rfl, TOwn.leaf (by omega)⟩, a2, HA2.out, HL2.out, ?_⟩
  · exact ((HW.out.trans hp1).put3 (Nat.le_refl _) (.int .i64 7) (.slice none 0 0) (.slice none 0 0)).alloc (.cells #[.int .i64 7, .slice none 0 0, .slice none 0 0] 30)
  · exact (H2.out.put3 (R := w.heap.size) (by omega) (.int .i64 7) (.slice none 0 0) (.slice none 0 0)).alloc (.cells #[.int .i64 7, .slice none 0 0, .slice none 0 0] 30)
set_option maxRecDepth 20000 in
set_option maxHeartbeats 400000 in
theorem rt_5 {w : World} {g : Nat} {s : ByteArray} {a p a1 : Nat} {d : Int} {F : Nat → List UInt8 → Except Nat (TT × Nat × List UInt8)} (hd : -1000 ≤ d ∧ d ≤ 1000)
    (ih : ∀ (w : World) (a p : Nat), Dr w g s a p → a ≤ s.size → p ≤ 200 → Calls Try.prog 95 #[.pointer (some ⟨g, 0, none⟩), .int .i64 (d + 1)] w fun x w' => DTEnds s w g (F p (left s a)) x w')
    (hk : kindP d p (left s a) = .ok (5, left s a1)) (h : Dr w g s a p) (hp : p < 200) (ha : a ≤ s.size) (hs : s.size ≤ 1000000000) :
    Calls Try.prog 95 #[.pointer (some ⟨g, 0, none⟩), .int .i64 d] w fun x w' => DTEnds s w g (match F (p + 1) (left s a1) with | .error c => .error c | .ok (t, p', r) => .ok (tlist t, p', r)) x w' := by
  have hW : Past g w (w.alloc (.cells #[.int .i64 0, .slice none 0 0, .slice none 0 0] 30)) := (Past.refl g w).alloc _
  have hR := Bt.new w #[.int .i64 0, .slice none 0 0, .slice none 0 0]
  have K := kind_any (d := d) (h.alloc (.cells #[.int .i64 0, .slice none 0 0, .slice none 0 0] 30)) (by omega) ha hs
  rw [hk] at K
  have K' := K.mono fun e w1 h => DEnds.okay h
  have hg := h.lt
  have HR := Lib.hid hR
  have HW := Lib.hid hW
  have HG := Lib.hid hg
  have HIH := Lib.hid ih
  have hd1 : IntKind.i64.wrap (d + 1) = d + 1 := by rw [IntKind.wrap_i64]; omega
  have HPP := Lib.hid hp
  cases hFe : F (p + 1) (left s a1) with
  | error c =>
    have HFE := Lib.hid hFe
    clear h hR hW K hk ih hFe
    go_enter Try.func95, Try.ntmps95
    go_wp2_with (first
      | (go_at_call 110; refine K'.mono ?_; rintro x w1 ⟨rfl, hp1, a2, ha2, hl2, h1⟩; have hP2 := (Past.refl g w1).alloc (.cells #[.int .i64 5, .slice none 0 0, .slice none 0 0] 30); have h2 := h1.alloc (.cells #[.int .i64 5, .slice none 0 0, .slice none 0 0] 30); have C := HIH.out _ a2 (p + 1) h2 ha2 (by have := HPP.out; omega); rw [← hl2, HFE.out] at C; have C' := C.mono fun e w1 h => DTEnds.error h; clear C)
      | (go_at_call 95; refine C'.mono ?_; rintro x w3 ⟨rfl, hp3⟩))
    exact ⟨rfl, HW.out.trans (hp1.trans (hP2.trans hp3)), rfl⟩
  | ok z =>
    obtain ⟨t, p1, l1⟩ := z
    have HFE := Lib.hid hFe
    clear h hR hW K hk ih hFe
    dsimp only
    go_enter Try.func95, Try.ntmps95
    go_wp2_with (first
      | (go_at_call 110; refine K'.mono ?_; rintro x w1 ⟨rfl, hp1, a2, ha2, hl2, h1⟩; have hP2 := (Past.refl g w1).alloc (.cells #[.int .i64 5, .slice none 0 0, .slice none 0 0] 30); have h2 := h1.alloc (.cells #[.int .i64 5, .slice none 0 0, .slice none 0 0] 30); have C := HIH.out _ a2 (p + 1) h2 ha2 (by have := HPP.out; omega); rw [← hl2, HFE.out] at C; have C' := C.mono fun e w1 h => DTEnds.okay h; have hgw : g ≠ w.heap.size := (by have := HG.out; omega); have hR1 := HR.out.past hp1 hgw.symm; have hlt1 := h1.lt; clear C h1 h2)
      | (go_at_call 95; refine C'.mono ?_; rintro x w3 ⟨b0, b1, b2, b3, b4, b5, b6, rfl, hp3, hv3, a3, ha3, hl3, h3⟩; have hlt := hR1.lt; have hR3 := (hR1.alloc (.cells #[.int .i64 5, .slice none 0 0, .slice none 0 0] 30)).past hp3 hgw.symm; obtain ⟨q0, q1, q2, qf, ql⟩ := hR3.cells; have hV3 := (Bt.new w1 #[.int .i64 5, .slice none 0 0, .slice none 0 0]).past hp3 (by omega); obtain ⟨v0, v1, v2, vf, vl⟩ := hV3.cells; have HR3 := Lib.hid hR3; have HV3 := Lib.hid hV3; have H3 := Lib.hid h3; have HL3 := Lib.hid hl3; have HA3 := Lib.hid ha3; have HVO := Lib.hid hv3; clear hR3 hV3 h3 hl3 ha3 hv3))
    have hgw2 := HG.out
    have hfin := (((HR3.out.other (S := w1.heap.size) (by omega) 2 (.slice (some ⟨w3.heap.size, 0, none⟩) 1 1)).put3 (.int .i64 5) (.slice none 0 0) (.slice (some ⟨w3.heap.size, 0, none⟩) 1 1)).alloc (.cells #[.int .i64 b0, .slice b1 b2 b3, .slice b4 b5 b6] 30))
    refine bodyPost_ret (results_box3 rfl _ _ w.heap.size (.int .i64 5) (.slice none 0 0) (.slice (some ⟨w3.heap.size, 0, none⟩) 1 1) rfl hfin) rfl ⟨?_, ⟨_, rfl, ?_⟩, a3, HA3.out, HL3.out, ?_⟩
    · exact (((HW.out.trans (hp1.trans (hP2.trans hp3))).setNew (R := w1.heap.size) (by omega) 2 (.slice (some ⟨w3.heap.size, 0, none⟩) 1 1)).put3 (R := w.heap.size) (Nat.le_refl _) (.int .i64 5) (.slice none 0 0) (.slice (some ⟨w3.heap.size, 0, none⟩) 1 1)).alloc (.cells #[.int .i64 b0, .slice b1 b2 b3, .slice b4 b5 b6] 30)
    · have hv := HVO.out
      have hz : w1.heap.size < (w1.alloc (.cells #[.int .i64 5, .slice none 0 0, .slice none 0 0] 30)).heap.size := by simp
      have hsz3 : (w1.alloc (.cells #[.int .i64 5, .slice none 0 0, .slice none 0 0] 30)).heap.size ≤ w3.heap.size := hp3.size
      generalize (w1.alloc (.cells #[.int .i64 5, .slice none 0 0, .slice none 0 0] 30)).heap.size = B1 at hv hz hsz3
      exact TOwn.one (((hv.set (R := w1.heap.size) (by omega) 2 (.slice (some ⟨w3.heap.size, 0, none⟩) 1 1)).put3 (R := w.heap.size) (by omega) (.int .i64 5) (.slice none 0 0) (.slice (some ⟨w3.heap.size, 0, none⟩) 1 1)).imp fun b hb _ => by omega) (by simp [World.setCell]) (by omega)
    · exact ((H3.out.other (R := w1.heap.size) (by omega) 2 (.slice (some ⟨w3.heap.size, 0, none⟩) 1 1)).put3 (R := w.heap.size) (by omega) (.int .i64 5) (.slice none 0 0) (.slice (some ⟨w3.heap.size, 0, none⟩) 1 1)).alloc (.cells #[.int .i64 b0, .slice b1 b2 b3, .slice b4 b5 b6] 30)
end Go.Proofs.Yteclpehbpicpaaa

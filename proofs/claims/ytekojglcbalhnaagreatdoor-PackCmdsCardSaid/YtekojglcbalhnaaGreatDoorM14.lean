/-
  The document's reader: Value, of lists.
  The document's reader: Value, of lists.
  The document's reader: Value, of a list or a record whose count can't be read.
  The document's reader: what a record gathers: names and items.
-/
import Derived.Test.YtekojglcbalhnaaGreatDoorM13
import Derived.Deep.RegionLaw
namespace Go.Proofs.YtekojglcbalhnaaGreatDoor
open Go.RowKit

def pre (xs : List (ByteArray × VT)) : Except Nat (List (ByteArray × VT) × Nat × List UInt8) → Except Nat (List (ByteArray × VT) × Nat × List UInt8)
  | .error c => .error c
  | .ok (ys, p, l) => .ok (xs ++ ys, p, l)
def endP (k : Nat) : Except Nat (List (ByteArray × VT) × Nat × List UInt8) → Except Nat (VT × Nat × List UInt8)
  | .error c => .error c
  | .ok (xs, p, l) => .ok (treeOf k xs, p, l)
theorem pre_pre (xs ys : List (ByteArray × VT)) (r : Except Nat (List (ByteArray × VT) × Nat × List UInt8)) : pre xs (pre ys r) = pre (xs ++ ys) r := by
  cases r with
  | error c => rfl
  | ok q => obtain ⟨zs, p, l⟩ := q; simp [pre, List.append_assoc]
theorem pre_nil (r : Except Nat (List (ByteArray × VT) × Nat × List UInt8)) : pre [] r = r := by
  cases r with
  | error c => rfl
  | ok q => rfl
section
variable {F : Nat → List UInt8 → Except Nat (VT × Nat × List UInt8)} {r p p1 c : Nat} {l l1 : List UInt8} {t : VT}
theorem itemsP_ok5 (h : F p l = .ok (t, p1, l1)) : itemsP F 5 (r + 1) p l = pre [(⟨#[]⟩, t)] (itemsP F 5 r p1 l1) := by
  rw [itemsP, if_neg (by decide)]
  simp only [h]
  cases itemsP F 5 r p1 l1 with
  | error c => rfl
  | ok q => rfl
theorem itemsP_err5 (h : F p l = .error c) : itemsP F 5 (r + 1) p l = .error c := by
  rw [itemsP, if_neg (by decide)]
  simp only [h]
end
theorem info27z : (Tryz.prog.info? 28).map (fun i => (i.zero, i.size, i.bytes)) = some (some (.agg #[.int .i64 0, .int .i64 0, .float .f64 0, .string ⟨#[]⟩, .slice none 0 0, .slice none 0 0]), 6, 88) := by kernel_rfl
theorem owns_past {w w' : World} {g base : Nat} {e : TypeId} {size : Nat} {v : Value} {n : Nat} {xs : List Value} (h : w.ownsRow base e size v n xs) (hp : Past g w w') (hg : g < base) : w'.ownsRow base e size v n xs := by
  have h0 := h
  obtain ⟨h1, h2⟩ := h
  refine ⟨h1, ?_⟩
  rcases h2 with h2 | ⟨k, cap, cur, hv, hb, hh, r⟩
  · exact .inl h2
  · exact .inr ⟨k, cap, cur, hv, hb, by rw [hp.block k (by subst hv; exact (h0.lt k rfl).2) (by omega)]; exact hh, r⟩
theorem new6 (w : World) (b0 b1 : Int) (b2 : Nat) (b3 : ByteArray) (b4 : Option Addr) (b5 b6 : Nat) (b7 : Option Addr) (b8 b9 : Nat) :
    ∀ (j : Nat) u, [Value.int .i64 b0, .int .i64 b1, .float .f64 b2, .string b3, .slice b4 b5 b6, .slice b7 b8 b9][j]? = some u → (w.alloc (.cells #[.int .i64 b0, .int .i64 b1, .float .f64 b2, .string b3, .slice b4 b5 b6, .slice b7 b8 b9] 28)).cell? ((⟨w.heap.size, 0, none⟩ : Addr).add j) = some u := fun j u hj => by
  rw [Addr.add_lit, Nat.zero_add, World.cell?_alloc_new, ← hj]
  simp
theorem Past.grown {g : Nat} {a w w' : World} {row : Option Nat} (h : Past g a w) (hg : w.grownBy w' row) (hr : ∀ k, row = some k → a.heap.size ≤ k) : Past g a w' :=
  ⟨hg.os.trans h.os, hg.tape.trans h.tape, hg.output.trans h.output, Nat.le_trans h.size hg.size, fun k hk hn => (hg.block k (by have := h.size; omega) (fun e => by have := hr k e.symm; omega)).trans (h.block k hk hn)⟩
theorem VOwn.six {w : World} {P : Nat → Prop} {v : Array Value} {t : VT} (h : VOwn w P v t) {R : Nat} (hR : ¬ P R) (v0 v1 v2 v3 v4 v5 : Value) :
    VOwn ((((((w.setCell ⟨R, 0, none⟩ v0).setCell ⟨R, 1, none⟩ v1).setCell ⟨R, 2, none⟩ v2).setCell ⟨R, 3, none⟩ v3).setCell ⟨R, 4, none⟩ v4).setCell ⟨R, 5, none⟩ v5) P v t :=
  h.keep (by simp [World.setCell]) fun k hk _ => by
    have hne : ∀ o, k ≠ (⟨R, o, none⟩ : Addr).block := by intro o h; exact hR (by have h : k = R := h; subst h; exact hk)
    rw [Below.heap_setCell _ _ _ _ (hne 5), Below.heap_setCell _ _ _ _ (hne 4), Below.heap_setCell _ _ _ _ (hne 3), Below.heap_setCell _ _ _ _ (hne 2), Below.heap_setCell _ _ _ _ (hne 1), Below.heap_setCell _ _ _ _ (hne 0)]
/-- One item more, in memory: what was gathered is as it was, and the new one lies behind it. -/
theorem Its.step {wr w4 w5 : World} {g base V : Nat} {itv : Value} {L : List (Array Value × VT)} {v : Array Value} {t : VT} {x : Obj} {itv5 u : Value} (h : Its wr base (fun b => base ≤ b ∧ itv.ownBlock ≠ some b) itv L) (hp : Past g wr w4) (hg : g < base) (hV : V < base) (hbr : base ≤ wr.heap.size)
    (hv : VOwn w4 (fun b => wr.heap.size ≤ b) v t) (hown : w5.ownsRow base 28 6 itv5 (L.length + 1) ((L.map (·.1.toList)).flatten ++ v.toList)) (hgrow : (w4.alloc x).grownBy w5 itv.ownBlock)
    (hat : itv5.ownBlock = itv.ownBlock ∨ itv5.ownBlock = some (w4.alloc x).heap.size) :
    Its (w5.setCell ⟨V, 5, none⟩ u) base (fun b => base ≤ b ∧ itv5.ownBlock ≠ some b) itv5 (L ++ [(v, t)]) := by
  have hlt := h.1.lt
  refine ⟨ownsRow_setCell_below (by simpa using hown) hV _, fun y hy => ?_⟩
  have keep : ∀ {P : Nat → Prop} {v' : Array Value} {t' : VT}, VOwn w4 P v' t' → (∀ b, P b → itv.ownBlock ≠ some b) → (∀ b, P b → V ≠ b) → VOwn (w5.setCell ⟨V, 5, none⟩ u) P v' t' := fun hh h1 h2 =>
    hh.keep (by have := hgrow.size; simp at this; simp [World.setCell]; omega) fun k hk hlt => by
      rw [Below.heap_setCell _ _ _ _ (by have := h2 k hk; simp; omega), hgrow.block k (by simp; omega) (fun e => h1 k hk e.symm), Below.heap_alloc _ _ _ hlt]
  have fresh : ∀ b, b < w4.heap.size → itv.ownBlock ≠ some b → itv5.ownBlock ≠ some b := fun b hb hn => by
    rcases hat with e | e
    · rw [e]; exact hn
    · rw [e]; simp; omega
  have size4 := hp.size
  rcases List.mem_append.1 hy with hy | hy
  · have ho := (h.2 y hy).past hp (fun hh => by have := hh.1; omega)
    refine ((keep (ho.imp (Q := fun b => (base ≤ b ∧ itv.ownBlock ≠ some b) ∧ b < w4.heap.size) fun b hb hl => ⟨hb, hl⟩) (fun b hb => hb.1.2) (fun b hb => by have := hb.1.1; omega))).imp fun b hb _ => ⟨hb.1.1, fresh b hb.2 hb.1.2⟩
  · obtain rfl : y = (v, t) := by simpa using hy
    refine ((keep (hv.imp (Q := fun b => wr.heap.size ≤ b ∧ b < w4.heap.size) fun b hb hl => ⟨hb, hl⟩) (fun b hb e => by have := (hlt b e).2; omega) (fun b hb => by omega))).imp fun b hb _ => ⟨by omega, fresh b hb.2 (fun e => by have := (hlt b e).2; omega)⟩
end Go.Proofs.YtekojglcbalhnaaGreatDoor
namespace Go.Proofs.YtekojglcbalhnaaGreatDoor
open Go.RowKit

theorem VEnds.form {s : ByteArray} {w w' : World} {g : Nat} {r : Except Nat (VT × Nat × List UInt8)} {x : Ending} (h : VEnds s w g r x w') :
    ∃ (b0 b1 : Int) (b2 : Nat) (b3 : ByteArray) (b4 : Option Addr) (b5 b6 : Nat) (b7 : Option Addr) (b8 b9 : Nat), x = .returned (.agg #[.int .i64 b0, .int .i64 b1, .float .f64 b2, .string b3, .slice b4 b5 b6, .slice b7 b8 b9]) := by
  obtain ⟨_, h⟩ := h
  cases r with
  | error c =>
    obtain ⟨⟨k, n, f, t, A, m, ca, B, m', cb, rfl⟩, _⟩ := h
    exact ⟨_, _, _, _, _, _, _, _, _, _, rfl⟩
  | ok q =>
    obtain ⟨t, p, l⟩ := q
    obtain ⟨⟨v, rfl, hv⟩, _⟩ := h
    obtain ⟨b0, b1, b2, b3, b4, b5, b6, b7, b8, b9, rfl⟩ := hv.val.eight
    exact ⟨_, _, _, _, _, _, _, _, _, _, rfl⟩
set_option maxRecDepth 20000 in
set_option maxHeartbeats 600000 in
theorem RValue_5 {w : World} {g : Nat} {s : ByteArray} {a p n : Nat} {d : Int} {l0 : List UInt8} {F : Nat → List UInt8 → Except Nat (VT × Nat × List UInt8)} (hd : -1000 ≤ d ∧ d ≤ 1000) (hF : ∀ p l t p' r, F p l = .ok (t, p', r) → p' ≤ 200)
    (ih : ∀ (w : World) (a p : Nat), Rdr w g s a 0 p → a ≤ s.size → p ≤ 200 → Calls Tryz.prog 115 #[.pointer (some ⟨g, 0, none⟩), .int .i64 (d + 1)] w fun x w' => VEnds s w g (F p (left s a)) x w')
    (hi : mP (left s (a + 1)) = .ok (n, l0)) (hn2 : n ≤ 200) (h : Rdr w g s a 0 p) (hp : ¬ (12 < d ∨ 200 < p + 1)) (ha : a < s.size) (hs : s.size ≤ 1000000000) (hkb : ((s[a].toNat : Nat) : Int) = 5) :
    Calls Tryz.prog 115 #[.pointer (some ⟨g, 0, none⟩), .int .i64 d] w fun x w' => VEnds s w g (endP 5 (itemsP F 5 n (p + 1) l0)) x w' := by
  have hW : Past g w (w.alloc (.cells #[.int .i64 0, .int .i64 0, .float .f64 0, .string ⟨#[]⟩, .slice none 0 0, .slice none 0 0] 28)) := (Past.refl g w).alloc _
  have hR := Bx.new w #[.int .i64 0, .int .i64 0, .float .f64 0, .string ⟨#[]⟩, .slice none 0 0, .slice none 0 0]
  have hg := h.lt
  have B := begin_ok (d := d) (h.alloc (.cells #[.int .i64 0, .int .i64 0, .float .f64 0, .string ⟨#[]⟩, .slice none 0 0, .slice none 0 0] 28)) (by omega)
  rw [if_neg (by omega)] at B
  have HR := Lib.hid hR
  have HW := Lib.hid hW
  have HG := Lib.hid hg
  have HP := Lib.hid hp
  have HI := Lib.hid hi
  have HIH := Lib.hid ih
  have HFF := Lib.hid hF
  have SF := float_store
  obtain ⟨i0, hii, hz0, hz1, hz2⟩ := info_parts info27z
  have hn3 : (n : Int) ≤ 200 := by omega
  clear h hR hW hp hi ih hF
  go_enter Tryz.func115, Tryz.ntmps115
  go_wp2_with (first
    | (go_at_call 144; refine B.mono ?_; rintro x w1 ⟨rfl, hp1, h1⟩; have Y := Byte_ok h1 ha (by omega); rw [hkb] at Y)
    | (go_at_call 49; refine Y.mono ?_; rintro x w2 ⟨rfl, h2, hp2⟩; obtain ⟨d0, d1, d2, d3, df⟩ := h2.cells; have hg2 : g < w2.heap.size := h2.lt; have hR2 := HR.out.past (hp1.trans hp2) (by have := HG.out; omega); obtain ⟨r0, r1, r2, r3, r4, r5, rf, rl⟩ := hR2.cells; have h2v := h2.alloc (.cells #[.int .i64 5, .int .i64 0, .float .f64 0, .string ⟨#[]⟩, .slice none 0 0, .slice none 0 0] 28); have I := many_ok h2v ha hs; rw [HI.out] at I)
    | (go_at_call 147; refine I.mono ?_; rintro x w3 ⟨hp3, rfl, a3, ha3, hl3, h3⟩))
  obtain ⟨wv, hwv⟩ : ∃ wv, wv = w2.alloc (.cells #[.int .i64 5, .int .i64 0, .float .f64 0, .string ⟨#[]⟩, .slice none 0 0, .slice none 0 0] 28) := ⟨_, rfl⟩
  rw [← hwv] at h2v hp3
  have hV0 : Bx wv w2.heap.size #[.int .i64 5, .int .i64 0, .float .f64 0, .string ⟨#[]⟩, .slice none 0 0, .slice none 0 0] := by rw [hwv]; exact Bx.new _ _
  have hRv : Bx wv w.heap.size #[.int .i64 0, .int .i64 0, .float .f64 0, .string ⟨#[]⟩, .slice none 0 0, .slice none 0 0] := by rw [hwv]; exact hR2.alloc _
  have hPv : Past g w wv := by rw [hwv]; exact HW.out.trans (hp1.trans (hp2.trans ((Past.refl _ _).alloc _)))
  have hgs : w.heap.size < w2.heap.size ∧ g < w2.heap.size ∧ g + 1 ≤ w.heap.size := ⟨rl, hg2, hg⟩
  have hws : w2.heap.size < wv.heap.size := by rw [hwv]; simp
  have HV3 := Lib.hid (hV0.past hp3 (by omega))
  have HR3 := Lib.hid (hRv.past hp3 (by omega))
  have HP3 := Lib.hid (hPv.trans hp3)
  have H3 := Lib.hid h3
  have HGS := Lib.hid hgs
  have HL3 := Lib.hid hl3
  have HW3 := Lib.hid (show w2.heap.size < w3.heap.size by have := hp3.size; omega)
  have hb3 : w.heap.size ≤ w3.heap.size := by have := hp3.size; omega
  have HB3 := Lib.hid hb3
  clear hb3
  clear hwv hV0 hRv hPv h2v Y B I h1 hp1 hp2 hR2 r0 r1 r2 r3 r4 r5 rf rl d0 d1 d2 d3 df h2 hgs hws h3 hl3 hp3
  go_loopw [9] (fun iv wr => ∃ (i : Nat), i ≤ n ∧ iv = .int .i64 i ∧ Past g w wr ∧ w3.heap.size ≤ wr.heap.size ∧ Bx wr w.heap.size #[.int .i64 0, .int .i64 0, .float .f64 0, .string ⟨#[]⟩, .slice none 0 0, .slice none 0 0] ∧
    ((∃ (L : List (Array Value × VT)) (xs : List (ByteArray × VT)) (itv : Value) (pp aa : Nat), L.length = i ∧ xs.map (·.2) = L.map (·.2) ∧ Hid (itemsP F 5 n (p + 1) l0 = pre xs (itemsP F 5 (n - i) pp (left s aa))) ∧ aa ≤ s.size ∧ pp ≤ 200 ∧ Rdr wr g s aa 0 pp ∧ Its wr w3.heap.size (fun b => w3.heap.size ≤ b ∧ itv.ownBlock ≠ some b) itv L ∧ Bx wr w2.heap.size #[.int .i64 5, .int .i64 0, .float .f64 0, .string ⟨#[]⟩, .slice none 0 0, itv])
    ∨ (∃ (c aa pp : Nat) (B : Option Addr) (m cb : Nat), Hid (itemsP F 5 n (p + 1) l0 = .error c) ∧ c ≠ 0 ∧ pp ≤ 1000000 ∧ Rdr wr g s aa c pp ∧ Bx wr w2.heap.size #[.int .i64 5, .int .i64 0, .float .f64 0, .string ⟨#[]⟩, .slice none 0 0, .slice B m cb]))) (fun iv _ => n - (intOf iv).toNat)
  case atStart => exact ⟨0, by omega, rfl, HP3.out, Nat.le_refl _, HR3.out, .inl ⟨[], [], .slice none 0 0, p + 1, a3, rfl, rfl, Lib.hid (by rw [← HL3.out, pre_nil]; rfl), ha3, by have := HP.out; omega, H3.out, ⟨World.ownsRow_nil _ _ _ _, fun x hx => by cases hx⟩, HV3.out⟩⟩
  case round =>
    obtain ⟨i, hile, rfl, hpr, hsz, hRb, hst⟩ := hrel
    rcases hst with ⟨L, xs, itv, pp, aa, hLi, hx2, hit, haa, hpp, hr, hIts, hBx⟩ | ⟨c, aa, pp, B, m, cb, hit, hc0, hpp, hr, hBx⟩
    · by_cases hlt : i < n
      · obtain ⟨d0, d1, d2, d3, df⟩ := hr.cells
        obtain ⟨v0, v1, v2, v3, v4, v5, vf, vl⟩ := hBx.cells
        have ihc := HIH.out
        have hO := hIts.1
        have HBx := Lib.hid hBx
        have HR := Lib.hid hr
        have C := fun W (hW : Rdr W g s aa 0 pp) => ihc W aa pp hW haa hpp
        have hgw2 : w2.heap.size ≠ g := by have := HGS.out; omega
        have hg3 : g < w3.heap.size := by have := HGS.out; have := HW3.out; omega
        have hgwr : w2.heap.size < wr.heap.size := hBx.lt
        have hitne : itv.ownBlock ≠ some w2.heap.size := fun e => by have := hO.lt _ e; have := HW3.out; omega
        have hL : L.length ≤ 200 := by omega
        have HH := Lib.hid (And.intro hIts (And.intro hit (And.intro hx2 hLi)))
        have HPR := Lib.hid hpr
        have HSZ := Lib.hid hsz
        have HRB := Lib.hid hRb
        have hd1 : IntKind.i64.wrap (d + 1) = d + 1 := by rw [IntKind.wrap_i64]; omega
        clear hIts hBx hit hx2 hLi hpr ihc hsz hRb hr
        go_wp2_with fail
        go_region_law (first | (refine step_append_lies _ rfl (.tmp 66) (.tmp 71) 26 rfl w3.heap.size 28 i0 _ 6 88 Tryz.underlying26 hii hz0 hz1 hz2 rfl (by decide) itv L.length _ (by simp [Act.eval]) hO4 ⟨w4.heap.size, 0, none⟩ 1 1 [.int .i64 b0, .int .i64 b1, .float .f64 b2, .string b3, .slice b4 b5 b6, .slice b7 b8 b9] (by simp [Act.eval]) rfl hnews4 hone4 (by decide) (by unfold maxLen; omega) (by omega) hbase4 _ rfl ?_; intro g5 cap5 w5 hown5 hgrow5 hat5 hlt5; have hBx5 := (hgrow5.block w2.heap.size hBx4.lt (fun e => hitne e.symm)).trans hBx4; obtain ⟨z0, z1, z2, z3, z4, z5, zf, zl⟩ := Bx.cells hBx5) | (go_simp; go_at_call 115; refine (C _ (by exact HR.out)).mono ?_; rintro x w4 hE4; have hp4 := ((Past.refl g wr).drew).trans hE4.1; obtain ⟨b0, b1, b2, b3, b4, b5, b6, b7, b8, b9, rfl⟩ := hE4.form; obtain ⟨y0, y1, y2, y3, y4, y5, yf, yl⟩ := (HBx.out.past hp4 hgw2).cells; have hBx4 := (HBx.out.past hp4 hgw2).alloc (.cells #[.int .i64 b0, .int .i64 b1, .float .f64 b2, .string b3, .slice b4 b5 b6, .slice b7 b8 b9] 28); have hO4 := (owns_past hO hp4 hg3).alloc (.cells #[.int .i64 b0, .int .i64 b1, .float .f64 b2, .string b3, .slice b4 b5 b6, .slice b7 b8 b9] 28); have hnews4 := new6 w4 b0 b1 b2 b3 b4 b5 b6 b7 b8 b9; have hone4 : ∀ u ∈ [Value.int .i64 b0, .int .i64 b1, .float .f64 b2, .string b3, .slice b4 b5 b6, .slice b7 b8 b9], u.oneCell' = true := (by simp [Value.oneCell']); have hbase4 : w3.heap.size ≤ (w4.alloc (.cells #[.int .i64 b0, .int .i64 b1, .float .f64 b2, .string b3, .slice b4 b5 b6, .slice b7 b8 b9] 28)).heap.size := Nat.le_trans (Nat.le_trans HSZ.out hp4.size) (by simp); have HE4 := Lib.hid hE4; clear hE4))
        all_goals
          go_wp2_with fail
          go_roundw
          case measure => simp [intOf]; omega
          case rel =>
            have E := HE4.out
            obtain ⟨hIts, hit, hx2, hLi⟩ := HH.out
            have hlow : ∀ k, itv.ownBlock = some k → w3.heap.size ≤ k := fun k e => (hO.lt k e).1
            have hwR : w.heap.size ≠ g := by have := HG.out; omega
            have hw2R : w2.heap.size ≠ w.heap.size := by have := HGS.out; omega
            have hw3R : w.heap.size < w3.heap.size := by have := HGS.out; have := HW3.out; omega
            have hP5 := ((HPR.out.trans hp4).alloc (.cells #[.int .i64 b0, .int .i64 b1, .float .f64 b2, .string b3, .slice b4 b5 b6, .slice b7 b8 b9] 28)).grown hgrow5 (fun k e => Nat.le_trans HB3.out (hlow k e))
            have hP6 := hP5.setNew (Nat.le_of_lt HGS.out.1) 5 (.slice (some ⟨g5, 0, none⟩) (L.length + 1) cap5)
            have hR4 : Bx (w4.alloc (.cells #[.int .i64 b0, .int .i64 b1, .float .f64 b2, .string b3, .slice b4 b5 b6, .slice b7 b8 b9] 28)) w.heap.size #[.int .i64 0, .int .i64 0, .float .f64 0, .string ⟨#[]⟩, .slice none 0 0, .slice none 0 0] := (HRB.out.past hp4 hwR).alloc _
            have hR5 : Bx w5 w.heap.size #[.int .i64 0, .int .i64 0, .float .f64 0, .string ⟨#[]⟩, .slice none 0 0, .slice none 0 0] := (hgrow5.block w.heap.size hR4.lt (fun e => by have := hlow _ e.symm; omega)).trans hR4
            have hR6 := hR5.other hw2R 5 (.slice (some ⟨g5, 0, none⟩) (L.length + 1) cap5)
            have hV6 : Bx (w5.setCell ⟨w2.heap.size, 5, none⟩ (.slice (some ⟨g5, 0, none⟩) (L.length + 1) cap5)) w2.heap.size #[.int .i64 5, .int .i64 0, .float .f64 0, .string ⟨#[]⟩, .slice none 0 0, .slice (some ⟨g5, 0, none⟩) (L.length + 1) cap5] := Bx.set hBx5 5 _
            have hS6 : w3.heap.size ≤ (w5.setCell ⟨w2.heap.size, 5, none⟩ (.slice (some ⟨g5, 0, none⟩) (L.length + 1) cap5)).heap.size := by have := hgrow5.size; simp [World.setCell]; omega
            have rdr : ∀ {a e p : Int}, Rdr w4 g s a e p → Rdr (w5.setCell ⟨w2.heap.size, 5, none⟩ (.slice (some ⟨g5, 0, none⟩) (L.length + 1) cap5)) g s a e p := fun h4 => by
              have h4a := h4.alloc (.cells #[.int .i64 b0, .int .i64 b1, .float .f64 b2, .string b3, .slice b4 b5 b6, .slice b7 b8 b9] 28)
              exact Rdr.other ((hgrow5.block g h4a.lt (fun e => by have := hlow _ e.symm; omega)).trans h4a) hgw2 _ _
            have hni : n - i = (n - (i + 1)) + 1 := by omega
            refine ⟨i + 1, by omega, by go_num, hP6, hS6, hR6, ?_⟩
            cases hFe : F pp (left s aa) with
            | error c =>
              rw [hFe] at E
              obtain ⟨_, _, hc0, a', p', hp', h4⟩ := E
              exact .inr ⟨c, a', p', _, _, _, Lib.hid (by rw [hit.out, hni, itemsP_err5 hFe]; rfl), hc0, hp', rdr h4, hV6⟩
            | ok q =>
              obtain ⟨t, p1, l1⟩ := q
              rw [hFe] at E
              obtain ⟨_, ⟨v, hve, hv⟩, a4, ha4, hl4, h4⟩ := E
              cases hve
              have hv' := hv.imp (Q := fun b => wr.heap.size ≤ b) fun b hb _ => Nat.le_trans ((Past.refl g wr).drew).size hb
              exact .inl ⟨L ++ [(#[.int .i64 b0, .int .i64 b1, .float .f64 b2, .string b3, .slice b4 b5 b6, .slice b7 b8 b9], t)], xs ++ [(⟨#[]⟩, t)], _, p1, a4, by simp [hLi], by simp [hx2], Lib.hid (by rw [hit.out, hni, itemsP_ok5 hFe, pre_pre, hl4]), ha4, HFF.out _ _ _ _ _ hFe, rdr h4, hIts.step hp4 hg3 HW3.out HSZ.out hv' hown5 hgrow5 (hat5.imp (fun e => e.symm) (fun e => by rw [← e]; rfl)), hV6⟩
      · obtain ⟨d0, d1, d2, d3, df⟩ := hr.cells
        obtain rfl : i = n := by omega
        obtain ⟨A, c, ca, B, m, cb, e1, rfl, hvo⟩ := VOwn.tree (w := wr) (lo := w3.heap.size) (base := w3.heap.size) (k := 5) (nv := .slice none 0 0) (N := []) (.inl rfl) (Nat.le_refl _) (fun b hb => hb.1) ⟨World.ownsRow_nil _ _ _ _, fun x hx => by cases hx⟩ hIts rfl xs hx2 (fun h => by cases h)
        cases e1
        obtain ⟨v0, v1, v2, v3, v4, v5, vf, vl⟩ := hBx.cells
        obtain ⟨r0, r1, r2, r3, r4, r5, rf, rl⟩ := hRb.cells
        have hres : endP 5 (itemsP F 5 i (p + 1) l0) = .ok (treeOf 5 xs, pp, left s aa) := by
          rw [hit.out, Nat.sub_self, itemsP]
          simp [pre, endP]
        have HRES := Lib.hid hres
        have hwR : w.heap.size ≠ g := by have := HG.out; omega
        have hw3R : w.heap.size < w3.heap.size := by have := HGS.out; have := HW3.out; omega
        have HRb := Lib.hid hRb
        have HPr := Lib.hid hpr
        have HR0 := Lib.hid hr
        have HVO := Lib.hid hvo
        clear hRb hpr hr hvo hit hIts hBx hres
        go_wp2_with fail
        refine bodyPost_ret (results_six rfl _ _ w.heap.size (.int .i64 5) (.int .i64 0) (.float .f64 0) (.string ⟨#[]⟩) (.slice none 0 0) (.slice B m cb) rfl (HRb.out.six _ _ _ _ _ _)) rfl ?_
        show VEnds s w g (endP 5 (itemsP F 5 i (p + 1) l0)) _ _
        rw [HRES.out]
        refine ⟨?_, ⟨_, rfl, ?_⟩, aa, haa, rfl, ?_⟩
        · exact HPr.out.six (Nat.le_refl _) _ _ _ _ _ _
        · exact (HVO.out.six (by omega) _ _ _ _ _ _).imp fun b hb _ => by omega
        · exact HR0.out.six hwR _ _ _ _ _ _
    · obtain ⟨d0, d1, d2, d3, df⟩ := hr.cells
      obtain ⟨v0, v1, v2, v3, v4, v5, vf, vl⟩ := hBx.cells
      obtain ⟨r0, r1, r2, r3, r4, r5, rf, rl⟩ := hRb.cells
      have tc : ((c : Int) == 0) = false := by simp; omega
      have HIT := Lib.hid hit.out
      have hwR : w.heap.size ≠ g := by have := HG.out; omega
      have HRb := Lib.hid hRb
      have HPr := Lib.hid hpr
      have HR0 := Lib.hid hr
      clear hRb hpr hr hit hBx
      by_cases hlt : i < n
      all_goals
        go_wp2_with fail
        refine bodyPost_ret (results_six rfl _ _ w.heap.size (.int .i64 5) (.int .i64 0) (.float .f64 0) (.string ⟨#[]⟩) (.slice none 0 0) (.slice B m cb) rfl (HRb.out.six _ _ _ _ _ _)) rfl ?_
        show VEnds s w g (endP 5 (itemsP F 5 n (p + 1) l0)) _ _
        rw [HIT.out]
        refine ⟨?_, ⟨5, 0, 0, ⟨#[]⟩, none, 0, 0, B, m, cb, rfl⟩, hc0, aa, pp, hpp, ?_⟩
        · exact HPr.out.six (Nat.le_refl _) _ _ _ _ _ _
        · exact HR0.out.six hwR _ _ _ _ _ _
end Go.Proofs.YtekojglcbalhnaaGreatDoor
namespace Go.Proofs.YtekojglcbalhnaaGreatDoor
open Go.RowKit

set_option maxRecDepth 20000 in
set_option maxHeartbeats 4000000 in
theorem RValue_5e {w : World} {g : Nat} {s : ByteArray} {a p : Nat} {d : Int} {c : Nat} (hi : mP (left s (a + 1)) = .error c) (h : Rdr w g s a 0 p) (hp : ¬ (12 < d ∨ 200 < p + 1)) (ha : a < s.size) (hs : s.size ≤ 1000000000) (hkb : ((s[a].toNat : Nat) : Int) = 5) :
    Calls Tryz.prog 115 #[.pointer (some ⟨g, 0, none⟩), .int .i64 d] w fun x w' => VEnds s w g (.error c) x w' := by
  have hW : Past g w (w.alloc (.cells #[.int .i64 0, .int .i64 0, .float .f64 0, .string ⟨#[]⟩, .slice none 0 0, .slice none 0 0] 28)) := (Past.refl g w).alloc _
  have hR := Bx.new w #[.int .i64 0, .int .i64 0, .float .f64 0, .string ⟨#[]⟩, .slice none 0 0, .slice none 0 0]
  have hg := h.lt
  have B := begin_ok (d := d) (h.alloc (.cells #[.int .i64 0, .int .i64 0, .float .f64 0, .string ⟨#[]⟩, .slice none 0 0, .slice none 0 0] 28)) (by omega)
  rw [if_neg (by omega)] at B
  have HR := Lib.hid hR
  have HW := Lib.hid hW
  have HG := Lib.hid hg
  have HP := Lib.hid hp
  have SF := float_store
  clear h hR hW hp
  go_enter Tryz.func115, Tryz.ntmps115
  go_wp2_with (first
    | (go_at_call 144; refine B.mono ?_; rintro x w1 ⟨rfl, hp1, h1⟩; have Y := Byte_ok h1 ha (by omega); rw [hkb] at Y)
    | (go_at_call 49; refine Y.mono ?_; rintro x w2 ⟨rfl, h2, hp2⟩; obtain ⟨d0, d1, d2, d3, df⟩ := h2.cells; have hg2 : g < w2.heap.size := h2.lt; have hR2 := HR.out.past (hp1.trans hp2) (by have := HG.out; omega); obtain ⟨r0, r1, r2, r3, r4, r5, rf, rl⟩ := hR2.cells; have h2v := h2.alloc (.cells #[.int .i64 5, .int .i64 0, .float .f64 0, .string ⟨#[]⟩, .slice none 0 0, .slice none 0 0] 28); have I := many_ok h2v ha hs; rw [hi] at I)
    | (go_at_call 147; refine I.mono ?_; rintro x w3 ⟨hp3, rfl, hc, a3, h3⟩))
  obtain ⟨wv, hwv⟩ : ∃ wv, wv = w2.alloc (.cells #[.int .i64 5, .int .i64 0, .float .f64 0, .string ⟨#[]⟩, .slice none 0 0, .slice none 0 0] 28) := ⟨_, rfl⟩
  rw [← hwv] at h2v hp3
  have hV0 : Bx wv w2.heap.size #[.int .i64 5, .int .i64 0, .float .f64 0, .string ⟨#[]⟩, .slice none 0 0, .slice none 0 0] := by rw [hwv]; exact Bx.new _ _
  have hRv : Bx wv w.heap.size #[.int .i64 0, .int .i64 0, .float .f64 0, .string ⟨#[]⟩, .slice none 0 0, .slice none 0 0] := by rw [hwv]; exact hR2.alloc _
  have hPv : Past g w wv := by rw [hwv]; exact HW.out.trans (hp1.trans (hp2.trans ((Past.refl _ _).alloc _)))
  have HV3 := Lib.hid (hV0.past hp3 (by omega))
  have HR3 := Lib.hid (hRv.past hp3 (by have := HG.out; omega))
  have HP3 := Lib.hid (hPv.trans hp3)
  have H3 := Lib.hid h3
  have hwR : w.heap.size ≠ g := by have := HG.out; omega
  have tc : ((c : Int) == 0) = false := by simp; omega
  clear hwv hV0 hRv hPv h2v Y B I h1 hp1 hp2 hR2 r0 r1 r2 r3 r4 r5 rf rl d0 d1 d2 d3 df h2 h3 hp3
  go_loopw [9] (fun iv wr => iv = .int .i64 0 ∧ wr = w3) (fun _ _ => 0)
  case atStart => exact ⟨rfl, rfl⟩
  case round =>
    obtain ⟨rfl, rfl⟩ := hrel
    obtain ⟨d0, d1, d2, d3, df⟩ := H3.out.cells
    obtain ⟨v0, v1, v2, v3, v4, v5, vf, vl⟩ := HV3.out.cells
    obtain ⟨r0, r1, r2, r3, r4, r5, rf, rl⟩ := HR3.out.cells
    go_wp2_with fail
    refine bodyPost_ret (results_six rfl _ _ w.heap.size (.int .i64 5) (.int .i64 0) (.float .f64 0) (.string ⟨#[]⟩) (.slice none 0 0) (.slice none 0 0) rfl (HR3.out.six _ _ _ _ _ _)) rfl ⟨?_, ⟨5, 0, 0, ⟨#[]⟩, none, 0, 0, none, 0, 0, rfl⟩, hc, a3, p + 1, by have := HP.out; omega, ?_⟩
    · exact HP3.out.six (Nat.le_refl _) _ _ _ _ _ _
    · exact H3.out.six hwR _ _ _ _ _ _
set_option maxRecDepth 20000 in
set_option maxHeartbeats 4000000 in
theorem RValue_6e {w : World} {g : Nat} {s : ByteArray} {a p : Nat} {d : Int} {c : Nat} (hi : mP (left s (a + 1)) = .error c) (h : Rdr w g s a 0 p) (hp : ¬ (12 < d ∨ 200 < p + 1)) (ha : a < s.size) (hs : s.size ≤ 1000000000) (hkb : ((s[a].toNat : Nat) : Int) = 6) :
    Calls Tryz.prog 115 #[.pointer (some ⟨g, 0, none⟩), .int .i64 d] w fun x w' => VEnds s w g (.error c) x w' := by
  have hW : Past g w (w.alloc (.cells #[.int .i64 0, .int .i64 0, .float .f64 0, .string ⟨#[]⟩, .slice none 0 0, .slice none 0 0] 28)) := (Past.refl g w).alloc _
  have hR := Bx.new w #[.int .i64 0, .int .i64 0, .float .f64 0, .string ⟨#[]⟩, .slice none 0 0, .slice none 0 0]
  have hg := h.lt
  have B := begin_ok (d := d) (h.alloc (.cells #[.int .i64 0, .int .i64 0, .float .f64 0, .string ⟨#[]⟩, .slice none 0 0, .slice none 0 0] 28)) (by omega)
  rw [if_neg (by omega)] at B
  have HR := Lib.hid hR
  have HW := Lib.hid hW
  have HG := Lib.hid hg
  have HP := Lib.hid hp
  have SF := float_store
  clear h hR hW hp
  go_enter Tryz.func115, Tryz.ntmps115
  go_wp2_with (first
    | (go_at_call 144; refine B.mono ?_; rintro x w1 ⟨rfl, hp1, h1⟩; have Y := Byte_ok h1 ha (by omega); rw [hkb] at Y)
    | (go_at_call 49; refine Y.mono ?_; rintro x w2 ⟨rfl, h2, hp2⟩; obtain ⟨d0, d1, d2, d3, df⟩ := h2.cells; have hg2 : g < w2.heap.size := h2.lt; have hR2 := HR.out.past (hp1.trans hp2) (by have := HG.out; omega); obtain ⟨r0, r1, r2, r3, r4, r5, rf, rl⟩ := hR2.cells; have h2v := h2.alloc (.cells #[.int .i64 6, .int .i64 0, .float .f64 0, .string ⟨#[]⟩, .slice none 0 0, .slice none 0 0] 28); have I := many_ok h2v ha hs; rw [hi] at I)
    | (go_at_call 147; refine I.mono ?_; rintro x w3 ⟨hp3, rfl, hc, a3, h3⟩))
  obtain ⟨wv, hwv⟩ : ∃ wv, wv = w2.alloc (.cells #[.int .i64 6, .int .i64 0, .float .f64 0, .string ⟨#[]⟩, .slice none 0 0, .slice none 0 0] 28) := ⟨_, rfl⟩
  rw [← hwv] at h2v hp3
  have hV0 : Bx wv w2.heap.size #[.int .i64 6, .int .i64 0, .float .f64 0, .string ⟨#[]⟩, .slice none 0 0, .slice none 0 0] := by rw [hwv]; exact Bx.new _ _
  have hRv : Bx wv w.heap.size #[.int .i64 0, .int .i64 0, .float .f64 0, .string ⟨#[]⟩, .slice none 0 0, .slice none 0 0] := by rw [hwv]; exact hR2.alloc _
  have hPv : Past g w wv := by rw [hwv]; exact HW.out.trans (hp1.trans (hp2.trans ((Past.refl _ _).alloc _)))
  have HV3 := Lib.hid (hV0.past hp3 (by omega))
  have HR3 := Lib.hid (hRv.past hp3 (by have := HG.out; omega))
  have HP3 := Lib.hid (hPv.trans hp3)
  have H3 := Lib.hid h3
  have hwR : w.heap.size ≠ g := by have := HG.out; omega
  have tc : ((c : Int) == 0) = false := by simp; omega
  clear hwv hV0 hRv hPv h2v Y B I h1 hp1 hp2 hR2 r0 r1 r2 r3 r4 r5 rf rl d0 d1 d2 d3 df h2 h3 hp3
  go_loopw [9] (fun iv wr => iv = .int .i64 0 ∧ wr = w3) (fun _ _ => 0)
  case atStart => exact ⟨rfl, rfl⟩
  case round =>
    obtain ⟨rfl, rfl⟩ := hrel
    obtain ⟨d0, d1, d2, d3, df⟩ := H3.out.cells
    obtain ⟨v0, v1, v2, v3, v4, v5, vf, vl⟩ := HV3.out.cells
    obtain ⟨r0, r1, r2, r3, r4, r5, rf, rl⟩ := HR3.out.cells
    go_wp2_with fail
    refine bodyPost_ret (results_six rfl _ _ w.heap.size (.int .i64 6) (.int .i64 0) (.float .f64 0) (.string ⟨#[]⟩) (.slice none 0 0) (.slice none 0 0) rfl (HR3.out.six _ _ _ _ _ _)) rfl ⟨?_, ⟨6, 0, 0, ⟨#[]⟩, none, 0, 0, none, 0, 0, rfl⟩, hc, a3, p + 1, by have := HP.out; omega, ?_⟩
    · exact HP3.out.six (Nat.le_refl _) _ _ _ _ _ _
    · exact H3.out.six hwR _ _ _ _ _ _
end Go.Proofs.YtekojglcbalhnaaGreatDoor
namespace Go.Proofs.YtekojglcbalhnaaGreatDoor
open Go.RowKit

theorem owns_keep {w w' : World} {base : Nat} {e : TypeId} {size : Nat} {v : Value} {n : Nat} {xs : List Value} (h : w.ownsRow base e size v n xs) (hk : ∀ k, v.ownBlock = some k → w'.heap[k]? = w.heap[k]?) : w'.ownsRow base e size v n xs := by
  obtain ⟨h1, h2⟩ := h
  refine ⟨h1, ?_⟩
  rcases h2 with h2 | ⟨k, cap, cur, hv, hb, hh, r⟩
  · exact .inl h2
  · exact .inr ⟨k, cap, cur, hv, hb, by rw [hk k (by subst hv; rfl)]; exact hh, r⟩
/-- The names and the items gathered so far, each in blocks of its own. -/
def Rec (w : World) (base : Nat) (nv : Value) (N : List ByteArray) (itv : Value) (L : List (Array Value × VT)) : Prop :=
  Nms w base nv N ∧ Its w base (fun b => base ≤ b ∧ itv.ownBlock ≠ some b ∧ nv.ownBlock ≠ some b) itv L ∧ ∀ k, itv.ownBlock = some k → nv.ownBlock ≠ some k
theorem Rec.name {wr w4 w5 : World} {g base V : Nat} {nv itv : Value} {N : List ByteArray} {L : List (Array Value × VT)} {t : ByteArray} {x : Obj} {nv5 u : Value} (h : Rec wr base nv N itv L) (hp : Past g wr w4) (hg : g < base) (hV : V < base)
    (ht : t.size ≤ maxLen) (hown : w5.ownsRow base 9 1 nv5 (N.length + 1) (N.map Value.string ++ [.string t])) (hgrow : (w4.alloc x).grownBy w5 nv.ownBlock)
    (hat : nv5.ownBlock = nv.ownBlock ∨ nv5.ownBlock = some (w4.alloc x).heap.size) :
    Rec (w5.setCell ⟨V, 4, none⟩ u) base nv5 (N ++ [t]) itv L := by
  obtain ⟨⟨hN, hNs⟩, ⟨hI, hL⟩, hd⟩ := h
  have size4 := hp.size
  have hlt := hI.lt
  have fresh : ∀ b, b < w4.heap.size → nv.ownBlock ≠ some b → nv5.ownBlock ≠ some b := fun b hb hn => by
    rcases hat with e | e
    · rw [e]; exact hn
    · rw [e]; simp; omega
  refine ⟨⟨ownsRow_setCell_below (by simpa using hown) hV _, fun y hy => ?_⟩, ⟨?_, fun y hy => ?_⟩, fun k hk => fresh k (by have := (hlt k hk).2; omega) (hd k hk)⟩
  · rcases List.mem_append.1 hy with hy | hy
    · exact hNs y hy
    · obtain rfl : y = t := by simpa using hy
      exact ht
  · refine ownsRow_setCell_below (owns_keep hI fun k hk => ?_) hV _
    obtain ⟨h1, h2⟩ := hlt k hk
    exact (hgrow.block k (by simp; omega) (fun e => hd k hk e.symm)).trans ((Below.heap_alloc _ _ _ (by omega)).trans (hp.block k h2 (by omega)))
  · have ho := ((hL y hy).past hp (fun hh => by have := hh.1; omega)).imp (Q := fun b => (base ≤ b ∧ itv.ownBlock ≠ some b ∧ nv.ownBlock ≠ some b) ∧ b < w4.heap.size) fun b hb hl => ⟨hb, hl⟩
    refine (ho.keep (w' := w5.setCell ⟨V, 4, none⟩ u) (by have := hgrow.size; simp at this; simp [World.setCell]; omega) fun k hk hl => ?_).imp fun b hb _ => ⟨hb.1.1, hb.1.2.1, fresh b hb.2 hb.1.2.2⟩
    rw [Below.heap_setCell _ _ _ _ (by have := hk.1.1; simp; omega), hgrow.block k (by simp; omega) (fun e => hk.1.2.2 e.symm), Below.heap_alloc _ _ _ hl]
theorem Rec.item {wr w4 w5 : World} {g base V : Nat} {nv itv : Value} {N : List ByteArray} {L : List (Array Value × VT)} {v : Array Value} {t : VT} {x : Obj} {itv5 u : Value} (h : Rec wr base nv N itv L) (hp : Past g wr w4) (hg : g < base) (hV : V < base) (hbr : base ≤ wr.heap.size)
    (hv : VOwn w4 (fun b => wr.heap.size ≤ b) v t) (hown : w5.ownsRow base 28 6 itv5 (L.length + 1) ((L.map (·.1.toList)).flatten ++ v.toList)) (hgrow : (w4.alloc x).grownBy w5 itv.ownBlock)
    (hat : itv5.ownBlock = itv.ownBlock ∨ itv5.ownBlock = some (w4.alloc x).heap.size) :
    Rec (w5.setCell ⟨V, 5, none⟩ u) base nv N itv5 (L ++ [(v, t)]) := by
  obtain ⟨⟨hN, hNs⟩, ⟨hI, hL⟩, hd⟩ := h
  have size4 := hp.size
  have hlt := hI.lt
  have hltN := hN.lt
  have fresh : ∀ b, b < w4.heap.size → itv.ownBlock ≠ some b → itv5.ownBlock ≠ some b := fun b hb hn => by
    rcases hat with e | e
    · rw [e]; exact hn
    · rw [e]; simp; omega
  have keep : ∀ {P : Nat → Prop} {v' : Array Value} {t' : VT}, VOwn w4 P v' t' → (∀ b, P b → itv.ownBlock ≠ some b) → (∀ b, P b → V ≠ b) → VOwn (w5.setCell ⟨V, 5, none⟩ u) P v' t' := fun hh h1 h2 =>
    hh.keep (by have := hgrow.size; simp at this; simp [World.setCell]; omega) fun k hk hlt => by
      rw [Below.heap_setCell _ _ _ _ (by have := h2 k hk; simp; omega), hgrow.block k (by simp; omega) (fun e => h1 k hk e.symm), Below.heap_alloc _ _ _ hlt]
  refine ⟨⟨?_, hNs⟩, ⟨ownsRow_setCell_below (by simpa using hown) hV _, fun y hy => ?_⟩, fun k hk hn => ?_⟩
  · refine ownsRow_setCell_below (owns_keep hN fun k hk => ?_) hV _
    obtain ⟨h1, h2⟩ := hltN k hk
    exact (hgrow.block k (by simp; omega) (fun e => hd k e.symm hk)).trans ((Below.heap_alloc _ _ _ (by omega)).trans (hp.block k h2 (by omega)))
  · rcases List.mem_append.1 hy with hy | hy
    · have ho := (hL y hy).past hp (fun hh => by have := hh.1; omega)
      refine ((keep (ho.imp (Q := fun b => (base ≤ b ∧ itv.ownBlock ≠ some b ∧ nv.ownBlock ≠ some b) ∧ b < w4.heap.size) fun b hb hl => ⟨hb, hl⟩) (fun b hb => hb.1.2.1) (fun b hb => by have := hb.1.1; omega))).imp fun b hb _ => ⟨hb.1.1, fresh b hb.2 hb.1.2.1, hb.1.2.2⟩
    · obtain rfl : y = (v, t) := by simpa using hy
      refine ((keep (hv.imp (Q := fun b => wr.heap.size ≤ b ∧ b < w4.heap.size) fun b hb hl => ⟨hb, hl⟩) (fun b hb e => by have := (hlt b e).2; omega) (fun b hb => by omega))).imp fun b hb _ => ⟨by omega, fresh b hb.2 (fun e => by have := (hlt b e).2; omega), fun e => by have := (hltN b e).2; omega⟩
  · have h2 := (hltN k hn).2
    exact fresh k (by omega) (fun e => hd k e hn) hk
/-! ### One step -/
def stepP (nm : ByteArray) (r : Except Nat (VT × Nat × List UInt8)) (K : Nat → List UInt8 → Except Nat (List (ByteArray × VT) × Nat × List UInt8)) : Except Nat (List (ByteArray × VT) × Nat × List UInt8) :=
  match r with
  | .error c => .error c
  | .ok (t, p1, l1) => pre [(nm, t)] (K p1 l1)
theorem itemsP6_ok {F : Nat → List UInt8 → Except Nat (VT × Nat × List UInt8)} {k p : Nat} {l l1 : List UInt8} {nm : ByteArray} (h : sP 30 l = .ok (nm, l1)) : itemsP F 6 (k + 1) p l = stepP nm (F p l1) (itemsP F 6 k) := by
  rw [itemsP, if_pos rfl, h]
  unfold stepP
  dsimp only
  cases F p l1 with
  | error c => rfl
  | ok q =>
    obtain ⟨t, p1, l2⟩ := q
    dsimp only
    cases itemsP F 6 k p1 l2 <;> rfl
theorem itemsP6_err {F : Nat → List UInt8 → Except Nat (VT × Nat × List UInt8)} {k p c : Nat} {l : List UInt8} (h : sP 30 l = .error c) (nm : ByteArray) : itemsP F 6 (k + 1) p l = stepP nm (.error c) (itemsP F 6 k) := by
  rw [itemsP, if_pos rfl, h]
  rfl
theorem sP_size {l r : List UInt8} {t : ByteArray} (h : sP 30 l = .ok (t, r)) : t.size ≤ maxLen := by
  unfold sP at h
  cases hu : uP 0 0 l with
  | error c => rw [hu] at h; cases h
  | ok q =>
    obtain ⟨n, r0⟩ := q
    rw [hu] at h
    dsimp only at h
    by_cases h1 : (30 : Int) < 0 ∨ (30 : Int) < n
    · rw [if_pos h1] at h; cases h
    · rw [if_neg h1] at h
      by_cases h2 : r0.length < n
      · rw [if_pos h2] at h; cases h
      · rw [if_neg h2] at h
        cases h
        have e : (strL (r0.take n)).size = (r0.take n).length := rfl
        rw [e, List.length_take]
        unfold maxLen
        omega
/-- A name is read, or the reader has failed: in both cases it is known how the item behind it is read. -/
theorem StrEnd {w w' : World} {g : Nat} {s : ByteArray} {aa pp : Nat} {d : Int} {x : Ending} {F : Nat → List UInt8 → Except Nat (VT × Nat × List UInt8)} (hF : ∀ p l t p' r, F p l = .ok (t, p', r) → p' ≤ 200)
    (ih : ∀ (w : World) (a p : Nat), Rdr w g s a 0 p → a ≤ s.size → p ≤ 200 → Calls Tryz.prog 115 #[.pointer (some ⟨g, 0, none⟩), .int .i64 (d + 1)] w fun x w' => VEnds s w g (F p (left s a)) x w') (hpp : pp ≤ 200)
    (h : Ends s w g pp (sP 30 (left s aa)) x w' (.string ⟨#[]⟩) (fun t => .string t)) :
    ∃ t, x = .returned (.string t) ∧ t.size ≤ maxLen ∧ Past g w w' ∧ ∃ (a4 e4 : Int) (r : Except Nat (VT × Nat × List UInt8)), Rdr w' g s a4 e4 pp ∧
      (∀ W, Rdr W g s a4 e4 pp → Calls Tryz.prog 115 #[.pointer (some ⟨g, 0, none⟩), .int .i64 (d + 1)] W fun x w' => VEnds s W g r x w') ∧
      (∀ k, itemsP F 6 (k + 1) pp (left s aa) = stepP t r (itemsP F 6 k)) ∧ ∀ t p1 l1, r = .ok (t, p1, l1) → p1 ≤ 200 := by
  cases hS : sP 30 (left s aa) with
  | error c =>
    rw [hS] at h
    obtain ⟨hp, rfl, hc, a, hr⟩ := h
    refine ⟨_, rfl, by decide, hp, a, c, .error c, hr, fun W hW => ?_, fun k => itemsP6_err hS _, fun t p1 l1 e => by cases e⟩
    refine (RValue_err hW (by omega) (by omega)).mono ?_
    rintro x w' ⟨rfl, h1, h2⟩
    exact ⟨h1, ⟨0, 0, 0, ⟨#[]⟩, none, 0, 0, none, 0, 0, rfl⟩, hc, a, pp + 1, by omega, h2⟩
  | ok q =>
    obtain ⟨t, l1⟩ := q
    rw [hS] at h
    obtain ⟨hp, rfl, a, ha, hl, hr⟩ := h
    subst hl
    exact ⟨t, rfl, sP_size hS, hp, a, 0, F pp (left s a), hr, fun W hW => ih W a pp hW ha hpp, fun k => itemsP6_ok hS, fun t p1 l1 e => hF _ _ _ _ _ e⟩
theorem new1 (w : World) (t : ByteArray) : ∀ (j : Nat) u, [Value.string t][j]? = some u → (w.alloc (.cells #[.string t] 9)).cell? ((⟨w.heap.size, 0, none⟩ : Addr).add j) = some u := fun j u hj => by
  rw [Addr.add_lit, Nat.zero_add, World.cell?_alloc_new, ← hj]
  simp
theorem info9z : (Tryz.prog.info? 9).map (fun i => (i.zero, i.size, i.bytes)) = some (some (.string ⟨#[]⟩), 1, 16) := by kernel_rfl
end Go.Proofs.YtekojglcbalhnaaGreatDoor

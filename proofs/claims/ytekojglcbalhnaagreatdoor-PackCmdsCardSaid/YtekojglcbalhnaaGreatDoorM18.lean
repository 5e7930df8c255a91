/-
  Contract of the program's readValue: lists.
  Contract of the program's readFields of values.
-/
import Derived.Test.YtekojglcbalhnaaGreatDoorM17
namespace Go.Proofs.YtekojglcbalhnaaGreatDoor
open Go.RowKit

theorem DVEnds.error {s : ByteArray} {w : World} {g : Nat} {c : Nat} {x : Ending} {w' : World} (h : DVEnds s w g (.error c) x w') : x = .panicked (errL c) ∧ Past g w w' := ⟨h.2, h.1⟩
theorem DVEnds.okay {s : ByteArray} {w : World} {g : Nat} {t : VT} {p : Nat} {l : List UInt8} {x : Ending} {w' : World} (h : DVEnds s w g (.ok (t, p, l)) x w') :
    ∃ (b0 b1 : Int) (b2 : Nat) (b3 : ByteArray) (b4 : Option Addr) (b5 b6 : Nat) (b7 : Option Addr) (b8 b9 : Nat), x = .returned (.agg #[.int .i64 b0, .int .i64 b1, .float .f64 b2, .string b3, .slice b4 b5 b6, .slice b7 b8 b9]) ∧ Past g w w' ∧ VOwn w' (fun b => w.heap.size ≤ b) #[.int .i64 b0, .int .i64 b1, .float .f64 b2, .string b3, .slice b4 b5 b6, .slice b7 b8 b9] t ∧ ∃ a : Nat, a ≤ s.size ∧ l = left s a ∧ Dr w' g s a p := by
  obtain ⟨hp, ⟨v, rfl, hv⟩, hr⟩ := h
  obtain ⟨b0, b1, b2, b3, b4, b5, b6, b7, b8, b9, rfl⟩ := hv.val.eight
  exact ⟨_, _, _, _, _, _, _, _, _, _, rfl, hp, hv, hr⟩
set_option maxRecDepth 20000 in
set_option maxHeartbeats 1000000 in
theorem rv_5e {w : World} {g : Nat} {s : ByteArray} {a p a1 : Nat} {d : Int} {c : Nat} (hk : kindP d p (left s a) = .ok (5, left s a1)) (hi : mP (left s a1) = .error c) (h : Dr w g s a p) (hp : p ≤ 200) (ha : a ≤ s.size) (hs : s.size ≤ 1000000000) :
    Calls Tryz.prog 167 #[.pointer (some ⟨g, 0, none⟩), .int .i64 d] w fun x w' => DVEnds s w g (.error c) x w' := by
  have hW : Past g w (w.alloc (.cells #[.int .i64 0, .int .i64 0, .float .f64 0, .string ⟨#[]⟩, .slice none 0 0, .slice none 0 0] 28)) := (Past.refl g w).alloc _
  have K := kind_any (d := d) (h.alloc (.cells #[.int .i64 0, .int .i64 0, .float .f64 0, .string ⟨#[]⟩, .slice none 0 0, .slice none 0 0] 28)) (by omega) ha hs
  rw [hk] at K
  have K' := K.mono fun e w1 h => DEnds.okay h
  have HW := Lib.hid hW
  have HI := Lib.hid hi
  have SF := float_store
  clear h hW K hk hi
  · go_enter Tryz.func167, Tryz.ntmps167
    go_wp2_with (first
      | (go_at_call 193; refine K'.mono ?_; rintro x w1 ⟨rfl, hp1, a2, ha2, hl2, h1⟩; have hP2 := (Past.refl g w1).alloc (.cells #[.int .i64 5, .int .i64 0, .float .f64 0, .string ⟨#[]⟩, .slice none 0 0, .slice none 0 0] 28); have h2 := h1.alloc (.cells #[.int .i64 5, .int .i64 0, .float .f64 0, .string ⟨#[]⟩, .slice none 0 0, .slice none 0 0] 28); have C := readCount_ok h2 ha2 hs; rw [← hl2, HI.out] at C; have C' := C.mono fun e w1 h => DEnds.error h; clear C)
      | (go_at_call 198; refine C'.mono ?_; rintro x w3 ⟨rfl, hp3⟩))
    exact ⟨rfl, HW.out.trans (hp1.trans (hP2.trans hp3)), rfl⟩
set_option maxRecDepth 20000 in
set_option maxHeartbeats 600000 in
theorem rv_5 {w : World} {g : Nat} {s : ByteArray} {a p a1 n : Nat} {d : Int} {l0 : List UInt8} {F : Nat → List UInt8 → Except Nat (VT × Nat × List UInt8)} (hd : -1000 ≤ d ∧ d ≤ 1000) (hF : ∀ p l t p' r, F p l = .ok (t, p', r) → p' ≤ 200)
    (ih : ∀ (w : World) (a p : Nat), Dr w g s a p → a ≤ s.size → p ≤ 200 → Calls Tryz.prog 167 #[.pointer (some ⟨g, 0, none⟩), .int .i64 (d + 1)] w fun x w' => DVEnds s w g (F p (left s a)) x w')
    (hk : kindP d p (left s a) = .ok (5, left s a1)) (hi : mP (left s a1) = .ok (n, l0)) (hn2 : n ≤ 200) (h : Dr w g s a p) (hp : p < 200) (ha : a ≤ s.size) (hs : s.size ≤ 1000000000) :
    Calls Tryz.prog 167 #[.pointer (some ⟨g, 0, none⟩), .int .i64 d] w fun x w' => DVEnds s w g (endP 5 (itemsP F 5 n (p + 1) l0)) x w' := by
  have hW : Past g w (w.alloc (.cells #[.int .i64 0, .int .i64 0, .float .f64 0, .string ⟨#[]⟩, .slice none 0 0, .slice none 0 0] 28)) := (Past.refl g w).alloc _
  have hR := Bx.new w #[.int .i64 0, .int .i64 0, .float .f64 0, .string ⟨#[]⟩, .slice none 0 0, .slice none 0 0]
  have K := kind_any (d := d) (h.alloc (.cells #[.int .i64 0, .int .i64 0, .float .f64 0, .string ⟨#[]⟩, .slice none 0 0, .slice none 0 0] 28)) (by omega) ha hs
  rw [hk] at K
  have K' := K.mono fun e w1 h => DEnds.okay h
  have hg := h.lt
  have HR := Lib.hid hR
  have HW := Lib.hid hW
  have HG := Lib.hid hg
  have HI := Lib.hid hi
  have HIH := Lib.hid ih
  have HFF := Lib.hid hF
  have SF := float_store
  obtain ⟨i0, hii, hz0, hz1, hz2⟩ := info_parts info27z
  have hn3 : (n : Int) ≤ 200 := by omega
  clear h hR hW K hk hi ih hF
  go_enter Tryz.func167, Tryz.ntmps167
  go_wp2_with (first
    | (go_at_call 193; refine K'.mono ?_; rintro x w1 ⟨rfl, hp1, a2, ha2, hl2, h1⟩; have HL := Lib.hid hl2; have HA := Lib.hid ha2; have HP1 := Lib.hid hp1; have hP2 := (Past.refl g w1).alloc (.cells #[.int .i64 5, .int .i64 0, .float .f64 0, .string ⟨#[]⟩, .slice none 0 0, .slice none 0 0] 28); have h2 := h1.alloc (.cells #[.int .i64 5, .int .i64 0, .float .f64 0, .string ⟨#[]⟩, .slice none 0 0, .slice none 0 0] 28); have hlt1 := h1.lt; have C := readCount_ok h2 HA.out hs; rw [← HL.out, HI.out] at C; have C' := C.mono fun e w1 h => DEnds.okay h; clear C hl2 ha2 h1 h2 hp1)
    | (go_at_call 198; refine C'.mono ?_; rintro x w3 ⟨rfl, hp3, a3, ha3, hl3, h3⟩; have hgw : g ≠ w.heap.size := (by have := HG.out; omega); have hR1 := HR.out.past HP1.out hgw.symm; have hlt := hR1.lt; have hR3 := (hR1.alloc (.cells #[.int .i64 5, .int .i64 0, .float .f64 0, .string ⟨#[]⟩, .slice none 0 0, .slice none 0 0] 28)).past hp3 hgw.symm; have hV3 := (Bx.new w1 #[.int .i64 5, .int .i64 0, .float .f64 0, .string ⟨#[]⟩, .slice none 0 0, .slice none 0 0]).past hp3 (by omega)))
  have hgs : w.heap.size < w1.heap.size ∧ g < w1.heap.size ∧ g + 1 ≤ w.heap.size := ⟨hlt, hlt1, hg⟩
  have HV3 := Lib.hid hV3
  have HR3 := Lib.hid hR3
  have HP3 := Lib.hid (HW.out.trans (HP1.out.trans (hP2.trans hp3)))
  have H3 := Lib.hid h3
  have HGS := Lib.hid hgs
  have HL3 := Lib.hid hl3
  have HA3 := Lib.hid ha3
  have HW3 := Lib.hid (show w1.heap.size < w3.heap.size by have := hp3.size; simp at this; omega)
  have hb3 : w.heap.size ≤ w3.heap.size := by have := HW3.out; omega
  have HB3 := Lib.hid hb3
  have HPP := Lib.hid hp
  clear hb3 hV3 hR3 hP2 hp3 h3 hgs hl3 ha3 hlt hlt1 hg C' K' HP1 HL HI HR HW HA hp
  generalize w1.heap.size = V at *
  go_loopw [37] (fun iv wr => ∃ (i : Nat), i ≤ n ∧ iv = .int .i64 i ∧ Past g w wr ∧ w3.heap.size ≤ wr.heap.size ∧ Bx wr w.heap.size #[.int .i64 0, .int .i64 0, .float .f64 0, .string ⟨#[]⟩, .slice none 0 0, .slice none 0 0] ∧
    (∃ (L : List (Array Value × VT)) (xs : List (ByteArray × VT)) (itv : Value) (pp aa : Nat), L.length = i ∧ xs.map (·.2) = L.map (·.2) ∧ Hid (itemsP F 5 n (p + 1) l0 = pre xs (itemsP F 5 (n - i) pp (left s aa))) ∧ aa ≤ s.size ∧ pp ≤ 200 ∧ Dr wr g s aa pp ∧ Its wr w3.heap.size (fun b => w3.heap.size ≤ b ∧ itv.ownBlock ≠ some b) itv L ∧ Bx wr V #[.int .i64 5, .int .i64 0, .float .f64 0, .string ⟨#[]⟩, .slice none 0 0, itv])) (fun iv _ => n - (intOf iv).toNat)
  case atStart => exact ⟨0, by omega, rfl, HP3.out, Nat.le_refl _, HR3.out, [], [], .slice none 0 0, p + 1, a3, rfl, rfl, Lib.hid (by rw [← HL3.out, pre_nil]; rfl), HA3.out, by have := HPP.out; omega, H3.out, ⟨World.ownsRow_nil _ _ _ _, fun x hx => by cases hx⟩, HV3.out⟩
  case round =>
    obtain ⟨i, hile, rfl, hpr, hsz, hRb, L, xs, itv, pp, aa, hLi, hx2, hit, haa, hpp, hr, hIts, hBx⟩ := hrel
    by_cases hlt : i < n
    · obtain ⟨v0, v1, v2, v3, v4, v5, vf, vl⟩ := hBx.cells
      have ihc := HIH.out
      have hO := hIts.1
      have HBx := Lib.hid hBx
      have HRd := Lib.hid hr
      have hgw2 : V ≠ g := by have := HGS.out; omega
      have hg3 : g < w3.heap.size := by have := HGS.out; have := HW3.out; omega
      have hgwr : V < wr.heap.size := hBx.lt
      have hitne : itv.ownBlock ≠ some V := fun e => by have := hO.lt _ e; have := HW3.out; omega
      have hL : L.length ≤ 200 := by omega
      have hd1 : IntKind.i64.wrap (d + 1) = d + 1 := by rw [IntKind.wrap_i64]; omega
      have hni : n - i = (n - (i + 1)) + 1 := by omega
      have C : ∀ W, Dr W g s aa pp → Calls Tryz.prog 167 #[.pointer (some ⟨g, 0, none⟩), .int .i64 (d + 1)] W fun x w' => DVEnds s W g (F pp (left s aa)) x w' := fun W hW => ihc W aa pp hW haa hpp
      have HF2 : Hid ((∃ c, F pp (left s aa) = .error c) ∨ ∃ t p1 l1, F pp (left s aa) = .ok (t, p1, l1)) := Lib.hid (by
        cases F pp (left s aa) with
        | error c => exact .inl ⟨c, rfl⟩
        | ok z => exact .inr ⟨z.1, z.2.1, z.2.2, rfl⟩)
      have HH := Lib.hid (And.intro hIts (And.intro hit (And.intro hx2 hLi)))
      have HPR := Lib.hid hpr
      have HSZ := Lib.hid hsz
      have HRB := Lib.hid hRb
      clear hIts hBx hit hx2 hLi hpr ihc hsz hRb hr
      go_wp2_with fail
      go_region_law (first | (refine step_append_lies _ rfl (.tmp 40) (.tmp 45) 26 rfl w3.heap.size 28 i0 _ 6 88 Tryz.underlying26 hii hz0 hz1 hz2 rfl (by decide) itv L.length _ (by simp [Act.eval]) hO4 ⟨w4.heap.size, 0, none⟩ 1 1 [.int .i64 b0, .int .i64 b1, .float .f64 b2, .string b3, .slice b4 b5 b6, .slice b7 b8 b9] (by simp [Act.eval]) rfl hnews4 hone4 (by decide) (by unfold maxLen; omega) (by omega) hbase4 _ rfl ?_; intro g5 cap5 w5 hown5 hgrow5 hat5 hlt5; have hBx5 := (hgrow5.block V hBx4.lt (fun e => hitne e.symm)).trans hBx4; obtain ⟨z0, z1, z2, z3, z4, z5, zf, zl⟩ := Bx.cells hBx5) | (go_simp; go_at_call 167; refine (C _ (by exact HRd.out)).mono ?_; intro x w4 hE4; obtain ⟨c, hFe⟩ | ⟨t, p1, l1, hFe⟩ := HF2.out; (rw [hFe] at hE4; obtain ⟨rfl, hp4⟩ := DVEnds.error hE4; refine ⟨rfl, ?_⟩; show DVEnds s w g (endP 5 (itemsP F 5 n (p + 1) l0)) _ _; rw [HH.out.2.1.out, hni, itemsP_err5 hFe]; exact ⟨HPR.out.trans (((Past.refl g wr).drew).trans hp4), rfl⟩); rw [hFe] at hE4; have HFE := Lib.hid hFe; clear hFe; obtain ⟨b0, b1, b2, b3, b4, b5, b6, b7, b8, b9, rfl, hE4p, hE4⟩ := hE4.okay; have hp4 := ((Past.refl g wr).drew).trans hE4p; obtain ⟨y0, y1, y2, y3, y4, y5, yf, yl⟩ := (HBx.out.past hp4 hgw2).cells; have hBx4 := (HBx.out.past hp4 hgw2).alloc (.cells #[.int .i64 b0, .int .i64 b1, .float .f64 b2, .string b3, .slice b4 b5 b6, .slice b7 b8 b9] 28); have hO4 := (owns_past hO hp4 hg3).alloc (.cells #[.int .i64 b0, .int .i64 b1, .float .f64 b2, .string b3, .slice b4 b5 b6, .slice b7 b8 b9] 28); have hnews4 := new6 w4 b0 b1 b2 b3 b4 b5 b6 b7 b8 b9; have hone4 : ∀ u ∈ [Value.int .i64 b0, .int .i64 b1, .float .f64 b2, .string b3, .slice b4 b5 b6, .slice b7 b8 b9], u.oneCell' = true := (by simp [Value.oneCell']); have hbase4 : w3.heap.size ≤ (w4.alloc (.cells #[.int .i64 b0, .int .i64 b1, .float .f64 b2, .string b3, .slice b4 b5 b6, .slice b7 b8 b9] 28)).heap.size := Nat.le_trans (Nat.le_trans HSZ.out hp4.size) (by simp); have HE4 := Lib.hid hE4; clear hE4))
      all_goals
        go_wp2_with fail
        go_roundw
        case measure => simp [intOf]; omega
        case rel =>
          obtain ⟨hv, a4, ha4, hl4, h4⟩ := HE4.out
          obtain ⟨hIts, hit, hx2, hLi⟩ := HH.out
          have hlow : ∀ k, itv.ownBlock = some k → w3.heap.size ≤ k := fun k e => (hO.lt k e).1
          have hwR : w.heap.size ≠ g := by have := HG.out; omega
          have hw2R : V ≠ w.heap.size := by have := HGS.out; omega
          have hw3R : w.heap.size < w3.heap.size := by have := HGS.out; have := HW3.out; omega
          have hP5 := ((HPR.out.trans hp4).alloc (.cells #[.int .i64 b0, .int .i64 b1, .float .f64 b2, .string b3, .slice b4 b5 b6, .slice b7 b8 b9] 28)).grown hgrow5 (fun k e => Nat.le_trans HB3.out (hlow k e))
          have hP6 := hP5.setNew (Nat.le_of_lt HGS.out.1) 5 (.slice (some ⟨g5, 0, none⟩) (L.length + 1) cap5)
          have hR4 : Bx (w4.alloc (.cells #[.int .i64 b0, .int .i64 b1, .float .f64 b2, .string b3, .slice b4 b5 b6, .slice b7 b8 b9] 28)) w.heap.size #[.int .i64 0, .int .i64 0, .float .f64 0, .string ⟨#[]⟩, .slice none 0 0, .slice none 0 0] := (HRB.out.past hp4 hwR).alloc _
          have hR5 : Bx w5 w.heap.size #[.int .i64 0, .int .i64 0, .float .f64 0, .string ⟨#[]⟩, .slice none 0 0, .slice none 0 0] := (hgrow5.block w.heap.size hR4.lt (fun e => by have := hlow _ e.symm; omega)).trans hR4
          have hR6 := hR5.other hw2R 5 (.slice (some ⟨g5, 0, none⟩) (L.length + 1) cap5)
          have hV6 : Bx (w5.setCell ⟨V, 5, none⟩ (.slice (some ⟨g5, 0, none⟩) (L.length + 1) cap5)) V #[.int .i64 5, .int .i64 0, .float .f64 0, .string ⟨#[]⟩, .slice none 0 0, .slice (some ⟨g5, 0, none⟩) (L.length + 1) cap5] := Bx.set hBx5 5 _
          have hS6 : w3.heap.size ≤ (w5.setCell ⟨V, 5, none⟩ (.slice (some ⟨g5, 0, none⟩) (L.length + 1) cap5)).heap.size := by have := hgrow5.size; simp [World.setCell]; omega
          have h4a := h4.alloc (.cells #[.int .i64 b0, .int .i64 b1, .float .f64 b2, .string b3, .slice b4 b5 b6, .slice b7 b8 b9] 28)
          have hr6 := Dr.other ((hgrow5.block g h4a.lt (fun e => by have := hlow _ e.symm; omega)).trans h4a) hgw2 5 (.slice (some ⟨g5, 0, none⟩) (L.length + 1) cap5)
          have hv' := hv.imp (Q := fun b => wr.heap.size ≤ b) fun b hb _ => Nat.le_trans ((Past.refl g wr).drew).size hb
          refine ⟨i + 1, by omega, by go_num, hP6, hS6, hR6, ?_⟩
          exact ⟨L ++ [(#[.int .i64 b0, .int .i64 b1, .float .f64 b2, .string b3, .slice b4 b5 b6, .slice b7 b8 b9], t)], xs ++ [(⟨#[]⟩, t)], _, p1, a4, by simp [hLi], by simp [hx2], Lib.hid (by rw [hit.out, hni, itemsP_ok5 HFE.out, pre_pre, hl4]), ha4, HFF.out _ _ _ _ _ HFE.out, hr6, hIts.step hp4 hg3 HW3.out HSZ.out hv' hown5 hgrow5 (hat5.imp (fun e => e.symm) (fun e => by rw [← e]; rfl)), hV6⟩
    · obtain rfl : i = n := by omega
      obtain ⟨A, c, ca, B, m, cb, e1, rfl, hvo⟩ := VOwn.tree (w := wr) (lo := w3.heap.size) (base := w3.heap.size) (k := 5) (nv := .slice none 0 0) (N := []) (.inl rfl) (Nat.le_refl _) (fun b hb => hb.1) ⟨World.ownsRow_nil _ _ _ _, fun x hx => by cases hx⟩ hIts rfl xs hx2 (fun h => by cases h)
      cases e1
      obtain ⟨v0, v1, v2, v3, v4, v5, vf, vl⟩ := hBx.cells
      obtain ⟨r0, r1, r2, r3, r4, r5, rf, rl⟩ := hRb.cells
      have hres : endP 5 (itemsP F 5 i (p + 1) l0) = .ok (treeOf 5 xs, pp, left s aa) := by
        rw [hit.out, Nat.sub_self, itemsP]
        simp [pre, endP]
      have HRES := Lib.hid hres
      have hwR : w.heap.size ≠ g := by have := HG.out; omega
      have hw3R : w.heap.size < w3.heap.size := by have := HGS.out; have := HW3.out; omega
      have HRb := Lib.hid hRb
      have HPr := Lib.hid hpr
      have HR0 := Lib.hid hr
      have HVO := Lib.hid hvo
      clear hRb hpr hr hvo hit hIts hBx hres
      go_wp2_with fail
      refine bodyPost_ret (results_six rfl _ _ w.heap.size (.int .i64 5) (.int .i64 0) (.float .f64 0) (.string ⟨#[]⟩) (.slice none 0 0) (.slice B m cb) rfl (HRb.out.six _ _ _ _ _ _)) rfl ?_
      show DVEnds s w g (endP 5 (itemsP F 5 i (p + 1) l0)) _ _
      rw [HRES.out]
      refine ⟨?_, ⟨_, rfl, ?_⟩, aa, haa, rfl, ?_⟩
      · exact HPr.out.six (Nat.le_refl _) _ _ _ _ _ _
      · exact (HVO.out.six (by omega) _ _ _ _ _ _).imp fun b hb _ => by omega
      · exact HR0.out.six hwR _ _ _ _ _ _
end Go.Proofs.YtekojglcbalhnaaGreatDoor
namespace Go.Proofs.YtekojglcbalhnaaGreatDoor
open Go.RowKit

theorem Rec.name0 {wr w4 w5 : World} {g base : Nat} {nv itv : Value} {N : List ByteArray} {L : List (Array Value × VT)} {t : ByteArray} {x : Obj} {nv5 : Value} (h : Rec wr base nv N itv L) (hp : Past g wr w4) (hg : g < base)
    (ht : t.size ≤ maxLen) (hown : w5.ownsRow base 9 1 nv5 (N.length + 1) (N.map Value.string ++ [.string t])) (hgrow : (w4.alloc x).grownBy w5 nv.ownBlock)
    (hat : nv5.ownBlock = nv.ownBlock ∨ nv5.ownBlock = some (w4.alloc x).heap.size) :
    Rec w5 base nv5 (N ++ [t]) itv L := by
  obtain ⟨⟨hN, hNs⟩, ⟨hI, hL⟩, hd⟩ := h
  have size4 := hp.size
  have hlt := hI.lt
  have fresh : ∀ b, b < w4.heap.size → nv.ownBlock ≠ some b → nv5.ownBlock ≠ some b := fun b hb hn => by
    rcases hat with e | e
    · rw [e]; exact hn
    · rw [e]; simp; omega
  refine ⟨⟨by simpa using hown, fun y hy => ?_⟩, ⟨?_, fun y hy => ?_⟩, fun k hk => fresh k (by have := (hlt k hk).2; omega) (hd k hk)⟩
  · rcases List.mem_append.1 hy with hy | hy
    · exact hNs y hy
    · obtain rfl : y = t := by simpa using hy
      exact ht
  · refine owns_keep hI fun k hk => ?_
    obtain ⟨h1, h2⟩ := hlt k hk
    exact (hgrow.block k (by simp; omega) (fun e => hd k hk e.symm)).trans ((Below.heap_alloc _ _ _ (by omega)).trans (hp.block k h2 (by omega)))
  · have ho := ((hL y hy).past hp (fun hh => by have := hh.1; omega)).imp (Q := fun b => (base ≤ b ∧ itv.ownBlock ≠ some b ∧ nv.ownBlock ≠ some b) ∧ b < w4.heap.size) fun b hb hl => ⟨hb, hl⟩
    refine (ho.keep (w' := w5) (by have := hgrow.size; simp at this; omega) fun k hk hl => ?_).imp fun b hb _ => ⟨hb.1.1, hb.1.2.1, fresh b hb.2 hb.1.2.2⟩
    rw [hgrow.block k (by simp; omega) (fun e => hk.1.2.2 e.symm), Below.heap_alloc _ _ _ hl]
theorem Rec.item0 {wr w4 w5 : World} {g base : Nat} {nv itv : Value} {N : List ByteArray} {L : List (Array Value × VT)} {v : Array Value} {t : VT} {x : Obj} {itv5 : Value} (h : Rec wr base nv N itv L) (hp : Past g wr w4) (hg : g < base) (hbr : base ≤ wr.heap.size)
    (hv : VOwn w4 (fun b => wr.heap.size ≤ b) v t) (hown : w5.ownsRow base 28 6 itv5 (L.length + 1) ((L.map (·.1.toList)).flatten ++ v.toList)) (hgrow : (w4.alloc x).grownBy w5 itv.ownBlock)
    (hat : itv5.ownBlock = itv.ownBlock ∨ itv5.ownBlock = some (w4.alloc x).heap.size) :
    Rec w5 base nv N itv5 (L ++ [(v, t)]) := by
  obtain ⟨⟨hN, hNs⟩, ⟨hI, hL⟩, hd⟩ := h
  have size4 := hp.size
  have hlt := hI.lt
  have hltN := hN.lt
  have fresh : ∀ b, b < w4.heap.size → itv.ownBlock ≠ some b → itv5.ownBlock ≠ some b := fun b hb hn => by
    rcases hat with e | e
    · rw [e]; exact hn
    · rw [e]; simp; omega
  have keep : ∀ {P : Nat → Prop} {v' : Array Value} {t' : VT}, VOwn w4 P v' t' → (∀ b, P b → itv.ownBlock ≠ some b) → VOwn w5 P v' t' := fun hh h1 =>
    hh.keep (by have := hgrow.size; simp at this; omega) fun k hk hlt => by
      rw [hgrow.block k (by simp; omega) (fun e => h1 k hk e.symm), Below.heap_alloc _ _ _ hlt]
  refine ⟨⟨?_, hNs⟩, ⟨by simpa using hown, fun y hy => ?_⟩, fun k hk hn => ?_⟩
  · refine owns_keep hN fun k hk => ?_
    obtain ⟨h1, h2⟩ := hltN k hk
    exact (hgrow.block k (by simp; omega) (fun e => hd k e.symm hk)).trans ((Below.heap_alloc _ _ _ (by omega)).trans (hp.block k h2 (by omega)))
  · rcases List.mem_append.1 hy with hy | hy
    · have ho := (hL y hy).past hp (fun hh => by have := hh.1; omega)
      refine ((keep (ho.imp (Q := fun b => (base ≤ b ∧ itv.ownBlock ≠ some b ∧ nv.ownBlock ≠ some b) ∧ b < w4.heap.size) fun b hb hl => ⟨hb, hl⟩) (fun b hb => hb.1.2.1))).imp fun b hb _ => ⟨hb.1.1, fresh b hb.2 hb.1.2.1, hb.1.2.2⟩
    · obtain rfl : y = (v, t) := by simpa using hy
      refine ((keep (hv.imp (Q := fun b => wr.heap.size ≤ b ∧ b < w4.heap.size) fun b hb hl => ⟨hb, hl⟩) (fun b hb e => by have := (hlt b e).2; omega))).imp fun b hb _ => ⟨by omega, fresh b hb.2 (fun e => by have := (hlt b e).2; omega), fun e => by have := (hltN b e).2; omega⟩
  · have h2 := (hltN k hn).2
    exact fresh k (by omega) (fun e => hd k e hn) hk
/-- How the program's reading of a record's fields ends. -/
def RFEnds (s : ByteArray) (w : World) (g : Nat) (r : Except Nat (List (ByteArray × VT) × Nat × List UInt8)) (x : Ending) (w' : World) : Prop :=
  Past g w w' ∧ match r with
  | .error c => x = .panicked (errL c)
  | .ok (xs, p, l) => (∃ nv itv N L, x = .returned (.tuple #[nv, itv]) ∧ (∃ B, w.heap.size ≤ B ∧ Rec w' B nv N itv L) ∧ N.length = xs.length ∧ L.length = xs.length ∧ xs.map (·.2) = L.map (·.2) ∧ xs.map (·.1) = N) ∧ ∃ a : Nat, a ≤ s.size ∧ l = left s a ∧ Dr w' g s a p
set_option maxRecDepth 20000 in
set_option maxHeartbeats 600000 in
theorem rf_ok {w : World} {g : Nat} {s : ByteArray} {a p n : Nat} {d : Int} {l0 : List UInt8} {F : Nat → List UInt8 → Except Nat (VT × Nat × List UInt8)} (hd : -1000 ≤ d ∧ d ≤ 1000) (hF : ∀ p l t p' r, F p l = .ok (t, p', r) → p' ≤ 200)
    (ih : ∀ (w : World) (a p : Nat), Dr w g s a p → a ≤ s.size → p ≤ 200 → Calls Tryz.prog 167 #[.pointer (some ⟨g, 0, none⟩), .int .i64 (d + 1)] w fun x w' => DVEnds s w g (F p (left s a)) x w')
    (hi : mP (left s a) = .ok (n, l0)) (hn2 : n ≤ 200) (h : Dr w g s a p) (hp : p ≤ 200) (ha : a ≤ s.size) (hs : s.size ≤ 1000000000) :
    Calls Tryz.prog 199 #[.pointer (some ⟨g, 0, none⟩), .int .i64 d, (.func (.func 167) #[] #[])] w fun x w' => RFEnds s w g (itemsP F 6 n p l0) x w' := by
  have C := readCount_ok h ha hs
  rw [hi] at C
  have C' := C.mono fun e w1 h => DEnds.okay h
  have hg := h.lt
  have HG := Lib.hid hg
  have HIH := Lib.hid ih
  have HFF := Lib.hid hF
  have HPP := Lib.hid hp
  have hn3 : (n : Int) ≤ 200 := by omega
  obtain ⟨i0, hii, hz0, hz1, hz2⟩ := info_parts info27z
  obtain ⟨i9, hi9, hy0, hy1, hy2⟩ := info_parts info9z
  clear h hg C hi ih hF hp
  go_enter Tryz.func199, Tryz.ntmps199
  go_wp2_with (first
    | (go_at_call 198; refine C'.mono ?_; rintro x w3 ⟨rfl, hp3, a3, ha3, hl3, h3⟩; have hg3 : g < w3.heap.size := h3.lt))
  have HP3 := Lib.hid hp3
  have H3 := Lib.hid h3
  have HL3 := Lib.hid hl3
  have HA3 := Lib.hid ha3
  have hs3 := hp3.size
  clear hp3 h3 hl3 ha3 C'
  go_loopw [6, 7, 10] (fun nvv itvv iv wr => ∃ (i : Nat) (nv itv : Value), nv = nvv ∧ itv = itvv ∧ i ≤ n ∧ iv = .int .i64 i ∧ Past g w wr ∧ w3.heap.size ≤ wr.heap.size ∧
    (∃ (L : List (Array Value × VT)) (N : List ByteArray) (xs : List (ByteArray × VT)) (pp aa : Nat), L.length = i ∧ N.length = i ∧ xs.map (·.2) = L.map (·.2) ∧ xs.map (·.1) = N ∧ Hid (itemsP F 6 n p l0 = pre xs (itemsP F 6 (n - i) pp (left s aa))) ∧ aa ≤ s.size ∧ pp ≤ 200 ∧ Dr wr g s aa pp ∧ Rec wr w3.heap.size nv N itv L)) (fun _ _ iv _ => n - (intOf iv).toNat)
  case atStart => exact ⟨0, _, _, rfl, rfl, by omega, rfl, HP3.out, Nat.le_refl _, [], [], [], p, a3, rfl, rfl, rfl, rfl, Lib.hid (by rw [← HL3.out, pre_nil]; rfl), HA3.out, HPP.out, H3.out, ⟨⟨World.ownsRow_nil _ _ _ _, fun x hx => by cases hx⟩, ⟨World.ownsRow_nil _ _ _ _, fun x hx => by cases hx⟩, fun k hk => by cases hk⟩⟩
  case round =>
    obtain ⟨i, nv, itv, rfl, rfl, hile, rfl, hpr, hsz, L, N, xs, pp, aa, hLi, hNi, hx2, hx1, hit, haa, hpp, hr, hRec⟩ := hrel
    by_cases hlt : i < n
    · have S := readStr_ok (most := 30) hr haa hs (by omega)
      have hni : n - i = (n - (i + 1)) + 1 := by omega
      cases hsp : sP 30 (left s aa) with
      | error c =>
        rw [hsp] at S
        have S' := S.mono fun e w1 h => DEnds.error h
        have HRES := Lib.hid (show itemsP F 6 n p l0 = .error c by rw [hit.out, hni, itemsP6_err hsp ⟨#[]⟩]; rfl)
        have HPR := Lib.hid hpr
        clear S hit hpr hRec hr hx2 hx1 hsp
        go_wp2_with (first | (go_at_call 197; refine S'.mono ?_; rintro x w4 ⟨rfl, hp4⟩))
        refine ⟨rfl, ?_⟩
        show RFEnds s w g (itemsP F 6 n p l0) _ _
        rw [HRES.out]
        exact ⟨HPR.out.trans hp4, rfl⟩
      | ok z =>
        obtain ⟨t4, l4⟩ := z
        rw [hsp] at S
        have S' := S.mono fun e w1 h => DEnds.okay h
        have ihc := HIH.out
        have hON := hRec.1.1
        have hOI := hRec.2.1.1
        have hN200 : N.length ≤ 200 := by omega
        have hL200 : L.length ≤ 200 := by omega
        have ht4 := sP_size hsp
        have hd1 : IntKind.i64.wrap (d + 1) = d + 1 := by rw [IntKind.wrap_i64]; omega
        have hstep := itemsP6_ok (F := F) (k := n - (i + 1)) (p := pp) hsp
        have HST := Lib.hid hstep
        have HH := Lib.hid (And.intro hit (And.intro hx2 (And.intro hx1 (And.intro hLi hNi))))
        have HRec := Lib.hid hRec
        have HPR := Lib.hid hpr
        have HSZ := Lib.hid hsz
        have HT4 := Lib.hid ht4
        clear S hit hpr hRec hr hx2 hx1 hsp hstep hsz ht4 hLi hNi
        cases hFe : F pp l4 with
        | error c =>
          have HFE := Lib.hid hFe
          have C : ∀ W a4, l4 = left s a4 → a4 ≤ s.size → Dr W g s a4 pp → Calls Tryz.prog 167 #[.pointer (some ⟨g, 0, none⟩), .int .i64 (d + 1)] W fun x w' => x = .panicked (errL c) ∧ Past g W w' := fun W a4 e ha4 hW => by
            have := ihc W a4 pp hW ha4 hpp
            rw [← e, HFE.out] at this
            exact this.mono fun x w' h => h.error
          have HC := Lib.hid C
          clear hFe ihc C
          go_wp2_with (first
            | (at_builtin; refine wpList_append_lies _ rfl (.tmp 12) (.tmp 15) 25 rfl w3.heap.size 9 i9 _ 1 16 Tryz.underlying25 hi9 hy0 hy1 hy2 rfl (by decide) nv N.length _ rfl hO4 ⟨w4.heap.size, 0, none⟩ 1 1 [.string t4] rfl rfl hnews4 hone4 (by decide) (by unfold maxLen; omega) (by omega) hbase4 _ rfl ?_; intro g5 cap5 w5 hown5 hgrow5 hat5 hlt5; have hr5 := ((hgrow5.block g (by have := HD4.out.lt; simp; omega) (fun e => by have := (hO4.lt _ e.symm).1; omega)).trans (HD4.out.alloc (.cells #[.string t4] 9))); have C5 := HC.out w5 a4 HL4.out HA4.out hr5)
            | (go_at_call 197; refine S'.mono ?_; rintro x w4 ⟨rfl, hp4, a4, ha4, hl4, hr4⟩; have HL4 := Lib.hid hl4; have HA4 := Lib.hid ha4; have HD4 := Lib.hid hr4; have hO4 := (owns_past hON hp4 (by omega)).alloc (.cells #[.string t4] 9); have hnews4 := new1 w4 t4; have hone4 : ∀ u ∈ [Value.string t4], u.oneCell' = true := (by simp [Value.oneCell']); have hbase4 : w3.heap.size ≤ (w4.alloc (.cells #[.string t4] 9)).heap.size := Nat.le_trans (Nat.le_trans HSZ.out hp4.size) (by simp); clear hl4 ha4 hr4)
            | (go_at_call 167; refine C5.mono ?_; rintro x w6 ⟨rfl, hp6⟩))
          refine ⟨rfl, ?_⟩
          show RFEnds s w g (itemsP F 6 n p l0) _ _
          rw [HH.out.1.out, hni, HST.out, HFE.out]
          exact ⟨(((HPR.out.trans hp4).alloc (.cells #[.string t4] 9)).grown hgrow5 (fun k e => Nat.le_trans hs3 (hON.lt k e).1)).trans hp6, rfl⟩
        | ok z =>
          obtain ⟨t, p1, l1⟩ := z
          have HFE := Lib.hid hFe
          have C : ∀ W a4, l4 = left s a4 → a4 ≤ s.size → Dr W g s a4 pp → Calls Tryz.prog 167 #[.pointer (some ⟨g, 0, none⟩), .int .i64 (d + 1)] W fun x w' => DVEnds s W g (.ok (t, p1, l1)) x w' := fun W a4 e ha4 hW => by
            have := ihc W a4 pp hW ha4 hpp
            rw [← e, HFE.out] at this
            exact this
          have HC := Lib.hid C
          clear hFe ihc C
          go_wp2_with (first
            | (at_builtin; refine wpList_append_lies _ rfl (.tmp 12) (.tmp 15) 25 rfl w3.heap.size 9 i9 _ 1 16 Tryz.underlying25 hi9 hy0 hy1 hy2 rfl (by decide) nv N.length _ rfl hO4 ⟨w4.heap.size, 0, none⟩ 1 1 [.string t4] rfl rfl hnews4 hone4 (by decide) (by unfold maxLen; omega) (by omega) hbase4 _ rfl ?_; intro g5 cap5 w5 hown5 hgrow5 hat5 hlt5; have hr5 := ((hgrow5.block g (by have := HD4.out.lt; simp; omega) (fun e => by have := (hO4.lt _ e.symm).1; omega)).trans (HD4.out.alloc (.cells #[.string t4] 9))); have C5 := HC.out w5 a4 HL4.out HA4.out hr5; have hRec5 := HRec.out.name0 hp4 (by omega) HT4.out hown5 hgrow5 (hat5.imp (fun e => e.symm) (fun e => by rw [← e]; rfl)); have HP5 := Lib.hid (((HPR.out.trans hp4).alloc (.cells #[.string t4] 9)).grown hgrow5 (fun k e => Nat.le_trans hs3 (hON.lt k e).1)); have HS5 := Lib.hid (show w3.heap.size ≤ w5.heap.size from Nat.le_trans hbase4 hgrow5.size); have HRec5 := Lib.hid hRec5; clear hr5 hRec5 hO4 hnews4 hone4 hbase4 hat5 hgrow5 hown5)
            | (at_builtin; refine wpList_append_lies _ rfl (.tmp 17) (.tmp 23) 26 rfl w3.heap.size 28 i0 _ 6 88 Tryz.underlying26 hii hz0 hz1 hz2 rfl (by decide) itv L.length _ rfl hO7 ⟨w7.heap.size, 0, none⟩ 1 1 [.int .i64 b0, .int .i64 b1, .float .f64 b2, .string b3, .slice b4 b5 b6, .slice b7 b8 b9] rfl rfl hnews7 hone7 (by decide) (by unfold maxLen; omega) (by omega) hbase7 _ rfl ?_; intro g8 cap8 w8 hown8 hgrow8 hat8 hlt8; have HG8 := Lib.hid (And.intro hown8 (And.intro hgrow8 hat8)); clear hown8 hgrow8 hat8 hO7 hnews7 hone7 hbase7)
            | (go_at_call 197; refine S'.mono ?_; rintro x w4 ⟨rfl, hp4, a4, ha4, hl4, hr4⟩; have HL4 := Lib.hid hl4; have HA4 := Lib.hid ha4; have HD4 := Lib.hid hr4; have hO4 := (owns_past hON hp4 (by omega)).alloc (.cells #[.string t4] 9); have hnews4 := new1 w4 t4; have hone4 : ∀ u ∈ [Value.string t4], u.oneCell' = true := (by simp [Value.oneCell']); have hbase4 : w3.heap.size ≤ (w4.alloc (.cells #[.string t4] 9)).heap.size := Nat.le_trans (Nat.le_trans HSZ.out hp4.size) (by simp); clear hl4 ha4 hr4)
            | (go_at_call 167; refine C5.mono ?_; intro x w7 hE7; obtain ⟨b0, b1, b2, b3, b4, b5, b6, b7, b8, b9, rfl, hp7, hE7⟩ := hE7.okay; have hO7 := (owns_past HRec5.out.2.1.1 hp7 (by omega)).alloc (.cells #[.int .i64 b0, .int .i64 b1, .float .f64 b2, .string b3, .slice b4 b5 b6, .slice b7 b8 b9] 28); have hnews7 := new6 w7 b0 b1 b2 b3 b4 b5 b6 b7 b8 b9; have hone7 : ∀ u ∈ [Value.int .i64 b0, .int .i64 b1, .float .f64 b2, .string b3, .slice b4 b5 b6, .slice b7 b8 b9], u.oneCell' = true := (by simp [Value.oneCell']); have hbase7 : w3.heap.size ≤ (w7.alloc (.cells #[.int .i64 b0, .int .i64 b1, .float .f64 b2, .string b3, .slice b4 b5 b6, .slice b7 b8 b9] 28)).heap.size := Nat.le_trans (Nat.le_trans HS5.out hp7.size) (by simp); have HE7 := Lib.hid hE7; clear hE7))
          go_roundw
          case measure => simp [intOf]; omega
          case rel =>
            obtain ⟨hv, a7, ha7, hl7, h7⟩ := HE7.out
            obtain ⟨hown8, hgrow8, hat8⟩ := HG8.out
            obtain ⟨hit, hx2, hx1, hLi, hNi⟩ := HH.out
            have hI5 := HRec5.out.2.1.1
            have hlow : ∀ k, itv.ownBlock = some k → w3.heap.size ≤ k := fun k e => (hI5.lt k e).1
            have hP8 := ((HP5.out.trans hp7).alloc (.cells #[.int .i64 b0, .int .i64 b1, .float .f64 b2, .string b3, .slice b4 b5 b6, .slice b7 b8 b9] 28)).grown hgrow8 (fun k e => Nat.le_trans hs3 (hlow k e))
            have h7a := h7.alloc (.cells #[.int .i64 b0, .int .i64 b1, .float .f64 b2, .string b3, .slice b4 b5 b6, .slice b7 b8 b9] 28)
            have hr8 := (hgrow8.block g h7a.lt (fun e => by have := hlow _ e.symm; omega)).trans h7a
            have hS8 : w3.heap.size ≤ w8.heap.size := by have := hgrow8.size; have := hp7.size; have := HS5.out; simp at *; omega
            refine ⟨i + 1, _, _, rfl, rfl, by omega, by go_num, hP8, hS8, L ++ [(#[.int .i64 b0, .int .i64 b1, .float .f64 b2, .string b3, .slice b4 b5 b6, .slice b7 b8 b9], t)], N ++ [t4], xs ++ [(t4, t)], p1, a7, by simp [hLi], by simp [hNi], by simp [hx2], by simp [hx1], Lib.hid ?_, ha7, HFF.out _ _ _ _ _ HFE.out, hr8, ?_⟩
            · rw [hit.out, hni, HST.out, HFE.out, stepP_ok, pre_pre, hl7]
            · exact HRec5.out.item0 hp7 (by omega) HS5.out hv hown8 hgrow8 (hat8.imp (fun e => e.symm) (fun e => by rw [← e]; rfl))
    · obtain rfl : i = n := by omega
      have hres : itemsP F 6 i p l0 = .ok (xs, pp, left s aa) := by
        rw [hit.out, Nat.sub_self, itemsP]
        simp [pre]
      have HRES := Lib.hid hres
      have HPR := Lib.hid hpr
      have HRec := Lib.hid hRec
      have HR0 := Lib.hid hr
      have HH := Lib.hid (And.intro hx2 (And.intro hx1 (And.intro hLi hNi)))
      clear hres hpr hRec hr hx2 hx1 hit
      go_wp2_with fail
      refine bodyPost_ret (v := .tuple #[nv, itv]) (by simp [results, Tryz.results199, go_sem]) rfl ?_
      show RFEnds s w g (itemsP F 6 i p l0) _ _
      rw [HRES.out]
      obtain ⟨hx2, hx1, hLi, hNi⟩ := HH.out
      have e1 := congrArg List.length hx2
      have e2 := congrArg List.length hx1
      rw [List.length_map, List.length_map] at e1
      rw [List.length_map] at e2
      exact ⟨HPR.out, ⟨_, _, N, L, rfl, ⟨_, hs3, HRec.out⟩, e2.symm, e1.symm, hx2, hx1⟩, aa, haa, rfl, HR0.out⟩
set_option maxRecDepth 20000 in
theorem rf_err {w : World} {g : Nat} {s : ByteArray} {a p c : Nat} {d : Int} (hi : mP (left s a) = .error c) (h : Dr w g s a p) (ha : a ≤ s.size) (hs : s.size ≤ 1000000000) :
    Calls Tryz.prog 199 #[.pointer (some ⟨g, 0, none⟩), .int .i64 d, (.func (.func 167) #[] #[])] w fun x w' => RFEnds s w g (.error c) x w' := by
  have C := readCount_ok h ha hs
  rw [hi] at C
  have C' := C.mono fun e w1 h => DEnds.error h
  clear h C hi
  go_enter Tryz.func199, Tryz.ntmps199
  go_wp2_with (first | (go_at_call 198; refine C'.mono ?_; rintro x w3 ⟨rfl, hp3⟩))
  exact ⟨rfl, hp3, rfl⟩
end Go.Proofs.YtekojglcbalhnaaGreatDoor

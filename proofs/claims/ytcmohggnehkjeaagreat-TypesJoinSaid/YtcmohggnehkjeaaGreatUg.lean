/-
  The document's str; bytes of the call's own.
-/
import Derived.Test.YtcmohggnehkjeaaGreatUf
import Derived.Lib.BufferRead
import Derived.OwnWalk
import Derived.Laws.AppendOwn
import Derived.Lib.UnsafeStr
namespace Go.Proofs.YtcmohggnehkjeaaGreat
open Go.RowKit

theorem info5 : (Tryz.prog.info? 5).map (fun i => (i.zero, i.size, i.bytes)) = some (some (.int .u8 0), 1, 1) := by kernel_rfl
/-- A slice of the call's own that holds these bytes. -/
def OwnB (base : Nat) (w : World) (v : Value) (L : List UInt8) : Prop := w.ownsRow base 5 1 v L.length (Lib.byteCells L) ∧ base ≤ w.heap.size
theorem OwnB.alloc {base : Nat} {w : World} {v : Value} {L : List UInt8} (h : OwnB base w v L) (x : Obj) : OwnB base (w.alloc x) v L := ⟨h.1.alloc x, by have := h.2; simp; omega⟩
theorem OwnB.slice {base : Nat} {w : World} {v : Value} {L : List UInt8} (h : OwnB base w v L) (hL : 0 < L.length) : ∃ g cap, v = .slice (some ⟨g, 0, none⟩) L.length cap := by
  rcases h.1.2 with ⟨_, h⟩ | ⟨g, cap, _, h, _⟩
  · omega
  · exact ⟨g, cap, h⟩
theorem bc_append (L M : List UInt8) : Lib.byteCells L ++ Lib.byteCells M = Lib.byteCells (L ++ M) := by simp [Lib.byteCells]
theorem bc_one (L : List UInt8) : ∀ u ∈ Lib.byteCells L, u.oneCell' = true := fun u h => by
  simp [Lib.byteCells] at h
  obtain ⟨a, _, rfl⟩ := h
  rfl
theorem bc_len (L : List UInt8) : (Lib.byteCells L).length = L.length := by simp [Lib.byteCells]
/-- Bytes appended. -/
theorem wp_app {base : Nat} {w : World} {ops : Array Oper} {rest : List Oper} {o : Oper} {a : Act} {Q : Exit → Act → World → Prop} (hg : o.guard = none) (s x : Operand)
    (hop : o.op = Op.call { callee := Callee.builtin Builtin.append, args := #[s, x], argTypes := #[199, 199] }) {v : Value} {L : List UInt8} (hs : a.eval s = v) (hO : OwnB base w v L)
    (ad : Addr) (m : Nat) (M : List UInt8) (hx : a.eval x = .slice (some ad) m m) (hm : M.length = m) (hc : ∀ j u, (Lib.byteCells M)[j]? = some u → w.cell? (ad.add j) = some u) (hlen : L.length + m ≤ 1000000)
    (hK : ∀ v' w', OwnB base w' v' (L ++ M) → Below base w w' → wpList Tryz.prog ops Q rest (a.put o.dst v') w') : wpList Tryz.prog ops Q (o :: rest) a w := by
  obtain ⟨i0, hi, hz0, hz1, hz2⟩ := info_parts info5
  refine wpList_append_own w hg s x 199 hop base 5 i0 (.int .u8 0) 1 1 Tryz.underlying199 hi hz0 hz1 hz2 rfl (by decide) v L.length _ hs hO.1 ad m m (Lib.byteCells M) hx (by rw [bc_len]; omega) hc (bc_one M) (by unfold maxLen; omega) (by omega) hO.2 ?_
  intro v' w' hown hgrow _
  have hb := (Below.refl base w).grown hgrow hO.2 (fun k e => (hO.1.lt k e).1)
  refine hK v' w' ⟨?_, by have := hO.2; have := hb.size; omega⟩ hb
  rw [bc_append] at hown
  rw [List.length_append, hm]
  exact hown
/-- Such a slice as a string. -/
theorem OwnB.conv {base : Nat} {w : World} {g cap : Nat} {L : List UInt8} (h : OwnB base w (.slice (some ⟨g, 0, none⟩) L.length cap) L) : (convert 199 9 (.slice (some ⟨g, 0, none⟩) L.length cap)).run Tryz.prog w = .ok (.string (strL L)) w := by
  refine run_convert_bytes_back (P := Tryz.prog) w 199 9 5 ⟨g, 0, none⟩ cap L Tryz.underlying199 Tryz.underlying5 Tryz.underlying9 ?_
  intro j hj
  refine h.1.cells (g := g) rfl j _ ?_
  simp [Lib.byteCells, hj]
theorem OwnB.below {base : Nat} {w w' : World} {v : Value} {L : List UInt8} (h : OwnB base w v L) (hb : Below w.heap.size w w') : OwnB base w' v L := by
  have h0 := h.1
  obtain ⟨⟨h1, h2⟩, h3⟩ := h
  refine ⟨⟨h1, ?_⟩, by have := hb.size; omega⟩
  rcases h2 with h2 | ⟨k, cap, cur, hv, hbk, hh, r⟩
  · exact .inl h2
  · exact .inr ⟨k, cap, cur, hv, hbk, by rw [hb.block k (by subst hv; exact (h0.lt k rfl).2)]; exact hh, r⟩
theorem new_cells (w : World) (M : List UInt8) (cs : Array Value) (h : cs.toList = Lib.byteCells M) : ∀ j u, (Lib.byteCells M)[j]? = some u → (w.alloc (.cells cs 5)).cell? ((⟨w.heap.size, 0, none⟩ : Addr).add j) = some u := fun j u hj => by
  rw [Addr.add_lit, Nat.zero_add, World.cell?_alloc_new, ← hj, ← h]
  simp
theorem newb (w : World) (c : UInt8) : ∀ j u, (Lib.byteCells [c])[j]? = some u → (w.alloc (.cells #[.int .u8 c.toNat] 5)).cell? ((⟨w.heap.size, 0, none⟩ : Addr).add j) = some u :=
  new_cells w _ _ (by simp [Lib.byteCells])
theorem OwnB.form {base : Nat} {w : World} {v : Value} {L : List UInt8} (h : OwnB base w v L) : ∃ ao cap, v = .slice ao L.length cap := by
  rcases h.1.2 with ⟨h1, h2⟩ | ⟨g, cap, _, h1, _⟩
  · exact ⟨none, 0, by rw [h1, h2]⟩
  · exact ⟨_, cap, h1⟩
theorem conv_none (w : World) : (convert 199 9 (.slice none 0 0)).run Tryz.prog w = .ok (.string ⟨#[]⟩) w := Lib.run_convert_nil_bytes w _ _ _ 0 Tryz.underlying199 Tryz.underlying5 Tryz.underlying9
theorem OwnB.convs {base : Nat} {w : World} {ao : Option Addr} {cap : Nat} {L : List UInt8} (h : OwnB base w (.slice ao L.length cap) L) : (convert 199 9 (.slice ao L.length cap)).run Tryz.prog w = .ok (.string (strL L)) w := by
  rcases h.1.2 with ⟨h1, h2⟩ | ⟨g, cap', _, h1, _⟩
  · have hL : L = [] := List.length_eq_zero_iff.1 h2
    subst hL
    rw [h1, conv_none]
    rfl
  · obtain ⟨h2, -, -⟩ := Value.slice.inj h1
    subst h2
    exact h.conv
theorem OwnB.new (w : World) {base : Nat} (hb : base ≤ w.heap.size) : OwnB base (w.alloc (.cells #[] 5)) (.slice (some ⟨w.heap.size, 0, none⟩) 0 0) [] :=
  ⟨⟨rfl, .inr ⟨w.heap.size, 0, #[], rfl, hb, heap_alloc_new _ _, Nat.le_refl _, by unfold maxLen; omega, rfl, rfl⟩⟩, by simp; omega⟩
theorem RW.stepB {w wr w' : World} {cs : Array Value} (h : RW w wr cs) (hb : Below (w.heap.size + 2) wr w') : RW w w' cs := by
  obtain ⟨a0, a1, a2, a3, a4, a5, hr⟩ := h.res
  have := h.size
  have := hb.size
  exact ⟨h.below.trans (hb.mono (by omega)), by omega, h.tok.below hb (by omega), a0, a1, a2, a3, a4, a5, hr.below hb (by omega)⟩
theorem strR_mark (r : List UInt8) : strR (34 :: r) = .ok [] 1 := by
  cases r <;> (unfold strR; rw [if_pos rfl])
theorem strR_other {c : UInt8} (h1 : ¬ c = 34) (h2 : ¬ c = 92) (r : List UInt8) : strR (c :: r) = Hs.add [c] 1 (strR r) := by
  cases r with
  | nil => unfold strR; rw [if_neg h1]; rfl
  | cons x r => rw [strR, if_neg h1, if_neg h2]
theorem strR_esc {x : UInt8} (h : x = 92 ∨ x = 34) (r : List UInt8) : strR (92 :: x :: r) = Hs.add [x] 2 (strR r) := by
  rw [strR, if_neg (by decide), if_pos rfl, if_pos h]
theorem strR_form {x : UInt8} (h : ¬ (x = 92 ∨ x = 34)) (r : List UInt8) : strR (92 :: x :: r) = .err 5 := by
  rw [strR, if_neg (by decide), if_pos rfl, if_neg h]
theorem strR_end : strR [92] = .err 14 := by rw [strR, if_neg (by decide)]
theorem add_add (l m : List UInt8) (j k : Nat) (h : Hs) : Hs.add l j (Hs.add m k h) = Hs.add (l ++ m) (j + k) h := by
  cases h with
  | ok n i => simp [Hs.add, Nat.add_assoc]
  | err e => rfl
theorem add_zero (h : Hs) : Hs.add [] 0 h = h := by
  cases h with
  | ok n i => simp [Hs.add]
  | err e => rfl
theorem u8_eqI {c : UInt8} (n : Nat) (d : UInt8) (hd : d.toNat = n) : ((c.toNat : Int) == (n : Int)) = decide (c = d) := by
  rw [Bool.eq_iff_iff, beq_iff_eq, decide_eq_true_eq, u8_eq, hd]; omega
theorem OwnB.other {base : Nat} {w : World} {v : Value} {L : List UInt8} (h : OwnB base w v L) {g : Nat} (hg : g < base) (o : Nat) (x : Value) : OwnB base (w.setCell ⟨g, o, none⟩ x) v L := by
  obtain ⟨⟨h1, h2⟩, h3⟩ := h
  refine ⟨⟨h1, ?_⟩, by simpa [World.setCell] using h3⟩
  rcases h2 with h2 | ⟨k, cap, cur, hv, hbk, hh, r⟩
  · exact .inl h2
  · exact .inr ⟨k, cap, cur, hv, hbk, by rw [Below.heap_setCell _ _ _ _ (by simp; omega)]; exact hh, r⟩
set_option maxRecDepth 20000 in
set_option maxHeartbeats 4000000 in
theorem str_any {s : ByteArray} {a : Nat} (hs : s.size ≤ 100000) (ha : a < s.size) (w : World) : Calls Tryz.prog 173 #[.string s, .agg (tok0 a)] w fun e w' => HdEnds a (strT (left s a)) w e w' := by
  obtain ⟨H, hH⟩ : ∃ H, strT (left s a) = H := ⟨_, rfl⟩
  rw [hH]
  have hH2 : strH (strR (left s (a + 1))) = H := by rw [← hH]; unfold strT; rw [← left_drop]
  have HH := Lib.hid hH2
  have hW := RW.start w (tok0 a)
  have SF := float_store
  clear hH hH2
  unfold tok0 ktokV at *
  go_enter Tryz.func173, Tryz.ntmps173
  go_wp2_with fail
  have hO0 := OwnB.new ((w.alloc (.cells #[.int .i64 1, .int .i64 a, .int .i64 a, .int .i64 0, .float .f64 0, .string ⟨#[]⟩] 174)).alloc (.cells #[.int .i64 0, .int .i64 0, .int .i64 0, .int .i64 0, .float .f64 0, .string ⟨#[]⟩] 174)) (base := w.heap.size + 2) (by simp)
  have hW0 := hW.stepB ((Below.refl (w.heap.size + 2) _).alloc hW.size (.cells #[] 5))
  clear hW
  go_loopw [6, 7] (fun v iv wr => ∃ (L : List UInt8) (ao : Option Addr) (cap i : Nat), a + 1 ≤ i ∧ i ≤ s.size ∧ L.length ≤ i ∧ v = .slice ao L.length cap ∧ iv = .int .i64 i ∧ OwnB (w.heap.size + 2) wr (.slice ao L.length cap) L ∧ RW w wr #[.int .i64 1, .int .i64 a, .int .i64 a, .int .i64 0, .float .f64 0, .string ⟨#[]⟩] ∧ Hid (Hs.add L (i - (a + 1)) (strR (left s i)) = strR (left s (a + 1)))) (fun _ iv _ => s.size - (intOf iv).toNat)
  case atStart =>
    refine ⟨[], some ⟨w.heap.size + 1 + 1, 0, none⟩, 0, a + 1, by omega, by omega, by simp, rfl, by go_num, ?_, hW0, Lib.hid (by rw [Nat.sub_self, add_zero])⟩
    simpa using hO0
  case round =>
    obtain ⟨L, ao, cap, i, hai, hi, hLi, rfl, rfl, hO, hR, hF⟩ := hrel
    by_cases hlt : i < s.size
    · obtain ⟨c, hc⟩ : ∃ c, s[i] = c := ⟨_, rfl⟩
      by_cases h34 : c = 34
      · have t34 : ((c.toNat : Int) == 34) = true := by rw [h34]; rfl
        have hst : strR (left s i) = .ok [] 1 := by rw [left_cons hlt, hc, h34, strR_mark]
        have hH := HH.out
        rw [← hF.out, hst] at hH
        have hH2 : strH (.ok (L ++ []) (i - (a + 1) + 1)) = H := hH
        rw [List.append_nil] at hH2
        have hH2 : (if 200 < L.length then Hd.err 3 else Hd.ok ⟨4, i - (a + 1) + 1 + 1, 0, 0, L⟩) = H := hH2
        clear hst hH hF HH h34
        have hcv := (hO.other (show w.heap.size < w.heap.size + 2 by omega) 0 (.int .i64 4)).convs
        by_cases h200 : 200 < L.length
        · rw [if_pos h200] at hH2
          subst hH2
          obtain ⟨c0, c1, c2, c3, c4, c5, cf⟩ := hR.tok.cells
          obtain ⟨a0, a1, a2, a3, a4, a5, d0, d1, d2, d3, d4, d5⟩ := hR.out6
          have df := hR.free
          have HR := Lib.hid hR
          clear hR hO
          go_wp2_with fail
          exact RW.bad rfl HR.out rfl rfl
        · rw [if_neg h200] at hH2
          subst hH2
          obtain ⟨c0, c1, c2, c3, c4, c5, cf⟩ := hR.tok.cells
          obtain ⟨a0, a1, a2, a3, a4, a5, d0, d1, d2, d3, d4, d5⟩ := hR.out6
          have df := hR.free
          have HR := Lib.hid hR
          clear hR hO
          go_wp2_with fail
          exact RW.good (t := ⟨4, i - (a + 1) + 1 + 1, 0, 0, L⟩) rfl (((HR.out.set 0 _).set 5 _).set 2 _) rfl rfl (by show (i : Int) + 1 = ((a + (i - (a + 1) + 1 + 1) : Nat) : Int); omega) rfl rfl
      · have t34 : ((c.toNat : Int) == 34) = false := (u8_eqI (c := c) 34 34 rfl).trans (decide_eq_false h34)
        by_cases h92 : c = 92
        · have t92 : ((c.toNat : Int) == 92) = true := by rw [h92]; rfl
          by_cases hlt2 : i + 1 < s.size
          · obtain ⟨x, hx⟩ : ∃ x, s[i + 1] = x := ⟨_, rfl⟩
            have hl2 : left s i = 92 :: x :: left s (i + 2) := by rw [left_cons hlt, hc, h92, left_cons hlt2, hx]
            by_cases hx92 : x = 92
            · have u92 : ((x.toNat : Int) == 92) = true := by rw [hx92]; rfl
              have v92 : ((x.toNat : Int) != 92) = false := by rw [bne, u92]; rfl
              have hst : strR (left s i) = Hs.add [x] 2 (strR (left s (i + 2))) := by rw [hl2]; exact strR_esc (.inl hx92) _
              clear hl2 hx92 h92 h34
              obtain ⟨M, hM⟩ : ∃ M, L ++ [x] = M := ⟨_, rfl⟩
              have hMl : M.length = L.length + 1 := by rw [← hM]; simp
              have HF : Hid (Hs.add M (i + 2 - (a + 1)) (strR (left s (i + 2))) = strR (left s (a + 1))) := Lib.hid (by
                rw [← hF.out, hst, add_add, hM, show i - (a + 1) + 2 = i + 2 - (a + 1) by omega])
              have hbA : Below (w.heap.size + 2) wr (wr.alloc (.cells #[.int .u8 x.toNat] 5)) := (Below.refl _ _).alloc hR.size _
              have HM := Lib.hid hM
              have HMl := Lib.hid hMl
              have HRR := Lib.hid hR
              clear hF hst hM hMl hR
              go_wp2_with (first | (at_builtin; refine wp_app rfl _ _ rfl rfl (hO.alloc _) _ 1 [x] rfl rfl (newb wr x) (by omega) ?_; intro v6 w6 hO6 hb6; refine Hid.out ?_))
              refine Lib.hid ?_
              rw [HM.out] at hO6
              have hR6 := Lib.hid ((HRR.out.stepB hbA).stepB hb6)
              clear HRR hbA hb6 hO
              obtain ⟨ao6, cap6, rfl⟩ := hO6.form
              have HO6 := Lib.hid hO6
              clear hO6
              go_wp2_with fail
              go_roundw
              case rel => exact ⟨M, ao6, cap6, i + 2, by omega, by omega, by have := HMl.out; omega, rfl, by go_num, HO6.out, hR6.out, HF⟩
              case measure => simp [intOf]; omega
            · have u92 : ((x.toNat : Int) == 92) = false := (u8_eqI (c := x) 92 92 rfl).trans (decide_eq_false hx92)
              have v92 : ((x.toNat : Int) != 92) = true := by rw [bne, u92]; rfl
              by_cases hx34 : x = 34
              · have u34 : ((x.toNat : Int) == 34) = true := by rw [hx34]; rfl
                have v34 : ((x.toNat : Int) != 34) = false := by rw [bne, u34]; rfl
                have hst : strR (left s i) = Hs.add [x] 2 (strR (left s (i + 2))) := by rw [hl2]; exact strR_esc (.inr hx34) _
                clear hl2 hx92 hx34 h92 h34
                obtain ⟨M, hM⟩ : ∃ M, L ++ [x] = M := ⟨_, rfl⟩
                have hMl : M.length = L.length + 1 := by rw [← hM]; simp
                have HF : Hid (Hs.add M (i + 2 - (a + 1)) (strR (left s (i + 2))) = strR (left s (a + 1))) := Lib.hid (by
                  rw [← hF.out, hst, add_add, hM, show i - (a + 1) + 2 = i + 2 - (a + 1) by omega])
                have hbA : Below (w.heap.size + 2) wr (wr.alloc (.cells #[.int .u8 x.toNat] 5)) := (Below.refl _ _).alloc hR.size _
                have HM := Lib.hid hM
                have HMl := Lib.hid hMl
                have HRR := Lib.hid hR
                clear hF hst hM hMl hR
                go_wp2_with (first | (at_builtin; refine wp_app rfl _ _ rfl rfl (hO.alloc _) _ 1 [x] rfl rfl (newb wr x) (by omega) ?_; intro v6 w6 hO6 hb6; refine Hid.out ?_))
                refine Lib.hid ?_
                rw [HM.out] at hO6
                have hR6 := Lib.hid ((HRR.out.stepB hbA).stepB hb6)
                clear HRR hbA hb6 hO
                obtain ⟨ao6, cap6, rfl⟩ := hO6.form
                have HO6 := Lib.hid hO6
                clear hO6
                go_wp2_with fail
                go_roundw
                case rel => exact ⟨M, ao6, cap6, i + 2, by omega, by omega, by have := HMl.out; omega, rfl, by go_num, HO6.out, hR6.out, HF⟩
                case measure => simp [intOf]; omega
              · have u34 : ((x.toNat : Int) == 34) = false := (u8_eqI (c := x) 34 34 rfl).trans (decide_eq_false hx34)
                have v34 : ((x.toNat : Int) != 34) = true := by rw [bne, u34]; rfl
                have hst : strR (left s i) = .err 5 := by rw [hl2]; exact strR_form (fun h => h.elim hx92 hx34) _
                have hH := HH.out
                rw [← hF.out, hst] at hH
                have hH2 : Hd.err 5 = H := hH
                subst hH2
                clear hH hF HH hst hl2 hx92 hx34 h92 h34
                obtain ⟨c0, c1, c2, c3, c4, c5, cf⟩ := hR.tok.cells
                obtain ⟨a0, a1, a2, a3, a4, a5, d0, d1, d2, d3, d4, d5⟩ := hR.out6
                have df := hR.free
                have HR := Lib.hid hR
                clear hR hO
                go_wp2_with fail
                exact RW.bad rfl HR.out rfl rfl
          · have hst : strR (left s i) = .err 14 := by rw [left_cons hlt, hc, h92, left_nil (by omega)]; exact strR_end
            have hH := HH.out
            rw [← hF.out, hst] at hH
            have hH2 : Hd.err 14 = H := hH
            subst hH2
            clear hH hF HH hst h92 h34
            obtain ⟨c0, c1, c2, c3, c4, c5, cf⟩ := hR.tok.cells
            obtain ⟨a0, a1, a2, a3, a4, a5, d0, d1, d2, d3, d4, d5⟩ := hR.out6
            have df := hR.free
            have HR := Lib.hid hR
            clear hR hO
            go_wp2_with fail
            exact RW.bad rfl HR.out rfl rfl
        · have t92 : ((c.toNat : Int) == 92) = false := (u8_eqI (c := c) 92 92 rfl).trans (decide_eq_false h92)
          have hst : strR (left s i) = Hs.add [c] 1 (strR (left s (i + 1))) := by rw [left_cons hlt, hc]; exact strR_other h34 h92 _
          clear h92 h34
          obtain ⟨M, hM⟩ : ∃ M, L ++ [c] = M := ⟨_, rfl⟩
          have hMl : M.length = L.length + 1 := by rw [← hM]; simp
          have HF : Hid (Hs.add M (i + 1 - (a + 1)) (strR (left s (i + 1))) = strR (left s (a + 1))) := Lib.hid (by
            rw [← hF.out, hst, add_add, hM, show i - (a + 1) + 1 = i + 1 - (a + 1) by omega])
          have hbA : Below (w.heap.size + 2) wr (wr.alloc (.cells #[.int .u8 c.toNat] 5)) := (Below.refl _ _).alloc hR.size _
          have HM := Lib.hid hM
          have HMl := Lib.hid hMl
          have HRR := Lib.hid hR
          clear hF hst hM hMl hR
          go_wp2_with (first | (at_builtin; refine wp_app rfl _ _ rfl rfl (hO.alloc _) _ 1 [c] rfl rfl (newb wr c) (by omega) ?_; intro v6 w6 hO6 hb6; refine Hid.out ?_))
          refine Lib.hid ?_
          rw [HM.out] at hO6
          have hR6 := Lib.hid ((HRR.out.stepB hbA).stepB hb6)
          clear HRR hbA hb6 hO
          obtain ⟨ao6, cap6, rfl⟩ := hO6.form
          have HO6 := Lib.hid hO6
          clear hO6
          go_wp2_with fail
          go_roundw
          case rel => exact ⟨M, ao6, cap6, i + 1, by omega, by omega, by have := HMl.out; omega, rfl, by go_num, HO6.out, hR6.out, HF⟩
          case measure => simp [intOf]; omega
    · have hst : strR (left s i) = .err 14 := by rw [left_nil (by omega)]; rfl
      have hH := HH.out
      rw [← hF.out, hst] at hH
      have hH2 : Hd.err 14 = H := hH
      subst hH2
      clear hH hF HH hst
      obtain ⟨c0, c1, c2, c3, c4, c5, cf⟩ := hR.tok.cells
      obtain ⟨a0, a1, a2, a3, a4, a5, d0, d1, d2, d3, d4, d5⟩ := hR.out6
      have df := hR.free
      have HR := Lib.hid hR
      clear hR hO
      go_wp2_with fail
      exact RW.bad rfl HR.out rfl rfl
end Go.Proofs.YtcmohggnehkjeaaGreat

/-
  The landed package's Make.
-/
import Derived.Test.YtlfeocccjolmpaaHs
import Derived.Test.YtlfeocccjolmpaaHp
import Derived.OwnWalk
import Derived.Lib.AppendStr
namespace Go.Proofs.Ytlfeocccjolmpaa
open Go.RowKit

/-- A slice of the call's own that holds these bytes. -/
def OwnB (base : Nat) (w : World) (v : Value) (L : List UInt8) : Prop := w.ownsRow base 5 1 v L.length (Lib.byteCells L) ∧ base ≤ w.heap.size
theorem OwnB.alloc {base : Nat} {w : World} {v : Value} {L : List UInt8} (h : OwnB base w v L) (x : Obj) : OwnB base (w.alloc x) v L := ⟨h.1.alloc x, by have := h.2; simp; omega⟩
theorem OwnB.slice {base : Nat} {w : World} {v : Value} {L : List UInt8} (h : OwnB base w v L) (hL : 0 < L.length) : ∃ g cap, v = .slice (some ⟨g, 0, none⟩) L.length cap := by
  rcases h.1.2 with ⟨_, h⟩ | ⟨g, cap, _, h, _⟩
  · omega
  · exact ⟨g, cap, h⟩
theorem bc_append (L M : List UInt8) : Lib.byteCells L ++ Lib.byteCells M = Lib.byteCells (L ++ M) := by simp [Lib.byteCells]
theorem bc_one (L : List UInt8) : ∀ u ∈ Lib.byteCells L, u.oneCell' = true := fun u h => by
  simp [Lib.byteCells] at h
  obtain ⟨a, _, rfl⟩ := h
  rfl
theorem bc_len (L : List UInt8) : (Lib.byteCells L).length = L.length := by simp [Lib.byteCells]
/-- Bytes appended. -/
theorem wp_app {base : Nat} {w : World} {ops : Array Oper} {rest : List Oper} {o : Oper} {a : Act} {Q : Exit → Act → World → Prop} (hg : o.guard = none) (s x : Operand)
    (hop : o.op = Op.call { callee := Callee.builtin Builtin.append, args := #[s, x], argTypes := #[42, 42] }) {v : Value} {L : List UInt8} (hs : a.eval s = v) (hO : OwnB base w v L)
    (ad : Addr) (m : Nat) (M : List UInt8) (hx : a.eval x = .slice (some ad) m m) (hm : M.length = m) (hc : ∀ j u, (Lib.byteCells M)[j]? = some u → w.cell? (ad.add j) = some u) (hlen : L.length + m ≤ 1000000)
    (hK : ∀ v' w', OwnB base w' v' (L ++ M) → Below base w w' → wpList Try.prog ops Q rest (a.put o.dst v') w') : wpList Try.prog ops Q (o :: rest) a w := by
  obtain ⟨i0, hi, hz0, hz1, hz2⟩ := info_parts info5
  refine wpList_append_own w hg s x 42 hop base 5 i0 (.int .u8 0) 1 1 Try.underlying42 hi hz0 hz1 hz2 rfl (by decide) v L.length _ hs hO.1 ad m m (Lib.byteCells M) hx (by rw [bc_len]; omega) hc (bc_one M) (by unfold maxLen; omega) (by omega) hO.2 ?_
  intro v' w' hown hgrow _
  have hb := (Below.refl base w).grown hgrow hO.2 (fun k e => (hO.1.lt k e).1)
  refine hK v' w' ⟨?_, by have := hO.2; have := hb.size; omega⟩ hb
  rw [bc_append] at hown
  rw [List.length_append, hm]
  exact hown
/-- A string appended. -/
theorem wp_app_str {base : Nat} {w : World} {ops : Array Oper} {rest : List Oper} {o : Oper} {a : Act} {Q : Exit → Act → World → Prop} (hg : o.guard = none) (s x : Operand)
    (hop : o.op = Op.call { callee := Callee.builtin Builtin.append, args := #[s, x], argTypes := #[42, 9] }) {v : Value} {L : List UInt8} (hs : a.eval s = v) (hO : OwnB base w v L)
    (p : ByteArray) (hx : a.eval x = .string p) (hlen : L.length + p.size ≤ 1000000)
    (hK : ∀ v' w', OwnB base w' v' (L ++ p.data.toList) → Below base w w' → wpList Try.prog ops Q rest (a.put o.dst v') w') : wpList Try.prog ops Q (o :: rest) a w := by
  obtain ⟨i0, hi, hz0, hz1, hz2⟩ := info_parts info5
  refine Lib.wpList_append_own_string w hg s x 42 9 hop base 5 i0 Try.underlying42 Try.underlying9 hi hz0 hz1 hz2 v L.length _ hs hO.1 p hx (by unfold maxLen; omega) (by omega) hO.2 ?_
  intro v' w' hown hgrow _
  have hb := (Below.refl base w).grown hgrow hO.2 (fun k e => (hO.1.lt k e).1)
  refine hK v' w' ⟨?_, by have := hO.2; have := hb.size; omega⟩ hb
  have e : Lib.strCells p = Lib.byteCells p.data.toList := rfl
  rw [e, bc_append] at hown
  rw [List.length_append]
  exact hown
/-- Such a slice as a string. -/
theorem OwnB.conv {base : Nat} {w : World} {g cap : Nat} {L : List UInt8} (h : OwnB base w (.slice (some ⟨g, 0, none⟩) L.length cap) L) : (convert 42 9 (.slice (some ⟨g, 0, none⟩) L.length cap)).run Try.prog w = .ok (.string (strL L)) w := by
  refine run_convert_bytes_back (P := Try.prog) w 42 9 5 ⟨g, 0, none⟩ cap L Try.underlying42 Try.underlying5 Try.underlying9 ?_
  intro j hj
  refine h.1.cells (g := g) rfl j _ ?_
  simp [Lib.byteCells, hj]
theorem OwnB.below {base : Nat} {w w' : World} {v : Value} {L : List UInt8} (h : OwnB base w v L) (hb : Below w.heap.size w w') : OwnB base w' v L := by
  have h0 := h.1
  obtain ⟨⟨h1, h2⟩, h3⟩ := h
  refine ⟨⟨h1, ?_⟩, by have := hb.size; omega⟩
  rcases h2 with h2 | ⟨k, cap, cur, hv, hbk, hh, r⟩
  · exact .inl h2
  · exact .inr ⟨k, cap, cur, hv, hbk, by rw [hb.block k (by subst hv; exact (h0.lt k rfl).2)]; exact hh, r⟩
theorem new_cells (w : World) (M : List UInt8) (cs : Array Value) (h : cs.toList = Lib.byteCells M) : ∀ j u, (Lib.byteCells M)[j]? = some u → (w.alloc (.cells cs 5)).cell? ((⟨w.heap.size, 0, none⟩ : Addr).add j) = some u := fun j u hj => by
  rw [Addr.add_lit, Nat.zero_add, World.cell?_alloc_new, ← hj, ← h]
  simp
theorem newb1 (w : World) {a : Int} {x : Nat} (ha : a = (x : Int) % 256) : ∀ j u, (Lib.byteCells [UInt8.ofNat x])[j]? = some u → (w.alloc (.cells #[.int .u8 a] 5)).cell? ((⟨w.heap.size, 0, none⟩ : Addr).add j) = some u :=
  new_cells w _ _ (by simp [Lib.byteCells, ha])
theorem newb2 (w : World) {a b : Int} {x y : Nat} (ha : a = (x : Int) % 256) (hb : b = (y : Int) % 256) : ∀ j u, (Lib.byteCells [UInt8.ofNat x, UInt8.ofNat y])[j]? = some u → (w.alloc (.cells #[.int .u8 a, .int .u8 b] 5)).cell? ((⟨w.heap.size, 0, none⟩ : Addr).add j) = some u :=
  new_cells w _ _ (by simp [Lib.byteCells, ha, hb])
/-- What Make answers. -/
def makeV (p : ByteArray) : Value := if mayB p = true then .tuple #[.string (strL (frL p.data.toList)), .int .i64 0] else .tuple #[.string ⟨#[]⟩, .int .i64 2]
theorem LMake_no {p : ByteArray} (h : mayB p = false) (w : World) : Calls Try.prog 9 #[.string p] w fun e w' => e = .returned (.tuple #[.string ⟨#[]⟩, .int .i64 2]) ∧ Below w.heap.size w w' := by
  by_cases h1 : p.size < 1
  · have t1 : decide ((p.size : Int) < 1) = true := decide_eq_true (by omega)
    clear h
    go_enter Try.func9, Try.ntmps9
    go_wp2_with fail
    go_ret2
    exact ⟨rfl, Below.refl _ _⟩
  · have t1 : decide ((p.size : Int) < 1) = false := decide_eq_false (by omega)
    have t2 : decide ((2000 : Int) < (p.size : Int)) = true := by
      unfold mayB at h
      simp at h
      exact decide_eq_true (by omega)
    clear h
    go_enter Try.func9, Try.ntmps9
    go_wp2_with fail
    go_ret2
    exact ⟨rfl, Below.refl _ _⟩
set_option maxRecDepth 20000 in
set_option maxHeartbeats 2000000 in
theorem LMake_yes {p : ByteArray} (h : mayB p = true) (w : World) : Calls Try.prog 9 #[.string p] w fun e w' => e = .returned (.tuple #[.string (strL (frL p.data.toList)), .int .i64 0]) ∧ Below w.heap.size w w' := by
  obtain ⟨h1, h2⟩ : 1 ≤ p.size ∧ p.size ≤ 2000 := by
    unfold mayB at h
    simp at h
    omega
  have t1 : decide ((p.size : Int) < 1) = false := decide_eq_false (by omega)
  have t2 : decide ((2000 : Int) < (p.size : Int)) = false := decide_eq_false (by omega)
  obtain ⟨i0, hi, hz0, hz1, hz2⟩ := info_parts info5
  clear h
  go_enter Try.func9, Try.ntmps9
  go_wp2_with (first
    | (at_make; refine wpList_make_own _ rfl (.const (.int .i64 0)) (.tmp 18) 42 rfl w.heap.size 5 i0 (.int .u8 0) 1 Try.underlying42 hi hz0 hz1 .i64 .i64 _ (p.size + 6) rfl rfl (by omega) (by rw [hz2]; omega) (by unfold maxLen; omega) (Nat.le_refl _) ?_; intro w1 hown hgrow; have hO1 : OwnB w.heap.size w1 _ [] := ⟨hown, hgrow.size⟩; have hb1 := (Below.refl w.heap.size w).grown hgrow (Nat.le_refl _) (fun k e => by cases e); clear hown hgrow)
    | (at_builtin; refine wp_app rfl _ _ rfl rfl (hO1.alloc _) _ 2 [UInt8.ofNat (p.size / 256), UInt8.ofNat (p.size % 256)] rfl rfl (newb2 w1 (by omega) (by omega)) (by simp) ?_; intro v2 w2 hO2 hb2; refine Hid.out ?_))
  refine Lib.hid ?_
  have hB2 : Below w.heap.size w w2 := (hb1.alloc hb1.size _).trans hb2
  rw [List.nil_append] at hO2
  clear hb1 hb2 hO1
  go_wp2_with (first
    | (at_builtin; refine wp_app_str rfl _ _ rfl rfl hO2 p rfl (by simp; omega) ?_; intro v3 w3 hO3 hb3; refine Hid.out ?_))
  refine Lib.hid ?_
  have hB3 := hB2.trans hb3
  obtain ⟨L, hL⟩ : ∃ L, headL p.data.toList = L := ⟨_, rfl⟩
  have hO4 : OwnB w.heap.size w3 v3 L := by rw [← hL]; exact hO3
  have hLl : L.length = p.size + 2 := by rw [← hL, headL_len]; rfl
  have HL := Lib.hid hL
  clear hB2 hb3 hO2 hO3 hL
  obtain ⟨g, cap, rfl⟩ := hO4.slice (by omega)
  have hcv := hO4.conv
  obtain ⟨q, hq⟩ : ∃ q, strL L = q := ⟨_, rfl⟩
  rw [hq] at hcv
  have S := LSum_any (s := q) (by rw [← hq, strL_size]; omega)
  have hql : q.data.toList = L := by rw [← hq]; exact strL_list L
  rw [hql] at S
  have hc := sumN_lt L
  obtain ⟨c, hcc⟩ : ∃ c, sumN L = c := ⟨_, rfl⟩
  rw [hcc] at S hc
  have HLl := Lib.hid hLl
  clear hq hql hLl
  go_wp2_with (first
    | (go_at_call 10; refine (S _).mono ?_; rintro e w4 ⟨rfl, hb4⟩))
  have hO5 := hO4.below hb4
  have hB5 := hB3.trans (hb4.mono hB3.size)
  clear hO4 hb4 hB3 hcv S
  go_loopw [4, 36] (fun v iv wr => ∃ (i : Nat), i ≤ 4 ∧ iv = .int .i64 i ∧ OwnB w.heap.size wr v (L ++ (tail4 c).take i) ∧ Below w.heap.size w wr) (fun _ iv _ => 4 - (intOf iv).toNat)
  case atStart => exact ⟨0, by omega, rfl, by rw [List.take_zero, List.append_nil]; exact hO5, hB5⟩
  case round =>
    obtain ⟨i, hi4, rfl, hO, hB⟩ := hrel
    obtain ⟨M, hM⟩ : ∃ M, L ++ (tail4 c).take i = M := ⟨_, rfl⟩
    rw [hM] at hO
    have hMl : M.length ≤ 900000 := by
      rw [← hM, List.length_append, List.length_take, HLl.out]
      omega
    have HM := Lib.hid hM
    have HMl := Lib.hid hMl
    clear hM hMl
    by_cases hlt : i < 4
    · obtain rfl | rfl | rfl | rfl : i = 0 ∨ i = 1 ∨ i = 2 ∨ i = 3 := by omega
      · go_wp2_with (first
          | (at_builtin; refine wp_app rfl _ _ rfl rfl (hO.alloc _) _ 1 [UInt8.ofNat (c % 256)] rfl rfl (newb1 wr (by omega)) (by have := HMl.out; omega) ?_; intro v6 w6 hO6 hb6; refine Hid.out ?_))
        refine Lib.hid ?_
        have HO6 : Hid (OwnB w.heap.size w6 v6 (L ++ (tail4 c).take (0 + 1))) := Lib.hid (by
          have e : L ++ (tail4 c).take (0 + 1) = M ++ [UInt8.ofNat (c % 256)] := by rw [← HM.out, List.append_assoc]; rfl
          rw [e]; exact hO6)
        have HB6 := Lib.hid ((hB.alloc hB.size _).trans hb6)
        clear hO6 hb6
        go_wp2_with fail
        go_roundw
        case rel => exact ⟨0 + 1, by omega, by go_num, HO6.out, HB6.out⟩
        case measure => simp [intOf]
      · go_wp2_with (first
          | (at_builtin; refine wp_app rfl _ _ rfl rfl (hO.alloc _) _ 1 [UInt8.ofNat (c / 256 % 256)] rfl rfl (newb1 wr (by omega)) (by have := HMl.out; omega) ?_; intro v6 w6 hO6 hb6; refine Hid.out ?_))
        refine Lib.hid ?_
        have HO6 : Hid (OwnB w.heap.size w6 v6 (L ++ (tail4 c).take (1 + 1))) := Lib.hid (by
          have e : L ++ (tail4 c).take (1 + 1) = M ++ [UInt8.ofNat (c / 256 % 256)] := by rw [← HM.out, List.append_assoc]; rfl
          rw [e]; exact hO6)
        have HB6 := Lib.hid ((hB.alloc hB.size _).trans hb6)
        clear hO6 hb6
        go_wp2_with fail
        go_roundw
        case rel => exact ⟨1 + 1, by omega, by go_num, HO6.out, HB6.out⟩
        case measure => simp [intOf]
      · go_wp2_with (first
          | (at_builtin; refine wp_app rfl _ _ rfl rfl (hO.alloc _) _ 1 [UInt8.ofNat (c / 65536 % 256)] rfl rfl (newb1 wr (by omega)) (by have := HMl.out; omega) ?_; intro v6 w6 hO6 hb6; refine Hid.out ?_))
        refine Lib.hid ?_
        have HO6 : Hid (OwnB w.heap.size w6 v6 (L ++ (tail4 c).take (2 + 1))) := Lib.hid (by
          have e : L ++ (tail4 c).take (2 + 1) = M ++ [UInt8.ofNat (c / 65536 % 256)] := by rw [← HM.out, List.append_assoc]; rfl
          rw [e]; exact hO6)
        have HB6 := Lib.hid ((hB.alloc hB.size _).trans hb6)
        clear hO6 hb6
        go_wp2_with fail
        go_roundw
        case rel => exact ⟨2 + 1, by omega, by go_num, HO6.out, HB6.out⟩
        case measure => simp [intOf]
      · go_wp2_with (first
          | (at_builtin; refine wp_app rfl _ _ rfl rfl (hO.alloc _) _ 1 [UInt8.ofNat (c / 16777216 % 256)] rfl rfl (newb1 wr (by omega)) (by have := HMl.out; omega) ?_; intro v6 w6 hO6 hb6; refine Hid.out ?_))
        refine Lib.hid ?_
        have HO6 : Hid (OwnB w.heap.size w6 v6 (L ++ (tail4 c).take (3 + 1))) := Lib.hid (by
          have e : L ++ (tail4 c).take (3 + 1) = M ++ [UInt8.ofNat (c / 16777216 % 256)] := by rw [← HM.out, List.append_assoc]; rfl
          rw [e]; exact hO6)
        have HB6 := Lib.hid ((hB.alloc hB.size _).trans hb6)
        clear hO6 hb6
        go_wp2_with fail
        go_roundw
        case rel => exact ⟨3 + 1, by omega, by go_num, HO6.out, HB6.out⟩
        case measure => simp [intOf]
    · have hi4' : i = 4 := by omega
      have hF : frL p.data.toList = M := by
        rw [← HM.out, hi4']
        unfold frL
        rw [HL.out, hcc]
        rfl
      obtain ⟨g2, cap2, rfl⟩ := hO.slice (by rw [← hF, frL_len]; omega)
      have hcv := hO.conv
      have HB := Lib.hid hB
      have HF := Lib.hid hF
      clear hO hB hF
      go_wp2_with fail
      go_ret2
      exact ⟨by rw [HF.out]; rfl, HB.out⟩
theorem LMake_any {p : ByteArray} (w : World) : Calls Try.prog 9 #[.string p] w fun e w' => e = .returned (makeV p) ∧ Below w.heap.size w w' := by
  unfold makeV
  cases h : mayB p with
  | false => rw [if_neg Bool.false_ne_true]; exact LMake_no h w
  | true => rw [if_pos rfl]; exact LMake_yes h w
end Go.Proofs.Ytlfeocccjolmpaa

/-
  The document's ReadValue.
-/
import Derived.Test.YteclpehbpicpaaaM40
import Derived.Test.YteclpehbpicpaaaM30
import Derived.Test.YteclpehbpicpaaaM13
namespace Go.Proofs.Yteclpehbpicpaaa
open Go.RowKit

theorem RefV_place {s : ByteArray} {i : Int} (w : World) (h : i < 0 ∨ (s.size : Int) < i) :
    Calls Try.prog 32 #[.string s, .int .i64 i] w fun x w' => x = .returned (.tuple #[.agg zero6, .int .i64 0, .int .i64 3]) ∧ Below w.heap.size w w' := by
  have hW : Below w.heap.size w (w.alloc (.cells #[.int .i64 0, .int .i64 0, .float .f64 0, .string ⟨#[]⟩, .slice none 0 0, .slice none 0 0] 27)) := (Below.refl _ _).alloc (Nat.le_refl _) _
  have hB := Bx.new w #[.int .i64 0, .int .i64 0, .float .f64 0, .string ⟨#[]⟩, .slice none 0 0, .slice none 0 0]
  have B := Begin_any (s := s) (i := i) (w.alloc (.cells #[.int .i64 0, .int .i64 0, .float .f64 0, .string ⟨#[]⟩, .slice none 0 0, .slice none 0 0] 27))
  rw [if_pos h, World.size_alloc] at B
  have HW := Lib.hid hW
  have HB := Lib.hid hB
  have HBE := Lib.hid B
  have SF := float_store
  unfold zero6
  clear h hW hB B
  go_enter Try.func32, Try.ntmps32
  go_wp2_with (go_at_call 27; refine HBE.out.mono ?_; rintro x w1 ⟨rfl, h1, hb1⟩; obtain ⟨d0, d1, d2, d3, df⟩ := h1.cells; have hb2 := Lib.hid (HW.out.trans (Below.mono hb1 (by simp))); have hx1 := HB.out.below hb1 (by simp); obtain ⟨x0, x1, x2, x3, x4, x5, xf, xl⟩ := hx1.cells; have HX1 := Lib.hid hx1; have H1 := Lib.hid h1; have HL1 := Lib.hid (show w.heap.size + 1 < w1.heap.size from h1.lt); clear hx1 hb1 h1)
  go_region
  go_wp2_with fail
  obtain ⟨y0, y1, y2, y3, y4, y5, yf, yl⟩ := (Bx.drew (HX1.out.six (.int .i64 0) (.int .i64 0) (.float .f64 0) (.string ⟨#[]⟩) (.slice none 0 0) (.slice none 0 0))).cells
  have hfin := (Below.six hb2.out (Nat.le_refl _) (.int .i64 0) (.int .i64 0) (.float .f64 0) (.string ⟨#[]⟩) (.slice none 0 0) (.slice none 0 0)).drew
  refine bodyPost_ret (v := .tuple #[.agg #[.int .i64 0, .int .i64 0, .float .f64 0, .string ⟨#[]⟩, .slice none 0 0, .slice none 0 0], .int .i64 0, .int .i64 3]) ?_ rfl ⟨rfl, hfin⟩
  simp [results, Try.results32, go_sem, asAddr, y0, y1, y2, y3, y4, y5]
/-- What the document's reader answers of a value that can't be read. -/
theorem doc_err {s : ByteArray} {g a c : Nat} (hs : s.size ≤ 1000000000) (ha : a ≤ s.size) (hv : vP 12 0 (left s a) = .error c) (W : World) (h : Rdr W g s a 0 0) :
    Calls Try.prog 62 #[.pointer (some ⟨g, 0, none⟩), .int .i64 1] W fun x w' => ∃ (b0 b1 : Int) (b2 : Nat) (b3 : ByteArray) (b4 : Option Addr) (b5 b6 : Nat) (b7 : Option Addr) (b8 b9 : Nat), x = .returned (.agg #[.int .i64 b0, .int .i64 b1, .float .f64 b2, .string b3, .slice b4 b5 b6, .slice b7 b8 b9]) ∧ (∃ a' p' : Int, Rdr w' g s a' c p') ∧ Past g W w' := by
  have V := RValue_any (g := g) hs 12 W a 0 (by decide) h ha (by decide)
  rw [hv] at V
  refine V.mono fun x w' hx => ?_
  obtain ⟨hp, ⟨k, n, f, t, A, m, ca, B, m', cb, rfl⟩, hc, a', p', hp', h'⟩ := hx
  exact ⟨_, _, _, _, _, _, _, _, _, _, rfl, ⟨_, _, h'⟩, hp⟩
theorem doc_ok {s : ByteArray} {g a p : Nat} {t : VT} {l : List UInt8} (hs : s.size ≤ 1000000000) (ha : a ≤ s.size) (hv : vP 12 0 (left s a) = .ok (t, p, l)) (W : World) (h : Rdr W g s a 0 0) :
    Calls Try.prog 62 #[.pointer (some ⟨g, 0, none⟩), .int .i64 1] W fun x w' => ∃ (b0 b1 : Int) (b2 : Nat) (b3 : ByteArray) (b4 : Option Addr) (b5 b6 : Nat) (b7 : Option Addr) (b8 b9 : Nat), x = .returned (.agg #[.int .i64 b0, .int .i64 b1, .float .f64 b2, .string b3, .slice b4 b5 b6, .slice b7 b8 b9]) ∧ VOwn w' (fun b => W.heap.size ≤ b) #[.int .i64 b0, .int .i64 b1, .float .f64 b2, .string b3, .slice b4 b5 b6, .slice b7 b8 b9] t ∧ Rdr w' g s ((s.size - l.length : Nat) : Int) 0 p ∧ Past g W w' := by
  have V := RValue_any (g := g) hs 12 W a 0 (by decide) h ha (by decide)
  rw [hv] at V
  refine V.mono fun x w' hx => ?_
  obtain ⟨hp, ⟨v, rfl, ho⟩, a', ha', hl, h'⟩ := hx
  obtain ⟨b0, b1, b2, b3, b4, b5, b6, b7, b8, b9, rfl⟩ := ho.val.eight
  refine ⟨_, _, _, _, _, _, _, _, _, _, rfl, ho, ?_, hp⟩
  rw [hl, left_at ha']; exact h'
set_option maxRecDepth 20000 in
theorem RefV_err {s : ByteArray} {i c : Nat} (w : World) (hi : i ≤ s.size) (hs : s.size ≤ 1000000000) (hc : c ≠ 0) (hv : vP 12 0 (left s i) = .error c) :
    Calls Try.prog 32 #[.string s, .int .i64 i] w fun x w' => x = .returned (.tuple #[.agg zero6, .int .i64 0, .int .i64 c]) ∧ Below w.heap.size w w' := by
  have hW : Below w.heap.size w (w.alloc (.cells #[.int .i64 0, .int .i64 0, .float .f64 0, .string ⟨#[]⟩, .slice none 0 0, .slice none 0 0] 27)) := (Below.refl _ _).alloc (Nat.le_refl _) _
  have hB := Bx.new w #[.int .i64 0, .int .i64 0, .float .f64 0, .string ⟨#[]⟩, .slice none 0 0, .slice none 0 0]
  have B := Begin_any (s := s) (i := (i : Int)) (w.alloc (.cells #[.int .i64 0, .int .i64 0, .float .f64 0, .string ⟨#[]⟩, .slice none 0 0, .slice none 0 0] 27))
  rw [if_neg (by omega), World.size_alloc] at B
  have HW := Lib.hid hW
  have HB := Lib.hid hB
  have HBE := Lib.hid B
  have SF := float_store
  have HV := Lib.hid fun W => doc_err (g := w.heap.size + 1) hs hi hv W
  have c1 : ((c : Int) == 0) = false := by simp; omega
  have c2 : ((c : Int) != 0) = true := by simp; omega
  unfold zero6
  clear hi hs hc hv hW hB B
  go_enter Try.func32, Try.ntmps32
  go_wp2_with (first
    | (go_at_call 27; refine HBE.out.mono ?_; rintro x w1 ⟨rfl, h1, hb1⟩; obtain ⟨d0, d1, d2, d3, df⟩ := h1.cells; have hb2 := Lib.hid (HW.out.trans (Below.mono hb1 (by simp))); have hx1 := HB.out.below hb1 (by simp); obtain ⟨x0, x1, x2, x3, x4, x5, xf, xl⟩ := hx1.cells; have HX1 := Lib.hid hx1; have H1 := Lib.hid h1; have HL1 := Lib.hid (show w.heap.size + 1 < w1.heap.size from h1.lt); clear hx1 hb1 h1)
    | (go_at_call 62; refine (HV.out _ (by exact H1.out)).mono ?_; rintro x w2 ⟨b0, b1, b2, b3, b4, b5, b6, b7, b8, b9, rfl, ⟨pa, pp, h2⟩, hp2⟩; clear d0 d1 d2 d3 df x0 x1 x2 x3 x4 x5 xf xl; have h3 := h2.alloc (.cells #[.int .i64 b0, .int .i64 b1, .float .f64 b2, .string b3, .slice b4 b5 b6, .slice b7 b8 b9] 27); obtain ⟨d0, d1, d2, d3, df⟩ := h3.cells; have hx3 := (HX1.out.past hp2 (by omega)).alloc (.cells #[.int .i64 b0, .int .i64 b1, .float .f64 b2, .string b3, .slice b4 b5 b6, .slice b7 b8 b9] 27); obtain ⟨x0, x1, x2, x3, x4, x5, xf, xl⟩ := hx3.cells; have HX3 := Lib.hid hx3; have hb3 := Lib.hid ((hb2.out.trans (hp2.below (Nat.le_succ _) HL1.out)).alloc (Nat.le_trans hb2.out.size hp2.size) (.cells #[.int .i64 b0, .int .i64 b1, .float .f64 b2, .string b3, .slice b4 b5 b6, .slice b7 b8 b9] 27)); clear h2 h3 hx3 hp2))
  go_region
  go_wp2_with fail
  obtain ⟨y0, y1, y2, y3, y4, y5, yf, yl⟩ := (Bx.drew (HX3.out.six (.int .i64 0) (.int .i64 0) (.float .f64 0) (.string ⟨#[]⟩) (.slice none 0 0) (.slice none 0 0))).cells
  have hfin := (Below.six hb3.out (Nat.le_refl _) (.int .i64 0) (.int .i64 0) (.float .f64 0) (.string ⟨#[]⟩) (.slice none 0 0) (.slice none 0 0)).drew
  refine bodyPost_ret (v := .tuple #[.agg #[.int .i64 0, .int .i64 0, .float .f64 0, .string ⟨#[]⟩, .slice none 0 0, .slice none 0 0], .int .i64 0, .int .i64 c]) ?_ rfl ⟨rfl, hfin⟩
  simp [results, Try.results32, go_sem, asAddr, y0, y1, y2, y3, y4, y5]
set_option maxRecDepth 20000 in
theorem RefV_bad {s : ByteArray} {i p : Nat} {t : VT} {l : List UInt8} (w : World) (hi : i ≤ s.size) (hs : s.size ≤ 1000000000) (hv : vP 12 0 (left s i) = .ok (t, p, l)) (hok : okV t = false) :
    Calls Try.prog 32 #[.string s, .int .i64 i] w fun x w' => x = .returned (.tuple #[.agg zero6, .int .i64 0, .int .i64 5]) ∧ Below w.heap.size w w' := by
  have hW : Below w.heap.size w (w.alloc (.cells #[.int .i64 0, .int .i64 0, .float .f64 0, .string ⟨#[]⟩, .slice none 0 0, .slice none 0 0] 27)) := (Below.refl _ _).alloc (Nat.le_refl _) _
  have hB := Bx.new w #[.int .i64 0, .int .i64 0, .float .f64 0, .string ⟨#[]⟩, .slice none 0 0, .slice none 0 0]
  have B := Begin_any (s := s) (i := (i : Int)) (w.alloc (.cells #[.int .i64 0, .int .i64 0, .float .f64 0, .string ⟨#[]⟩, .slice none 0 0, .slice none 0 0] 27))
  rw [if_neg (by omega), World.size_alloc] at B
  have HW := Lib.hid hW
  have HB := Lib.hid hB
  have HBE := Lib.hid B
  have SF := float_store
  have HV := Lib.hid fun W => doc_ok (g := w.heap.size + 1) hs hi hv W
  have HR := Lib.hid fun (W : World) (v : Array Value) (h : Val W W.heap.size v t) => Right_any h
  rw [hok] at HR
  unfold zero6
  generalize s.size - l.length = nx at *
  clear hi hs hv hW hB B hok
  go_enter Try.func32, Try.ntmps32
  go_wp2_with (first
    | (go_at_call 27; refine HBE.out.mono ?_; rintro x w1 ⟨rfl, h1, hb1⟩; obtain ⟨d0, d1, d2, d3, df⟩ := h1.cells; have hb2 := Lib.hid (HW.out.trans (Below.mono hb1 (by simp))); have hx1 := HB.out.below hb1 (by simp); obtain ⟨x0, x1, x2, x3, x4, x5, xf, xl⟩ := hx1.cells; have HX1 := Lib.hid hx1; have H1 := Lib.hid h1; have HL1 := Lib.hid (show w.heap.size + 1 < w1.heap.size from h1.lt); clear hx1 hb1 h1)
    | (go_at_call 62; refine (HV.out _ (by exact H1.out)).mono ?_; rintro x w2 ⟨b0, b1, b2, b3, b4, b5, b6, b7, b8, b9, rfl, ho, h2, hp2⟩; clear d0 d1 d2 d3 df x0 x1 x2 x3 x4 x5 xf xl; have h3 := h2.alloc (.cells #[.int .i64 b0, .int .i64 b1, .float .f64 b2, .string b3, .slice b4 b5 b6, .slice b7 b8 b9] 27); obtain ⟨d0, d1, d2, d3, df⟩ := h3.cells; have hx3 := (HX1.out.past hp2 (by omega)).alloc (.cells #[.int .i64 b0, .int .i64 b1, .float .f64 b2, .string b3, .slice b4 b5 b6, .slice b7 b8 b9] 27); have HX3 := Lib.hid hx3; have H3 := Lib.hid h3; have HO := Lib.hid (ho.alloc (.cells #[.int .i64 b0, .int .i64 b1, .float .f64 b2, .string b3, .slice b4 b5 b6, .slice b7 b8 b9] 27)); have hb3 := Lib.hid ((hb2.out.trans (hp2.below (Nat.le_succ _) HL1.out)).alloc (Nat.le_trans hb2.out.size hp2.size) (.cells #[.int .i64 b0, .int .i64 b1, .float .f64 b2, .string b3, .slice b4 b5 b6, .slice b7 b8 b9] 27)); clear h2 h3 hx3 hp2 ho)
    | (go_at_call 14; refine (HR.out _ _ (by exact HO.out.val)).mono ?_; rintro x w3 ⟨rfl, hb4⟩; have h4 := H3.out.past hb4; have F := Lib.hid (fail_0 h4 5); have HX4 := Lib.hid (HX3.out.below hb4 HX3.out.lt); have hb5 := Lib.hid (hb3.out.trans (hb4.mono hb3.out.size)); have HL4 := Lib.hid (show w.heap.size + 1 < w3.heap.size from h4.lt); clear h4 hb4)
    | (go_at_call 59; refine F.out.mono ?_; rintro x w4 ⟨rfl, h5, hp5⟩; clear d0 d1 d2 d3 df; obtain ⟨d0, d1, d2, d3, df⟩ := h5.cells; have hx5 := HX4.out.past hp5 (by omega); obtain ⟨x0, x1, x2, x3, x4, x5, xf, xl⟩ := hx5.cells; have HX5 := Lib.hid hx5; have hb6 := Lib.hid (hb5.out.trans (hp5.below (Nat.le_succ _) HL4.out)); clear h5 hx5 hp5))
  go_region
  go_wp2_with fail
  obtain ⟨y0, y1, y2, y3, y4, y5, yf, yl⟩ := (Bx.drew (HX5.out.six (.int .i64 0) (.int .i64 0) (.float .f64 0) (.string ⟨#[]⟩) (.slice none 0 0) (.slice none 0 0))).cells
  have hfin := (Below.six hb6.out (Nat.le_refl _) (.int .i64 0) (.int .i64 0) (.float .f64 0) (.string ⟨#[]⟩) (.slice none 0 0) (.slice none 0 0)).drew
  refine bodyPost_ret (v := .tuple #[.agg #[.int .i64 0, .int .i64 0, .float .f64 0, .string ⟨#[]⟩, .slice none 0 0, .slice none 0 0], .int .i64 0, .int .i64 5]) ?_ rfl ⟨rfl, hfin⟩
  simp [results, Try.results32, go_sem, asAddr, y0, y1, y2, y3, y4, y5]
set_option maxRecDepth 20000 in
theorem RefV_ok {s : ByteArray} {i p : Nat} {t : VT} {l : List UInt8} (w : World) (hi : i ≤ s.size) (hs : s.size ≤ 1000000000) (hv : vP 12 0 (left s i) = .ok (t, p, l)) (hok : okV t = true) :
    Calls Try.prog 32 #[.string s, .int .i64 i] w fun x w' => (∃ v, x = .returned (.tuple #[.agg v, .int .i64 ((s.size - l.length : Nat) : Int), .int .i64 0]) ∧ VOwn w' (fun b => w.heap.size ≤ b) v t) ∧ Below w.heap.size w w' := by
  have hW : Below w.heap.size w (w.alloc (.cells #[.int .i64 0, .int .i64 0, .float .f64 0, .string ⟨#[]⟩, .slice none 0 0, .slice none 0 0] 27)) := (Below.refl _ _).alloc (Nat.le_refl _) _
  have hB := Bx.new w #[.int .i64 0, .int .i64 0, .float .f64 0, .string ⟨#[]⟩, .slice none 0 0, .slice none 0 0]
  have B := Begin_any (s := s) (i := (i : Int)) (w.alloc (.cells #[.int .i64 0, .int .i64 0, .float .f64 0, .string ⟨#[]⟩, .slice none 0 0, .slice none 0 0] 27))
  rw [if_neg (by omega), World.size_alloc] at B
  have HW := Lib.hid hW
  have HB := Lib.hid hB
  have HBE := Lib.hid B
  have SF := float_store
  have HV := Lib.hid fun W => doc_ok (g := w.heap.size + 1) hs hi hv W
  have HR := Lib.hid fun (W : World) (v : Array Value) (h : Val W W.heap.size v t) => Right_any h
  rw [hok] at HR
  generalize s.size - l.length = nx at *
  clear hi hs hv hW hB B hok
  go_enter Try.func32, Try.ntmps32
  go_wp2_with (first
    | (go_at_call 27; refine HBE.out.mono ?_; rintro x w1 ⟨rfl, h1, hb1⟩; obtain ⟨d0, d1, d2, d3, df⟩ := h1.cells; have hb2 := Lib.hid (HW.out.trans (Below.mono hb1 (by simp))); have hx1 := HB.out.below hb1 (by simp); obtain ⟨x0, x1, x2, x3, x4, x5, xf, xl⟩ := hx1.cells; have HX1 := Lib.hid hx1; have H1 := Lib.hid h1; have HL1 := Lib.hid (show w.heap.size + 1 < w1.heap.size from h1.lt); clear hx1 hb1 h1)
    | (go_at_call 62; refine (HV.out _ (by exact H1.out)).mono ?_; rintro x w2 ⟨b0, b1, b2, b3, b4, b5, b6, b7, b8, b9, rfl, ho, h2, hp2⟩; clear d0 d1 d2 d3 df x0 x1 x2 x3 x4 x5 xf xl; have h3 := h2.alloc (.cells #[.int .i64 b0, .int .i64 b1, .float .f64 b2, .string b3, .slice b4 b5 b6, .slice b7 b8 b9] 27); obtain ⟨d0, d1, d2, d3, df⟩ := h3.cells; have hx3 := (HX1.out.past hp2 (by omega)).alloc (.cells #[.int .i64 b0, .int .i64 b1, .float .f64 b2, .string b3, .slice b4 b5 b6, .slice b7 b8 b9] 27); have HX3 := Lib.hid hx3; have H3 := Lib.hid h3; have HO := Lib.hid (ho.alloc (.cells #[.int .i64 b0, .int .i64 b1, .float .f64 b2, .string b3, .slice b4 b5 b6, .slice b7 b8 b9] 27)); have HN3 := Lib.hid (Bx.new w2 #[.int .i64 b0, .int .i64 b1, .float .f64 b2, .string b3, .slice b4 b5 b6, .slice b7 b8 b9]); have hb3 := Lib.hid ((hb2.out.trans (hp2.below (Nat.le_succ _) HL1.out)).alloc (Nat.le_trans hb2.out.size hp2.size) (.cells #[.int .i64 b0, .int .i64 b1, .float .f64 b2, .string b3, .slice b4 b5 b6, .slice b7 b8 b9] 27)); clear h2 h3 hx3 hp2 ho)
    | (go_at_call 14; refine (HR.out _ _ (by exact HO.out.val)).mono ?_; rintro x w3 ⟨rfl, hb4⟩; clear d0 d1 d2 d3 df; obtain ⟨d0, d1, d2, d3, df⟩ := (H3.out.past hb4).cells; have hx4 := HX3.out.below hb4 HX3.out.lt; obtain ⟨x0, x1, x2, x3, x4, x5, xf, xl⟩ := hx4.cells; have HX4 := Lib.hid hx4; obtain ⟨z0, z1, z2, z3, z4, z5, zf, zl⟩ := (HN3.out.below hb4 HN3.out.lt).cells; have HO4 := Lib.hid (HO.out.keep hb4.size fun g _ hg => hb4.block g hg); have hb5 := Lib.hid (hb3.out.trans (hb4.mono hb3.out.size)); clear hx4 hb4))
  go_region
  go_wp2_with fail
  obtain ⟨y0, y1, y2, y3, y4, y5, yf, yl⟩ := (Bx.drew (HX4.out.six (.int .i64 b0) (.int .i64 b1) (.float .f64 b2) (.string b3) (.slice b4 b5 b6) (.slice b7 b8 b9))).cells
  have hfin := (Below.six hb5.out (Nat.le_refl _) (.int .i64 b0) (.int .i64 b1) (.float .f64 b2) (.string b3) (.slice b4 b5 b6) (.slice b7 b8 b9)).drew
  refine bodyPost_ret (v := .tuple #[.agg #[.int .i64 b0, .int .i64 b1, .float .f64 b2, .string b3, .slice b4 b5 b6, .slice b7 b8 b9], .int .i64 nx, .int .i64 0]) ?_ rfl ⟨⟨_, rfl, ?_⟩, hfin⟩
  · simp [results, Try.results32, go_sem, asAddr, y0, y1, y2, y3, y4, y5]
  · have hl := HL1.out
    have ho4 := HO4.out
    have hl4 : ¬ (w1.heap.size ≤ w.heap.size) := by omega
    generalize w1.heap.size = m1 at ho4 hl hl4
    exact ((ho4.six hl4 _ _ _ _ _ _).drew).imp fun b hb _ => by omega
end Go.Proofs.Yteclpehbpicpaaa

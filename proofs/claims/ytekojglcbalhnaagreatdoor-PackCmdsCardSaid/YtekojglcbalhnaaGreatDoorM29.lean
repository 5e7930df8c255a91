/-
  The program's reader of commands: a value.
  The document's reader of commands: ok, fail, num.
  The program's reader of commands: a value, or none.
-/
import Derived.Test.YtekojglcbalhnaaGreatDoorM28
import Derived.Test.YtekojglcbalhnaaGreatDoorM20
namespace Go.Proofs.YtekojglcbalhnaaGreatDoor
open Go.RowKit

/-- What a value's reading leaves. -/
def VaEnds (s : ByteArray) (w : World) (g : Nat) (r : Option (VT × List UInt8)) (e : Ending) (w' : World) : Prop :=
  Past g w w' ∧ match r with
  | none => e = .panicked (errL 5)
  | some (t, l) => (∃ v, e = .returned (.agg v) ∧ VOwn w' (fun b => w.heap.size ≤ b) v t) ∧ ∃ b : Nat, b ≤ s.size ∧ l = left s b ∧ Pr w' g s b
theorem rdV_at {s : ByteArray} {a : Nat} (ha : a ≤ s.size) : rdV s a = rrV (left s a) := by
  unfold rdV
  rw [if_neg (by omega), show ((a : Int)).toNat = a by omega]
set_option maxRecDepth 20000 in
set_option maxHeartbeats 2000000 in
theorem rvalue_bad {w : World} {g : Nat} {s : ByteArray} {a c : Nat} (h : Pr w g s a) (ha : a ≤ s.size) (hs : s.size ≤ 1000000000) (hr : rrV (left s a) = .error c) (hc : (c : Int) ≠ 0) :
    Calls Tryz.prog 79 #[.pointer (some ⟨g, 0, none⟩)] w fun e w' => e = .panicked (errL 5) ∧ Past g w w' := by
  obtain ⟨W1, hW1⟩ : ∃ W1, W1 = w.alloc (.cells #[.int .i64 0, .int .i64 0, .float .f64 0, .string ⟨#[]⟩, .slice none 0 0, .slice none 0 0] 28) := ⟨_, rfl⟩
  have hb1 : Below w.heap.size w W1 := by rw [hW1]; exact (Below.refl _ _).alloc (Nat.le_refl _) _
  have h1 : Pr W1 g s a := h.past hb1
  obtain ⟨c0, c1, cf⟩ := h1.cells
  obtain ⟨d0, d1, df⟩ := h1.drew.cells
  have F := fun W => ReadValue_err (s := s) (a := (a : Int)) (c := c) (w := W) (by rw [rdV_at ha]; exact hr) hs
  have G := Lib.hid (fun (W : World) (b : Int) => goOn_bad (w := W) (g := g) (b := b) hc)
  unfold zero6 at F
  have SF := float_store
  obtain ⟨WA, hWA⟩ : ∃ WA, WA = (W1.alloc (.cells #[.int .i64 0, .int .i64 0, .float .f64 0, .string ⟨#[]⟩, .slice none 0 0, .slice none 0 0] 28)).drew := ⟨_, rfl⟩
  have hbA : Below w.heap.size w WA := by rw [hWA]; exact (hb1.alloc hb1.size _).drew
  have hxA : Bx WA W1.heap.size #[.int .i64 0, .int .i64 0, .float .f64 0, .string ⟨#[]⟩, .slice none 0 0, .slice none 0 0] := by rw [hWA]; exact (Bx.new W1 _).drew
  obtain ⟨e0, e1, ef⟩ := (h1.past ((Below.refl W1.heap.size W1).alloc (Nat.le_refl _) (.cells #[.int .i64 0, .int .i64 0, .float .f64 0, .string ⟨#[]⟩, .slice none 0 0, .slice none 0 0] 28))).cells
  have HFA := Lib.hid (F WA)
  have HFB := Lib.hid (F W1.drew)
  have HBA := Lib.hid hbA
  have HXA := Lib.hid hxA
  have HBB := Lib.hid hb1.drew
  have HS := Lib.hid hb1.size
  have HW := Lib.hid hW1
  have HA := Lib.hid hWA
  rw [hWA] at HFA
  generalize (c : Int) = z at *
  clear h hb1 h1 cf df ef F hr hc hbA hxA hWA
  go_enter Tryz.func79, Tryz.ntmps79
  go_wp2_with fail
  rw [← HW.out]
  clear hW1
  go_region_law (first
    | (go_simp; go_at_call 113; (with_reducible refine HFA.out.mono ?_); rintro e w5 ⟨rfl, hb5⟩; rw [← HA.out] at hb5; have hx5 := HXA.out.below hb5 HXA.out.lt; obtain ⟨x0, x1, x2, x3, x4, x5, xf, xl⟩ := hx5.cells; have HB5 := Lib.hid (HBA.out.trans (hb5.mono HBA.out.size)); have HL5 := Lib.hid (hx5.lt); clear hb5 hx5)
    | (go_simp; go_at_call 113; (with_reducible refine HFB.out.mono ?_); rintro e w5 ⟨rfl, hb5⟩; have HB5 := Lib.hid (HBB.out.trans (Below.mono hb5 HBB.out.size)); clear hb5))
  all_goals
    go_simp
    go_wp2_with fail
    first
      | (obtain ⟨W6, hW6⟩ : ∃ W6, W6 = ((((((w5.setCell ⟨W1.heap.size, 0, none⟩ (.int .i64 0)).setCell ⟨W1.heap.size, 1, none⟩ (.int .i64 0)).setCell ⟨W1.heap.size, 2, none⟩ (.float .f64 0)).setCell ⟨W1.heap.size, 3, none⟩ (.string ⟨#[]⟩)).setCell ⟨W1.heap.size, 4, none⟩ (.slice none 0 0)).setCell ⟨W1.heap.size, 5, none⟩ (.slice none 0 0)) := ⟨_, rfl⟩
         rw [← hW6]
         have hb6 : Below w.heap.size w W6 := by rw [hW6]; exact Below.six HB5.out (R := W1.heap.size) HS.out _ _ _ _ _ _
         clear hW6
         refine (G.out _ _).mono ?_
         rintro e w6 ⟨rfl, rfl⟩
         exact ⟨rfl, rfl, Past.of_below hb6⟩)
      | (obtain ⟨W6, hW6⟩ : ∃ W6, W6 = w5.alloc (.cells #[.int .i64 0, .int .i64 0, .float .f64 0, .string ⟨#[]⟩, .slice none 0 0, .slice none 0 0] 28) := ⟨_, rfl⟩
         rw [← hW6]
         have hb6 : Below w.heap.size w W6 := by rw [hW6]; exact HB5.out.alloc HB5.out.size _
         clear hW6
         refine (G.out _ _).mono ?_
         rintro e w6 ⟨rfl, rfl⟩
         exact ⟨rfl, rfl, Past.of_below hb6⟩)
theorem Pr.six {w : World} {g R : Nat} {s : ByteArray} {a : Int} (h : Pr w g s a) (hR : R ≠ g) (v0 v1 v2 v3 v4 v5 : Value) :
    Pr ((((((w.setCell ⟨R, 0, none⟩ v0).setCell ⟨R, 1, none⟩ v1).setCell ⟨R, 2, none⟩ v2).setCell ⟨R, 3, none⟩ v3).setCell ⟨R, 4, none⟩ v4).setCell ⟨R, 5, none⟩ v5) g s a := by
  have hg : g ≠ R := fun e => hR e.symm
  unfold Pr at *
  rw [Below.heap_setCell _ _ _ _ (by simpa using hg), Below.heap_setCell _ _ _ _ (by simpa using hg), Below.heap_setCell _ _ _ _ (by simpa using hg), Below.heap_setCell _ _ _ _ (by simpa using hg), Below.heap_setCell _ _ _ _ (by simpa using hg), Below.heap_setCell _ _ _ _ (by simpa using hg)]
  exact h
set_option maxRecDepth 20000 in
set_option maxHeartbeats 4000000 in
theorem rvalue_good {w : World} {g : Nat} {s : ByteArray} {a b : Nat} {t : VT} {l : List UInt8} (h : Pr w g s a) (ha : a ≤ s.size) (hs : s.size ≤ 1000000000) (hr : rrV (left s a) = .ok (t, l)) (hb : s.size - l.length = b) :
    Calls Tryz.prog 79 #[.pointer (some ⟨g, 0, none⟩)] w fun e w' => Past g w w' ∧ (∃ v, e = .returned (.agg v) ∧ VOwn w' (fun b => w.heap.size ≤ b) v t) ∧ Pr w' g s b := by
  obtain ⟨W1, hW1⟩ : ∃ W1, W1 = w.alloc (.cells #[.int .i64 0, .int .i64 0, .float .f64 0, .string ⟨#[]⟩, .slice none 0 0, .slice none 0 0] 28) := ⟨_, rfl⟩
  have hb1 : Below w.heap.size w W1 := by rw [hW1]; exact (Below.refl _ _).alloc (Nat.le_refl _) _
  have hs1 : w.heap.size < W1.heap.size := by rw [hW1]; simp
  have hx1 : Bx W1 w.heap.size #[.int .i64 0, .int .i64 0, .float .f64 0, .string ⟨#[]⟩, .slice none 0 0, .slice none 0 0] := by rw [hW1]; exact Bx.new w _
  have h1 : Pr W1 g s a := h.past hb1
  have hg := h.lt
  obtain ⟨c0, c1, cf⟩ := h1.cells
  obtain ⟨d0, d1, df⟩ := h1.drew.cells
  have F : ∀ W, Calls Tryz.prog 113 #[.string s, .int .i64 a] W fun e w' => ∃ (b0 b1 : Int) (b2 : Nat) (b3 : ByteArray) (b4 : Option Addr) (b5 b6 : Nat) (b7 : Option Addr) (b8 b9 : Nat), e = .returned (.tuple #[.agg #[.int .i64 b0, .int .i64 b1, .float .f64 b2, .string b3, .slice b4 b5 b6, .slice b7 b8 b9], .int .i64 (b : Int), .int .i64 0]) ∧ VOwn w' (fun b => W.heap.size ≤ b) #[.int .i64 b0, .int .i64 b1, .float .f64 b2, .string b3, .slice b4 b5 b6, .slice b7 b8 b9] t ∧ Below W.heap.size W w' := fun W =>
    (ReadValue_ok (s := s) (a := (a : Int)) (t := t) (l := l) (w := W) (by rw [rdV_at ha]; exact hr) hs).mono fun x w' hx => by
      obtain ⟨⟨v, rfl, hv⟩, hb'⟩ := hx
      obtain ⟨b0, b1, b2, b3, b4, b5, b6, b7, b8, b9, rfl⟩ := hv.val.eight
      rw [hb]
      exact ⟨_, _, _, _, _, _, _, _, _, _, rfl, hv, hb'⟩
  have G := Lib.hid (fun (W : World) (hW : Pr W g s a) => goOn_ok hW (b : Int))
  have SF := float_store
  obtain ⟨WA, hWA⟩ : ∃ WA, WA = (W1.alloc (.cells #[.int .i64 0, .int .i64 0, .float .f64 0, .string ⟨#[]⟩, .slice none 0 0, .slice none 0 0] 28)).drew := ⟨_, rfl⟩
  have hbA : Below W1.heap.size W1 WA := by rw [hWA]; exact ((Below.refl _ _).alloc (Nat.le_refl _) _).drew
  have hsA : WA.heap.size = W1.heap.size + 1 := by rw [hWA]; simp
  have hxA : Bx WA W1.heap.size #[.int .i64 0, .int .i64 0, .float .f64 0, .string ⟨#[]⟩, .slice none 0 0, .slice none 0 0] := by rw [hWA]; exact (Bx.new W1 _).drew
  obtain ⟨e0, e1, ef⟩ := (h1.past ((Below.refl W1.heap.size W1).alloc (Nat.le_refl _) (.cells #[.int .i64 0, .int .i64 0, .float .f64 0, .string ⟨#[]⟩, .slice none 0 0, .slice none 0 0] 28))).cells
  have HFA := Lib.hid (F WA)
  have HFB := Lib.hid (F W1.drew)
  have HBA := Lib.hid hbA
  have HSA := Lib.hid hsA
  have HXA := Lib.hid hxA
  have HB1 := Lib.hid hb1
  have HS1 := Lib.hid hs1
  have HX1 := Lib.hid hx1
  have H1 := Lib.hid h1
  have HG := Lib.hid hg
  have HW := Lib.hid hW1
  have HA := Lib.hid hWA
  rw [hWA] at HFA
  clear h hb1 h1 cf df ef F hr hbA hxA hWA hb hsA hs1 hx1 hg
  go_enter Tryz.func79, Tryz.ntmps79
  go_wp2_with fail
  rw [← HW.out]
  clear hW1
  go_region_law (first
    | (go_simp; go_at_call 113; (with_reducible refine HFA.out.mono ?_); rintro e w5 ⟨b0, b1, b2, b3, b4, b5, b6, b7, b8, b9, rfl, hv5, hb5⟩; rw [← HA.out] at hb5 hv5; have hx5 := HXA.out.below hb5 HXA.out.lt; obtain ⟨x0, x1, x2, x3, x4, x5, xf, xl⟩ := hx5.cells; have HX5 := Lib.hid hx5; have HV5 := Lib.hid hv5; have HB5 := Lib.hid (HBA.out.trans (hb5.mono HBA.out.size)); clear hb5 hx5 hv5)
    | (go_simp; go_at_call 113; (with_reducible refine HFB.out.mono ?_); rintro e w5 ⟨b0, b1, b2, b3, b4, b5, b6, b7, b8, b9, rfl, hv5, hb5⟩; have HB5 := Lib.hid (((Below.refl W1.heap.size W1).drew).trans (Below.mono hb5 (Nat.le_refl _))); have HV5 := Lib.hid hv5; clear hb5 hv5))
  all_goals
    go_simp
    go_wp2_with fail
    first
      | (obtain ⟨W6, hW6⟩ : ∃ W6, W6 = ((((((w5.setCell ⟨W1.heap.size, 0, none⟩ (.int .i64 b0)).setCell ⟨W1.heap.size, 1, none⟩ (.int .i64 b1)).setCell ⟨W1.heap.size, 2, none⟩ (.float .f64 b2)).setCell ⟨W1.heap.size, 3, none⟩ (.string b3)).setCell ⟨W1.heap.size, 4, none⟩ (.slice b4 b5 b6)).setCell ⟨W1.heap.size, 5, none⟩ (.slice b7 b8 b9)) := ⟨_, rfl⟩
         rw [← hW6]
         have hx6 : Bx W6 W1.heap.size #[.int .i64 b0, .int .i64 b1, .float .f64 b2, .string b3, .slice b4 b5 b6, .slice b7 b8 b9] := by rw [hW6]; exact HX5.out.six _ _ _ _ _ _
         have hb6 : Below W1.heap.size W1 W6 := by rw [hW6]; exact Below.six HB5.out (R := W1.heap.size) (Nat.le_refl _) _ _ _ _ _ _
         have hv6 : VOwn W6 (fun b => W1.heap.size ≤ b) #[.int .i64 b0, .int .i64 b1, .float .f64 b2, .string b3, .slice b4 b5 b6, .slice b7 b8 b9] t := by
           rw [hW6]
           exact (HV5.out.six (by have := HSA.out; omega) _ _ _ _ _ _).imp fun b hb _ => by have := HSA.out; omega
         have hr6 : W1.heap.size ≤ W1.heap.size := Nat.le_refl _
         clear hW6
         have hp6 : Pr W6 g s a := H1.out.past hb6
         have HB6 := Lib.hid hb6
         have HV6 := Lib.hid hv6
         have HP6 := Lib.hid hp6
         obtain ⟨R2, hR2⟩ : ∃ R2, R2 = W1.heap.size := ⟨_, rfl⟩
         have HR6 : Hid (W1.heap.size ≤ R2) := Lib.hid (by rw [hR2]; exact hr6)
         rw [← hR2] at hx6 ⊢
         obtain ⟨x0, x1, x2, x3, x4, x5, xf, xl⟩ := hx6.cells
         have HX6 := Lib.hid hx6
         clear hR2 hx6 hb6 hv6 hr6 hp6
         refine (G.out _ HP6.out).mono ?_
         rintro e w7 ⟨rfl, h7, hp7⟩
         refine Hid.out ?_
         refine Lib.hid ?_
         have hne : R2 ≠ g := by have := HR6.out; have := HG.out; have := HS1.out; omega
         obtain ⟨x0, x1, x2, x3, x4, x5, xf, xl⟩ := (HX6.out.past hp7 hne).cells
         have hxr := ((HX1.out.below HB6.out HX1.out.lt).past hp7 (by have := HG.out; omega))
         obtain ⟨y0, y1, y2, y3, y4, y5, yf, yl⟩ := hxr.cells
         have HXR := Lib.hid hxr
         have HV7 := Lib.hid (HV6.out.past hp7 (by have := HG.out; have := HS1.out; omega))
         have HP7 := Lib.hid (((Past.of_below HB1.out).trans (Past.of_below (Below.mono HB6.out (Nat.le_refl _)))).trans hp7)
         have H7 := Lib.hid h7
         clear hp7 h7 hxr HX6 HV6
         go_wp2_with fail
         obtain ⟨z0, z1, z2, z3, z4, z5, zf, zl⟩ := (HXR.out.six (.int .i64 b0) (.int .i64 b1) (.float .f64 b2) (.string b3) (.slice b4 b5 b6) (.slice b7 b8 b9)).cells
         have hfin : Past g w _ := HP7.out.six (Nat.le_refl _) (.int .i64 b0) (.int .i64 b1) (.float .f64 b2) (.string b3) (.slice b4 b5 b6) (.slice b7 b8 b9)
         refine bodyPost_ret (v := .agg #[.int .i64 b0, .int .i64 b1, .float .f64 b2, .string b3, .slice b4 b5 b6, .slice b7 b8 b9]) ?_ rfl ⟨hfin, ⟨_, rfl, ?_⟩, H7.out.six (by have := HG.out; omega) _ _ _ _ _ _⟩
         · simp [results, Tryz.results79, go_sem, asAddr, z0, z1, z2, z3, z4, z5]
         · exact (HV7.out.six (by have := HS1.out; omega) _ _ _ _ _ _).imp fun b hb _ => by have := HS1.out; omega)
      | (obtain ⟨W6, hW6⟩ : ∃ W6, W6 = w5.alloc (.cells #[.int .i64 b0, .int .i64 b1, .float .f64 b2, .string b3, .slice b4 b5 b6, .slice b7 b8 b9] 28) := ⟨_, rfl⟩
         rw [← hW6]
         have hx6 : Bx W6 w5.heap.size #[.int .i64 b0, .int .i64 b1, .float .f64 b2, .string b3, .slice b4 b5 b6, .slice b7 b8 b9] := by rw [hW6]; exact Bx.new w5 _
         have hb6 : Below W1.heap.size W1 W6 := by rw [hW6]; exact HB5.out.alloc HB5.out.size _
         have hv6 : VOwn W6 (fun b => W1.heap.size ≤ b) #[.int .i64 b0, .int .i64 b1, .float .f64 b2, .string b3, .slice b4 b5 b6, .slice b7 b8 b9] t := by rw [hW6]; exact HV5.out.alloc _
         have hr6 : W1.heap.size ≤ w5.heap.size := HB5.out.size
         clear hW6
         have hp6 : Pr W6 g s a := H1.out.past hb6
         have HB6 := Lib.hid hb6
         have HV6 := Lib.hid hv6
         have HP6 := Lib.hid hp6
         obtain ⟨R2, hR2⟩ : ∃ R2, R2 = w5.heap.size := ⟨_, rfl⟩
         have HR6 : Hid (W1.heap.size ≤ R2) := Lib.hid (by rw [hR2]; exact hr6)
         rw [← hR2] at hx6 ⊢
         obtain ⟨x0, x1, x2, x3, x4, x5, xf, xl⟩ := hx6.cells
         have HX6 := Lib.hid hx6
         clear hR2 hx6 hb6 hv6 hr6 hp6
         refine (G.out _ HP6.out).mono ?_
         rintro e w7 ⟨rfl, h7, hp7⟩
         refine Hid.out ?_
         refine Lib.hid ?_
         have hne : R2 ≠ g := by have := HR6.out; have := HG.out; have := HS1.out; omega
         obtain ⟨x0, x1, x2, x3, x4, x5, xf, xl⟩ := (HX6.out.past hp7 hne).cells
         have hxr := ((HX1.out.below HB6.out HX1.out.lt).past hp7 (by have := HG.out; omega))
         obtain ⟨y0, y1, y2, y3, y4, y5, yf, yl⟩ := hxr.cells
         have HXR := Lib.hid hxr
         have HV7 := Lib.hid (HV6.out.past hp7 (by have := HG.out; have := HS1.out; omega))
         have HP7 := Lib.hid (((Past.of_below HB1.out).trans (Past.of_below (Below.mono HB6.out (Nat.le_refl _)))).trans hp7)
         have H7 := Lib.hid h7
         clear hp7 h7 hxr HX6 HV6
         go_wp2_with fail
         obtain ⟨z0, z1, z2, z3, z4, z5, zf, zl⟩ := (HXR.out.six (.int .i64 b0) (.int .i64 b1) (.float .f64 b2) (.string b3) (.slice b4 b5 b6) (.slice b7 b8 b9)).cells
         have hfin : Past g w _ := HP7.out.six (Nat.le_refl _) (.int .i64 b0) (.int .i64 b1) (.float .f64 b2) (.string b3) (.slice b4 b5 b6) (.slice b7 b8 b9)
         refine bodyPost_ret (v := .agg #[.int .i64 b0, .int .i64 b1, .float .f64 b2, .string b3, .slice b4 b5 b6, .slice b7 b8 b9]) ?_ rfl ⟨hfin, ⟨_, rfl, ?_⟩, H7.out.six (by have := HG.out; omega) _ _ _ _ _ _⟩
         · simp [results, Tryz.results79, go_sem, asAddr, z0, z1, z2, z3, z4, z5]
         · exact (HV7.out.six (by have := HS1.out; omega) _ _ _ _ _ _).imp fun b hb _ => by have := HS1.out; omega)
end Go.Proofs.YtekojglcbalhnaaGreatDoor
namespace Go.Proofs.YtekojglcbalhnaaGreatDoor
open Go.RowKit

/-- The document's reader, once it has an error. -/
def Rbad (w : World) (g : Nat) (s : ByteArray) : Prop := ∃ a e p : Int, e ≠ 0 ∧ Rdr w g s a e p
theorem Rbad.past {w w' : World} {g : Nat} {s : ByteArray} (h : Rbad w g s) (hb : Below w.heap.size w w') : Rbad w' g s := by
  obtain ⟨a, e, p, he, h⟩ := h
  exact ⟨a, e, p, he, h.past hb⟩
theorem Rbad.lt {w : World} {g : Nat} {s : ByteArray} (h : Rbad w g s) : g < w.heap.size := by
  obtain ⟨a, e, p, he, h⟩ := h
  exact h.lt
theorem iok_any {w : World} {g : Nat} {s : ByteArray} {a e p : Int} (h : Rdr w g s a e p) :
    Calls Tryz.prog 23 #[.agg #[.pointer (some ⟨g, 0, none⟩)]] w fun x w' => x = .returned (.bool (e == 0)) ∧ Below w.heap.size w w' := by
  have hb : Below w.heap.size w (w.alloc (.cells #[.pointer (some ⟨g, 0, none⟩)] 72)) := (Below.refl _ _).alloc (Nat.le_refl _) _
  obtain ⟨c0, c1, c2, c3, cf⟩ := (h.past hb).cells
  clear h
  go_enter Tryz.func23, Tryz.ntmps23
  go_wp2_with fail
  go_ret
  exact ⟨rfl, hb⟩
theorem ifail_any {w : World} {g : Nat} {s : ByteArray} {a e p : Int} (h : Rdr w g s a e p) :
    Calls Tryz.prog 48 #[.agg #[.pointer (some ⟨g, 0, none⟩)]] w fun x w' => x = .returned (.tuple #[]) ∧ Past g w w' ∧ Rbad w' g s := by
  have hb : Below w.heap.size w (w.alloc (.cells #[.pointer (some ⟨g, 0, none⟩)] 72)) := (Below.refl _ _).alloc (Nat.le_refl _) _
  have h1 := h.past hb
  obtain ⟨c0, c1, c2, c3, cf⟩ := h1.cells
  by_cases he : e = 0
  · subst he
    have fin := Lib.hid (And.intro ((Past.of_below (g := g) hb).set 2 (.int .i64 5)) (show Rbad _ g s from ⟨_, _, _, (by decide : (5 : Int) ≠ 0), h1.set2 5⟩))
    clear h h1 hb
    go_enter Tryz.func48, Tryz.ntmps48
    go_wp2_with fail
    go_end0
    exact ⟨rfl, fin.out⟩
  · have te : (e == 0) = false := by simpa using he
    have fin := Lib.hid (And.intro (Past.of_below (g := g) hb) (show Rbad _ g s from ⟨_, _, _, he, h1⟩))
    clear h h1 hb he
    go_enter Tryz.func48, Tryz.ntmps48
    go_wp2_with fail
    go_end0
    exact ⟨rfl, fin.out⟩
theorem inum_e {w : World} {g : Nat} {s : ByteArray} (h : Rbad w g s) :
    Calls Tryz.prog 24 #[.agg #[.pointer (some ⟨g, 0, none⟩)]] w fun x w' => x = .returned (.int .i64 0) ∧ Past g w w' ∧ Rbad w' g s := by
  obtain ⟨a, e, p, he, h⟩ := h
  have hb : Below w.heap.size w (w.alloc (.cells #[.pointer (some ⟨g, 0, none⟩)] 72)) := (Below.refl _ _).alloc (Nat.le_refl _) _
  have U := Uint_err (h.past hb) he
  have HB := Lib.hid hb
  have HE := Lib.hid he
  clear h hb he
  go_enter Tryz.func24, Tryz.ntmps24
  go_wp2_with (go_at_call 47; refine U.mono ?_; rintro x w1 ⟨rfl, h1, hp1⟩)
  go_ret
  exact ⟨rfl, (Past.of_below HB.out).trans hp1, _, _, _, HE.out, h1⟩
/-- What the document's reading of a small number leaves. -/
def InEnds (s : ByteArray) (w : World) (g : Nat) (r : Option (Nat × List UInt8)) (x : Ending) (w' : World) : Prop :=
  Past g w w' ∧ match r with
  | none => x = .returned (.int .i64 0) ∧ Rbad w' g s
  | some (n, l) => x = .returned (.int .i64 n) ∧ ∃ b : Nat, b ≤ s.size ∧ l = left s b ∧ Rdr w' g s b 0 0
set_option maxRecDepth 20000 in
theorem inum_0 {w : World} {g : Nat} {s : ByteArray} {a : Nat} (h : Rdr w g s a 0 0) (ha : a ≤ s.size) (hs : s.size ≤ 1000000000) :
    Calls Tryz.prog 24 #[.agg #[.pointer (some ⟨g, 0, none⟩)]] w fun x w' => InEnds s w g (smP (left s a)) x w' := by
  have hg := h.lt
  have hb : Below w.heap.size w (w.alloc (.cells #[.pointer (some ⟨g, 0, none⟩)] 72)) := (Below.refl _ _).alloc (Nat.le_refl _) _
  have hbx : (w.alloc (.cells #[.pointer (some ⟨g, 0, none⟩)] 72)).heap[w.heap.size]? = some (.cells #[.pointer (some ⟨g, 0, none⟩)] 72 (0, 0)) := heap_alloc_new w _
  unfold InEnds
  cases hu : uP 0 0 (left s a) with
  | error c =>
    have U := Uint_bad (h.past hb) ha hs hu
    have hc : (c : Int) ≠ 0 := by rcases uP_err _ _ _ _ hu with rfl | rfl <;> decide
    have hsm : smP (left s a) = none := by unfold smP; rw [hu]
    rw [hsm]
    dsimp only
    have HB := Lib.hid hb
    have HC := Lib.hid hc
    clear h hb hu hsm hbx hc
    go_enter Tryz.func24, Tryz.ntmps24
    go_wp2_with (go_at_call 47; refine U.mono ?_; rintro x w1 ⟨rfl, hp1, b, h1⟩)
    go_ret
    exact ⟨(Past.of_below HB.out).trans hp1, rfl, _, _, _, HC.out, h1⟩
  | ok z =>
    obtain ⟨n, l⟩ := z
    have U := Uint_good (h.past hb) ha hs hu
    have hin := U_in hu
    have HB := Lib.hid hb
    have HX := Lib.hid hbx
    have HG := Lib.hid hg
    by_cases h4 : n ≤ 10000
    · have hsm : smP (left s a) = some (n, l) := by unfold smP; rw [hu]; exact if_pos h4
      rw [hsm]
      dsimp only
      have t4 : decide ((10000 : Int) < (n : Int)) = false := by simp; omega
      have E4 : IntKind.i64.wrap (n : Int) = n := by rw [IntKind.wrap_i64]; omega
      clear h hb hu hsm hbx h4 hin hg
      go_enter Tryz.func24, Tryz.ntmps24
      go_wp2_with (go_at_call 47; refine U.mono ?_; rintro x w1 ⟨rfl, hp1, b, hb, hl, h1⟩)
      go_ret
      exact ⟨(Past.of_below HB.out).trans hp1, rfl, b, hb, hl, h1⟩
    · have hsm : smP (left s a) = none := by unfold smP; rw [hu]; exact if_neg h4
      rw [hsm]
      dsimp only
      have t4 : decide ((10000 : Int) < (n : Int)) = true := by simp; omega
      clear h hb hu hsm hbx h4 hin hg
      go_enter Tryz.func24, Tryz.ntmps24
      go_wp2_with (first
        | (go_at_call 47; refine U.mono ?_; rintro x w1 ⟨rfl, hp1, b, hb, hl, h1⟩; have hx1 := (hp1.block w.heap.size (by simp) (by have := HG.out; omega)).trans HX.out; have x0 : w1.cell? ⟨w.heap.size, 0, none⟩ = some (.pointer (some ⟨g, 0, none⟩)) := (by simp [World.cell?, hx1]); have HP := Lib.hid ((Past.of_below HB.out).trans hp1); have F := Lib.hid (ifail_any h1); clear hx1 hp1 h1 hb hl)
        | (go_at_call 48; refine F.out.mono ?_; rintro x w2 ⟨rfl, hp2, h2⟩))
      go_ret
      exact ⟨HP.out.trans hp2, rfl, h2⟩
end Go.Proofs.YtekojglcbalhnaaGreatDoor
namespace Go.Proofs.YtekojglcbalhnaaGreatDoor
open Go.RowKit

theorem uP_ne : ∀ (l : List UInt8) (i n c : Nat), uP i n l = .error c → c ≠ 0 := by
  intro l
  induction l with
  | nil => intro i n c h; rw [uP] at h; cases h; decide
  | cons b l ih =>
    intro i n c h
    rw [uP] at h
    split at h
    · cases h; decide
    · split at h
      · cases h
      · exact ih _ _ _ h
theorem iP_ne {l : List UInt8} {c : Nat} (h : iP l = .error c) : c ≠ 0 := by
  unfold iP at h
  cases hu : uP 0 0 l with
  | error c' => rw [hu] at h; cases h; exact uP_ne _ _ _ _ hu
  | ok z => rw [hu] at h; cases h
theorem mP_ne {l : List UInt8} {c : Nat} (h : mP l = .error c) : c ≠ 0 := by
  unfold mP at h
  cases hu : uP 0 0 l with
  | error c' => rw [hu] at h; cases h; exact uP_ne _ _ _ _ hu
  | ok z =>
    rw [hu] at h
    dsimp only at h
    split at h
    · cases h; decide
    · cases h
theorem sP_ne {m : Int} {l : List UInt8} {c : Nat} (h : sP m l = .error c) : c ≠ 0 := by
  unfold sP at h
  cases hu : uP 0 0 l with
  | error c' => rw [hu] at h; cases h; exact uP_ne _ _ _ _ hu
  | ok z =>
    rw [hu] at h
    dsimp only at h
    split at h
    · cases h; decide
    · split at h
      · cases h; decide
      · cases h
theorem plainP_ne {k : Nat} {l : List UInt8} {c : Nat} (h : plainP k l = .error c) : c ≠ 0 := by
  unfold plainP at h
  split at h
  · split at h
    · cases h; decide
    · split at h
      · cases h; decide
      · cases h
  · split at h
    · cases hi : iP l with
      | error c' => rw [hi] at h; cases h; exact iP_ne hi
      | ok z => rw [hi] at h; cases h
    · split at h
      · cases hi : wP 8 0 l with
        | error c' => rw [hi] at h; cases h; rw [(wP_err _ _ _ _ hi).1]; decide
        | ok z =>
          rw [hi] at h
          dsimp only at h
          split at h
          · cases h
          · cases h; decide
      · cases hi : sP 200 l with
        | error c' => rw [hi] at h; cases h; exact sP_ne hi
        | ok z => rw [hi] at h; cases h
theorem itemsP_ne {F : Nat → List UInt8 → Except Nat (VT × Nat × List UInt8)} {k : Nat} (hF : ∀ p l c, F p l = .error c → c ≠ 0) : ∀ (n p : Nat) (l : List UInt8) (c : Nat), itemsP F k n p l = .error c → c ≠ 0 := by
  intro n
  induction n with
  | zero => intro p l c h; rw [itemsP] at h; cases h
  | succ n ih =>
    intro p l c h
    rw [itemsP] at h
    cases hz : (if k = 6 then sP 30 l else .ok (⟨#[]⟩, l)) with
    | error c' =>
      rw [hz] at h
      cases h
      by_cases h6 : k = 6
      · rw [if_pos h6] at hz; exact sP_ne hz
      · rw [if_neg h6] at hz; cases hz
    | ok q =>
      obtain ⟨nm, l1⟩ := q
      rw [hz] at h
      dsimp only at h
      cases hf : F p l1 with
      | error c' => rw [hf] at h; cases h; exact hF _ _ _ hf
      | ok q =>
        obtain ⟨t, p1, l2⟩ := q
        rw [hf] at h
        dsimp only at h
        cases hi : itemsP F k n p1 l2 with
        | error c' => rw [hi] at h; cases h; exact ih _ _ _ hi
        | ok q => rw [hi] at h; cases h
theorem vP_ne : ∀ (q p : Nat) (l : List UInt8) (c : Nat), vP q p l = .error c → c ≠ 0 := by
  intro q
  induction q with
  | zero => intro p l c h; rw [vP] at h; cases h; decide
  | succ q ih =>
    intro p l c h
    cases l with
    | nil =>
      rw [vP_nil] at h
      split at h <;> (cases h; decide)
    | cons b l =>
      rw [vP_cons] at h
      split at h
      · cases h; decide
      · split at h
        · cases h; decide
        · split at h
          · cases hp : plainP b.toNat l with
            | error c' => rw [hp] at h; cases h; exact plainP_ne hp
            | ok z => rw [hp] at h; cases h
          · cases hm : mP l with
            | error c' => rw [hm] at h; cases h; exact mP_ne hm
            | ok z =>
              obtain ⟨n, r1⟩ := z
              rw [hm] at h
              dsimp only at h
              cases hi : itemsP (vP q) b.toNat n (p + 1) r1 with
              | error c' => rw [hi] at h; cases h; exact itemsP_ne ih _ _ _ _ hi
              | ok z => rw [hi] at h; cases h
theorem rrV_ne {l : List UInt8} {c : Nat} (h : rrV l = .error c) : (c : Int) ≠ 0 := by
  unfold rrV at h
  cases hv : vP 12 0 l with
  | error c' => rw [hv] at h; cases h; have := vP_ne _ _ _ _ hv; omega
  | ok z =>
    obtain ⟨t, p, r⟩ := z
    rw [hv] at h
    dsimp only at h
    split at h
    · cases h
    · cases h; decide
theorem rrV_one {l r : List UInt8} {t : VT} (h : rrV l = .ok (t, r)) : l = valL t ++ r ∧ okV t = true := by
  unfold rrV at h
  cases hv : vP 12 0 l with
  | error c' => rw [hv] at h; cases h
  | ok z =>
    obtain ⟨t', p, r'⟩ := z
    rw [hv] at h
    dsimp only at h
    split at h
    · cases h; exact ⟨v_one _ _ _ _ _ _ hv, by assumption⟩
    · cases h
theorem rvalue_any {w : World} {g : Nat} {s : ByteArray} {a : Nat} (h : Pr w g s a) (ha : a ≤ s.size) (hs : s.size ≤ 1000000000) :
    Calls Tryz.prog 79 #[.pointer (some ⟨g, 0, none⟩)] w fun e w' => VaEnds s w g (valP (left s a)) e w' := by
  cases hr : rrV (left s a) with
  | error c =>
    have hv : valP (left s a) = none := by unfold valP; rw [hr]
    rw [hv]
    exact (rvalue_bad h ha hs hr (rrV_ne hr)).mono fun e w' ⟨h1, h2⟩ => ⟨h2, h1⟩
  | ok z =>
    obtain ⟨t, l⟩ := z
    have hv : valP (left s a) = some (t, l) := by unfold valP; rw [hr]
    obtain ⟨el, eb, en⟩ := left_rest ha (rrV_one hr).1
    rw [hv]
    exact (rvalue_good h ha hs hr en).mono fun e w' ⟨h1, h2, h3⟩ => ⟨h1, h2, _, eb, el, h3⟩
set_option maxRecDepth 20000 in
set_option maxHeartbeats 2000000 in
theorem rsome_any {w : World} {g : Nat} {s : ByteArray} {a : Nat} (h : Pr w g s a) (ha : a ≤ s.size) (hs : s.size ≤ 1000000000) :
    Calls Tryz.prog 45 #[.pointer (some ⟨g, 0, none⟩)] w fun e w' => VaEnds s w g (svP (left s a)) e w' := by
  have hg := h.lt
  obtain ⟨W1, hW1⟩ : ∃ W1, W1 = w.alloc (.cells #[.int .i64 0, .int .i64 0, .float .f64 0, .string ⟨#[]⟩, .slice none 0 0, .slice none 0 0] 28) := ⟨_, rfl⟩
  have hb1 : Below w.heap.size w W1 := by rw [hW1]; exact (Below.refl _ _).alloc (Nat.le_refl _) _
  have hs1 : W1.heap.size = w.heap.size + 1 := by rw [hW1]; simp
  have hx1 : Bx W1 w.heap.size #[.int .i64 0, .int .i64 0, .float .f64 0, .string ⟨#[]⟩, .slice none 0 0, .slice none 0 0] := by rw [hW1]; exact Bx.new w _
  have S := rsmall_any (h.past hb1) ha hs
  have SF := float_store
  have HB := Lib.hid hb1
  have HX := Lib.hid hx1
  have HS := Lib.hid hs1
  have HG := Lib.hid hg
  have HW := Lib.hid hW1
  rw [hW1] at S
  have HSm := Lib.hid S
  clear S h hb1 hx1 hs1 hg hW1
  unfold svP
  cases hsm : smP (left s a) with
  | none =>
    rw [hsm] at HSm
    unfold VaEnds
    simp only [Option.bind_none]
    clear hsm
    go_enter Tryz.func45, Tryz.ntmps45
    go_wp2_with (go_at_call 44; refine HSm.out.mono ?_; rintro e w1 ⟨hp1, he⟩; dsimp only at he; subst he; rw [← HW.out] at hp1)
    exact ⟨rfl, (Past.of_below HB.out).trans hp1, rfl⟩
  | some z =>
    obtain ⟨n, l⟩ := z
    rw [hsm] at HSm
    have hn := (smP_in hsm).1
    simp only [Option.bind_some]
    clear hsm
    by_cases h2 : n ≤ 1
    · have t1 : decide ((n : Int) ≤ (1 : Int)) = true := by simp; omega
      by_cases h0 : n = 0
      · subst h0
        unfold VaEnds
        simp only [reduceIte]
        go_enter Tryz.func45, Tryz.ntmps45
        go_wp2_with (first
          | (go_at_call 44; refine HSm.out.mono ?_; rintro e w1 ⟨hp1, he⟩; dsimp only at he; obtain ⟨rfl, b, hb, hl, h1⟩ := he; rw [← HW.out] at hp1; have hx := HX.out.past hp1 (by have := HG.out; omega); obtain ⟨x0, x1, x2, x3, x4, x5, xf, xl⟩ := hx.cells; have HX1 := Lib.hid hx; have HP1 := Lib.hid ((Past.of_below HB.out).trans hp1); have H1 := Lib.hid h1; have HL := Lib.hid (And.intro hb hl); clear hp1 hx h1 hb hl)
          | (go_at_call 63; refine (pinsist_yes _).mono ?_; rintro e w3 ⟨rfl, rfl⟩))
        obtain ⟨z0, z1, z2, z3, z4, z5, zf, zl⟩ := (HX1.out.six (.int .i64 0) (.int .i64 0) (.float .f64 0) (.string ⟨#[]⟩) (.slice none 0 0) (.slice none 0 0)).cells
        have hfin : Past g w _ := HP1.out.six (Nat.le_refl _) (.int .i64 0) (.int .i64 0) (.float .f64 0) (.string ⟨#[]⟩) (.slice none 0 0) (.slice none 0 0)
        refine bodyPost_ret (v := .agg #[.int .i64 0, .int .i64 0, .float .f64 0, .string ⟨#[]⟩, .slice none 0 0, .slice none 0 0]) ?_ rfl ⟨hfin, ⟨_, rfl, ?_⟩, b, HL.out.1, HL.out.2, H1.out.six (by have := HG.out; omega) _ _ _ _ _ _⟩
        · simp [results, Tryz.results45, go_sem, asAddr, z0, z1, z2, z3, z4, z5]
        · exact VOwn.leaf (by omega) (by omega) (by omega) (by decide)
      · obtain rfl : n = 1 := by omega
        simp only [if_neg (show ¬ (1 : Nat) = 0 by omega), reduceIte]
        have V := fun (W : World) (b : Nat) (hb : b ≤ s.size) (hW : Pr W g s b) => rvalue_any hW hb hs
        have HV := Lib.hid V
        have HV := Lib.hid (fun (W : World) (b : Nat) (hb : b ≤ s.size) (hl : l = left s b) (hW : Pr W g s b) => (by rw [hl]; exact V W b hb hW : Calls Tryz.prog 79 #[.pointer (some ⟨g, 0, none⟩)] W fun e w' => VaEnds s W g (valP l) e w'))
        clear V h0 h2
        unfold VaEnds at HV ⊢
        cases hr : valP l with
        | none =>
          rw [hr] at HV
          dsimp only at HV ⊢
          clear hr
          go_enter Tryz.func45, Tryz.ntmps45
          go_wp2_with (first
            | (go_at_call 44; refine HSm.out.mono ?_; rintro e w1 ⟨hp1, he⟩; dsimp only at he; obtain ⟨rfl, b, hb, hl, h1⟩ := he; rw [← HW.out] at hp1; have HX1 := Lib.hid (HX.out.past hp1 (by have := HG.out; omega)); have HP1 := Lib.hid ((Past.of_below HB.out).trans hp1); have HQ1 := Lib.hid hp1.size; have HC := Lib.hid (HV.out _ b hb hl h1); clear hp1 h1 hb hl)
            | (go_at_call 63; refine (pinsist_yes _).mono ?_; rintro e w3 ⟨rfl, rfl⟩)
            | fail)
          refine HC.out.mono ?_
          rintro e w4 ⟨hp4, he⟩
          subst he
          exact ⟨rfl, HP1.out.trans hp4, rfl⟩
        | some z =>
          obtain ⟨t, l4⟩ := z
          rw [hr] at HV
          dsimp only at HV ⊢
          clear hr
          go_enter Tryz.func45, Tryz.ntmps45
          go_wp2_with (first
            | (go_at_call 44; refine HSm.out.mono ?_; rintro e w1 ⟨hp1, he⟩; dsimp only at he; obtain ⟨rfl, b, hb, hl, h1⟩ := he; rw [← HW.out] at hp1; have HX1 := Lib.hid (HX.out.past hp1 (by have := HG.out; omega)); have HP1 := Lib.hid ((Past.of_below HB.out).trans hp1); have HQ1 := Lib.hid hp1.size; have HC := Lib.hid (HV.out _ b hb hl h1); clear hp1 h1 hb hl)
            | (go_at_call 63; refine (pinsist_yes _).mono ?_; rintro e w3 ⟨rfl, rfl⟩)
            | fail)
          refine HC.out.mono ?_
          rintro e w4 ⟨hp4, he⟩
          obtain ⟨⟨v, rfl, hv⟩, b4, hb4, hl4, h4⟩ := he
          obtain ⟨b0, b1, b2, b3, q4, b5, b6, b7, b8, b9, rfl⟩ := hv.val.eight
          have hx := HX1.out.past hp4 (by have := HG.out; omega)
          obtain ⟨x0, x1, x2, x3, x4, x5, xf, xl⟩ := hx.cells
          have HX4 := Lib.hid hx
          have HV4 := Lib.hid hv
          have HP4 := Lib.hid (HP1.out.trans hp4)
          have H4 := Lib.hid h4
          have HL4 := Lib.hid (And.intro hb4 hl4)
          clear hx hv hp4 h4 hb4 hl4
          go_wp2_with fail
          obtain ⟨z0, z1, z2, z3, z4, z5, zf, zl⟩ := (HX4.out.six (.int .i64 b0) (.int .i64 b1) (.float .f64 b2) (.string b3) (.slice q4 b5 b6) (.slice b7 b8 b9)).cells
          have hfin : Past g w _ := HP4.out.six (Nat.le_refl _) (.int .i64 b0) (.int .i64 b1) (.float .f64 b2) (.string b3) (.slice q4 b5 b6) (.slice b7 b8 b9)
          refine bodyPost_ret (v := .agg #[.int .i64 b0, .int .i64 b1, .float .f64 b2, .string b3, .slice q4 b5 b6, .slice b7 b8 b9]) ?_ rfl ⟨hfin, ⟨_, rfl, ?_⟩, b4, HL4.out.1, HL4.out.2, H4.out.six (by have := HG.out; omega) _ _ _ _ _ _⟩
          · simp [results, Tryz.results45, go_sem, asAddr, z0, z1, z2, z3, z4, z5]
          · have hq := HQ1.out
            have hs := HS.out
            exact (HV4.out.six (by omega) _ _ _ _ _ _).imp fun b hb _ => by omega
    · have t1 : decide ((n : Int) ≤ (1 : Int)) = false := by simp; omega
      unfold VaEnds
      rw [if_neg (by omega), if_neg (by omega)]
      go_enter Tryz.func45, Tryz.ntmps45
      go_wp2_with (first
        | (go_at_call 44; refine HSm.out.mono ?_; rintro e w1 ⟨hp1, he⟩; dsimp only at he; obtain ⟨rfl, b, hb, hl, h1⟩ := he; rw [← HW.out] at hp1)
        | (go_at_call 63; refine (pinsist_no _).mono ?_; rintro e w3 ⟨rfl, rfl⟩))
      exact ⟨rfl, (Past.of_below HB.out).trans hp1, rfl⟩
end Go.Proofs.YtekojglcbalhnaaGreatDoor

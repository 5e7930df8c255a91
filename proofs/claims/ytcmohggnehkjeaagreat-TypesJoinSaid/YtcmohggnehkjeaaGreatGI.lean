/-
  The landed package types: ofTwo.
  The landed package types: ofTwo of two lists.
  The landed package types: typeOver at constants, variables, lists, two Kids.
  The landed package types: typeOver as one contract; what typeOf answers, plainly.
  The landed package types: typeOf.
  The landed package types: Check, of small right expressions, with the one variable x.
  The law's own checked: a text's type.
  The law's own awake.
  Law 9's awake.
  A type that came in, opened: the tree that it is; what is none has no room.
-/
import Derived.Test.YtcmohggnehkjeaaGreatGH
import Derived.Test.YtcmohggnehkjeaaGreatGA
namespace Go.Proofs.YtcmohggnehkjeaaGreat
open Go.RowKit

def kindT : TT → Int
  | .bad => 0
  | .mk k _ _ _ _ => k
def tyBool : TT := .mk 1 0 (fun _ => ⟨#[]⟩) 0 (fun _ => .bad)
theorem tyBool_at (w : World) (Q : Nat → Prop) : TW w Q #[.int .i64 1, .slice none 0 0, .slice none 0 0] tyBool :=
  .mk 1 none 0 0 none 0 0 _ _ (fun _ => #[]) (by omega) (by unfold maxLen; omega) (by unfold maxLen; omega) (fun _ => rfl) (fun _ => rfl) (fun h => absurd h (by omega)) (fun h => absurd h (by omega)) (fun i hi => absurd hi (Nat.not_lt_zero i))
/-- Both of one of these kinds. -/
def alikeE (L : List Int) (r : TT) (a b : TT) : Except Int TT := if kindT a ∈ L ∧ kindT b = kindT a then .ok r else .error 6
/-- A list of ints, just laid. -/
theorem ints_new (w : World) (L : List Int) : IntsAt (w.alloc (.cells (L.map fun x => Value.int .i64 x).toArray 3)) (some ⟨w.heap.size, 0, none⟩) L := fun _ => by
  refine ⟨w.heap.size, 0, rfl, by simp, fun i x hi => ?_⟩
  have h := heap_alloc_new w (.cells (L.map fun x => Value.int .i64 x).toArray 3)
  simp only [World.cell?, Nat.zero_add]
  rw [h]
  simp [hi]
theorem TW.kind {w : World} {Q : Nat → Prop} {v : Array Value} {t : TT} (h : TW w Q v t) : ∃ A c ca B m cb, v = #[.int .i64 (kindT t), .slice A c ca, .slice B m cb] := by
  cases h; exact ⟨_, _, _, _, _, _, rfl⟩
/-- A call of among over kinds just laid. -/
theorem among_new {w : World} {k : Int} {A B : Option Addr} {c ca m cb : Nat} (L : List Int) (n : Nat) (hn : n = L.length) (hl : L.length ≤ 1000) :
    Calls Tryz.prog 121 #[.agg #[.int .i64 k, .slice A c ca, .slice B m cb], .slice (some ⟨w.heap.size, 0, none⟩) n n] (w.alloc (.cells (L.map fun x => Value.int .i64 x).toArray 3)) fun e w' => (if k ∈ L then e = .returned (.agg #[.int .i64 k, .slice A c ca, .slice B m cb]) else e = .panicked (gaveP 6)) ∧ Below w.heap.size w w' := by
  subst hn
  refine (among_any (ints_new w L) hl).mono ?_
  intro e w' h
  exact ⟨h.1, ((Below.refl _ _).alloc (Nat.le_refl _) _).trans (h.2.mono (by simp))⟩
set_option maxRecDepth 20000 in
set_option maxHeartbeats 400000 in
theorem two_5 {a b : TT} {v u : Array Value} {Q : Nat → Prop} {w : World} (h5 : kindT a ≠ 5) (hv : TW w Q v a) (hu : TW w Q u b) :
    Calls Tryz.prog 123 #[.int .i64 5, .agg v, .agg u] w (Finds Q (alikeE [2, 3, 4] b a b) w) := by
  obtain ⟨hb0, hx0, hx1, hx2⟩ := join_boxes w v u #[.int .i64 0, .slice none 0 0, .slice none 0 0]
  obtain ⟨x1, x2, x3, x4, x5, x6, rfl⟩ := hv.kind
  have hu' := hu.imp (Q := fun g => Q g ∧ g < w.heap.size) fun g hg hl => ⟨hg, hl⟩
  obtain ⟨y1, y2, y3, y4, y5, y6, rfl⟩ := hu.kind
  obtain ⟨r, hr⟩ : ∃ r, r = alikeE [2, 3, 4] b a b := ⟨_, rfl⟩
  rw [← hr]
  unfold alikeE at hr
  generalize kindT a = k1 at *
  generalize kindT b = k2 at *
  obtain ⟨c0, c1, c2, _, _⟩ := hx0.cells
  have HB := Lib.hid hb0
  have HX := Lib.hid (And.intro hx0 (And.intro hx1 hx2))
  have HU := Lib.hid hu'
  have A1 : Hid (Calls Tryz.prog 121 #[.agg #[.int .i64 k1, .slice x1 x2 x3, .slice x4 x5 x6], .slice (some ⟨w.heap.size + 1 + 1 + 1, 0, none⟩) 3 3] ((((w.alloc (.cells #[.int .i64 k1, .slice x1 x2 x3, .slice x4 x5 x6] 25)).alloc (.cells #[.int .i64 k2, .slice y1 y2 y3, .slice y4 y5 y6] 25)).alloc (.cells #[.int .i64 0, .slice none 0 0, .slice none 0 0] 25)).alloc (.cells #[.int .i64 2, .int .i64 3, .int .i64 4] 3)) fun e w' => (if k1 ∈ ([2, 3, 4] : List Int) then e = .returned (.agg #[.int .i64 k1, .slice x1 x2 x3, .slice x4 x5 x6]) else e = .panicked (gaveP 6)) ∧ Below (((w.alloc (.cells #[.int .i64 k1, .slice x1 x2 x3, .slice x4 x5 x6] 25)).alloc (.cells #[.int .i64 k2, .slice y1 y2 y3, .slice y4 y5 y6] 25)).alloc (.cells #[.int .i64 0, .slice none 0 0, .slice none 0 0] 25)).heap.size (((w.alloc (.cells #[.int .i64 k1, .slice x1 x2 x3, .slice x4 x5 x6] 25)).alloc (.cells #[.int .i64 k2, .slice y1 y2 y3, .slice y4 y5 y6] 25)).alloc (.cells #[.int .i64 0, .slice none 0 0, .slice none 0 0] 25)) w') := Lib.hid (by
    have h := among_new (w := (((w.alloc (.cells #[.int .i64 k1, .slice x1 x2 x3, .slice x4 x5 x6] 25)).alloc (.cells #[.int .i64 k2, .slice y1 y2 y3, .slice y4 y5 y6] 25)).alloc (.cells #[.int .i64 0, .slice none 0 0, .slice none 0 0] 25))) (k := k1) (A := x1) (c := x2) (ca := x3) (B := x4) (m := x5) (cb := x6) [2, 3, 4] 3 rfl (by simp)
    have e : (((w.alloc (.cells #[.int .i64 k1, .slice x1 x2 x3, .slice x4 x5 x6] 25)).alloc (.cells #[.int .i64 k2, .slice y1 y2 y3, .slice y4 y5 y6] 25)).alloc (.cells #[.int .i64 0, .slice none 0 0, .slice none 0 0] 25)).heap.size = w.heap.size + 1 + 1 + 1 := by simp
    generalize (((w.alloc (.cells #[.int .i64 k1, .slice x1 x2 x3, .slice x4 x5 x6] 25)).alloc (.cells #[.int .i64 k2, .slice y1 y2 y3, .slice y4 y5 y6] 25)).alloc (.cells #[.int .i64 0, .slice none 0 0, .slice none 0 0] 25)) = W at *
    rw [← e]
    exact h)
  have A2 : Hid (∀ W : World, Calls Tryz.prog 121 #[.agg #[.int .i64 k2, .slice y1 y2 y3, .slice y4 y5 y6], .slice (some ⟨W.heap.size, 0, none⟩) 1 1] (W.alloc (.cells #[.int .i64 k1] 3)) fun e w' => (if k2 ∈ [k1] then e = .returned (.agg #[.int .i64 k2, .slice y1 y2 y3, .slice y4 y5 y6]) else e = .panicked (gaveP 6)) ∧ Below W.heap.size W w') := Lib.hid fun W => among_new [k1] 1 rfl (by simp)
  have t5 : (k1 == 5) = false := by rw [beq_eq_false_iff_ne]; exact h5
  clear hv hu hu' hb0 hx0 hx1 hx2 h5
  by_cases h1 : k1 ∈ ([2, 3, 4] : List Int)
  · simp only [if_pos h1] at A1
    by_cases h2 : k2 = k1
    · rw [if_pos ⟨h1, h2⟩] at hr
      simp only [if_pos (show k2 ∈ [k1] by rw [h2]; exact List.mem_singleton.2 rfl)] at A2
      clear h1 h2
      subst hr
      go_enter Tryz.func123, Tryz.ntmps123
      go_wp2_with (go_at_call 121; refine A1.out.mono ?_; rintro e w1 ⟨rfl, hb1⟩; refine Hid.out ?_)
      refine Lib.hid ?_
      obtain ⟨d0, d1, d2, _, _⟩ := (HX.out.1.below hb1).cells
      obtain ⟨e0, e1, e2, _, _⟩ := (HX.out.2.1.below hb1).cells
      have HX1 := Lib.hid (HX.out.2.2.below hb1)
      have HB1 := Lib.hid (HB.out.trans (hb1.mono HB.out.size))
      clear hb1
      go_wp2_with (first
        | (go_at_call 121; refine (A2.out w1).mono ?_; rintro e w2 ⟨rfl, hb2⟩; have HX2 := Lib.hid (HX1.out.below hb2); have HB2 := Lib.hid (HB1.out.trans (hb2.mono HB1.out.size)); clear hb2)
        | (refine stT rfl _ _ rfl (w.heap.size + 1 + 1) #[.int .i64 k2, .slice y1 y2 y3, .slice y4 y5 y6] _ rfl rfl HX2.out rfl rfl (by simp [Value.oneCell']) ?_))
      refine bodyPost_ret (results_typ rfl _ _ (w.heap.size + 1 + 1) _ rfl (HX2.out.put _) rfl) rfl ⟨below_row HB2.out (by omega) _, _, rfl, ?_⟩
      refine ((HU.out.stay HB2.out).keep (by simp [World.setRow]) fun g hg _ => setRow_other _ _ _ _ (by have := hg.2; omega)).imp fun g hg _ => .inl hg.1
    · rw [if_neg fun h => h2 h.2] at hr
      simp only [if_neg (show ¬ k2 ∈ [k1] by intro h; exact h2 (List.mem_singleton.1 h))] at A2
      clear h1 h2
      subst hr
      go_enter Tryz.func123, Tryz.ntmps123
      go_wp2_with (go_at_call 121; refine A1.out.mono ?_; rintro e w1 ⟨rfl, hb1⟩; refine Hid.out ?_)
      refine Lib.hid ?_
      obtain ⟨d0, d1, d2, _, _⟩ := (HX.out.1.below hb1).cells
      obtain ⟨e0, e1, e2, _, _⟩ := (HX.out.2.1.below hb1).cells
      have HB1 := Lib.hid (HB.out.trans (hb1.mono HB.out.size))
      clear hb1
      go_wp2_with (go_at_call 121; refine (A2.out w1).mono ?_; rintro e w2 ⟨rfl, hb2⟩)
      exact ⟨rfl, HB1.out.trans (hb2.mono HB1.out.size), rfl⟩
  · rw [if_neg fun h => h1 h.1] at hr
    simp only [if_neg h1] at A1
    clear h1
    subst hr
    go_enter Tryz.func123, Tryz.ntmps123
    go_wp2_with (go_at_call 121; refine A1.out.mono ?_; rintro e w1 ⟨rfl, hb1⟩)
    exact ⟨rfl, HB.out.trans (hb1.mono HB.out.size), rfl⟩
set_option maxRecDepth 20000 in
set_option maxHeartbeats 400000 in
theorem two_11 {a b : TT} {v u : Array Value} {Q : Nat → Prop} {w : World} (hv : TW w Q v a) (hu : TW w Q u b) :
    Calls Tryz.prog 123 #[.int .i64 11, .agg v, .agg u] w (Finds Q (alikeE [2, 3, 4] tyBool a b) w) := by
  obtain ⟨hb0, hx0, hx1, hx2⟩ := join_boxes w v u #[.int .i64 0, .slice none 0 0, .slice none 0 0]
  obtain ⟨x1, x2, x3, x4, x5, x6, rfl⟩ := hv.kind
  have hu' := hu.imp (Q := fun g => Q g ∧ g < w.heap.size) fun g hg hl => ⟨hg, hl⟩
  obtain ⟨y1, y2, y3, y4, y5, y6, rfl⟩ := hu.kind
  obtain ⟨r, hr⟩ : ∃ r, r = alikeE [2, 3, 4] tyBool a b := ⟨_, rfl⟩
  rw [← hr]
  unfold alikeE at hr
  generalize kindT a = k1 at *
  generalize kindT b = k2 at *
  obtain ⟨c0, c1, c2, _, _⟩ := hx0.cells
  have HB := Lib.hid hb0
  have HX := Lib.hid (And.intro hx0 (And.intro hx1 hx2))
  have HU := Lib.hid hu'
  have A1 : Hid (Calls Tryz.prog 121 #[.agg #[.int .i64 k1, .slice x1 x2 x3, .slice x4 x5 x6], .slice (some ⟨w.heap.size + 1 + 1 + 1, 0, none⟩) 3 3] ((((w.alloc (.cells #[.int .i64 k1, .slice x1 x2 x3, .slice x4 x5 x6] 25)).alloc (.cells #[.int .i64 k2, .slice y1 y2 y3, .slice y4 y5 y6] 25)).alloc (.cells #[.int .i64 0, .slice none 0 0, .slice none 0 0] 25)).alloc (.cells #[.int .i64 2, .int .i64 3, .int .i64 4] 3)) fun e w' => (if k1 ∈ ([2, 3, 4] : List Int) then e = .returned (.agg #[.int .i64 k1, .slice x1 x2 x3, .slice x4 x5 x6]) else e = .panicked (gaveP 6)) ∧ Below (((w.alloc (.cells #[.int .i64 k1, .slice x1 x2 x3, .slice x4 x5 x6] 25)).alloc (.cells #[.int .i64 k2, .slice y1 y2 y3, .slice y4 y5 y6] 25)).alloc (.cells #[.int .i64 0, .slice none 0 0, .slice none 0 0] 25)).heap.size (((w.alloc (.cells #[.int .i64 k1, .slice x1 x2 x3, .slice x4 x5 x6] 25)).alloc (.cells #[.int .i64 k2, .slice y1 y2 y3, .slice y4 y5 y6] 25)).alloc (.cells #[.int .i64 0, .slice none 0 0, .slice none 0 0] 25)) w') := Lib.hid (by
    have h := among_new (w := (((w.alloc (.cells #[.int .i64 k1, .slice x1 x2 x3, .slice x4 x5 x6] 25)).alloc (.cells #[.int .i64 k2, .slice y1 y2 y3, .slice y4 y5 y6] 25)).alloc (.cells #[.int .i64 0, .slice none 0 0, .slice none 0 0] 25))) (k := k1) (A := x1) (c := x2) (ca := x3) (B := x4) (m := x5) (cb := x6) [2, 3, 4] 3 rfl (by simp)
    have e : (((w.alloc (.cells #[.int .i64 k1, .slice x1 x2 x3, .slice x4 x5 x6] 25)).alloc (.cells #[.int .i64 k2, .slice y1 y2 y3, .slice y4 y5 y6] 25)).alloc (.cells #[.int .i64 0, .slice none 0 0, .slice none 0 0] 25)).heap.size = w.heap.size + 1 + 1 + 1 := by simp
    generalize (((w.alloc (.cells #[.int .i64 k1, .slice x1 x2 x3, .slice x4 x5 x6] 25)).alloc (.cells #[.int .i64 k2, .slice y1 y2 y3, .slice y4 y5 y6] 25)).alloc (.cells #[.int .i64 0, .slice none 0 0, .slice none 0 0] 25)) = W at *
    rw [← e]
    exact h)
  have A2 : Hid (∀ W : World, Calls Tryz.prog 121 #[.agg #[.int .i64 k2, .slice y1 y2 y3, .slice y4 y5 y6], .slice (some ⟨W.heap.size, 0, none⟩) 1 1] (W.alloc (.cells #[.int .i64 k1] 3)) fun e w' => (if k2 ∈ [k1] then e = .returned (.agg #[.int .i64 k2, .slice y1 y2 y3, .slice y4 y5 y6]) else e = .panicked (gaveP 6)) ∧ Below W.heap.size W w') := Lib.hid fun W => among_new [k1] 1 rfl (by simp)
  clear hv hu hu' hb0 hx0 hx1 hx2
  by_cases h1 : k1 ∈ ([2, 3, 4] : List Int)
  · simp only [if_pos h1] at A1
    by_cases h2 : k2 = k1
    · rw [if_pos ⟨h1, h2⟩] at hr
      simp only [if_pos (show k2 ∈ [k1] by rw [h2]; exact List.mem_singleton.2 rfl)] at A2
      clear h1 h2
      subst hr
      go_enter Tryz.func123, Tryz.ntmps123
      go_wp2_with (go_at_call 121; refine A1.out.mono ?_; rintro e w1 ⟨rfl, hb1⟩; refine Hid.out ?_)
      refine Lib.hid ?_
      obtain ⟨d0, d1, d2, _, _⟩ := (HX.out.1.below hb1).cells
      obtain ⟨e0, e1, e2, _, _⟩ := (HX.out.2.1.below hb1).cells
      have HX1 := Lib.hid (HX.out.2.2.below hb1)
      have HB1 := Lib.hid (HB.out.trans (hb1.mono HB.out.size))
      clear hb1
      go_wp2_with (first
        | (go_at_call 121; refine (A2.out w1).mono ?_; rintro e w2 ⟨rfl, hb2⟩; have HX2 := Lib.hid (HX1.out.below hb2); have HB2 := Lib.hid (HB1.out.trans (hb2.mono HB1.out.size)); clear hb2)
        | (refine stT rfl _ _ rfl (w.heap.size + 1 + 1) #[.int .i64 1, .slice none 0 0, .slice none 0 0] _ rfl rfl HX2.out rfl rfl (by simp [Value.oneCell']) ?_))
      refine bodyPost_ret (results_typ rfl _ _ (w.heap.size + 1 + 1) _ rfl (HX2.out.put _) rfl) rfl ⟨below_row HB2.out (by omega) _, _, rfl, ?_⟩
      exact tyBool_at _ _
    · rw [if_neg fun h => h2 h.2] at hr
      simp only [if_neg (show ¬ k2 ∈ [k1] by intro h; exact h2 (List.mem_singleton.1 h))] at A2
      clear h1 h2
      subst hr
      go_enter Tryz.func123, Tryz.ntmps123
      go_wp2_with (go_at_call 121; refine A1.out.mono ?_; rintro e w1 ⟨rfl, hb1⟩; refine Hid.out ?_)
      refine Lib.hid ?_
      obtain ⟨d0, d1, d2, _, _⟩ := (HX.out.1.below hb1).cells
      obtain ⟨e0, e1, e2, _, _⟩ := (HX.out.2.1.below hb1).cells
      have HB1 := Lib.hid (HB.out.trans (hb1.mono HB.out.size))
      clear hb1
      go_wp2_with (go_at_call 121; refine (A2.out w1).mono ?_; rintro e w2 ⟨rfl, hb2⟩)
      exact ⟨rfl, HB1.out.trans (hb2.mono HB1.out.size), rfl⟩
  · rw [if_neg fun h => h1 h.1] at hr
    simp only [if_neg h1] at A1
    clear h1
    subst hr
    go_enter Tryz.func123, Tryz.ntmps123
    go_wp2_with (go_at_call 121; refine A1.out.mono ?_; rintro e w1 ⟨rfl, hb1⟩)
    exact ⟨rfl, HB.out.trans (hb1.mono HB.out.size), rfl⟩
end Go.Proofs.YtcmohggnehkjeaaGreat
namespace Go.Proofs.YtcmohggnehkjeaaGreat
open Go.RowKit

def addL (a b : TT) : Except Int TT := if kindT b = 5 then joinE a b else .error 6
set_option maxRecDepth 20000 in
set_option maxHeartbeats 400000 in
theorem two_5l {a b : TT} {v u : Array Value} {Q : Nat → Prop} {w : World} (ha : kindT a = 5) (hv : TW w Q v a) (hu : TW w Q u b) (sa : shp a ∧ tfew a) (sb : shp b) :
    Calls Tryz.prog 123 #[.int .i64 5, .agg v, .agg u] w (Finds Q (addL a b) w) := by
  obtain ⟨hb0, hx0, hx1, hx2⟩ := join_boxes w v u #[.int .i64 0, .slice none 0 0, .slice none 0 0]
  have hv' := hv.imp (Q := fun g => Q g ∧ g < w.heap.size) fun g hg hl => ⟨hg, hl⟩
  have hu' := hu.imp (Q := fun g => Q g ∧ g < w.heap.size) fun g hg hl => ⟨hg, hl⟩
  have HV := Lib.hid (And.intro hv' hu')
  have J := fun W (hb : Below w.heap.size w W) => join_any a b v u _ W (hv'.stay hb) (hu'.stay hb) sa.1 sb sa.2
  have HJ := Lib.hid J
  obtain ⟨x1, x2, x3, x4, x5, x6, rfl⟩ := hv.kind
  obtain ⟨y1, y2, y3, y4, y5, y6, rfl⟩ := hu.kind
  obtain ⟨r, hr⟩ : ∃ r, r = addL a b := ⟨_, rfl⟩
  rw [← hr]
  unfold addL joinE at hr
  rw [ha] at *
  generalize kindT b = k2 at *
  obtain ⟨c0, c1, c2, _, _⟩ := hx0.cells
  obtain ⟨b0, b1, b2, _, _⟩ := hx1.cells
  have HB := Lib.hid hb0
  have HX := Lib.hid (And.intro hx0 (And.intro hx1 hx2))
  have A1 : Hid (Calls Tryz.prog 121 #[.agg #[.int .i64 k2, .slice y1 y2 y3, .slice y4 y5 y6], .slice (some ⟨w.heap.size + 1 + 1 + 1, 0, none⟩) 1 1] ((((w.alloc (.cells #[.int .i64 5, .slice x1 x2 x3, .slice x4 x5 x6] 25)).alloc (.cells #[.int .i64 k2, .slice y1 y2 y3, .slice y4 y5 y6] 25)).alloc (.cells #[.int .i64 0, .slice none 0 0, .slice none 0 0] 25)).alloc (.cells #[.int .i64 5] 3)) fun e w' => (if k2 ∈ ([5] : List Int) then e = .returned (.agg #[.int .i64 k2, .slice y1 y2 y3, .slice y4 y5 y6]) else e = .panicked (gaveP 6)) ∧ Below (((w.alloc (.cells #[.int .i64 5, .slice x1 x2 x3, .slice x4 x5 x6] 25)).alloc (.cells #[.int .i64 k2, .slice y1 y2 y3, .slice y4 y5 y6] 25)).alloc (.cells #[.int .i64 0, .slice none 0 0, .slice none 0 0] 25)).heap.size (((w.alloc (.cells #[.int .i64 5, .slice x1 x2 x3, .slice x4 x5 x6] 25)).alloc (.cells #[.int .i64 k2, .slice y1 y2 y3, .slice y4 y5 y6] 25)).alloc (.cells #[.int .i64 0, .slice none 0 0, .slice none 0 0] 25)) w') := Lib.hid (by
    have h := among_new (w := (((w.alloc (.cells #[.int .i64 5, .slice x1 x2 x3, .slice x4 x5 x6] 25)).alloc (.cells #[.int .i64 k2, .slice y1 y2 y3, .slice y4 y5 y6] 25)).alloc (.cells #[.int .i64 0, .slice none 0 0, .slice none 0 0] 25))) (k := k2) (A := y1) (c := y2) (ca := y3) (B := y4) (m := y5) (cb := y6) [5] 1 rfl (by simp)
    have e : (((w.alloc (.cells #[.int .i64 5, .slice x1 x2 x3, .slice x4 x5 x6] 25)).alloc (.cells #[.int .i64 k2, .slice y1 y2 y3, .slice y4 y5 y6] 25)).alloc (.cells #[.int .i64 0, .slice none 0 0, .slice none 0 0] 25)).heap.size = w.heap.size + 1 + 1 + 1 := by simp
    generalize (((w.alloc (.cells #[.int .i64 5, .slice x1 x2 x3, .slice x4 x5 x6] 25)).alloc (.cells #[.int .i64 k2, .slice y1 y2 y3, .slice y4 y5 y6] 25)).alloc (.cells #[.int .i64 0, .slice none 0 0, .slice none 0 0] 25)) = W at *
    rw [← e]
    exact h)
  clear hv hu hu' hv' hb0 hx0 hx1 hx2 sa sb J ha
  by_cases h1 : k2 = 5
  · simp only [if_pos (show k2 ∈ ([5] : List Int) by rw [h1]; exact List.mem_singleton.2 rfl)] at A1
    rw [if_pos h1] at hr
    clear h1
    obtain ⟨q, hq⟩ : ∃ q, joinP a b = q := ⟨_, rfl⟩
    rw [hq] at hr HJ
    clear hq
    cases q with
    | none =>
      subst hr
      go_enter Tryz.func123, Tryz.ntmps123
      go_wp2_with (go_at_call 121; refine A1.out.mono ?_; rintro e w1 ⟨rfl, hb1⟩; refine Hid.out ?_)
      refine Lib.hid ?_
      obtain ⟨d0, d1, d2, _, _⟩ := (HX.out.1.below hb1).cells
      obtain ⟨e0, e1, e2, _, _⟩ := (HX.out.2.1.below hb1).cells
      have HB1 := Lib.hid (HB.out.trans (hb1.mono HB.out.size))
      clear hb1
      go_wp2_with (go_at_call 35; refine (HJ.out _ HB1.out).mono ?_; rintro e w2 ⟨hb2, rfl⟩)
      exact ⟨rfl, HB1.out.trans (hb2.mono HB1.out.size), rfl⟩
    | some t =>
      subst hr
      go_enter Tryz.func123, Tryz.ntmps123
      go_wp2_with (go_at_call 121; refine A1.out.mono ?_; rintro e w1 ⟨rfl, hb1⟩; refine Hid.out ?_)
      refine Lib.hid ?_
      obtain ⟨d0, d1, d2, _, _⟩ := (HX.out.1.below hb1).cells
      obtain ⟨e0, e1, e2, _, _⟩ := (HX.out.2.1.below hb1).cells
      have HX1 := Lib.hid (HX.out.2.2.below hb1)
      have HB1 := Lib.hid (HB.out.trans (hb1.mono HB.out.size))
      have HL1 := Lib.hid HX1.out.lt
      clear hb1
      go_wp2_with (first
        | (go_at_call 35; refine (HJ.out _ HB1.out).mono ?_; rintro e w2 ⟨hb2, x, rfl, hx⟩; have HX2 := Lib.hid (HX1.out.below hb2); have HB2 := Lib.hid (HB1.out.trans (hb2.mono HB1.out.size)); have HY := Lib.hid hx; clear hb2 hx)
        | (refine stT rfl _ _ rfl (w.heap.size + 1 + 1) x _ rfl rfl HX2.out rfl HY.out.size HY.out.one ?_))
      refine bodyPost_ret (results_typ rfl _ _ (w.heap.size + 1 + 1) _ rfl (HX2.out.put _) HY.out.size) rfl ⟨below_row HB2.out (by omega) _, _, rfl, ?_⟩
      refine (HY.out.keep (by simp [World.setRow]) fun g hg _ => setRow_other _ _ _ _ ?_).imp fun g hg _ => ?_
      · have := HL1.out
        rcases hg with hg | hg
        · have := hg.2; omega
        · omega
      · have := HB1.out.size
        rcases hg with hg | hg
        · exact .inl hg.1
        · exact .inr (by omega)
  · simp only [if_neg (show ¬ k2 ∈ ([5] : List Int) by intro h; exact h1 (List.mem_singleton.1 h))] at A1
    rw [if_neg h1] at hr
    clear h1
    subst hr
    go_enter Tryz.func123, Tryz.ntmps123
    go_wp2_with (go_at_call 121; refine A1.out.mono ?_; rintro e w1 ⟨rfl, hb1⟩)
    exact ⟨rfl, HB.out.trans (hb1.mono HB.out.size), rfl⟩
end Go.Proofs.YtcmohggnehkjeaaGreat
namespace Go.Proofs.YtcmohggnehkjeaaGreat
open Go.RowKit

theorem EB.below {w w' : World} {R : Nat} {v : Array Value} (h : EB w R v) (hb : Below w.heap.size w w') : EB w' R v := h.of (hb.block R h.lt)
theorem ebox (w : World) (a b : Array Value) : Below w.heap.size w ((w.alloc (.cells a 44)).alloc (.cells b 25)) ∧ EB ((w.alloc (.cells a 44)).alloc (.cells b 25)) w.heap.size a ∧ TB ((w.alloc (.cells a 44)).alloc (.cells b 25)) (w.heap.size + 1) b := by
  refine ⟨((Below.refl _ _).alloc (Nat.le_refl _) _).alloc (by simp) _, (EB.new w _).alloc _, ?_⟩
  have := TB.new (w.alloc (.cells a 44)) b
  rw [World.size_alloc] at this
  exact this
section
variable {ops : Array Oper} {o : Oper} {a : Act} {w : World} {Q : Exit → Act → World → Prop}
/-- A type is laid into a box, amid a region that draws its order. -/
theorem branchY {K : Act → World → Prop} (x y : Operand) (g : Nat) (u old : Array Value) (hd : o.dst = none) (hw : Region.wanted o (yielded ops a.tmps) = true) (ho : o.op = .store 25 x y) (hx : a.eval x = .pointer (some ⟨g, 0, none⟩)) (hy : a.eval y = .agg u) (hg : TB w g old) (hold : old.size = 3) (hu : u.size = 3) (h1 : u.all (·.oneCell') = true)
    (h : K (a.put none undef) (w.setRow g u)) : if Region.wanted o (yielded ops a.tmps) = true then Oper.wp Tryz.prog o a w K Q else K (a.put o.dst undef) w :=
  branchW hw (wp_store_row 25 x y ho g u hx hy 25 old hg (by rw [info25s, hu]) (by rw [hold, hu]) h1 (by rw [hd]; exact h))
end
theorem EB.k0 {w : World} {R : Nat} {k : Int} {s : ByteArray} {n : Int} {a1 a2 a3 a4 a5 a6 a7 : Value} (h : EB w R #[.int .i64 k, .string s, .int .i64 n, a1, a2, a3, a4, a5, a6, a7]) : w.cell? ⟨R, 0, none⟩ = some (.int .i64 k) ∧ w.cell? ⟨R, 1, none⟩ = some (.string s) ∧ w.cell? ⟨R, 2, none⟩ = some (.int .i64 n) := by
  unfold EB at h
  refine ⟨?_, ?_, ?_⟩ <;> simp [World.cell?, h]
set_option maxRecDepth 20000 in
set_option maxHeartbeats 400000 in
theorem over_1 {w : World} {kids vars : Value} {s : ByteArray} {n : Int} {a1 a2 a3 a4 a5 a6 a7 : Value} :
    Calls Tryz.prog 81 #[.agg #[.int .i64 1, .string s, .int .i64 n, a1, a2, a3, a4, a5, a6, a7], kids, vars] w fun e w' => e = .returned (.agg #[.int .i64 n, .slice none 0 0, .slice none 0 0]) ∧ Below w.heap.size w w' := by
  obtain ⟨hb0, hx0, hx1⟩ := ebox w #[.int .i64 1, .string s, .int .i64 n, a1, a2, a3, a4, a5, a6, a7] #[.int .i64 0, .slice none 0 0, .slice none 0 0]
  obtain ⟨c0, c1, c2⟩ := hx0.k0
  have HB := Lib.hid hb0
  have HX := Lib.hid hx1
  clear hb0 hx0 hx1
  go_enter Tryz.func81, Tryz.ntmps81
  go_wp2_with (refine stT rfl _ _ rfl (w.heap.size + 1) #[.int .i64 n, .slice none 0 0, .slice none 0 0] _ rfl rfl HX.out rfl rfl (by simp [Value.oneCell']) ?_)
  exact bodyPost_ret (results_typ rfl _ _ (w.heap.size + 1) _ rfl (HX.out.put _) rfl) rfl ⟨rfl, below_row HB.out (by omega) _⟩
set_option maxRecDepth 20000 in
set_option maxHeartbeats 400000 in
theorem over_2 {w : World} {g : Nat} {kids : Value} {s : ByteArray} {n : Int} {a1 a2 a3 a4 a5 a6 a7 : Value} (hV : VarsAt w g) :
    Calls Tryz.prog 81 #[.agg #[.int .i64 2, .string s, .int .i64 n, a1, a2, a3, a4, a5, a6, a7], kids, .slice (some ⟨g, 0, none⟩) 1 1] w fun e w' => (if xName = s then e = .returned (.agg #[.int .i64 2, .slice none 0 0, .slice none 0 0]) else e = .panicked (gaveP 11)) ∧ Below w.heap.size w w' := by
  obtain ⟨hb0, hx0, hx1⟩ := ebox w #[.int .i64 2, .string s, .int .i64 n, a1, a2, a3, a4, a5, a6, a7] #[.int .i64 0, .slice none 0 0, .slice none 0 0]
  obtain ⟨c0, c1, c2⟩ := hx0.k0
  have C := ofVar_x (s := s) (hV.below hb0)
  have HB := Lib.hid hb0
  have HX := Lib.hid hx1
  have HC := Lib.hid C
  clear hb0 hx0 hx1 C
  by_cases h : xName = s
  · simp only [if_pos h] at HC ⊢
    clear h
    go_enter Tryz.func81, Tryz.ntmps81
    go_wp2_with (first
      | (go_at_call 117; refine HC.out.mono ?_; rintro e w1 ⟨rfl, hb1⟩; have HX1 := Lib.hid (HX.out.below hb1); have HB1 := Lib.hid (HB.out.trans (hb1.mono HB.out.size)); clear hb1)
      | (refine stT rfl _ _ rfl (w.heap.size + 1) #[.int .i64 2, .slice none 0 0, .slice none 0 0] _ rfl rfl HX1.out rfl rfl (by simp [Value.oneCell']) ?_))
    exact bodyPost_ret (results_typ rfl _ _ (w.heap.size + 1) _ rfl (HX1.out.put _) rfl) rfl ⟨rfl, below_row HB1.out (by omega) _⟩
  · simp only [if_neg h] at HC ⊢
    clear h
    go_enter Tryz.func81, Tryz.ntmps81
    go_wp2_with (go_at_call 117; refine HC.out.mono ?_; rintro e w1 ⟨rfl, hb1⟩)
    exact ⟨rfl, rfl, HB.out.trans (hb1.mono HB.out.size)⟩
set_option maxRecDepth 20000 in
set_option maxHeartbeats 400000 in
theorem over_16 {w : World} {B : Option Addr} {m cb : Nat} {xs : Nat → TT} {vs : Nat → Array Value} {Q : Nat → Prop} {vars : Value} {s : ByteArray} {n : Int} {a1 a2 a3 a4 a5 a6 a7 : Value} (hT : TypesAt w Q B m xs vs) (hm : m ≤ 1000) (hx : ∀ i, i < m → shp (xs i) ∧ tfew (xs i)) :
    Calls Tryz.prog 81 #[.agg #[.int .i64 16, .string s, .int .i64 n, a1, a2, a3, a4, a5, a6, a7], .slice B m cb, vars] w (Finds Q (listE xs m) w) := by
  obtain ⟨hb0, hx0, hx1⟩ := ebox w #[.int .i64 16, .string s, .int .i64 n, a1, a2, a3, a4, a5, a6, a7] #[.int .i64 0, .slice none 0 0, .slice none 0 0]
  obtain ⟨c0, c1, c2⟩ := hx0.k0
  have hT' : TypesAt w (fun g => Q g ∧ g < w.heap.size) B m xs vs := ⟨fun h0 => by
    obtain ⟨g, o, e, hq, hg, h⟩ := hT.1 h0
    exact ⟨g, o, e, ⟨hq, hg⟩, hg, h⟩, fun i hi => (hT.2 i hi).imp fun g hg hl => ⟨hg, hl⟩⟩
  have C := listOf_any (cb := cb) (hT'.stay hb0) hm hx
  have HB := Lib.hid hb0
  have HX := Lib.hid hx1
  have HLT := Lib.hid hx1.lt
  obtain ⟨r, hr⟩ : ∃ r, listE xs m = r := ⟨_, rfl⟩
  rw [hr] at C ⊢
  have HC := Lib.hid C
  clear hb0 hx0 hx1 C hT hT' hx hr
  cases r with
  | error c =>
    go_enter Tryz.func81, Tryz.ntmps81
    go_wp2_with (go_at_call 118; refine HC.out.mono ?_; rintro e w1 ⟨hb1, rfl⟩)
    exact ⟨rfl, HB.out.trans (hb1.mono HB.out.size), rfl⟩
  | ok t =>
    go_enter Tryz.func81, Tryz.ntmps81
    go_wp2_with (first
      | (go_at_call 118; refine HC.out.mono ?_; rintro e w1 ⟨hb1, x, rfl, hx⟩; have HX1 := Lib.hid (HX.out.below hb1); have HB1 := Lib.hid (HB.out.trans (hb1.mono HB.out.size)); have HY := Lib.hid hx; clear hb1 hx)
      | (refine stT rfl _ _ rfl (w.heap.size + 1) x _ rfl rfl HX1.out rfl HY.out.size HY.out.one ?_))
    refine bodyPost_ret (results_typ rfl _ _ (w.heap.size + 1) _ rfl (HX1.out.put _) HY.out.size) rfl ⟨below_row HB1.out (by omega) _, _, rfl, ?_⟩
    refine (HY.out.keep (by simp [World.setRow]) fun b hb _ => setRow_other _ _ _ _ ?_).imp fun b hb _ => ?_
    · have := HLT.out
      rcases hb with hb | hb
      · have := hb.2; omega
      · omega
    · have := HB.out.size
      rcases hb with hb | hb
      · exact .inl hb.1
      · exact .inr (by omega)
set_option maxRecDepth 20000 in
set_option maxHeartbeats 1000000 in
theorem over_5 {w : World} {g kc : Nat} {u1 u2 : Array Value} {Q : Nat → Prop} {r : Except Int TT} {vars : Value} {s : ByteArray} {n : Int} {a1 a2 a3 a4 a5 a6 a7 : Value} (h1 : ThreeAt w g 0 u1) (h2 : ThreeAt w g 3 u2) (f1 : ∃ k A c ca B m cb, u1 = #[.int .i64 k, .slice A c ca, .slice B m cb]) (f2 : ∃ k A c ca B m cb, u2 = #[.int .i64 k, .slice A c ca, .slice B m cb]) (hg : g < w.heap.size)
    (C : ∀ W, Below w.heap.size w W → Calls Tryz.prog 123 #[.int .i64 5, .agg u1, .agg u2] W (Finds (fun b => Q b ∧ b < w.heap.size) r W)) :
    Calls Tryz.prog 81 #[.agg #[.int .i64 5, .string s, .int .i64 n, a1, a2, a3, a4, a5, a6, a7], .slice (some ⟨g, 0, none⟩) 2 kc, vars] w (Finds Q r w) := by
  obtain ⟨hb0, hx0, hx1⟩ := ebox w #[.int .i64 5, .string s, .int .i64 n, a1, a2, a3, a4, a5, a6, a7] #[.int .i64 0, .slice none 0 0, .slice none 0 0]
  obtain ⟨z0, z1, z2⟩ := hx0.k0
  obtain ⟨k1, A1, c1, ca1, B1, m1, cb1, rfl⟩ := f1
  obtain ⟨k2, A2, c2, ca2, B2, m2, cb2, rfl⟩ := f2
  obtain ⟨W0, hW0⟩ : ∃ W, W = (w.alloc (.cells #[.int .i64 5, .string s, .int .i64 n, a1, a2, a3, a4, a5, a6, a7] 44)).alloc (.cells #[.int .i64 0, .slice none 0 0, .slice none 0 0] 25) := ⟨_, rfl⟩
  have hC := C W0.drew (by rw [hW0]; exact hb0.drew)
  obtain ⟨p0, p1, p2⟩ := (h1.keep fun o => hb0.cell (p := ⟨g, o, none⟩) hg).cells
  obtain ⟨q0, q1, q2⟩ := (h2.keep fun o => hb0.cell (p := ⟨g, o, none⟩) hg).cells
  have hc0 := z0
  rw [← hW0] at p0 p1 p2 q0 q1 q2 hb0 hx1 hc0
  have HS0 : Hid (W0.cell? ⟨w.heap.size, 0, none⟩ = some (.int .i64 5) ∧ W0.cell? ⟨g, 0, none⟩ = some (.int .i64 k1) ∧ W0.cell? ⟨g, 1, none⟩ = some (.slice A1 c1 ca1) ∧ W0.cell? ⟨g, 2, none⟩ = some (.slice B1 m1 cb1) ∧ W0.cell? ⟨g, 3, none⟩ = some (.int .i64 k2) ∧ W0.cell? ⟨g, 4, none⟩ = some (.slice A2 c2 ca2) ∧ W0.cell? ⟨g, 5, none⟩ = some (.slice B2 m2 cb2)) := Lib.hid ⟨hc0, p0, p1, p2, q0, q1, q2⟩
  have HB := Lib.hid hb0
  have HX := Lib.hid hx1
  have HLT := Lib.hid hx1.lt
  have HC := Lib.hid hC
  have HW := Lib.hid hW0
  have HG := Lib.hid hg
  have HX0 := Lib.hid (show W0.cell? ⟨w.heap.size, 0, none⟩ = some (.int .i64 5) from hc0)
  clear hb0 hx0 hx1 C hC h1 h2 hg p0 p1 p2 q0 q1 q2 hc0 hW0
  go_enter Tryz.func81, Tryz.ntmps81
  go_wp2_with fail
  rw [← HW.out]
  clear z0 z1 z2
  cases r with
  | error c =>
    refine wp_region_held_drew (S := fun W => W.cell? ⟨w.heap.size, 0, none⟩ = some (.int .i64 5) ∧ W.cell? ⟨g, 0, none⟩ = some (.int .i64 k1) ∧ W.cell? ⟨g, 1, none⟩ = some (.slice A1 c1 ca1) ∧ W.cell? ⟨g, 2, none⟩ = some (.slice B1 m1 cb1) ∧ W.cell? ⟨g, 3, none⟩ = some (.int .i64 k2) ∧ W.cell? ⟨g, 4, none⟩ = some (.slice A2 c2 ca2) ∧ W.cell? ⟨g, 5, none⟩ = some (.slice B2 m2 cb2)) (by kernel_rfl) HS0.out (fun _ => ?_)
    refine takeG (i := 0) (some 82) (.pointer (some ⟨w.heap.size, 0, none⟩)) rfl rfl (by kernel_rfl) (by kernel_rfl) (by kernel_rfl) (fun _ _ _ h => h) HS0.out (by kernel_rfl) (fun W hW => by obtain ⟨e0, e1, e2, e3, e4, e5, e6⟩ := hW; go_simp) ?_
    simp only [Act.put, List.setIfInBounds_toArray, List.set_cons_zero, List.set_cons_succ]
    refine takeG (i := 1) (some 83) (.int .i64 5) rfl rfl (by kernel_rfl) (by kernel_rfl) (by kernel_rfl) (fun _ _ _ h => h) HS0.out (by kernel_rfl) (fun W hW => by obtain ⟨e0, e1, e2, e3, e4, e5, e6⟩ := hW; go_simp) ?_
    simp only [Act.put, List.setIfInBounds_toArray, List.set_cons_zero, List.set_cons_succ]
    refine takeG (i := 2) (some 84) (.slice (some ⟨g, 0, none⟩) 2 kc) rfl rfl (by kernel_rfl) (by kernel_rfl) (by kernel_rfl) (fun _ _ _ h => h) HS0.out (by kernel_rfl) (fun W hW => by obtain ⟨e0, e1, e2, e3, e4, e5, e6⟩ := hW; go_simp) ?_
    simp only [Act.put, List.setIfInBounds_toArray, List.set_cons_zero, List.set_cons_succ]
    refine takeG (i := 3) (some 85) (.pointer (some ⟨g, 0, none⟩)) rfl rfl (by kernel_rfl) (by kernel_rfl) (by kernel_rfl) (fun _ _ _ h => h) HS0.out (by kernel_rfl) (fun W hW => by obtain ⟨e0, e1, e2, e3, e4, e5, e6⟩ := hW; go_simp) ?_
    simp only [Act.put, List.setIfInBounds_toArray, List.set_cons_zero, List.set_cons_succ]
    refine takeG (i := 4) (some 86) (.agg #[.int .i64 k1, .slice A1 c1 ca1, .slice B1 m1 cb1]) rfl rfl (by kernel_rfl) (by kernel_rfl) (by kernel_rfl) (fun _ _ _ h => h) HS0.out (by kernel_rfl) (fun W hW => by obtain ⟨e0, e1, e2, e3, e4, e5, e6⟩ := hW; go_simp) ?_
    simp only [Act.put, List.setIfInBounds_toArray, List.set_cons_zero, List.set_cons_succ]
    refine takeG (i := 5) (some 87) (.slice (some ⟨g, 0, none⟩) 2 kc) rfl rfl (by kernel_rfl) (by kernel_rfl) (by kernel_rfl) (fun _ _ _ h => h) HS0.out (by kernel_rfl) (fun W hW => by obtain ⟨e0, e1, e2, e3, e4, e5, e6⟩ := hW; go_simp) ?_
    simp only [Act.put, List.setIfInBounds_toArray, List.set_cons_zero, List.set_cons_succ]
    refine takeG (i := 6) (some 88) (.pointer (some ⟨g, 3, none⟩)) rfl rfl (by kernel_rfl) (by kernel_rfl) (by kernel_rfl) (fun _ _ _ h => h) HS0.out (by kernel_rfl) (fun W hW => by obtain ⟨e0, e1, e2, e3, e4, e5, e6⟩ := hW; go_simp) ?_
    simp only [Act.put, List.setIfInBounds_toArray, List.set_cons_zero, List.set_cons_succ]
    refine takeG (i := 7) (some 89) (.agg #[.int .i64 k2, .slice A2 c2 ca2, .slice B2 m2 cb2]) rfl rfl (by kernel_rfl) (by kernel_rfl) (by kernel_rfl) (fun _ _ _ h => h) HS0.out (by kernel_rfl) (fun W hW => by obtain ⟨e0, e1, e2, e3, e4, e5, e6⟩ := hW; go_simp) ?_
    simp only [Act.put, List.setIfInBounds_toArray, List.set_cons_zero, List.set_cons_succ]
    refine wpAnyH_ready (rs := [8]) (by kernel_rfl) (by simp) (AllReadyH.cons rfl (fun K1 hK1 => ?_) AllReadyH.nil)
    refine branchP 123 #[.int .i64 5, .agg #[.int .i64 k1, .slice A1 c1 ca1, .slice B1 m1 cb1], .agg #[.int .i64 k2, .slice A2 c2 ca2, .slice B2 m2 cb2]] c (by kernel_rfl) (by go_simp) (HC.out.mono ?_)
    rintro e w3 ⟨hb3, rfl⟩
    exact ⟨rfl, rfl, HB.out.trans ((Below.refl _ _).drew.trans hb3 |>.mono HB.out.size), rfl⟩
  | ok t =>
    refine wp_region_held_drew (S := fun W => W.cell? ⟨w.heap.size, 0, none⟩ = some (.int .i64 5) ∧ W.cell? ⟨g, 0, none⟩ = some (.int .i64 k1) ∧ W.cell? ⟨g, 1, none⟩ = some (.slice A1 c1 ca1) ∧ W.cell? ⟨g, 2, none⟩ = some (.slice B1 m1 cb1) ∧ W.cell? ⟨g, 3, none⟩ = some (.int .i64 k2) ∧ W.cell? ⟨g, 4, none⟩ = some (.slice A2 c2 ca2) ∧ W.cell? ⟨g, 5, none⟩ = some (.slice B2 m2 cb2)) (by kernel_rfl) HS0.out (fun _ => ?_)
    refine takeG (i := 0) (some 82) (.pointer (some ⟨w.heap.size, 0, none⟩)) rfl rfl (by kernel_rfl) (by kernel_rfl) (by kernel_rfl) (fun _ _ _ h => h) HS0.out (by kernel_rfl) (fun W hW => by obtain ⟨e0, e1, e2, e3, e4, e5, e6⟩ := hW; go_simp) ?_
    simp only [Act.put, List.setIfInBounds_toArray, List.set_cons_zero, List.set_cons_succ]
    refine takeG (i := 1) (some 83) (.int .i64 5) rfl rfl (by kernel_rfl) (by kernel_rfl) (by kernel_rfl) (fun _ _ _ h => h) HS0.out (by kernel_rfl) (fun W hW => by obtain ⟨e0, e1, e2, e3, e4, e5, e6⟩ := hW; go_simp) ?_
    simp only [Act.put, List.setIfInBounds_toArray, List.set_cons_zero, List.set_cons_succ]
    refine takeG (i := 2) (some 84) (.slice (some ⟨g, 0, none⟩) 2 kc) rfl rfl (by kernel_rfl) (by kernel_rfl) (by kernel_rfl) (fun _ _ _ h => h) HS0.out (by kernel_rfl) (fun W hW => by obtain ⟨e0, e1, e2, e3, e4, e5, e6⟩ := hW; go_simp) ?_
    simp only [Act.put, List.setIfInBounds_toArray, List.set_cons_zero, List.set_cons_succ]
    refine takeG (i := 3) (some 85) (.pointer (some ⟨g, 0, none⟩)) rfl rfl (by kernel_rfl) (by kernel_rfl) (by kernel_rfl) (fun _ _ _ h => h) HS0.out (by kernel_rfl) (fun W hW => by obtain ⟨e0, e1, e2, e3, e4, e5, e6⟩ := hW; go_simp) ?_
    simp only [Act.put, List.setIfInBounds_toArray, List.set_cons_zero, List.set_cons_succ]
    refine takeG (i := 4) (some 86) (.agg #[.int .i64 k1, .slice A1 c1 ca1, .slice B1 m1 cb1]) rfl rfl (by kernel_rfl) (by kernel_rfl) (by kernel_rfl) (fun _ _ _ h => h) HS0.out (by kernel_rfl) (fun W hW => by obtain ⟨e0, e1, e2, e3, e4, e5, e6⟩ := hW; go_simp) ?_
    simp only [Act.put, List.setIfInBounds_toArray, List.set_cons_zero, List.set_cons_succ]
    refine takeG (i := 5) (some 87) (.slice (some ⟨g, 0, none⟩) 2 kc) rfl rfl (by kernel_rfl) (by kernel_rfl) (by kernel_rfl) (fun _ _ _ h => h) HS0.out (by kernel_rfl) (fun W hW => by obtain ⟨e0, e1, e2, e3, e4, e5, e6⟩ := hW; go_simp) ?_
    simp only [Act.put, List.setIfInBounds_toArray, List.set_cons_zero, List.set_cons_succ]
    refine takeG (i := 6) (some 88) (.pointer (some ⟨g, 3, none⟩)) rfl rfl (by kernel_rfl) (by kernel_rfl) (by kernel_rfl) (fun _ _ _ h => h) HS0.out (by kernel_rfl) (fun W hW => by obtain ⟨e0, e1, e2, e3, e4, e5, e6⟩ := hW; go_simp) ?_
    simp only [Act.put, List.setIfInBounds_toArray, List.set_cons_zero, List.set_cons_succ]
    refine takeG (i := 7) (some 89) (.agg #[.int .i64 k2, .slice A2 c2 ca2, .slice B2 m2 cb2]) rfl rfl (by kernel_rfl) (by kernel_rfl) (by kernel_rfl) (fun _ _ _ h => h) HS0.out (by kernel_rfl) (fun W hW => by obtain ⟨e0, e1, e2, e3, e4, e5, e6⟩ := hW; go_simp) ?_
    simp only [Act.put, List.setIfInBounds_toArray, List.set_cons_zero, List.set_cons_succ]
    refine wpAnyH_ready (rs := [8]) (by kernel_rfl) (by simp) (AllReadyH.cons rfl (fun K1 hK1 => ?_) AllReadyH.nil)
    refine branchC 123 #[.int .i64 5, .agg #[.int .i64 k1, .slice A1 c1 ca1, .slice B1 m1 cb1], .agg #[.int .i64 k2, .slice A2 c2 ca2, .slice B2 m2 cb2]] (some 90) rfl (by kernel_rfl) (by go_simp) (HC.out.mono ?_)
    rintro e w3 ⟨hb3, x, rfl, hx⟩
    refine ⟨_, rfl, ?_⟩
    have hb4 : Below W0.heap.size W0 w3 := (Below.refl _ _).drew.trans hb3
    have HX1 := Lib.hid (HX.out.below hb4)
    have HB1 := Lib.hid (HB.out.trans (hb4.mono HB.out.size))
    have HY := Lib.hid hx
    have hcell : ∀ b o, b < w.heap.size + 1 → w3.cell? ⟨b, o, none⟩ = W0.cell? ⟨b, o, none⟩ := fun b o hb => hb4.cell (p := ⟨b, o, none⟩) (by have := HLT.out; show b < _; omega)
    have hcell2 : ∀ b o, b < w.heap.size + 1 → (w3.setRow (w.heap.size + 1) x).cell? ⟨b, o, none⟩ = W0.cell? ⟨b, o, none⟩ := fun b o hb => (World.cell?_of_block (w := w3) (a := ⟨b, o, none⟩) (setRow_other _ _ _ _ (show b ≠ w.heap.size + 1 by omega))).trans (hcell b o hb)
    have hg := HG.out
    have HS3 : Hid (w3.cell? ⟨w.heap.size, 0, none⟩ = some (.int .i64 5) ∧ w3.cell? ⟨g, 0, none⟩ = some (.int .i64 k1) ∧ w3.cell? ⟨g, 1, none⟩ = some (.slice A1 c1 ca1) ∧ w3.cell? ⟨g, 2, none⟩ = some (.slice B1 m1 cb1) ∧ w3.cell? ⟨g, 3, none⟩ = some (.int .i64 k2) ∧ w3.cell? ⟨g, 4, none⟩ = some (.slice A2 c2 ca2) ∧ w3.cell? ⟨g, 5, none⟩ = some (.slice B2 m2 cb2)) := Lib.hid (by
      simp only [hcell w.heap.size 0 (by omega), hcell g _ (show g < w.heap.size + 1 by omega)]
      exact HS0.out)
    have HS4 : Hid ((w3.setRow (w.heap.size + 1) x).cell? ⟨w.heap.size, 0, none⟩ = some (.int .i64 5) ∧ (w3.setRow (w.heap.size + 1) x).cell? ⟨g, 0, none⟩ = some (.int .i64 k1) ∧ (w3.setRow (w.heap.size + 1) x).cell? ⟨g, 1, none⟩ = some (.slice A1 c1 ca1) ∧ (w3.setRow (w.heap.size + 1) x).cell? ⟨g, 2, none⟩ = some (.slice B1 m1 cb1) ∧ (w3.setRow (w.heap.size + 1) x).cell? ⟨g, 3, none⟩ = some (.int .i64 k2) ∧ (w3.setRow (w.heap.size + 1) x).cell? ⟨g, 4, none⟩ = some (.slice A2 c2 ca2) ∧ (w3.setRow (w.heap.size + 1) x).cell? ⟨g, 5, none⟩ = some (.slice B2 m2 cb2)) := Lib.hid (by
      simp only [hcell2 w.heap.size 0 (by omega), hcell2 g _ (show g < w.heap.size + 1 by omega)]
      exact HS0.out)
    clear hb3 hb4 hx hcell hcell2
    refine hK1.out _ _ HS3.out (fun _ => ?_)
    simp only [Act.put, List.setIfInBounds_toArray, List.set_cons_zero, List.set_cons_succ]
    refine wpAnyH_ready (rs := [9]) (by kernel_rfl) (by simp) (AllReadyH.cons rfl (fun K2 hK2 => ?_) AllReadyH.nil)
    refine branchY (.tmp 6) (.tmp 90) (w.heap.size + 1) x _ rfl (by kernel_rfl) rfl rfl rfl HX1.out rfl HY.out.size HY.out.one ?_
    refine hK2.out _ _ HS4.out (fun _ => ?_)
    refine wpAnyH_done (by kernel_rfl) ?_ _
    go_wp2_with fail
    refine bodyPost_ret (results_typ rfl _ _ (w.heap.size + 1) _ rfl (HX1.out.put _) HY.out.size) rfl ⟨below_row HB1.out (by omega) _, _, rfl, ?_⟩
    refine (HY.out.keep (by simp [World.setRow]) fun b hb _ => setRow_other _ _ _ _ ?_).imp fun b hb _ => ?_
    · have := HLT.out
      have h5 : W0.drew.heap.size = W0.heap.size := rfl
      rw [h5] at hb
      rcases hb with hb | hb
      · have := hb.2; omega
      · omega
    · have := HB.out.size
      have h5 : W0.drew.heap.size = W0.heap.size := rfl
      rw [h5] at hb
      rcases hb with hb | hb
      · exact .inl hb.1
      · exact .inr (by omega)
set_option maxRecDepth 20000 in
set_option maxHeartbeats 1000000 in
theorem over_11 {w : World} {g kc : Nat} {u1 u2 : Array Value} {Q : Nat → Prop} {r : Except Int TT} {vars : Value} {s : ByteArray} {n : Int} {a1 a2 a3 a4 a5 a6 a7 : Value} (h1 : ThreeAt w g 0 u1) (h2 : ThreeAt w g 3 u2) (f1 : ∃ k A c ca B m cb, u1 = #[.int .i64 k, .slice A c ca, .slice B m cb]) (f2 : ∃ k A c ca B m cb, u2 = #[.int .i64 k, .slice A c ca, .slice B m cb]) (hg : g < w.heap.size)
    (C : ∀ W, Below w.heap.size w W → Calls Tryz.prog 123 #[.int .i64 11, .agg u1, .agg u2] W (Finds (fun b => Q b ∧ b < w.heap.size) r W)) :
    Calls Tryz.prog 81 #[.agg #[.int .i64 11, .string s, .int .i64 n, a1, a2, a3, a4, a5, a6, a7], .slice (some ⟨g, 0, none⟩) 2 kc, vars] w (Finds Q r w) := by
  obtain ⟨hb0, hx0, hx1⟩ := ebox w #[.int .i64 11, .string s, .int .i64 n, a1, a2, a3, a4, a5, a6, a7] #[.int .i64 0, .slice none 0 0, .slice none 0 0]
  obtain ⟨z0, z1, z2⟩ := hx0.k0
  obtain ⟨k1, A1, c1, ca1, B1, m1, cb1, rfl⟩ := f1
  obtain ⟨k2, A2, c2, ca2, B2, m2, cb2, rfl⟩ := f2
  obtain ⟨W0, hW0⟩ : ∃ W, W = (w.alloc (.cells #[.int .i64 11, .string s, .int .i64 n, a1, a2, a3, a4, a5, a6, a7] 44)).alloc (.cells #[.int .i64 0, .slice none 0 0, .slice none 0 0] 25) := ⟨_, rfl⟩
  have hC := C W0.drew (by rw [hW0]; exact hb0.drew)
  obtain ⟨p0, p1, p2⟩ := (h1.keep fun o => hb0.cell (p := ⟨g, o, none⟩) hg).cells
  obtain ⟨q0, q1, q2⟩ := (h2.keep fun o => hb0.cell (p := ⟨g, o, none⟩) hg).cells
  have hc0 := z0
  rw [← hW0] at p0 p1 p2 q0 q1 q2 hb0 hx1 hc0
  have HS0 : Hid (W0.cell? ⟨w.heap.size, 0, none⟩ = some (.int .i64 11) ∧ W0.cell? ⟨g, 0, none⟩ = some (.int .i64 k1) ∧ W0.cell? ⟨g, 1, none⟩ = some (.slice A1 c1 ca1) ∧ W0.cell? ⟨g, 2, none⟩ = some (.slice B1 m1 cb1) ∧ W0.cell? ⟨g, 3, none⟩ = some (.int .i64 k2) ∧ W0.cell? ⟨g, 4, none⟩ = some (.slice A2 c2 ca2) ∧ W0.cell? ⟨g, 5, none⟩ = some (.slice B2 m2 cb2)) := Lib.hid ⟨hc0, p0, p1, p2, q0, q1, q2⟩
  have HB := Lib.hid hb0
  have HX := Lib.hid hx1
  have HLT := Lib.hid hx1.lt
  have HC := Lib.hid hC
  have HW := Lib.hid hW0
  have HG := Lib.hid hg
  have HX0 := Lib.hid (show W0.cell? ⟨w.heap.size, 0, none⟩ = some (.int .i64 11) from hc0)
  clear hb0 hx0 hx1 C hC h1 h2 hg p0 p1 p2 q0 q1 q2 hc0 hW0
  go_enter Tryz.func81, Tryz.ntmps81
  go_wp2_with fail
  rw [← HW.out]
  clear z0 z1 z2
  cases r with
  | error c =>
    refine wp_region_held_drew (S := fun W => W.cell? ⟨w.heap.size, 0, none⟩ = some (.int .i64 11) ∧ W.cell? ⟨g, 0, none⟩ = some (.int .i64 k1) ∧ W.cell? ⟨g, 1, none⟩ = some (.slice A1 c1 ca1) ∧ W.cell? ⟨g, 2, none⟩ = some (.slice B1 m1 cb1) ∧ W.cell? ⟨g, 3, none⟩ = some (.int .i64 k2) ∧ W.cell? ⟨g, 4, none⟩ = some (.slice A2 c2 ca2) ∧ W.cell? ⟨g, 5, none⟩ = some (.slice B2 m2 cb2)) (by kernel_rfl) HS0.out (fun _ => ?_)
    refine takeG (i := 0) (some 82) (.pointer (some ⟨w.heap.size, 0, none⟩)) rfl rfl (by kernel_rfl) (by kernel_rfl) (by kernel_rfl) (fun _ _ _ h => h) HS0.out (by kernel_rfl) (fun W hW => by obtain ⟨e0, e1, e2, e3, e4, e5, e6⟩ := hW; go_simp) ?_
    simp only [Act.put, List.setIfInBounds_toArray, List.set_cons_zero, List.set_cons_succ]
    refine takeG (i := 1) (some 83) (.int .i64 11) rfl rfl (by kernel_rfl) (by kernel_rfl) (by kernel_rfl) (fun _ _ _ h => h) HS0.out (by kernel_rfl) (fun W hW => by obtain ⟨e0, e1, e2, e3, e4, e5, e6⟩ := hW; go_simp) ?_
    simp only [Act.put, List.setIfInBounds_toArray, List.set_cons_zero, List.set_cons_succ]
    refine takeG (i := 2) (some 84) (.slice (some ⟨g, 0, none⟩) 2 kc) rfl rfl (by kernel_rfl) (by kernel_rfl) (by kernel_rfl) (fun _ _ _ h => h) HS0.out (by kernel_rfl) (fun W hW => by obtain ⟨e0, e1, e2, e3, e4, e5, e6⟩ := hW; go_simp) ?_
    simp only [Act.put, List.setIfInBounds_toArray, List.set_cons_zero, List.set_cons_succ]
    refine takeG (i := 3) (some 85) (.pointer (some ⟨g, 0, none⟩)) rfl rfl (by kernel_rfl) (by kernel_rfl) (by kernel_rfl) (fun _ _ _ h => h) HS0.out (by kernel_rfl) (fun W hW => by obtain ⟨e0, e1, e2, e3, e4, e5, e6⟩ := hW; go_simp) ?_
    simp only [Act.put, List.setIfInBounds_toArray, List.set_cons_zero, List.set_cons_succ]
    refine takeG (i := 4) (some 86) (.agg #[.int .i64 k1, .slice A1 c1 ca1, .slice B1 m1 cb1]) rfl rfl (by kernel_rfl) (by kernel_rfl) (by kernel_rfl) (fun _ _ _ h => h) HS0.out (by kernel_rfl) (fun W hW => by obtain ⟨e0, e1, e2, e3, e4, e5, e6⟩ := hW; go_simp) ?_
    simp only [Act.put, List.setIfInBounds_toArray, List.set_cons_zero, List.set_cons_succ]
    refine takeG (i := 5) (some 87) (.slice (some ⟨g, 0, none⟩) 2 kc) rfl rfl (by kernel_rfl) (by kernel_rfl) (by kernel_rfl) (fun _ _ _ h => h) HS0.out (by kernel_rfl) (fun W hW => by obtain ⟨e0, e1, e2, e3, e4, e5, e6⟩ := hW; go_simp) ?_
    simp only [Act.put, List.setIfInBounds_toArray, List.set_cons_zero, List.set_cons_succ]
    refine takeG (i := 6) (some 88) (.pointer (some ⟨g, 3, none⟩)) rfl rfl (by kernel_rfl) (by kernel_rfl) (by kernel_rfl) (fun _ _ _ h => h) HS0.out (by kernel_rfl) (fun W hW => by obtain ⟨e0, e1, e2, e3, e4, e5, e6⟩ := hW; go_simp) ?_
    simp only [Act.put, List.setIfInBounds_toArray, List.set_cons_zero, List.set_cons_succ]
    refine takeG (i := 7) (some 89) (.agg #[.int .i64 k2, .slice A2 c2 ca2, .slice B2 m2 cb2]) rfl rfl (by kernel_rfl) (by kernel_rfl) (by kernel_rfl) (fun _ _ _ h => h) HS0.out (by kernel_rfl) (fun W hW => by obtain ⟨e0, e1, e2, e3, e4, e5, e6⟩ := hW; go_simp) ?_
    simp only [Act.put, List.setIfInBounds_toArray, List.set_cons_zero, List.set_cons_succ]
    refine wpAnyH_ready (rs := [8]) (by kernel_rfl) (by simp) (AllReadyH.cons rfl (fun K1 hK1 => ?_) AllReadyH.nil)
    refine branchP 123 #[.int .i64 11, .agg #[.int .i64 k1, .slice A1 c1 ca1, .slice B1 m1 cb1], .agg #[.int .i64 k2, .slice A2 c2 ca2, .slice B2 m2 cb2]] c (by kernel_rfl) (by go_simp) (HC.out.mono ?_)
    rintro e w3 ⟨hb3, rfl⟩
    exact ⟨rfl, rfl, HB.out.trans ((Below.refl _ _).drew.trans hb3 |>.mono HB.out.size), rfl⟩
  | ok t =>
    refine wp_region_held_drew (S := fun W => W.cell? ⟨w.heap.size, 0, none⟩ = some (.int .i64 11) ∧ W.cell? ⟨g, 0, none⟩ = some (.int .i64 k1) ∧ W.cell? ⟨g, 1, none⟩ = some (.slice A1 c1 ca1) ∧ W.cell? ⟨g, 2, none⟩ = some (.slice B1 m1 cb1) ∧ W.cell? ⟨g, 3, none⟩ = some (.int .i64 k2) ∧ W.cell? ⟨g, 4, none⟩ = some (.slice A2 c2 ca2) ∧ W.cell? ⟨g, 5, none⟩ = some (.slice B2 m2 cb2)) (by kernel_rfl) HS0.out (fun _ => ?_)
    refine takeG (i := 0) (some 82) (.pointer (some ⟨w.heap.size, 0, none⟩)) rfl rfl (by kernel_rfl) (by kernel_rfl) (by kernel_rfl) (fun _ _ _ h => h) HS0.out (by kernel_rfl) (fun W hW => by obtain ⟨e0, e1, e2, e3, e4, e5, e6⟩ := hW; go_simp) ?_
    simp only [Act.put, List.setIfInBounds_toArray, List.set_cons_zero, List.set_cons_succ]
    refine takeG (i := 1) (some 83) (.int .i64 11) rfl rfl (by kernel_rfl) (by kernel_rfl) (by kernel_rfl) (fun _ _ _ h => h) HS0.out (by kernel_rfl) (fun W hW => by obtain ⟨e0, e1, e2, e3, e4, e5, e6⟩ := hW; go_simp) ?_
    simp only [Act.put, List.setIfInBounds_toArray, List.set_cons_zero, List.set_cons_succ]
    refine takeG (i := 2) (some 84) (.slice (some ⟨g, 0, none⟩) 2 kc) rfl rfl (by kernel_rfl) (by kernel_rfl) (by kernel_rfl) (fun _ _ _ h => h) HS0.out (by kernel_rfl) (fun W hW => by obtain ⟨e0, e1, e2, e3, e4, e5, e6⟩ := hW; go_simp) ?_
    simp only [Act.put, List.setIfInBounds_toArray, List.set_cons_zero, List.set_cons_succ]
    refine takeG (i := 3) (some 85) (.pointer (some ⟨g, 0, none⟩)) rfl rfl (by kernel_rfl) (by kernel_rfl) (by kernel_rfl) (fun _ _ _ h => h) HS0.out (by kernel_rfl) (fun W hW => by obtain ⟨e0, e1, e2, e3, e4, e5, e6⟩ := hW; go_simp) ?_
    simp only [Act.put, List.setIfInBounds_toArray, List.set_cons_zero, List.set_cons_succ]
    refine takeG (i := 4) (some 86) (.agg #[.int .i64 k1, .slice A1 c1 ca1, .slice B1 m1 cb1]) rfl rfl (by kernel_rfl) (by kernel_rfl) (by kernel_rfl) (fun _ _ _ h => h) HS0.out (by kernel_rfl) (fun W hW => by obtain ⟨e0, e1, e2, e3, e4, e5, e6⟩ := hW; go_simp) ?_
    simp only [Act.put, List.setIfInBounds_toArray, List.set_cons_zero, List.set_cons_succ]
    refine takeG (i := 5) (some 87) (.slice (some ⟨g, 0, none⟩) 2 kc) rfl rfl (by kernel_rfl) (by kernel_rfl) (by kernel_rfl) (fun _ _ _ h => h) HS0.out (by kernel_rfl) (fun W hW => by obtain ⟨e0, e1, e2, e3, e4, e5, e6⟩ := hW; go_simp) ?_
    simp only [Act.put, List.setIfInBounds_toArray, List.set_cons_zero, List.set_cons_succ]
    refine takeG (i := 6) (some 88) (.pointer (some ⟨g, 3, none⟩)) rfl rfl (by kernel_rfl) (by kernel_rfl) (by kernel_rfl) (fun _ _ _ h => h) HS0.out (by kernel_rfl) (fun W hW => by obtain ⟨e0, e1, e2, e3, e4, e5, e6⟩ := hW; go_simp) ?_
    simp only [Act.put, List.setIfInBounds_toArray, List.set_cons_zero, List.set_cons_succ]
    refine takeG (i := 7) (some 89) (.agg #[.int .i64 k2, .slice A2 c2 ca2, .slice B2 m2 cb2]) rfl rfl (by kernel_rfl) (by kernel_rfl) (by kernel_rfl) (fun _ _ _ h => h) HS0.out (by kernel_rfl) (fun W hW => by obtain ⟨e0, e1, e2, e3, e4, e5, e6⟩ := hW; go_simp) ?_
    simp only [Act.put, List.setIfInBounds_toArray, List.set_cons_zero, List.set_cons_succ]
    refine wpAnyH_ready (rs := [8]) (by kernel_rfl) (by simp) (AllReadyH.cons rfl (fun K1 hK1 => ?_) AllReadyH.nil)
    refine branchC 123 #[.int .i64 11, .agg #[.int .i64 k1, .slice A1 c1 ca1, .slice B1 m1 cb1], .agg #[.int .i64 k2, .slice A2 c2 ca2, .slice B2 m2 cb2]] (some 90) rfl (by kernel_rfl) (by go_simp) (HC.out.mono ?_)
    rintro e w3 ⟨hb3, x, rfl, hx⟩
    refine ⟨_, rfl, ?_⟩
    have hb4 : Below W0.heap.size W0 w3 := (Below.refl _ _).drew.trans hb3
    have HX1 := Lib.hid (HX.out.below hb4)
    have HB1 := Lib.hid (HB.out.trans (hb4.mono HB.out.size))
    have HY := Lib.hid hx
    have hcell : ∀ b o, b < w.heap.size + 1 → w3.cell? ⟨b, o, none⟩ = W0.cell? ⟨b, o, none⟩ := fun b o hb => hb4.cell (p := ⟨b, o, none⟩) (by have := HLT.out; show b < _; omega)
    have hcell2 : ∀ b o, b < w.heap.size + 1 → (w3.setRow (w.heap.size + 1) x).cell? ⟨b, o, none⟩ = W0.cell? ⟨b, o, none⟩ := fun b o hb => (World.cell?_of_block (w := w3) (a := ⟨b, o, none⟩) (setRow_other _ _ _ _ (show b ≠ w.heap.size + 1 by omega))).trans (hcell b o hb)
    have hg := HG.out
    have HS3 : Hid (w3.cell? ⟨w.heap.size, 0, none⟩ = some (.int .i64 11) ∧ w3.cell? ⟨g, 0, none⟩ = some (.int .i64 k1) ∧ w3.cell? ⟨g, 1, none⟩ = some (.slice A1 c1 ca1) ∧ w3.cell? ⟨g, 2, none⟩ = some (.slice B1 m1 cb1) ∧ w3.cell? ⟨g, 3, none⟩ = some (.int .i64 k2) ∧ w3.cell? ⟨g, 4, none⟩ = some (.slice A2 c2 ca2) ∧ w3.cell? ⟨g, 5, none⟩ = some (.slice B2 m2 cb2)) := Lib.hid (by
      simp only [hcell w.heap.size 0 (by omega), hcell g _ (show g < w.heap.size + 1 by omega)]
      exact HS0.out)
    have HS4 : Hid ((w3.setRow (w.heap.size + 1) x).cell? ⟨w.heap.size, 0, none⟩ = some (.int .i64 11) ∧ (w3.setRow (w.heap.size + 1) x).cell? ⟨g, 0, none⟩ = some (.int .i64 k1) ∧ (w3.setRow (w.heap.size + 1) x).cell? ⟨g, 1, none⟩ = some (.slice A1 c1 ca1) ∧ (w3.setRow (w.heap.size + 1) x).cell? ⟨g, 2, none⟩ = some (.slice B1 m1 cb1) ∧ (w3.setRow (w.heap.size + 1) x).cell? ⟨g, 3, none⟩ = some (.int .i64 k2) ∧ (w3.setRow (w.heap.size + 1) x).cell? ⟨g, 4, none⟩ = some (.slice A2 c2 ca2) ∧ (w3.setRow (w.heap.size + 1) x).cell? ⟨g, 5, none⟩ = some (.slice B2 m2 cb2)) := Lib.hid (by
      simp only [hcell2 w.heap.size 0 (by omega), hcell2 g _ (show g < w.heap.size + 1 by omega)]
      exact HS0.out)
    clear hb3 hb4 hx hcell hcell2
    refine hK1.out _ _ HS3.out (fun _ => ?_)
    simp only [Act.put, List.setIfInBounds_toArray, List.set_cons_zero, List.set_cons_succ]
    refine wpAnyH_ready (rs := [9]) (by kernel_rfl) (by simp) (AllReadyH.cons rfl (fun K2 hK2 => ?_) AllReadyH.nil)
    refine branchY (.tmp 6) (.tmp 90) (w.heap.size + 1) x _ rfl (by kernel_rfl) rfl rfl rfl HX1.out rfl HY.out.size HY.out.one ?_
    refine hK2.out _ _ HS4.out (fun _ => ?_)
    refine wpAnyH_done (by kernel_rfl) ?_ _
    go_wp2_with fail
    refine bodyPost_ret (results_typ rfl _ _ (w.heap.size + 1) _ rfl (HX1.out.put _) HY.out.size) rfl ⟨below_row HB1.out (by omega) _, _, rfl, ?_⟩
    refine (HY.out.keep (by simp [World.setRow]) fun b hb _ => setRow_other _ _ _ _ ?_).imp fun b hb _ => ?_
    · have := HLT.out
      have h5 : W0.drew.heap.size = W0.heap.size := rfl
      rw [h5] at hb
      rcases hb with hb | hb
      · have := hb.2; omega
      · omega
    · have := HB.out.size
      have h5 : W0.drew.heap.size = W0.heap.size := rfl
      rw [h5] at hb
      rcases hb with hb | hb
      · exact .inl hb.1
      · exact .inr (by omega)
end Go.Proofs.YtcmohggnehkjeaaGreat
namespace Go.Proofs.YtcmohggnehkjeaaGreat
open Go.RowKit

def plainT (n : Int) : TT := .mk n 0 (fun _ => ⟨#[]⟩) 0 (fun _ => .bad)
theorem plainT_at (w : World) (Q : Nat → Prop) {n : Int} (hn : -9223372036854775808 ≤ n ∧ n ≤ 9223372036854775807) : TW w Q #[.int .i64 n, .slice none 0 0, .slice none 0 0] (plainT n) :=
  .mk n none 0 0 none 0 0 _ _ (fun _ => #[]) hn (by unfold maxLen; omega) (by unfold maxLen; omega) (fun _ => rfl) (fun _ => rfl) (fun h => absurd h (by omega)) (fun h => absurd h (by omega)) (fun i hi => absurd hi (Nat.not_lt_zero i))
def kindV : VT → Int
  | .bad => 0
  | .mk k _ _ _ _ _ _ _ => k
def addG (a b : TT) : Except Int TT := if kindT a = 5 then addL a b else alikeE [2, 3, 4] b a b
/-- An expression's type, by its Kids' types (kinds 1, 2, 5, 11, 16; x is the one variable). -/
def typO (k : Int) (s : ByteArray) (n : Int) (ts : Nat → TT) (m : Nat) : Except Int TT :=
  if k = 1 then .ok (plainT n) else if k = 2 then (if xName = s then .ok tyInt else .error 11) else if k = 16 then listE ts m else if k = 5 then addG (ts 0) (ts 1) else alikeE [2, 3, 4] tyBool (ts 0) (ts 1)
def firstErr (f : Nat → Except Int TT) : Nat → Option Int
  | 0 => none
  | i + 1 => match firstErr f i with
    | some c => some c
    | none => match f i with
      | .error c => some c
      | .ok _ => none
def okT : Except Int TT → TT
  | .ok t => t
  | .error _ => .bad
def typV : ET → Except Int TT
  | .bad => .error 0
  | .mk k s v _ _ m xs => match firstErr (fun i => typV (xs i)) m with
    | some c => .error c
    | none => match typO k s (kindV v) (fun i => okT (typV (xs i))) m with
      | .error c => .error c
      | .ok t => if tokV t = true then .ok t else .error 15
def okK (k : Int) (m : Nat) : Prop := k = 1 ∧ m = 0 ∨ k = 2 ∧ m = 0 ∨ k = 5 ∧ m = 2 ∨ k = 11 ∧ m = 2 ∨ k = 16
def okG : ET → Prop
  | .bad => False
  | .mk k _ _ _ _ m xs => okK k m ∧ m ≤ 1000 ∧ ∀ i, i < m → okG (xs i)
theorem Finds.of {Q : Nat → Prop} {r : Except Int TT} {w : World} {e : Ending} {w' : World} (hb : Below w.heap.size w w') (h : match r with
    | .ok t => ∃ x, e = .returned (.agg x) ∧ TW w' (fun g => Q g ∨ w.heap.size ≤ g) x t
    | .error c => e = .panicked (gaveP c)) : Finds Q r w e w' := ⟨hb, h⟩
set_option maxHeartbeats 400000 in
theorem over_any {w : World} {g h : Nat} {k : Int} {s : ByteArray} {n : Int} {a1 a2 a3 a4 a5 a6 a7 : Value} {m : Nat} {ts : Nat → TT} {vs : Nat → Array Value} {Q : Nat → Prop} (hk : okK k m) (hm : m ≤ 1000) (hn : -9223372036854775808 ≤ n ∧ n ≤ 9223372036854775807) (hV : VarsAt w g)
    (hT : TypesAt w Q (some ⟨h, 0, none⟩) m ts vs) (hf : ∀ i, i < m → shp (ts i) ∧ tfew (ts i)) :
    Calls Tryz.prog 81 #[.agg #[.int .i64 k, .string s, .int .i64 n, a1, a2, a3, a4, a5, a6, a7], .slice (some ⟨h, 0, none⟩) m m, .slice (some ⟨g, 0, none⟩) 1 1] w (Finds Q (typO k s n ts m) w) := by
  unfold typO
  rcases hk with ⟨rfl, rfl⟩ | ⟨rfl, rfl⟩ | ⟨rfl, rfl⟩ | ⟨rfl, rfl⟩ | rfl
  · rw [if_pos rfl]
    refine over_1.mono ?_
    rintro e w' ⟨rfl, hb⟩
    exact ⟨hb, _, rfl, plainT_at _ _ hn⟩
  · rw [if_neg (by decide), if_pos rfl]
    refine (over_2 hV).mono ?_
    rintro e w' ⟨he, hb⟩
    by_cases hx : xName = s
    · rw [if_pos hx] at he ⊢
      exact ⟨hb, _, he, tyInt_at _ _⟩
    · rw [if_neg hx] at he ⊢
      exact ⟨hb, he⟩
  · rw [if_neg (by decide), if_neg (by decide), if_neg (by decide), if_pos rfl]
    obtain ⟨h1, h2, e, hq, hl, hx⟩ := hT.1 (by omega)
    cases e
    have z0 := hx 0 (by omega)
    have z1 := hx 1 (by omega)
    have t0 := (hT.2 0 (by omega)).imp (Q := fun b => Q b ∧ b < w.heap.size) fun g hg hl => ⟨hg, hl⟩
    have t1 := (hT.2 1 (by omega)).imp (Q := fun b => Q b ∧ b < w.heap.size) fun g hg hl => ⟨hg, hl⟩
    refine over_5 z0 z1 t0.form t1.form hl fun W hb => ?_
    unfold addG
    by_cases h5 : kindT (ts 0) = 5
    · rw [if_pos h5]
      exact two_5l h5 (t0.stay hb) (t1.stay hb) (hf 0 (by omega)) (hf 1 (by omega)).1
    · rw [if_neg h5]
      exact two_5 h5 (t0.stay hb) (t1.stay hb)
  · rw [if_neg (by decide), if_neg (by decide), if_neg (by decide), if_neg (by decide)]
    obtain ⟨h1, h2, e, hq, hl, hx⟩ := hT.1 (by omega)
    cases e
    have z0 := hx 0 (by omega)
    have z1 := hx 1 (by omega)
    have t0 := (hT.2 0 (by omega)).imp (Q := fun b => Q b ∧ b < w.heap.size) fun g hg hl => ⟨hg, hl⟩
    have t1 := (hT.2 1 (by omega)).imp (Q := fun b => Q b ∧ b < w.heap.size) fun g hg hl => ⟨hg, hl⟩
    exact over_11 z0 z1 t0.form t1.form hl fun W hb => two_11 (t0.stay hb) (t1.stay hb)
  · rw [if_neg (by decide), if_neg (by decide), if_pos rfl]
    exact over_16 hT hm hf
end Go.Proofs.YtcmohggnehkjeaaGreat
namespace Go.Proofs.YtcmohggnehkjeaaGreat
open Go.RowKit

theorem firstErr_some {f : Nat → Except Int TT} {c : Int} : ∀ {m i : Nat}, i ≤ m → firstErr f i = some c → firstErr f m = some c
  | 0, i, h, e => by
    obtain rfl : i = 0 := by omega
    exact e
  | m + 1, i, h, e => by
    by_cases hi : i = m + 1
    · rw [← hi]; exact e
    · rw [firstErr, firstErr_some (m := m) (by omega) e]
theorem firstErr_ok {f : Nat → Except Int TT} : ∀ {m : Nat}, firstErr f m = none → ∀ i, i < m → ∃ t, f i = .ok t
  | m + 1, h, i, hi => by
    rw [firstErr] at h
    cases hf : firstErr f m with
    | some c => rw [hf] at h; cases h
    | none =>
      rw [hf] at h
      by_cases e : i = m
      · subst e
        cases hi' : f i with
        | error c => rw [hi'] at h; cases h
        | ok t => exact ⟨t, rfl⟩
      · exact firstErr_ok hf i (by omega)
theorem typV_tok {x : ET} {t : TT} (h : typV x = .ok t) : tokV t = true := by
  cases x with
  | bad => rw [typV] at h; cases h
  | mk k s v c ns m xs =>
    rw [typV] at h
    cases hf : firstErr (fun i => typV (xs i)) m with
    | some c => rw [hf] at h; cases h
    | none =>
      rw [hf] at h
      cases ho : typO k s (kindV v) (fun i => okT (typV (xs i))) m with
      | error c => rw [ho] at h; cases h
      | ok u =>
        rw [ho] at h
        by_cases ht : tokV u = true
        · simp only [if_pos ht] at h; cases h; exact ht
        · simp only [if_neg ht] at h; cases h
set_option maxRecDepth 20000 in
set_option maxHeartbeats 1000000 in
theorem typeOf_any : ∀ (x : ET) (v : Array Value) (Q : Nat → Prop) (w : World) (g : Nat), EOwn w Q v x → VarsAt w g → okG x → Calls Tryz.prog 49 #[.agg v, .slice (some ⟨g, 0, none⟩) 1 1] w (Finds (fun _ => False) (typV x) w) := by
  intro x
  induction x with
  | bad => intro v Q w g h; cases h
  | mk k s vv c ns m xs ih =>
    intro v Q w g hx hV hok
    cases hx with
    | mk _ _ vk vn vf vs B _ cb _ vss hk hs hvk hvn hvf hvs hm hB hxs =>
      obtain ⟨iT, hiT, hy0, hy1, hy2⟩ := info_parts infoT
      have hm1 : m ≤ 1000 := hok.2.1
      unfold efields
      obtain ⟨hb0, hx0, hx1⟩ := ebox w #[.int .i64 k, .string s, .int .i64 vk, .int .i64 vn, .float .f64 vf, .string vs, .slice none 0 0, .slice none 0 0, .slice none 0 0, .slice B m cb] #[.int .i64 0, .slice none 0 0, .slice none 0 0]
      have kc : ((w.alloc (.cells #[.int .i64 k, .string s, .int .i64 vk, .int .i64 vn, .float .f64 vf, .string vs, .slice none 0 0, .slice none 0 0, .slice none 0 0, .slice B m cb] 44)).alloc (.cells #[.int .i64 0, .slice none 0 0, .slice none 0 0] 25)).cell? ⟨w.heap.size, 9, none⟩ = some (.slice B m cb) := by
        unfold EB at hx0
        simp [World.cell?, hx0]
      have HB := Lib.hid hb0
      have HX := Lib.hid (And.intro hx0 hx1)
      have HV := Lib.hid (hV.below hb0)
      have HK := Lib.hid (And.intro hB (And.intro hxs (And.intro hok ih)))
      have HN := Lib.hid hvk
      clear hb0 hx0 hx1 hV hB hxs hok ih hk hs hvk hvn hvf hvs hm
      go_enter Tryz.func49, Tryz.ntmps49
      go_wp2_with (at_make; refine wpList_make_full _ rfl (.tmp 11) (.tmp 11) 23 rfl (w.heap.size + 1 + 1) 25 iT (.agg #[.int .i64 0, .slice none 0 0, .slice none 0 0]) 3 Tryz.underlying23 hiT hy0 hy1 .i64 .i64 _ _ m rfl rfl rfl rfl (by rw [hy2]; omega) (by unfold maxLen; omega) (by simp) ?_; intro w1 hown hgrow; refine Hid.out ?_)
      refine Lib.hid ?_
      obtain ⟨W0, hW0⟩ : ∃ W, W = ((w.alloc (.cells #[.int .i64 k, .string s, .int .i64 vk, .int .i64 vn, .float .f64 vf, .string vs, .slice none 0 0, .slice none 0 0, .slice none 0 0, .slice B m cb] 44)).alloc (.cells #[.int .i64 0, .slice none 0 0, .slice none 0 0] 25)) := ⟨_, rfl⟩
      have hsz : W0.heap.size = w.heap.size + 2 := by rw [hW0]; simp
      rw [← hW0] at HB HX HV hown hgrow
      have HSZ := Lib.hid hsz
      have hlen := hown.1
      obtain ⟨F0, hF0⟩ := list_range' _ hlen
      rw [hF0] at hown
      obtain ⟨B0, hB0⟩ : ∃ B0, B0 = w.heap.size + 1 + 1 := ⟨_, rfl⟩
      rw [← hB0] at hown ⊢
      rw [show W0.heap.size = B0 by omega] at hown
      have hMJ : MidJ (fun _ => False) B0 W0 w1 B0 m m 0 (fun i => okT (typV (xs i))) F0 := ⟨hown, (Below.refl _ _).grown hgrow (by omega) (fun k e => by cases e), fun q hq => absurd hq (Nat.not_lt_zero q)⟩
      have HMJ := Lib.hid hMJ
      have HB0 := Lib.hid hB0
      obtain ⟨f, hf⟩ : ∃ f : Nat → Except Int TT, f = fun i => typV (xs i) := ⟨_, rfl⟩
      have HFD := Lib.hid hf
      have k1 : w1.cell? ⟨w.heap.size, 9, none⟩ = some (.slice B m cb) := (hMJ.below.cell (p := ⟨w.heap.size, 9, none⟩) (show w.heap.size < B0 by omega)).trans (by rw [hW0]; exact kc)
      have KC := Lib.hid k1
      clear hown hgrow hMJ hlen hF0 hW0 hsz hB0 hf kc
      go_wp2_with fail
      go_loopw [16] (fun iv wr => ∃ (i : Nat) (F : Nat → Value), i ≤ m ∧ iv = .int .i64 i ∧ Hid (MidJ (fun _ => False) B0 W0 wr B0 m m i (fun i => okT (typV (xs i))) F) ∧ Hid (firstErr f i = none)) (fun iv _ => m - (intOf iv).toNat)
      case atStart => exact ⟨0, F0, Nat.zero_le _, rfl, HMJ, Lib.hid rfl⟩
      case round =>
        obtain ⟨i, F, hi, rfl, hW, hA⟩ := hrel
        clear HMJ k1 KC
        have hb0 : Below W0.heap.size W0 wr := hW.out.below.mono (by have := HSZ.out; have := HB0.out; omega) 
        by_cases hlt : i < m
        · obtain ⟨gB, oB, rfl, _, hg, hx⟩ := HK.out.1 (by omega)
          have hbw : Below w.heap.size w wr := HB.out.trans (hb0.mono HB.out.size)
          have hti := (HK.out.2.1 i hlt).keep hbw.size fun b _ hl => hbw.block b hl
          have hcl := (hx i hlt).keep fun o => hbw.cell (p := ⟨gB, o, none⟩) hg
          have hIH := HK.out.2.2.2 i
          generalize vss i = ve at hti hcl
          obtain ⟨b0, b1, b2, b3, b4, b5, b6, b7, b8, b9, rfl⟩ := hti.ten
          obtain ⟨e0, e1, e2, e3, e4, e5, e6, e7, e8, e9⟩ := hcl.cells
          obtain ⟨W5, hW5⟩ : ∃ W, W = (wr.alloc (.cells zero10 44)).setRow wr.heap.size #[b0, b1, b2, b3, b4, b5, b6, b7, b8, b9] := ⟨_, rfl⟩
          have hE5 : EB W5 wr.heap.size #[b0, b1, b2, b3, b4, b5, b6, b7, b8, b9] := by rw [hW5]; exact (EB.new wr zero10).set _
          have hbx : Below wr.heap.size wr W5 := by rw [hW5]; exact below_row ((Below.refl _ _).alloc (Nat.le_refl _) _) (Nat.le_refl _) _
          have C := hIH _ Q W5 g (hti.keep hbx.size fun b _ hl => hbx.block b hl) ((HV.out.below hb0).below hbx) (HK.out.2.2.1.2.2 i hlt)
          have HBX := Lib.hid hbx
          have HE5 := Lib.hid hE5
          have HEN := Lib.hid (EB.new wr zero10)
          have HO := Lib.hid hti.one
          have HWE := Lib.hid hW5
          have ti : (i : Int) < m := by omega
          have ti0 : (0 : Int) ≤ i := by omega
          obtain ⟨r, hr⟩ : ∃ r, typV (xs i) = r := ⟨_, rfl⟩
          rw [hr] at C
          have HC := Lib.hid C
          have HR := Lib.hid hr
          clear hbx C hti hcl hx hbw hIH hE5 hW5 hr
          go_wp2_with (refine stE rfl _ _ rfl wr.heap.size #[b0, b1, b2, b3, b4, b5, b6, b7, b8, b9] zero10 rfl rfl HEN.out rfl rfl HO.out ?_; refine Hid.out ?_)
          refine Lib.hid ?_
          change wpList _ _ _ _ _ (World.setRow (wr.alloc (.cells zero10 44)) _ _)
          rw [← HWE.out]
          clear e0 e1 e2 e3 e4 e5 e6 e7 e8 e9
          cases r with
          | error c =>
            have HER : Hid (typV (.mk k s (leafV vk vn vf vs) 0 (fun _ => ⟨#[]⟩) m xs) = .error c) := Lib.hid (by
              rw [typV, ← HFD.out, firstErr_some (c := c) (i := i + 1) (by omega) (by rw [firstErr, hA.out]; simp only [HFD.out, HR.out])])
            go_wp2_with (first
              | (refine ldE rfl _ rfl wr.heap.size #[b0, b1, b2, b3, b4, b5, b6, b7, b8, b9] rfl HE5.out rfl ?_)
              | (go_at_call 49; refine HC.out.mono ?_; rintro e w6 ⟨hb6, rfl⟩))
            refine ⟨rfl, HB.out.trans (((hb0.trans (HBX.out.mono hb0.size)).trans (hb6.mono (hb0.trans (HBX.out.mono hb0.size)).size)).mono HB.out.size), ?_⟩
            rw [HER.out]
          | ok t =>
            go_wp2_with (first
              | (refine ldE rfl _ rfl wr.heap.size #[b0, b1, b2, b3, b4, b5, b6, b7, b8, b9] rfl HE5.out rfl ?_)
              | (go_at_call 49; refine HC.out.mono ?_; rintro e w6 ⟨hb6, x, rfl, hx⟩; refine Hid.out ?_))
            refine Lib.hid ?_
            obtain ⟨k3, A3, c3, ca3, B3, m3, cb3, rfl⟩ := hx.form
            have hb7 : Below wr.heap.size wr w6 := HBX.out.trans (hb6.mono HBX.out.size)
            have hO6 := hW.out.own.kept (w' := w6) (row := none) ⟨hb7.os, hb7.tape, hb7.output, hb7.size, fun k hk _ => hb7.block k hk⟩ (.inr (by simp [Value.ownBlock]))
            have hlo : B0 < wr.heap.size := (hW.out.own.lt B0 rfl).2
            have hst := hW.out.step (ts := fun i => okT (typV (xs i))) (by omega) hb7 (a0 := .int .i64 k3) (a1 := .slice A3 c3 ca3) (a2 := .slice B3 m3 cb3) (by
              simp only [HR.out, okT]
              exact hx.imp fun b hb hl => by
                rcases hb with hb | hb
                · exact hb.elim
                · have := HBX.out.size
                  exact ⟨.inr (by omega), by omega⟩) rfl
            have HST := Lib.hid hst
            obtain ⟨n0, hn0⟩ : ∃ x, w6.cell? ⟨B0, i * 3, none⟩ = some x := ⟨_, by rw [hO6.cellAt (i * 3) (by omega), range_at _ (by omega)]⟩
            obtain ⟨n1, hn1⟩ : ∃ x, w6.cell? ⟨B0, i * 3 + 1, none⟩ = some x := ⟨_, by rw [hO6.cellAt (i * 3 + 1) (by omega), range_at _ (by omega)]⟩
            obtain ⟨n2, hn2⟩ : ∃ x, w6.cell? ⟨B0, i * 3 + 2, none⟩ = some x := ⟨_, by rw [hO6.cellAt (i * 3 + 2) (by omega), range_at _ (by omega)]⟩
            have nf := hO6.frozenAt
            have HA' : Hid (firstErr f (i + 1) = none) := Lib.hid (by rw [firstErr, hA.out]; simp only [HFD.out, HR.out])
            clear hb6 hx hb7 hO6 hst
            go_wp2_with fail
            go_roundw
            case rel => exact ⟨i + 1, _, by omega, by go_num, HST, HA'⟩
            case measure => simp [intOf]; omega
        · have hend : i = m := by omega
          subst hend
          have hbw : Below w.heap.size w wr := HB.out.trans (hb0.mono HB.out.size)
          obtain ⟨vs', hvs⟩ : ∃ vs' : Nat → Array Value, ∀ q, q < i → TW wr (fun b => (False ∨ B0 ≤ b) ∧ b ≠ B0) (vs' q) (okT (typV (xs q))) ∧ ∀ k, k < 3 → (vs' q)[k]? = some (F (q * 3 + k)) :=
            ⟨fun q => if h : q < i then (hW.out.done q h).choose else #[], fun q hq => by simp only [dif_pos hq]; exact (hW.out.done q hq).choose_spec⟩
          have hT : TypesAt wr (fun b => B0 ≤ b) (some ⟨B0, 0, none⟩) i (fun q => okT (typV (xs q))) vs' := by
            refine ⟨fun _ => ⟨B0, 0, rfl, Nat.le_refl _, (hW.out.own.lt B0 rfl).2, fun q hq r hr => ?_⟩, fun q hq => (hvs q hq).1.imp fun b hb _ => by rcases hb.1 with h | h; exact h.elim; exact h⟩
            rw [Nat.zero_add, (hvs q hq).2 r hr, ← range_at F (show q * 3 + r < i * 3 by omega), ← hW.out.own.cellAt (q * 3 + r) (by omega)]
          have hfit : ∀ q, q < i → shp (okT (typV (xs q))) ∧ tfew (okT (typV (xs q))) := fun q hq => by
            obtain ⟨t, ht⟩ := firstErr_ok hA.out q hq
            rw [HFD.out] at ht
            have h := (hT.2 q hq).right (by simp only at ht ⊢; rw [ht]; exact typV_tok ht)
            exact h
          have C := over_any (s := s) (a1 := .int .i64 vn) (a2 := .float .f64 vf) (a3 := .string vs) (a4 := .slice none 0 0) (a5 := .slice none 0 0) (a6 := .slice none 0 0) (a7 := .slice B i cb) HK.out.2.2.1.1 hm1 HN.out (HV.out.below hb0) hT hfit
          have HTV : Hid (typV (.mk k s (leafV vk vn vf vs) 0 (fun _ => ⟨#[]⟩) i xs) = match typO k s vk (fun q => okT (typV (xs q))) i with
              | .error c => .error c
              | .ok t => if tokV t = true then .ok t else .error 15) := Lib.hid (by
            rw [typV, ← HFD.out, hA.out]
            rfl)
          have HBW := Lib.hid hbw
          have HXE := Lib.hid (HX.out.1.below hb0)
          have HXT := Lib.hid (HX.out.2.below hb0)
          have HBS := Lib.hid (show w.heap.size + 1 < B0 by have := HB0.out; omega)
          have HB0W := Lib.hid (show B0 < wr.heap.size from (hW.out.own.lt B0 rfl).2)
          obtain ⟨r, hr⟩ : ∃ r, typO k s vk (fun q => okT (typV (xs q))) i = r := ⟨_, rfl⟩
          rw [hr] at C HTV
          have HC := Lib.hid C
          clear hr C hT hfit hvs hbw hb0
          cases r with
          | error c =>
            simp only at HTV
            go_wp2_with (first
              | (refine ldE rfl _ rfl w.heap.size _ rfl HXE.out rfl ?_)
              | (go_at_call 81; refine HC.out.mono ?_; rintro e w6 ⟨hb6, rfl⟩))
            refine ⟨rfl, HBW.out.trans (hb6.mono HBW.out.size), ?_⟩
            rw [HTV.out]
          | ok t =>
            simp only at HTV
            go_wp2_with (first
              | (refine ldE rfl _ rfl w.heap.size _ rfl HXE.out rfl ?_)
              | (go_at_call 81; refine HC.out.mono ?_; rintro e w6 ⟨hb6, x, rfl, hx⟩; refine Hid.out ?_))
            refine Lib.hid ?_
            obtain ⟨k3, A3, c3, ca3, B3, m3, cb3, rfl⟩ := hx.form
            have hbx : Below w6.heap.size w6 (w6.alloc (.cells #[.int .i64 k3, .slice A3 c3 ca3, .slice B3 m3 cb3] 25)) := (Below.refl _ _).alloc (Nat.le_refl _) _
            have T := typeright_f ((hx.stay hbx).val)
            have HT := Lib.hid T
            have HY := Lib.hid (hx.stay hbx)
            have hxt := (HXT.out.below hb6).below hbx
            have HXT6 := Lib.hid hxt
            have HB6 := Lib.hid ((HBW.out.trans (hb6.mono HBW.out.size)).trans (hbx.mono (Nat.le_trans HBW.out.size hb6.size)))
            have HNB := Lib.hid (TB.new w6 #[.int .i64 k3, .slice A3 c3 ca3, .slice B3 m3 cb3])
            have HS6 := Lib.hid hb6.size
            clear hbx T hxt hb6 hx
            cases ht : tokV t with
            | false =>
              rw [ht] at HT
              have HTV2 : Hid (typV (.mk k s (leafV vk vn vf vs) 0 (fun _ => ⟨#[]⟩) i xs) = .error 15) := Lib.hid (by rw [HTV.out, if_neg (by rw [ht]; decide)])
              clear ht
              go_wp2_with (go_at_call 32; refine HT.out.mono ?_; rintro e w7 ⟨rfl, hb7⟩)
              refine ⟨rfl, HB6.out.trans (hb7.mono HB6.out.size), ?_⟩
              rw [HTV2.out]
              rfl
            | true =>
              rw [ht] at HT
              have HTV2 : Hid (typV (.mk k s (leafV vk vn vf vs) 0 (fun _ => ⟨#[]⟩) i xs) = .ok t) := Lib.hid (by rw [HTV.out, if_pos ht])
              clear ht
              go_wp2_with (go_at_call 32; refine HT.out.mono ?_; rintro e w7 ⟨rfl, hb7⟩; refine Hid.out ?_)
              refine Lib.hid ?_
              obtain ⟨d0, d1, d2, _, _⟩ := (HNB.out.below hb7).cells
              have HXT7 := Lib.hid (HXT6.out.below hb7)
              have HB7 := Lib.hid (HB6.out.trans (hb7.mono HB6.out.size))
              have HY7 := Lib.hid (HY.out.stay hb7)
              clear hb7
              go_wp2_with (refine stT rfl _ _ rfl (w.heap.size + 1) #[.int .i64 k3, .slice A3 c3 ca3, .slice B3 m3 cb3] _ rfl rfl HXT7.out rfl rfl (by simp [Value.oneCell']) ?_)
              refine bodyPost_ret (results_typ rfl _ _ (w.heap.size + 1) _ rfl (HXT7.out.put _) rfl) rfl ⟨below_row HB7.out (by omega) _, ?_⟩
              rw [HTV2.out]
              refine ⟨_, rfl, ?_⟩
              have h1 := HBS.out
              have h2 := HB0W.out
              refine (HY7.out.keep (by simp [World.setRow]) fun b hb _ => setRow_other _ _ _ _ ?_).imp fun b hb _ => ?_
              · rcases hb with hb | hb <;> omega
              · rcases hb with hb | hb
                · exact .inr (by omega)
                · exact .inr (by omega)
end Go.Proofs.YtcmohggnehkjeaaGreat
namespace Go.Proofs.YtcmohggnehkjeaaGreat
open Go.RowKit

/-- A box with a list of variables. -/
def VB (w : World) (S g : Nat) : Prop := w.heap[S]? = some (.cells #[.slice (some ⟨g, 0, none⟩) 1 1] 45 (0, 0))
theorem VB.below {w w' : World} {S g : Nat} (h : VB w S g) (hb : Below w.heap.size w w') : VB w' S g := (hb.block S (Array.getElem?_eq_some_iff.1 h).1).trans h
theorem VB.cell {w : World} {S g : Nat} (h : VB w S g) : w.cell? ⟨S, 0, none⟩ = some (.slice (some ⟨g, 0, none⟩) 1 1) := by unfold VB at h; simp [World.cell?, h]
theorem EOwn.stay {w w' : World} {Q : Nat → Prop} {v : Array Value} {t : ET} (h : EOwn w Q v t) (hb : Below w.heap.size w w') : EOwn w' Q v t := h.keep hb.size fun g _ hg => hb.block g hg
set_option maxRecDepth 20000 in
set_option maxHeartbeats 1000000 in
theorem check_clos {x : ET} {v : Array Value} {R S g : Nat} {Q : Nat → Prop} {w : World} (hR : EB w R v) (hS : VB w S g) (hv : EOwn w Q v x) (hV : VarsAt w g) (hok : okG x) :
    Calls Tryz.prog 48 #[.pointer (some ⟨R, 0, none⟩), .pointer (some ⟨S, 0, none⟩)] w (Finds (fun _ => False) (typV x) w) := by
  have hbx : Below w.heap.size w (w.alloc (.cells #[.int .i64 0, .slice none 0 0, .slice none 0 0] 25)) := (Below.refl _ _).alloc (Nat.le_refl _) _
  have C := typeOf_any x v Q _ g (hv.stay hbx) (hV.below hbx) hok
  have HR := Lib.hid (hR.below hbx)
  have s0 := (hS.below hbx).cell
  have HX := Lib.hid (TB.new w #[.int .i64 0, .slice none 0 0, .slice none 0 0])
  have HB := Lib.hid hbx
  obtain ⟨r, hr⟩ : ∃ r, typV x = r := ⟨_, rfl⟩
  rw [hr] at C ⊢
  have HC := Lib.hid C
  have HZ := Lib.hid hv.size
  clear C hbx hR hS hv hV hok hr
  cases r with
  | error c =>
    go_enter Tryz.func48, Tryz.ntmps48
    go_wp2_with (first
      | (refine ldE rfl _ rfl R _ rfl HR.out HZ.out ?_)
      | (go_at_call 49; refine HC.out.mono ?_; rintro e w1 ⟨hb1, rfl⟩))
    exact ⟨rfl, HB.out.trans (hb1.mono HB.out.size), rfl⟩
  | ok t =>
    go_enter Tryz.func48, Tryz.ntmps48
    go_wp2_with (first
      | (refine ldE rfl _ rfl R _ rfl HR.out HZ.out ?_)
      | (go_at_call 49; refine HC.out.mono ?_; rintro e w1 ⟨hb1, x, rfl, hx⟩; have HX1 := Lib.hid (HX.out.below hb1); have HB1 := Lib.hid (HB.out.trans (hb1.mono HB.out.size)); have HY := Lib.hid hx; clear hb1 hx)
      | (refine stT rfl _ _ rfl w.heap.size x _ rfl rfl HX1.out rfl HY.out.size HY.out.one ?_))
    refine bodyPost_ret (results_typ rfl _ _ w.heap.size _ rfl (HX1.out.put _) HY.out.size) rfl ⟨below_row HB1.out (Nat.le_refl _) _, _, rfl, ?_⟩
    refine (HY.out.keep (by simp [World.setRow]) fun b hb _ => setRow_other _ _ _ _ ?_).imp fun b hb _ => ?_
    · rcases hb with hb | hb
      · exact hb.elim
      · rw [World.size_alloc] at hb; omega
    · rcases hb with hb | hb
      · exact hb.elim
      · rw [World.size_alloc] at hb; exact .inr (by omega)
theorem typV_few {x : ET} {t : TT} {w : World} {Q : Nat → Prop} {v : Array Value} (h : typV x = .ok t) (hv : TW w Q v t) : tfew t := (hv.right (typV_tok h)).2
theorem check_boxes (w : World) (v : Array Value) (g : Nat) : Below w.heap.size w (((w.alloc (.cells v 44)).alloc (.cells #[.slice (some ⟨g, 0, none⟩) 1 1] 45)).alloc (.cells #[.int .i64 0, .slice none 0 0, .slice none 0 0] 25)) ∧
    EB (((w.alloc (.cells v 44)).alloc (.cells #[.slice (some ⟨g, 0, none⟩) 1 1] 45)).alloc (.cells #[.int .i64 0, .slice none 0 0, .slice none 0 0] 25)) w.heap.size v ∧
    VB (((w.alloc (.cells v 44)).alloc (.cells #[.slice (some ⟨g, 0, none⟩) 1 1] 45)).alloc (.cells #[.int .i64 0, .slice none 0 0, .slice none 0 0] 25)) (w.heap.size + 1) g ∧
    TB (((w.alloc (.cells v 44)).alloc (.cells #[.slice (some ⟨g, 0, none⟩) 1 1] 45)).alloc (.cells #[.int .i64 0, .slice none 0 0, .slice none 0 0] 25)) (w.heap.size + 1 + 1) #[.int .i64 0, .slice none 0 0, .slice none 0 0] := by
  refine ⟨(((Below.refl _ _).alloc (Nat.le_refl _) _).alloc (by simp) _).alloc (by simp; omega) _, ((EB.new w v).alloc _).alloc _, ?_, ?_⟩
  · have := heap_alloc_new (w.alloc (.cells v 44)) (.cells #[.slice (some ⟨g, 0, none⟩) 1 1] 45)
    rw [World.size_alloc] at this
    exact (Below.heap_alloc _ _ _ (by simp)).trans this
  · have := TB.new ((w.alloc (.cells v 44)).alloc (.cells #[.slice (some ⟨g, 0, none⟩) 1 1] 45)) #[.int .i64 0, .slice none 0 0, .slice none 0 0]
    rw [World.size_alloc, World.size_alloc] at this
    exact this
set_option maxRecDepth 20000 in
set_option maxHeartbeats 1000000 in
theorem Check_x {x : ET} {v : Array Value} {g : Nat} {Q : Nat → Prop} {w : World} (hv : EOwn w Q v x) (hV : VarsAt w g) (hok : okG x) (hs : subR x = true) (hfew : ∀ t, typV x = .ok t → tfew t) :
    Calls Tryz.prog 22 #[.agg v, .slice (some ⟨g, 0, none⟩) 1 1] w (Caught (typV x) w) := by
  obtain ⟨hb0, hx0, hx1, hx2⟩ := check_boxes w v g
  have R := Lib.hid (Right_yes (hv.stay hb0).val hs)
  have CW := Lib.hid fun W (hb : Below w.heap.size w W) => containsW_x (hV.below hb)
  have CL := Lib.hid fun W (hbW : Below w.heap.size w W) (h1 : EB W w.heap.size v) (h2 : VB W (w.heap.size + 1) g) => check_clos h1 h2 (hv.stay hbW) (hV.below hbW) hok
  have HB0 := Lib.hid hb0
  have HX := Lib.hid (And.intro hx0 (And.intro hx1 hx2))
  have HZ := Lib.hid (And.intro hv.size hfew)
  obtain ⟨b0, b1, b2, b3, b4, b5, b6, b7, b8, b9, rfl⟩ := hv.ten
  have MF := makeFunc_go
  clear hb0 hx0 hx1 hx2 hv hV hok hs hfew
  go_enter Tryz.func22, Tryz.ntmps22
  go_wp2_with (first
    | (refine ldE rfl _ rfl w.heap.size _ rfl HX.out.1 HZ.out.1 ?_)
    | (go_at_call 45; refine R.out.mono ?_; rintro e w1 ⟨rfl, hb1⟩; refine Hid.out ?_))
  refine Lib.hid ?_
  have s0 := (HX.out.2.1.below hb1).cell
  have HB1 := Lib.hid (HB0.out.trans (hb1.mono HB0.out.size))
  have hb1' := Lib.hid hb1
  clear hb1
  go_wp2_with (go_at_call 46; refine (CW.out _ HB1.out).mono ?_; rintro e w2 ⟨rfl, hb2⟩; refine Hid.out ?_)
  refine Lib.hid ?_
  have HBN := Lib.hid (hb1'.out.trans (hb2.mono hb1'.out.size))
  have HB2 := Lib.hid (HB1.out.trans (hb2.mono HB1.out.size))
  have HX2 := Lib.hid (And.intro (HX.out.1.below HBN.out) (And.intro (HX.out.2.1.below HBN.out) (HX.out.2.2.below HBN.out)))
  clear hb2 s0
  obtain ⟨r, hr⟩ : ∃ r, r = typV x := ⟨_, rfl⟩
  have CC : Hid (Calls Tryz.prog 33 #[.func (.func 48) #[] #[.pointer (some ⟨w.heap.size, 0, none⟩), .pointer (some ⟨w.heap.size + 1, 0, none⟩)]] w2 (Caught r w2)) := Lib.hid (by
    have H := fun W (hb : Below w2.heap.size w2 W) => CL.out W (HB2.out.trans (hb.mono HB2.out.size)) (HX2.out.1.below hb) (HX2.out.2.1.below hb)
    rw [← hr] at H
    cases r with
    | error c => exact caughtC_err H
    | ok t => exact caughtC_ok H (HZ.out.2 t hr.symm))
  have HR := Lib.hid hr
  clear hr
  unfold Caught at CC
  cases r with
  | error c =>
    simp only at CC
    go_wp2_with (go_at_call 33; refine CC.out.mono ?_; rintro e w3 ⟨hb3, rfl⟩; refine Hid.out ?_)
    refine Lib.hid ?_
    have HX3 := Lib.hid (HX2.out.2.2.below hb3)
    have HB3 := Lib.hid (HB2.out.trans (hb3.mono HB2.out.size))
    clear hb3
    go_wp2_with (refine stT rfl _ _ rfl (w.heap.size + 1 + 1) #[.int .i64 0, .slice none 0 0, .slice none 0 0] _ rfl rfl HX3.out rfl rfl (by simp [Value.oneCell']) ?_)
    refine bodyPost_ret (results_typ2 rfl _ _ (w.heap.size + 1 + 1) _ _ rfl rfl (HX3.out.put _) rfl) rfl ⟨below_row HB3.out (by omega) _, ?_⟩
    rw [← HR.out]
    rfl
  | ok t =>
    simp only at CC
    go_wp2_with (go_at_call 33; refine CC.out.mono ?_; rintro e w3 ⟨hb3, x, rfl, hx⟩; refine Hid.out ?_)
    refine Lib.hid ?_
    have HX3 := Lib.hid (HX2.out.2.2.below hb3)
    have HB3 := Lib.hid (HB2.out.trans (hb3.mono HB2.out.size))
    have HY := Lib.hid hx
    have HZ := Lib.hid HX2.out.2.2.lt
    have HS := Lib.hid HB2.out.size
    clear hb3 hx
    go_wp2_with (refine stT rfl _ _ rfl (w.heap.size + 1 + 1) x _ rfl rfl HX3.out rfl HY.out.size HY.out.one ?_)
    refine bodyPost_ret (results_typ2 rfl _ _ (w.heap.size + 1 + 1) _ _ rfl rfl (HX3.out.put _) HY.out.size) rfl ⟨below_row HB3.out (by omega) _, ?_⟩
    rw [← HR.out]
    refine ⟨_, rfl, ?_⟩
    refine (HY.out.keep (by simp [World.setRow]) fun g hg _ => setRow_other _ _ _ _ ?_).imp fun g hg _ => ?_
    · have := HZ.out; omega
    · have := HS.out; omega
end Go.Proofs.YtcmohggnehkjeaaGreat
namespace Go.Proofs.YtcmohggnehkjeaaGreat
open Go.RowKit

theorem checked_box (w : World) : Below w.heap.size w (w.alloc (.cells #[.int .i64 0, .slice none 0 0, .slice none 0 0] 25)) := (Below.refl _ _).alloc (Nat.le_refl _) _
set_option maxRecDepth 20000 in
set_option maxHeartbeats 1000000 in
theorem checked_any {s : ByteArray} {x : ET} {w : World} (hp : says s x) (hok : okG x) (hs : subR x = true) (hfew : ∀ t, typV x = .ok t → tfew t) :
    Calls Tryz.prog 29 #[.string s] w (Caught (typV x) w) := by
  have P := Lib.hid (hp (w.alloc (.cells #[.int .i64 0, .slice none 0 0, .slice none 0 0] 25)))
  have HB0 := Lib.hid (checked_box w)
  have HX := Lib.hid (TB.new w #[.int .i64 0, .slice none 0 0, .slice none 0 0])
  have HK := Lib.hid (And.intro hok (And.intro hs hfew))
  obtain ⟨r, hr⟩ : ∃ r, r = typV x := ⟨_, rfl⟩
  rw [← hr]
  have HR := Lib.hid hr
  clear hp hok hs hfew hr
  go_enter Tryz.func29, Tryz.ntmps29
  go_wp2_with (go_at_call 65; refine P.out.mono ?_; rintro e w1 ⟨v, rfl, hv, hb1⟩; refine Hid.out ?_)
  refine Lib.hid ?_
  obtain ⟨W5, hW5⟩ : ∃ W, W = (w1.alloc (.cells zero10 44)).setRow w1.heap.size v := ⟨_, rfl⟩
  have hE5 : EB W5 w1.heap.size v := by rw [hW5]; exact (EB.new w1 zero10).set _
  have hb5 : Below w1.heap.size w1 W5 := by rw [hW5]; exact below_row ((Below.refl _ _).alloc (Nat.le_refl _) _) (Nat.le_refl _) _
  have HEN := Lib.hid (EB.new w1 zero10)
  have HWE := Lib.hid hW5
  have HE5 := Lib.hid hE5
  have HZ := Lib.hid hv.size
  have HO := Lib.hid hv.one
  have HX5 := Lib.hid ((HX.out.below hb1).below hb5)
  have HB5 := Lib.hid ((HB0.out.trans (hb1.mono HB0.out.size)).trans (hb5.mono (Nat.le_trans HB0.out.size hb1.size)))
  have hbv : Below W5.heap.size W5 (W5.alloc (.cells xCells 77)) := (Below.refl _ _).alloc (Nat.le_refl _) _
  have C := Check_x ((hv.stay hb5).stay hbv) (show VarsAt (W5.alloc (.cells xCells 77)) W5.heap.size from heap_alloc_new _ _) HK.out.1 HK.out.2.1 HK.out.2.2
  have HX6 := Lib.hid (HX5.out.below hbv)
  have HB6 := Lib.hid (HB5.out.trans (hbv.mono HB5.out.size))
  unfold xCells xName at C HX6 HB6
  rw [← HR.out] at C
  unfold Caught at C
  have HC := Lib.hid C
  clear hbv C hb5 hb1 hv hW5 hE5
  go_wp2_with (refine stE rfl _ _ rfl w1.heap.size v zero10 rfl rfl HEN.out rfl HZ.out HO.out ?_; refine Hid.out ?_)
  refine Lib.hid ?_
  change wpList _ _ _ _ _ (World.setRow (w1.alloc (.cells zero10 44)) _ _)
  rw [← HWE.out]
  cases r with
  | error c =>
    simp only at HC
    go_wp2_with (first
      | (refine ldE rfl _ rfl w1.heap.size v rfl HE5.out HZ.out ?_)
      | (go_at_call 22; refine HC.out.mono ?_; rintro e w3 ⟨hb3, rfl⟩; refine Hid.out ?_))
    refine Lib.hid ?_
    have HX3 := Lib.hid (HX6.out.below hb3)
    have HB3 := Lib.hid (HB6.out.trans (hb3.mono HB6.out.size))
    clear hb3
    go_wp2_with (refine stT rfl _ _ rfl w.heap.size #[.int .i64 0, .slice none 0 0, .slice none 0 0] _ rfl rfl HX3.out rfl rfl (by simp [Value.oneCell']) ?_)
    exact bodyPost_ret (results_typ2 rfl _ _ w.heap.size _ _ rfl rfl (HX3.out.put _) rfl) rfl ⟨below_row HB3.out (Nat.le_refl _) _, rfl⟩
  | ok t =>
    simp only at HC
    go_wp2_with (first
      | (refine ldE rfl _ rfl w1.heap.size v rfl HE5.out HZ.out ?_)
      | (go_at_call 22; refine HC.out.mono ?_; rintro e w3 ⟨hb3, x, rfl, hx⟩; refine Hid.out ?_))
    refine Lib.hid ?_
    have HX3 := Lib.hid (HX6.out.below hb3)
    have HB3 := Lib.hid (HB6.out.trans (hb3.mono HB6.out.size))
    have HY := Lib.hid hx
    have HZ6 := Lib.hid HX6.out.lt
    clear hb3 hx
    go_wp2_with (refine stT rfl _ _ rfl w.heap.size x _ rfl rfl HX3.out rfl HY.out.size HY.out.one ?_)
    refine bodyPost_ret (results_typ2 rfl _ _ w.heap.size _ _ rfl rfl (HX3.out.put _) HY.out.size) rfl ⟨below_row HB3.out (Nat.le_refl _) _, _, rfl, ?_⟩
    refine (HY.out.keep (by simp [World.setRow]) fun g hg _ => setRow_other _ _ _ _ ?_).imp fun g hg _ => ?_
    · have := HZ6.out; omega
    · have := HZ6.out; omega
end Go.Proofs.YtcmohggnehkjeaaGreat
namespace Go.Proofs.YtcmohggnehkjeaaGreat
open Go.RowKit

def totOk (r : Except Int TT) : Bool := match r with
  | .ok t => decide (ttot t ≤ 200) && trightV t 12
  | .error _ => true
theorem few_of {r : Except Int TT} (h : totOk r = true) : ∀ t, r = .ok t → tfew t := fun t e => by
  subst e
  rw [totOk, Bool.and_eq_true, decide_eq_true_eq] at h
  exact (right_shape t 12 h.2 h.1).2
/-- A list of one, of this kind. -/
def isList (n : Int) : TT → Bool
  | .bad => false
  | .mk k _ _ m xs => decide (k = 5) && (decide (m = 1) && decide (kindT (xs 0) = n))
def okIs (p : TT → Bool) (r : Except Int TT) : Bool := match r with
  | .ok t => p t
  | .error _ => false
def errIs (c : Int) (r : Except Int TT) : Bool := match r with
  | .ok _ => false
  | .error d => decide (d = c)
theorem okIs_of {p : TT → Bool} {r : Except Int TT} (h : okIs p r = true) : ∃ t, r = .ok t ∧ p t = true := by
  cases r with
  | error c => cases h
  | ok t => exact ⟨t, rfl, h⟩
theorem errIs_of {c : Int} {r : Except Int TT} (h : errIs c r = true) : r = .error c := by
  cases r with
  | ok t => cases h
  | error d => rw [of_decide_eq_true h]
theorem okG_two {k : Int} {a b : ET} (hk : k = 5 ∨ k = 11) (ha : okG a) (hb : okG b) : okG (twoE k a b) := by
  refine ⟨by rcases hk with rfl | rfl; exact .inr (.inr (.inl ⟨rfl, rfl⟩)); exact .inr (.inr (.inr (.inl ⟨rfl, rfl⟩))), by omega, fun i hi => ?_⟩
  match i, hi with
  | 0, _ => exact ha
  | 1, _ => exact hb
theorem okG_con (k n : Int) (f : Nat) : okG (conE k n f) := ⟨.inl ⟨rfl, rfl⟩, by omega, fun i hi => absurd hi (Nat.not_lt_zero i)⟩
theorem okG_var (s : ByteArray) : okG (varE s) := ⟨.inr (.inl ⟨rfl, rfl⟩), by omega, fun i hi => absurd hi (Nat.not_lt_zero i)⟩
theorem okG_e0 : okG listE0 := ⟨.inr (.inr (.inr (.inr rfl))), by omega, fun i hi => absurd hi (Nat.not_lt_zero i)⟩
theorem okG_e1 {a : ET} (ha : okG a) : okG (listE1 a) := ⟨.inr (.inr (.inr (.inr rfl))), by omega, fun i hi => ha⟩
theorem ty_x1lt2 : okIs (fun t => decide (kindT t = 1)) (typV t_x1lt2) = true := by kernel_rfl
theorem ty_lists : okIs (isList 2) (typV t_lists) = true := by kernel_rfl
theorem ty_xflo : errIs 6 (typV t_xflo) = true := by kernel_rfl
theorem ty_y : errIs 11 (typV t_y) = true := by kernel_rfl
theorem ty_none : okIs (isList 7) (typV t_none) = true := by kernel_rfl
theorem ck_x1lt2 (w : World) : Calls Tryz.prog 29 #[.string ⟨#[120, 43, 49, 32, 60, 32, 50]⟩] w (Caught (typV t_x1lt2) w) := checked_any says_x1lt2 (okG_two (.inr rfl) (okG_two (.inl rfl) (okG_var _) (okG_con _ _ _)) (okG_con _ _ _)) (by kernel_rfl) (few_of (by kernel_rfl))
theorem ck_lists (w : World) : Calls Tryz.prog 29 #[.string ⟨#[91, 93, 32, 43, 32, 91, 49, 93]⟩] w (Caught (typV t_lists) w) := checked_any says_lists (okG_two (.inl rfl) okG_e0 (okG_e1 (okG_con _ _ _))) (by kernel_rfl) (few_of (by kernel_rfl))
theorem ck_xflo (w : World) : Calls Tryz.prog 29 #[.string ⟨#[120, 32, 43, 32, 49, 112, 48]⟩] w (Caught (typV t_xflo) w) := checked_any says_xflo (okG_two (.inl rfl) (okG_var _) (okG_con _ _ _)) (by kernel_rfl) (few_of (by kernel_rfl))
theorem ck_y (w : World) : Calls Tryz.prog 29 #[.string ⟨#[121]⟩] w (Caught (typV t_y) w) := checked_any says_y (okG_var _) (by kernel_rfl) (few_of (by kernel_rfl))
theorem ck_none (w : World) : Calls Tryz.prog 29 #[.string ⟨#[91, 93]⟩] w (Caught (typV t_none) w) := checked_any says_none okG_e0 (by kernel_rfl) (few_of (by kernel_rfl))
end Go.Proofs.YtcmohggnehkjeaaGreat
namespace Go.Proofs.YtcmohggnehkjeaaGreat
open Go.RowKit

theorem list_kind {w : World} {Q : Nat → Prop} {v : Array Value} {t : TT} {n : Int} (h : TW w Q v t) (hl : isList n t = true) :
    ∃ A c ca g o cb, v = #[.int .i64 5, .slice A c ca, .slice (some ⟨g, o, none⟩) 1 cb] ∧ g < w.heap.size ∧ w.cell? ⟨g, o, none⟩ = some (.int .i64 n) := by
  cases h with
  | mk k A c ca B m cb ns xs vs hk hc hm hA hB0 hns hB hxs =>
    simp only [isList, Bool.and_eq_true, decide_eq_true_eq] at hl
    obtain ⟨rfl, rfl, h0⟩ := hl
    obtain ⟨g, o, rfl, _, hg, hx⟩ := hB (by omega)
    refine ⟨A, c, ca, g, o, cb, rfl, hg, ?_⟩
    obtain ⟨x1, x2, x3, x4, x5, x6, e⟩ := (hxs 0 (by omega)).kind
    have h1 := hx 0 (by omega)
    rw [e, h0] at h1
    have := h1 0 (by omega)
    simpa using this
set_option maxRecDepth 20000 in
set_option maxHeartbeats 1000000 in
theorem awake9 (w : World) : Calls Tryz.prog 9 #[] w fun e w' => e = .returned (.bool true) ∧ Below w.heap.size w w' := by
  obtain ⟨t1, e1, k1⟩ := okIs_of ty_x1lt2
  obtain ⟨t2, e2, k2⟩ := okIs_of ty_lists
  obtain ⟨t5, e5, k5⟩ := okIs_of ty_none
  have P1 := Lib.hid ck_x1lt2
  have P2 := Lib.hid ck_lists
  have P3 := Lib.hid ck_xflo
  have P4 := Lib.hid ck_y
  have P5 := Lib.hid ck_none
  rw [e1] at P1
  rw [e2] at P2
  rw [errIs_of ty_xflo] at P3
  rw [errIs_of ty_y] at P4
  rw [e5] at P5
  unfold Caught at P1 P2 P3 P4 P5
  simp only at P1 P2 P3 P4 P5
  have K1 := Lib.hid (of_decide_eq_true k1)
  have K2 := Lib.hid k2
  have K5 := Lib.hid k5
  clear e1 e2 e5 k1 k2 k5
  go_enter Tryz.func9, Tryz.ntmps9
  go_wp2_with (go_at_call 29; refine (P1.out w).mono ?_; rintro e w1 ⟨hb1, x1, rfl, hx1⟩; refine Hid.out ?_)
  refine Lib.hid ?_
  obtain ⟨A1, c1, ca1, B1, m1, cb1, rfl⟩ := hx1.kind
  rw [K1.out]
  have hn1 := TB.new w1 #[.int .i64 1, .slice A1 c1 ca1, .slice B1 m1 cb1]
  have hba1 : Below w1.heap.size w1 (w1.alloc (.cells #[.int .i64 1, .slice A1 c1 ca1, .slice B1 m1 cb1] 25)) := (Below.refl _ _).alloc (Nat.le_refl _) _
  have HB1 := Lib.hid (hb1.trans (hba1.mono hb1.size))
  have HT1 := Lib.hid hn1
  clear hb1 hba1 hn1 hx1
  go_wp2_with (go_at_call 29; refine (P2.out _).mono ?_; rintro e w2 ⟨hb2, x2, rfl, hx2⟩; refine Hid.out ?_)
  refine Lib.hid ?_
  obtain ⟨A2, c2, ca2, g2, o2, cb2, rfl, hg2, hi2⟩ := list_kind hx2 K2.out
  have hn2 := TB.new w2 #[.int .i64 5, .slice A2 c2 ca2, .slice (some ⟨g2, o2, none⟩) 1 cb2]
  have hba2 : Below w2.heap.size w2 (w2.alloc (.cells #[.int .i64 5, .slice A2 c2 ca2, .slice (some ⟨g2, o2, none⟩) 1 cb2] 25)) := (Below.refl _ _).alloc (Nat.le_refl _) _
  have HB2 := Lib.hid (HB1.out.trans ((hb2.trans (hba2.mono hb2.size)).mono HB1.out.size))
  have HT12 := Lib.hid ((HT1.out.below hb2).below hba2)
  have HT2 := Lib.hid hn2
  have HI2 := Lib.hid (And.intro (Nat.lt_of_lt_of_le hg2 hba2.size) ((hba2.cell (p := ⟨g2, o2, none⟩) hg2).trans hi2))
  clear hb2 hba2 hn2 hx2 hg2 hi2 HT1 HB1
  go_wp2_with (go_at_call 29; refine (P3.out _).mono ?_; rintro e w3 ⟨hb3, rfl⟩; refine Hid.out ?_)
  refine Lib.hid ?_
  have hba3 : Below w3.heap.size w3 (w3.alloc (.cells #[.int .i64 0, .slice none 0 0, .slice none 0 0] 25)) := (Below.refl _ _).alloc (Nat.le_refl _) _
  have h3 := hb3.trans (hba3.mono hb3.size)
  have HB3 := Lib.hid (HB2.out.trans (h3.mono HB2.out.size))
  have HT13 := Lib.hid (HT12.out.below h3)
  have HT23 := Lib.hid (HT2.out.below h3)
  have HI3 := Lib.hid (And.intro (Nat.lt_of_lt_of_le HI2.out.1 h3.size) ((h3.cell (p := ⟨g2, o2, none⟩) HI2.out.1).trans HI2.out.2))
  clear hb3 hba3 h3 HT12 HT2 HI2 HB2
  go_wp2_with (go_at_call 29; refine (P4.out _).mono ?_; rintro e w4 ⟨hb4, rfl⟩; refine Hid.out ?_)
  refine Lib.hid ?_
  have hba4 : Below w4.heap.size w4 (w4.alloc (.cells #[.int .i64 0, .slice none 0 0, .slice none 0 0] 25)) := (Below.refl _ _).alloc (Nat.le_refl _) _
  have h4 := hb4.trans (hba4.mono hb4.size)
  have HB4 := Lib.hid (HB3.out.trans (h4.mono HB3.out.size))
  have HT14 := Lib.hid (HT13.out.below h4)
  have HT24 := Lib.hid (HT23.out.below h4)
  have HI4 := Lib.hid (And.intro (Nat.lt_of_lt_of_le HI3.out.1 h4.size) ((h4.cell (p := ⟨g2, o2, none⟩) HI3.out.1).trans HI3.out.2))
  clear hb4 hba4 h4 HT13 HT23 HI3 HB3
  go_wp2_with (go_at_call 29; refine (P5.out _).mono ?_; rintro e w5 ⟨hb5, x5, rfl, hx5⟩; refine Hid.out ?_)
  refine Lib.hid ?_
  obtain ⟨A5, c5, ca5, g5, o5, cb5, rfl, hg5, hi5⟩ := list_kind hx5 K5.out
  have hn5 := TB.new w5 #[.int .i64 5, .slice A5 c5 ca5, .slice (some ⟨g5, o5, none⟩) 1 cb5]
  have hba5 : Below w5.heap.size w5 (w5.alloc (.cells #[.int .i64 5, .slice A5 c5 ca5, .slice (some ⟨g5, o5, none⟩) 1 cb5] 25)) := (Below.refl _ _).alloc (Nat.le_refl _) _
  have h5 := hb5.trans (hba5.mono hb5.size)
  have HB5 := Lib.hid (HB4.out.trans (h5.mono HB4.out.size))
  obtain ⟨p0, p1, p2, _, _⟩ := (HT14.out.below h5).cells
  obtain ⟨q0, q1, q2, _, _⟩ := (HT24.out.below h5).cells
  obtain ⟨r0, r1, r2, _, _⟩ := hn5.cells
  have i2 := (h5.cell (p := ⟨g2, o2, none⟩) HI4.out.1).trans HI4.out.2
  have i5 := (hba5.cell (p := ⟨g5, o5, none⟩) hg5).trans hi5
  clear hb5 hba5 h5 HT14 HT24 HI4 HB4 hn5 hx5 hg5 hi5
  go_wp2_with fail
  go_ret
  exact ⟨rfl, HB5.out⟩
end Go.Proofs.YtcmohggnehkjeaaGreat
namespace Go.Proofs.YtcmohggnehkjeaaGreat
open Go.ChangeShapes Go.WideShapes Go.ChangeAt Go.RowKit

section
variable {H : Type} {enc : TypeId × Value → H} {w : World} {base : Nat} {spare : Nat → Bool} {held : Bool}
theorem open_strs0 {W : World} {fuel : Nat} {cs : List Value} {x : DataW H × List MemPlace} (h : DataW.trod enc Tryz.prog W 0 (fun _ => true) held fuel 22 cs = some x) (hlt : ∀ p ∈ x.2, p.block < W.heap.size) :
    ∃ A c ca ns, cs = [.slice A c ca] ∧ c ≤ ca ∧ ca ≤ maxLen ∧ (A = none → ca = 0) ∧ Strs W W.heap.size A c ns := by
  rcases Go.Deep.open_slice1 Tryz.underlying22 cells9 h with ⟨rfl, _⟩ | ⟨a, len, cap, m, n, V, D, Pl, rfl, _, hl, hc, hm, hx, hi⟩
  · exact ⟨none, 0, 0, fun _ => ⟨#[]⟩, rfl, Nat.le_refl _, Nat.zero_le _, fun _ => rfl, fun h => absurd h (Nat.lt_irrefl 0)⟩
  · simp only [if_true] at hm
    subst hm
    have each : ∀ i, i < m → ∃ s : ByteArray, W.cell? (a.add i) = some (.string s) ∧ s.size ≤ maxLen := by
      intro i him
      obtain ⟨h1, h2⟩ := hi i him
      obtain ⟨s, hs, _, hz⟩ := DataW.trod_string Tryz.underlying9 h2
      exact ⟨s, by rw [h1]; simpa using hs, hz⟩
    let f : Nat → ByteArray := fun i => if h : i < m then (each i h).choose else ⟨#[]⟩
    refine ⟨some a, len, m, f, rfl, hl, hc, (fun h => by cases h), fun hpos => ?_⟩
    have hspec : ∀ i, i < len → W.cell? (a.add i) = some (.string (f i)) ∧ (f i).size ≤ maxLen := by
      intro i hil
      have him : i < m := by omega
      simp only [f, dif_pos him]
      exact (each i him).choose_spec
    obtain ⟨g, off, spot⟩ := a
    have hspot : spot = none := by simpa [Addr.add] using World.cell?_spot (hspec 0 hpos).1
    subst hspot
    refine ⟨g, off, rfl, hlt (.cell g off) ?_, fun i hil => ?_⟩
    · rw [hx]
      exact List.mem_append_left _ (MemPlace.mem_row.2 ⟨0, by omega, by simp⟩)
    · have := hspec i hil
      rw [add_plain] at this
      exact this

set_option maxRecDepth 20000 in
theorem open_twtree {W : World} : ∀ (fuel : Nat) (cs : List Value) (x : DataW H × List MemPlace), DataW.trod enc Tryz.prog W 0 (fun _ => true) held fuel 25 cs = some x → (∀ p ∈ x.2, p.block < W.heap.size) →
    ∃ t, TW W (fun _ => True) cs.toArray t := by
  intro fuel
  induction fuel using Nat.strongRecOn with
  | ind fuel ih =>
    intro cs x h hlt
    obtain ⟨xs, n, hfu, hx, hl, hlen, hf⟩ := DataW.trod_struct Tryz.underlying25 h
    subst hfu
    rw [cells39] at hl
    match cs, hl with
    | [v0, v4, v5], _ =>
      have f0 := hf 0 _ rfl
      have f4 := hf 1 _ rfl
      have f5 := hf 2 _ rfl
      match xs, hlen with
      | [x0, x4, x5], _ =>
        have e0 : DataW.trod enc Tryz.prog W 0 (fun _ => true) held n 3 [v0] = some x0 := f0
        have e4 : DataW.trod enc Tryz.prog W 0 (fun _ => true) held n 22 [v4] = some x4 := f4
        have e5 : DataW.trod enc Tryz.prog W 0 (fun _ => true) held n 23 [v5] = some x5 := f5
        clear hf f0 f4 f5
        obtain ⟨k, h0, _, w0⟩ := DataW.trod_int Tryz.underlying3 e0
        have hlt4 : ∀ p ∈ x4.2, p.block < W.heap.size := fun p hp => hlt p (by rw [hx]; simp [hp])
        have hlt5 : ∀ p ∈ x5.2, p.block < W.heap.size := fun p hp => hlt p (by rw [hx]; simp [hp])
        obtain ⟨A, c, ca, ns, h4, hc1, hc2, hA0, hstr0⟩ := open_strs0 e4 hlt4
        have hstr : 0 < c → ∃ g o, A = some ⟨g, o, none⟩ ∧ True ∧ g < W.heap.size ∧ ∀ i, i < c → W.cell? ⟨g, o + i, none⟩ = some (.string (ns i)) ∧ (ns i).size ≤ maxLen := fun h => by
          obtain ⟨g, o, e, hg, hx⟩ := hstr0 h
          exact ⟨g, o, e, trivial, hg, hx⟩
        have g0 : v0 = .int .i64 k := by simpa using h0
        have g4 : v4 = .slice A c ca := by simpa using h4
        subst g0 g4
        have b0 : -9223372036854775808 ≤ k ∧ k ≤ 9223372036854775807 := by simpa [Lit.wf, IntKind.min, IntKind.max, IntKind.signed, IntKind.bits] using w0
        rcases DataW.trod_slice Tryz.underlying23 e5 with ⟨h5, _⟩ | ⟨a, len, cap, elems, rest, n2, hn2, h5, hx5, _, hm1, hm2, hel, hat, _, _⟩
        · have g5 : v5 = .slice none 0 0 := by simpa using h5
          subst g5
          exact ⟨_, .mk k A c ca none 0 0 ns (fun _ => .bad) (fun _ => #[]) b0 ⟨hc1, hc2⟩ ⟨Nat.le_refl _, Nat.zero_le _⟩ hA0 (fun _ => rfl) hstr (fun h => absurd h (Nat.lt_irrefl 0)) (fun i h => absurd h (by omega))⟩
        · have g5 : v5 = .slice (some a) len cap := by simpa using h5
          subst g5
          subst hn2
          rw [cells39] at hat
          have each : ∀ i, i < len → ∃ cs', W.cells? 0 (a.add (i * 3)) 3 = some cs' ∧ ∃ t, TW W (fun _ => True) cs'.toArray t := by
            intro i hi
            have h6 := hat i hi
            have hlti : i < elems.length := by omega
            rw [List.getElem?_eq_getElem hlti] at h6
            obtain ⟨cs', hc6, ht6⟩ := Option.bind_eq_some_iff.1 h6
            refine ⟨cs', hc6, ih n2 (by omega) cs' _ ht6 (fun p hp => hlt5 p ?_)⟩
            rw [hx5]
            refine List.mem_append_right _ (List.mem_flatMap.2 ⟨elems[i], List.mem_append_left _ (List.getElem_mem hlti), hp⟩)
          let vs : Nat → Array Value := fun i => if h : i < len then (each i h).choose.toArray else #[]
          let xs' : Nat → TT := fun i => if h : i < len then (each i h).choose_spec.2.choose else .bad
          have hvs : ∀ i (h : i < len), vs i = (each i h).choose.toArray := fun i h => dif_pos h
          have hxs : ∀ i (h : i < len), xs' i = (each i h).choose_spec.2.choose := fun i h => dif_pos h
          refine ⟨_, .mk k A c ca (some a) len cap ns xs' vs b0 ⟨hc1, hc2⟩ ⟨hm1, hm2⟩ hA0 (fun h => by cases h) hstr (fun hpos => ?_) (fun i hi => ?_)⟩
          · have hat0 : ∀ i, i < len → ∀ j, j < 3 → W.cell? ((a.add (i * 3)).add j) = (vs i)[j]? := by
              intro i hi j hj
              obtain ⟨_, hln, hc7⟩ := World.cells?_some (each i hi).choose_spec.1
              rw [hvs i hi]
              have := hc7 j (by omega)
              rw [this]
              simp
            obtain ⟨g, off, spot⟩ := a
            have h00 := hat0 0 hpos 0 (by omega)
            have hsz : ∃ u, (vs 0)[0]? = some u := by
              obtain ⟨_, hln, _⟩ := World.cells?_some (each 0 hpos).choose_spec.1
              rw [hvs 0 hpos]
              exact ⟨_, Array.getElem?_eq_getElem (by simp [hln])⟩
            obtain ⟨u, hu⟩ := hsz
            rw [hu] at h00
            have hspot : spot = none := by simpa [Addr.add] using World.cell?_spot h00
            subst hspot
            refine ⟨g, off, rfl, trivial, hlt5 (.cell g off) ?_, fun i hi j hj => ?_⟩
            · rw [hx5]
              exact List.mem_append_left _ (MemPlace.mem_row.2 ⟨0, by rw [cells39]; omega, by simp⟩)
            · have := hat0 i hi j hj
              rwa [add_plain, add_plain] at this
          · rw [hvs i hi, hxs i hi]
            exact (each i hi).choose_spec.2.choose_spec
set_option maxRecDepth 20000 in
theorem open_tw {W : World} {base : Nat} {v : Value} {d : DataW H} {ps : List MemPlace} (ho : Value.okWide Tryz.prog W .any base 25 v) (h : DataW.Trod enc Tryz.prog W 0 (fun _ => true) true 25 v d ps) (hlt : ∀ x ∈ ps, x.block < W.heap.size) :
    ∃ a t, v = .agg a ∧ TW W (fun _ => True) a t := by
  obtain ⟨fuel, hf⟩ := h
  obtain ⟨a, rfl, _⟩ := okWide_struct Tryz.underlying25 ho
  obtain ⟨t, ht⟩ := open_twtree fuel a.toList _ hf hlt
  exact ⟨a, t, rfl, by simpa using ht⟩
end
end Go.Proofs.YtcmohggnehkjeaaGreat

/-
  The document's reader of commands: a value, or none, in every case.
  The program's ReadCmd, whole.
  The document's ReadCmd.
-/
import Derived.Test.YtekojglcbalhnaaGreatDoorM34
import Derived.Test.YtekojglcbalhnaaGreatDoorM33
namespace Go.Proofs.YtekojglcbalhnaaGreatDoor
open Go.RowKit

/-- What the document's reading of a value leaves. -/
def IvEnds (s : ByteArray) (w : World) (g : Nat) (r : Option (VT × List UInt8)) (x : Ending) (w' : World) : Prop :=
  Past g w w' ∧ match r with
  | none => (∃ v, x = .returned (.agg v) ∧ VOwn w' (fun b => w.heap.size ≤ b) v noneT) ∧ Rbad w' g s
  | some (t, l) => (∃ v, x = .returned (.agg v) ∧ VOwn w' (fun b => w.heap.size ≤ b) v t) ∧ ∃ b : Nat, b ≤ s.size ∧ l = left s b ∧ Rdr w' g s b 0 0
theorem own_none (w : World) (P : Nat → Prop) : VOwn w P #[.int .i64 0, .int .i64 0, .float .f64 0, .string ⟨#[]⟩, .slice none 0 0, .slice none 0 0] noneT := VOwn.leaf (by omega) (by omega) (by omega) (by decide)
theorem ival_0 {w : World} {g : Nat} {s : ByteArray} {a : Nat} (h : Rdr w g s a 0 0) (ha : a ≤ s.size) (hs : s.size ≤ 1000000000) :
    Calls Tryz.prog 50 #[.agg #[.pointer (some ⟨g, 0, none⟩)]] w fun x w' => IvEnds s w g (valP (left s a)) x w' := by
  have bad : ∀ c : Int, c ≠ 0 → (∀ W, Calls Tryz.prog 85 #[.string s, .int .i64 a] W fun x w' => x = .returned (.tuple #[.agg zero6, .int .i64 0, .int .i64 c]) ∧ Below W.heap.size W w') → valP (left s a) = none → Calls Tryz.prog 50 #[.agg #[.pointer (some ⟨g, 0, none⟩)]] w fun x w' => IvEnds s w g (valP (left s a)) x w' := fun c hc F hv => by
    rw [hv]
    refine (ival_go (t := noneT) (nx := 0) (ee := c) (b' := a) h (.inr ⟨rfl, rfl⟩) (fun W => (F W).mono fun x w' ⟨h1, h2⟩ => ⟨0, 0, 0, ⟨#[]⟩, none, 0, 0, none, 0, 0, h1, own_none _ _, h2⟩)).mono ?_
    rintro x w' ⟨h1, h2, h3⟩
    exact ⟨h1, h2, _, _, _, hc, h3⟩
  cases hv : vP 12 0 (left s a) with
  | error c =>
    have hc := vP_ne _ _ _ _ hv
    exact bad c (by omega) (fun W => RefV_err W ha hs hc hv) (by unfold valP rrV; rw [hv])
  | ok z =>
    obtain ⟨t, p, l⟩ := z
    cases ho : okV t with
    | false => exact bad 5 (by omega) (fun W => RefV_bad W ha hs hv ho) (by unfold valP rrV; rw [hv]; dsimp only; rw [ho]; rfl)
    | true =>
      have hval : valP (left s a) = some (t, l) := by unfold valP rrV; rw [hv]; dsimp only; rw [ho]; rfl
      obtain ⟨el, eb, en⟩ := left_rest ha (v_one _ _ _ _ _ _ hv)
      rw [hval]
      refine (ival_go (t := t) (nx := a + (valL t).length) (ee := 0) (b' := a + (valL t).length) h (.inl ⟨by omega, rfl⟩) (fun W => (RefV_ok W ha hs hv ho).mono fun x w' hx => by
        obtain ⟨⟨v, rfl, hw⟩, hb⟩ := hx
        obtain ⟨b0, b1, b2, b3, b4, b5, b6, b7, b8, b9, rfl⟩ := hw.val.eight
        rw [en]
        exact ⟨_, _, _, _, _, _, _, _, _, _, rfl, hw, hb⟩)).mono ?_
      rintro x w' ⟨h1, h2, h3⟩
      exact ⟨h1, h2, _, eb, el, h3⟩
/-- What the document's reading leaves once there was an error. -/
def IvBad (s : ByteArray) (w : World) (g : Nat) (x : Ending) (w' : World) : Prop := Past g w w' ∧ (∃ v, x = .returned (.agg v) ∧ VOwn w' (fun b => w.heap.size ≤ b) v noneT) ∧ Rbad w' g s
theorem Rbad.six {w : World} {g R : Nat} {s : ByteArray} (h : Rbad w g s) (hR : R ≠ g) (v0 v1 v2 v3 v4 v5 : Value) :
    Rbad ((((((w.setCell ⟨R, 0, none⟩ v0).setCell ⟨R, 1, none⟩ v1).setCell ⟨R, 2, none⟩ v2).setCell ⟨R, 3, none⟩ v3).setCell ⟨R, 4, none⟩ v4).setCell ⟨R, 5, none⟩ v5) g s := by
  obtain ⟨a, e, p, he, h⟩ := h
  exact ⟨a, e, p, he, h.six hR _ _ _ _ _ _⟩
theorem isome_setup (w : World) (g : Nat) : ∃ W0, W0 = (w.alloc (.cells #[.pointer (some ⟨g, 0, none⟩)] 72)).alloc (.cells #[.int .i64 0, .int .i64 0, .float .f64 0, .string ⟨#[]⟩, .slice none 0 0, .slice none 0 0] 28) ∧ Below w.heap.size w W0 ∧ W0.heap.size = w.heap.size + 2 ∧ W0.heap[w.heap.size]? = some (.cells #[.pointer (some ⟨g, 0, none⟩)] 72 (0, 0)) ∧ Bx W0 (w.heap.size + 1) #[.int .i64 0, .int .i64 0, .float .f64 0, .string ⟨#[]⟩, .slice none 0 0, .slice none 0 0] := by
  refine ⟨_, rfl, ((Below.refl _ _).alloc (Nat.le_refl _) _).alloc (by simp) _, by simp, ?_, ?_⟩
  · rw [Below.heap_alloc _ _ _ (by simp)]; exact heap_alloc_new w _
  · have := Bx.new (w.alloc (.cells #[.pointer (some ⟨g, 0, none⟩)] 72)) #[.int .i64 0, .int .i64 0, .float .f64 0, .string ⟨#[]⟩, .slice none 0 0, .slice none 0 0]
    rw [World.size_alloc] at this; exact this
set_option maxRecDepth 20000 in
theorem isome_e {w : World} {g : Nat} {s : ByteArray} (h : Rbad w g s) :
    Calls Tryz.prog 25 #[.agg #[.pointer (some ⟨g, 0, none⟩)]] w fun x w' => IvBad s w g x w' := by
  have hg := h.lt
  obtain ⟨a, e, p, he, h⟩ := h
  obtain ⟨W0, hW0, hb0, hs0, hi0, hx0⟩ := isome_setup w g
  have B := Byte_err (h.past hb0) he
  rw [hW0] at B
  have HBy := Lib.hid B
  have HN := Lib.hid he
  have SF := float_store
  have HB := Lib.hid hb0
  have HX := Lib.hid hx0
  have HI := Lib.hid hi0
  have HZ := Lib.hid hs0
  have HG := Lib.hid hg
  have HW := Lib.hid hW0
  unfold IvBad
  clear h hb0 hx0 hi0 hs0 hg hW0 B he
  go_enter Tryz.func25, Tryz.ntmps25
  go_wp2_with (go_at_call 49; refine HBy.out.mono ?_; rintro x w1 ⟨rfl, h1, hp1⟩; rw [← HW.out] at hp1; have hx1 := HX.out.past hp1 (by have := HG.out; omega); obtain ⟨x0, x1, x2, x3, x4, x5, xf, xl⟩ := hx1.cells; have HX1 := Lib.hid hx1; have HP1 := Lib.hid ((Past.of_below (g := g) HB.out).trans hp1); have H1 := Lib.hid h1; clear hx1 hp1 h1)
  obtain ⟨z0, z1, z2, z3, z4, z5, zf, zl⟩ := (HX1.out.six (.int .i64 0) (.int .i64 0) (.float .f64 0) (.string ⟨#[]⟩) (.slice none 0 0) (.slice none 0 0)).cells
  have hfin : Past g w _ := HP1.out.six (Nat.le_succ _) (.int .i64 0) (.int .i64 0) (.float .f64 0) (.string ⟨#[]⟩) (.slice none 0 0) (.slice none 0 0)
  refine bodyPost_ret (v := .agg #[.int .i64 0, .int .i64 0, .float .f64 0, .string ⟨#[]⟩, .slice none 0 0, .slice none 0 0]) ?_ rfl ⟨hfin, ⟨_, rfl, own_none _ _⟩, _, _, _, HN.out, H1.out.six (by have := HG.out; omega) _ _ _ _ _ _⟩
  simp [results, Tryz.results25, go_sem, asAddr, z0, z1, z2, z3, z4, z5]
set_option maxRecDepth 20000 in
set_option maxHeartbeats 2000000 in
theorem isome_0 {w : World} {g : Nat} {s : ByteArray} {a : Nat} (h : Rdr w g s a 0 0) (ha : a ≤ s.size) (hs : s.size ≤ 1000000000) :
    Calls Tryz.prog 25 #[.agg #[.pointer (some ⟨g, 0, none⟩)]] w fun x w' => IvEnds s w g (svP (left s a)) x w' := by
  have hg := h.lt
  obtain ⟨W0, hW0, hb0, hs0, hi0, hx0⟩ := isome_setup w g
  by_cases hlt : a < s.size
  · have B := Byte_ok (h.past hb0) hlt (by omega)
    have hl := left_cons hlt
    obtain ⟨c, hc⟩ : ∃ c, c = s[a] := ⟨_, rfl⟩
    rw [← hc] at B hl
    rw [hl]
    rw [hW0] at B
    have HBy := Lib.hid B
    have SF := float_store
    have HB := Lib.hid hb0
    have HX := Lib.hid hx0
    have HI := Lib.hid hi0
    have HZ := Lib.hid hs0
    have HG := Lib.hid hg
    have HW := Lib.hid hW0
    have HA : Hid (a + 1 ≤ s.size) := Lib.hid hlt
    clear h hb0 hx0 hi0 hs0 hg hW0 B hc hl hlt
    by_cases h1 : 1 < c.toNat
    · rw [svP_2 h1]
      unfold IvEnds
      dsimp only
      have t1 : decide ((1 : Int) < (c.toNat : Int)) = true := by simp; omega
      have t2 : ((c.toNat : Int) == 1) = false := by simp; omega
      generalize c.toNat = m at *
      clear h1
      go_enter Tryz.func25, Tryz.ntmps25
      go_wp2_with (first
        | (go_at_call 49; refine HBy.out.mono ?_; rintro x w1 ⟨rfl, h1, hp1⟩; rw [← HW.out] at hp1; have hi1 := (hp1.block w.heap.size (by have := HZ.out; omega) (by have := HG.out; omega)).trans HI.out; have xi : w1.cell? ⟨w.heap.size, 0, none⟩ = some (.pointer (some ⟨g, 0, none⟩)) := (by simp [World.cell?, hi1]); have HXa := Lib.hid (HX.out.past hp1 (by have := HG.out; omega)); have HPa := Lib.hid ((Past.of_below (g := g) HB.out).trans hp1); have F := Lib.hid (ifail_any h1); clear hi1 hp1 h1)
        | (go_at_call 48; refine F.out.mono ?_; rintro x w2 ⟨rfl, hp2, h2⟩; have hx1 := HXa.out.past hp2 (by have := HG.out; omega); obtain ⟨x0, x1, x2, x3, x4, x5, xf, xl⟩ := hx1.cells; have HX1 := Lib.hid hx1; have HP1 := Lib.hid (HPa.out.trans hp2); have H2 := Lib.hid h2; clear hx1 hp2 h2))
      obtain ⟨z0, z1, z2, z3, z4, z5, zf, zl⟩ := (HX1.out.six (.int .i64 0) (.int .i64 0) (.float .f64 0) (.string ⟨#[]⟩) (.slice none 0 0) (.slice none 0 0)).cells
      have hfin : Past g w _ := HP1.out.six (Nat.le_succ _) (.int .i64 0) (.int .i64 0) (.float .f64 0) (.string ⟨#[]⟩) (.slice none 0 0) (.slice none 0 0)
      refine bodyPost_ret (v := .agg #[.int .i64 0, .int .i64 0, .float .f64 0, .string ⟨#[]⟩, .slice none 0 0, .slice none 0 0]) ?_ rfl ⟨hfin, ⟨_, rfl, own_none _ _⟩, H2.out.six (by have := HG.out; omega) _ _ _ _ _ _⟩
      simp [results, Tryz.results25, go_sem, asAddr, z0, z1, z2, z3, z4, z5]
    · rcases byte_le1 h1 with rfl | rfl
      · rw [svP_0]
        unfold IvEnds
        dsimp only
        have e0 : ((0 : UInt8).toNat : Int) = 0 := rfl
        rw [e0] at HBy
        go_enter Tryz.func25, Tryz.ntmps25
        go_wp2_with (go_at_call 49; refine HBy.out.mono ?_; rintro x w1 ⟨rfl, h1, hp1⟩; rw [← HW.out] at hp1; have hx1 := HX.out.past hp1 (by have := HG.out; omega); obtain ⟨x0, x1, x2, x3, x4, x5, xf, xl⟩ := hx1.cells; have HX1 := Lib.hid hx1; have HP1 := Lib.hid ((Past.of_below (g := g) HB.out).trans hp1); have H1 := Lib.hid h1; clear hx1 hp1 h1)
        obtain ⟨z0, z1, z2, z3, z4, z5, zf, zl⟩ := (HX1.out.six (.int .i64 0) (.int .i64 0) (.float .f64 0) (.string ⟨#[]⟩) (.slice none 0 0) (.slice none 0 0)).cells
        have hfin : Past g w _ := HP1.out.six (Nat.le_succ _) (.int .i64 0) (.int .i64 0) (.float .f64 0) (.string ⟨#[]⟩) (.slice none 0 0) (.slice none 0 0)
        refine bodyPost_ret (v := .agg #[.int .i64 0, .int .i64 0, .float .f64 0, .string ⟨#[]⟩, .slice none 0 0, .slice none 0 0]) ?_ rfl ⟨hfin, ⟨_, rfl, own_none _ _⟩, _, HA.out, rfl, H1.out.six (by have := HG.out; omega) _ _ _ _ _ _⟩
        simp [results, Tryz.results25, go_sem, asAddr, z0, z1, z2, z3, z4, z5]
      · rw [svP_1]
        have e0 : ((1 : UInt8).toNat : Int) = 1 := rfl
        rw [e0] at HBy
        have IV := Lib.hid fun (W : World) (hW : Rdr W g s ((a + 1 : Nat) : Int) 0 0) => ival_0 hW HA.out hs
        unfold IvEnds at IV ⊢
        obtain ⟨r, hr⟩ : ∃ r, r = valP (left s (a + 1)) := ⟨_, rfl⟩
        rw [← hr] at IV ⊢
        clear hr
        have e2 : ∀ (b : Nat), Hid (b = b) := fun b => Lib.hid rfl
        cases r with
        | none =>
          dsimp only at IV ⊢
          go_enter Tryz.func25, Tryz.ntmps25
          go_wp2_with (first
            | (go_at_call 49; refine HBy.out.mono ?_; rintro x w1 ⟨rfl, h1, hp1⟩; rw [← HW.out] at hp1; have hi1 := (hp1.block w.heap.size (by have := HZ.out; omega) (by have := HG.out; omega)).trans HI.out; have xi : w1.cell? ⟨w.heap.size, 0, none⟩ = some (.pointer (some ⟨g, 0, none⟩)) := (by simp [World.cell?, hi1]); have HXa := Lib.hid (HX.out.past hp1 (by have := HG.out; omega)); have HPa := Lib.hid ((Past.of_below (g := g) HB.out).trans hp1); have HSa := Lib.hid hp1.size; have IVa := Lib.hid (IV.out _ h1); clear hi1 hp1 h1)
            | fail)
          refine IVa.out.mono ?_
          rintro x w2 hx
          obtain ⟨hp2, ⟨v, rfl, hv⟩, h2⟩ := hx
          obtain ⟨b0, b1, b2, b3, b4, b5, b6, b7, b8, b9, rfl⟩ := hv.val.eight
          have hx1 := HXa.out.past hp2 (by have := HG.out; omega)
          obtain ⟨x0, x1, x2, x3, x4, x5, xf, xl⟩ := hx1.cells
          have HX1 := Lib.hid hx1
          have HP1 := Lib.hid (HPa.out.trans hp2)
          have HV := Lib.hid hv
          have H2 := Lib.hid h2
          clear hx1 hp2 hv h2 xi
          go_wp2_with fail
          obtain ⟨z0, z1, z2, z3, z4, z5, zf, zl⟩ := (HX1.out.six (.int .i64 b0) (.int .i64 b1) (.float .f64 b2) (.string b3) (.slice b4 b5 b6) (.slice b7 b8 b9)).cells
          have hfin : Past g w _ := HP1.out.six (Nat.le_succ _) (.int .i64 b0) (.int .i64 b1) (.float .f64 b2) (.string b3) (.slice b4 b5 b6) (.slice b7 b8 b9)
          refine bodyPost_ret (v := .agg #[.int .i64 b0, .int .i64 b1, .float .f64 b2, .string b3, .slice b4 b5 b6, .slice b7 b8 b9]) ?_ rfl ⟨hfin, ⟨_, rfl, ?_⟩, H2.out.six (by have := HG.out; omega) _ _ _ _ _ _⟩
          · simp [results, Tryz.results25, go_sem, asAddr, z0, z1, z2, z3, z4, z5]
          · have hz := HZ.out
            have hsa := HSa.out
            exact (HV.out.six (by omega) _ _ _ _ _ _).imp fun b hb _ => by omega
        | some z =>
          obtain ⟨t, l⟩ := z
          dsimp only at IV ⊢
          go_enter Tryz.func25, Tryz.ntmps25
          go_wp2_with (first
            | (go_at_call 49; refine HBy.out.mono ?_; rintro x w1 ⟨rfl, h1, hp1⟩; rw [← HW.out] at hp1; have hi1 := (hp1.block w.heap.size (by have := HZ.out; omega) (by have := HG.out; omega)).trans HI.out; have xi : w1.cell? ⟨w.heap.size, 0, none⟩ = some (.pointer (some ⟨g, 0, none⟩)) := (by simp [World.cell?, hi1]); have HXa := Lib.hid (HX.out.past hp1 (by have := HG.out; omega)); have HPa := Lib.hid ((Past.of_below (g := g) HB.out).trans hp1); have HSa := Lib.hid hp1.size; have IVa := Lib.hid (IV.out _ h1); clear hi1 hp1 h1)
            | fail)
          refine IVa.out.mono ?_
          rintro x w2 hx
          obtain ⟨hp2, ⟨v, rfl, hv⟩, b, hb, hl, h2⟩ := hx
          obtain ⟨b0, b1, b2, b3, b4, b5, b6, b7, b8, b9, rfl⟩ := hv.val.eight
          have hx1 := HXa.out.past hp2 (by have := HG.out; omega)
          obtain ⟨x0, x1, x2, x3, x4, x5, xf, xl⟩ := hx1.cells
          have HX1 := Lib.hid hx1
          have HP1 := Lib.hid (HPa.out.trans hp2)
          have HV := Lib.hid hv
          have H2 := Lib.hid h2
          clear hx1 hp2 hv h2 xi
          go_wp2_with fail
          obtain ⟨z0, z1, z2, z3, z4, z5, zf, zl⟩ := (HX1.out.six (.int .i64 b0) (.int .i64 b1) (.float .f64 b2) (.string b3) (.slice b4 b5 b6) (.slice b7 b8 b9)).cells
          have hfin : Past g w _ := HP1.out.six (Nat.le_succ _) (.int .i64 b0) (.int .i64 b1) (.float .f64 b2) (.string b3) (.slice b4 b5 b6) (.slice b7 b8 b9)
          refine bodyPost_ret (v := .agg #[.int .i64 b0, .int .i64 b1, .float .f64 b2, .string b3, .slice b4 b5 b6, .slice b7 b8 b9]) ?_ rfl ⟨hfin, ⟨_, rfl, ?_⟩, b, hb, hl, H2.out.six (by have := HG.out; omega) _ _ _ _ _ _⟩
          · simp [results, Tryz.results25, go_sem, asAddr, z0, z1, z2, z3, z4, z5]
          · have hz := HZ.out
            have hsa := HSa.out
            exact (HV.out.six (by omega) _ _ _ _ _ _).imp fun b hb _ => by omega
  · have B := Byte_end (h.past hb0) (by omega)
    have hl : left s a = [] := left_nil (by omega)
    rw [hl, svP_nil]
    rw [hW0] at B
    have HBy := Lib.hid B
    have SF := float_store
    have HB := Lib.hid hb0
    have HX := Lib.hid hx0
    have HI := Lib.hid hi0
    have HZ := Lib.hid hs0
    have HG := Lib.hid hg
    have HW := Lib.hid hW0
    unfold IvEnds
    dsimp only
    clear h hb0 hx0 hi0 hs0 hg hW0 B hl hlt
    go_enter Tryz.func25, Tryz.ntmps25
    go_wp2_with (go_at_call 49; refine HBy.out.mono ?_; rintro x w1 ⟨rfl, h1, hp1⟩; rw [← HW.out] at hp1; have hx1 := HX.out.past hp1 (by have := HG.out; omega); obtain ⟨x0, x1, x2, x3, x4, x5, xf, xl⟩ := hx1.cells; have HX1 := Lib.hid hx1; have HP1 := Lib.hid ((Past.of_below (g := g) HB.out).trans hp1); have H1 := Lib.hid h1; clear hx1 hp1 h1)
    obtain ⟨z0, z1, z2, z3, z4, z5, zf, zl⟩ := (HX1.out.six (.int .i64 0) (.int .i64 0) (.float .f64 0) (.string ⟨#[]⟩) (.slice none 0 0) (.slice none 0 0)).cells
    have hfin : Past g w _ := HP1.out.six (Nat.le_succ _) (.int .i64 0) (.int .i64 0) (.float .f64 0) (.string ⟨#[]⟩) (.slice none 0 0) (.slice none 0 0)
    refine bodyPost_ret (v := .agg #[.int .i64 0, .int .i64 0, .float .f64 0, .string ⟨#[]⟩, .slice none 0 0, .slice none 0 0]) ?_ rfl ⟨hfin, ⟨_, rfl, own_none _ _⟩, _, _, _, (by decide : (14 : Int) ≠ 0), H1.out.six (by have := HG.out; omega) _ _ _ _ _ _⟩
    simp [results, Tryz.results25, go_sem, asAddr, z0, z1, z2, z3, z4, z5]
end Go.Proofs.YtekojglcbalhnaaGreatDoor
namespace Go.Proofs.YtekojglcbalhnaaGreatDoor
open Go.RowKit

/-- What ReadCmd answers. -/
def RdCmd (s : ByteArray) (a : Int) (w : World) (e : Ending) (w' : World) : Prop :=
  if a < 0 ∨ (s.size : Int) < a then e = .returned (.tuple #[.agg zero17, .int .i64 0, .int .i64 3]) ∧ Below w.heap.size w w' else RcEnds s w (cmdP (left s a.toNat)) e w'
theorem Below.setRowNew {B : Nat} {a w : World} (h : Below B a w) {R : Nat} (hR : B ≤ R) (cs : Array Value) : Below B a (w.setRow R cs) :=
  ⟨h.os, h.tape, h.output, by rw [setRow_size]; exact h.size, fun k hk => (setRow_other w R k cs (by omega)).trans (h.block k hk)⟩
set_option maxRecDepth 20000 in
set_option maxHeartbeats 4000000 in
theorem ReadCmd_f {s : ByteArray} {a : Int} {w : World} (hs : s.size ≤ 1000000000) :
    Calls Tryz.prog 8 #[.string s, .int .i64 a] w fun e w' => RdCmd s a w e w' := by
  have hb0 : Below w.heap.size w (w.alloc (.cells #[.int .i64 0, .int .i64 0, .int .i64 0, .int .i64 0, .int .i64 0, .int .i64 0, .int .i64 0, .float .f64 0, .string ⟨#[]⟩, .slice none 0 0, .slice none 0 0, .int .i64 0, .int .i64 0, .float .f64 0, .string ⟨#[]⟩, .slice none 0 0, .slice none 0 0] 30)) := (Below.refl _ _).alloc (Nat.le_refl _) _
  have hx0 : (w.alloc (.cells #[.int .i64 0, .int .i64 0, .int .i64 0, .int .i64 0, .int .i64 0, .int .i64 0, .int .i64 0, .float .f64 0, .string ⟨#[]⟩, .slice none 0 0, .slice none 0 0, .int .i64 0, .int .i64 0, .float .f64 0, .string ⟨#[]⟩, .slice none 0 0, .slice none 0 0] 30)).heap[w.heap.size]? = some (.cells #[.int .i64 0, .int .i64 0, .int .i64 0, .int .i64 0, .int .i64 0, .int .i64 0, .int .i64 0, .float .f64 0, .string ⟨#[]⟩, .slice none 0 0, .slice none 0 0, .int .i64 0, .int .i64 0, .float .f64 0, .string ⟨#[]⟩, .slice none 0 0, .slice none 0 0] 30 (0, 0)) := heap_alloc_new w _
  have HX := Lib.hid hx0
  have HB := Lib.hid hb0
  unfold RdCmd
  by_cases h : a < 0 ∨ (s.size : Int) < a
  · simp only [if_pos h]
    unfold zero17
    have fin : Hid (Below w.heap.size w ((w.alloc (.cells #[.int .i64 0, .int .i64 0, .int .i64 0, .int .i64 0, .int .i64 0, .int .i64 0, .int .i64 0, .float .f64 0, .string ⟨#[]⟩, .slice none 0 0, .slice none 0 0, .int .i64 0, .int .i64 0, .float .f64 0, .string ⟨#[]⟩, .slice none 0 0, .slice none 0 0] 30)).setRow w.heap.size #[.int .i64 0, .int .i64 0, .int .i64 0, .int .i64 0, .int .i64 0, .int .i64 0, .int .i64 0, .float .f64 0, .string ⟨#[]⟩, .slice none 0 0, .slice none 0 0, .int .i64 0, .int .i64 0, .float .f64 0, .string ⟨#[]⟩, .slice none 0 0, .slice none 0 0])) := Lib.hid (Below.setRowNew hb0 (Nat.le_refl _) _)
    have row : Hid (((w.alloc (.cells #[.int .i64 0, .int .i64 0, .int .i64 0, .int .i64 0, .int .i64 0, .int .i64 0, .int .i64 0, .float .f64 0, .string ⟨#[]⟩, .slice none 0 0, .slice none 0 0, .int .i64 0, .int .i64 0, .float .f64 0, .string ⟨#[]⟩, .slice none 0 0, .slice none 0 0] 30)).setRow w.heap.size #[.int .i64 0, .int .i64 0, .int .i64 0, .int .i64 0, .int .i64 0, .int .i64 0, .int .i64 0, .float .f64 0, .string ⟨#[]⟩, .slice none 0 0, .slice none 0 0, .int .i64 0, .int .i64 0, .float .f64 0, .string ⟨#[]⟩, .slice none 0 0, .slice none 0 0]).heap[w.heap.size]? = some (.cells #[.int .i64 0, .int .i64 0, .int .i64 0, .int .i64 0, .int .i64 0, .int .i64 0, .int .i64 0, .float .f64 0, .string ⟨#[]⟩, .slice none 0 0, .slice none 0 0, .int .i64 0, .int .i64 0, .float .f64 0, .string ⟨#[]⟩, .slice none 0 0, .slice none 0 0] 30 (0, 0))) := Lib.hid (setRow_heap _ _ _ _ _ _ hx0)
    clear hb0 hx0
    by_cases h0 : a < 0
    · have t0 : decide (a < (0 : Int)) = true := by simpa using h0
      clear h h0
      go_enter Tryz.func8, Tryz.ntmps8
      go_wp2_with (refine stC rfl (.tmp 4) (.tmp 15) rfl rfl w.heap.size #[.int .i64 0, .int .i64 0, .int .i64 0, .int .i64 0, .int .i64 0, .int .i64 0, .int .i64 0, .float .f64 0, .string ⟨#[]⟩, .slice none 0 0, .slice none 0 0, .int .i64 0, .int .i64 0, .float .f64 0, .string ⟨#[]⟩, .slice none 0 0, .slice none 0 0] (by kernel_rfl) (by kernel_rfl) #[.int .i64 0, .int .i64 0, .int .i64 0, .int .i64 0, .int .i64 0, .int .i64 0, .int .i64 0, .float .f64 0, .string ⟨#[]⟩, .slice none 0 0, .slice none 0 0, .int .i64 0, .int .i64 0, .float .f64 0, .string ⟨#[]⟩, .slice none 0 0, .slice none 0 0] HX.out rfl rfl one17z ?_; refine Hid.out ?_)
      refine Lib.hid ?_
      go_wp2_with fail
      exact bodyPost_ret (v := .tuple #[.agg #[.int .i64 0, .int .i64 0, .int .i64 0, .int .i64 0, .int .i64 0, .int .i64 0, .int .i64 0, .float .f64 0, .string ⟨#[]⟩, .slice none 0 0, .slice none 0 0, .int .i64 0, .int .i64 0, .float .f64 0, .string ⟨#[]⟩, .slice none 0 0, .slice none 0 0], .int .i64 0, .int .i64 3]) (results_cmd3 rfl _ _ w.heap.size _ _ _ rfl rfl rfl row.out rfl) rfl ⟨rfl, fin.out⟩
    · have t0 : decide (a < (0 : Int)) = false := by simpa using h0
      have t1 : decide ((s.size : Int) < a) = true := by simp; omega
      clear h h0
      go_enter Tryz.func8, Tryz.ntmps8
      go_wp2_with (refine stC rfl (.tmp 4) (.tmp 15) rfl rfl w.heap.size #[.int .i64 0, .int .i64 0, .int .i64 0, .int .i64 0, .int .i64 0, .int .i64 0, .int .i64 0, .float .f64 0, .string ⟨#[]⟩, .slice none 0 0, .slice none 0 0, .int .i64 0, .int .i64 0, .float .f64 0, .string ⟨#[]⟩, .slice none 0 0, .slice none 0 0] (by kernel_rfl) (by kernel_rfl) #[.int .i64 0, .int .i64 0, .int .i64 0, .int .i64 0, .int .i64 0, .int .i64 0, .int .i64 0, .float .f64 0, .string ⟨#[]⟩, .slice none 0 0, .slice none 0 0, .int .i64 0, .int .i64 0, .float .f64 0, .string ⟨#[]⟩, .slice none 0 0, .slice none 0 0] HX.out rfl rfl one17z ?_; refine Hid.out ?_)
      refine Lib.hid ?_
      go_wp2_with fail
      exact bodyPost_ret (v := .tuple #[.agg #[.int .i64 0, .int .i64 0, .int .i64 0, .int .i64 0, .int .i64 0, .int .i64 0, .int .i64 0, .float .f64 0, .string ⟨#[]⟩, .slice none 0 0, .slice none 0 0, .int .i64 0, .int .i64 0, .float .f64 0, .string ⟨#[]⟩, .slice none 0 0, .slice none 0 0], .int .i64 0, .int .i64 3]) (results_cmd3 rfl _ _ w.heap.size _ _ _ rfl rfl rfl row.out rfl) rfl ⟨rfl, fin.out⟩
  · simp only [if_neg h]
    obtain ⟨b, rfl⟩ : ∃ b : Nat, a = b := ⟨a.toNat, by omega⟩
    have hbs : b ≤ s.size := by omega
    have t0 : decide ((b : Int) < (0 : Int)) = false := by simp
    have t1 : decide (s.size < b) = false := by simp; omega
    have C := rread_any (w := w.alloc (.cells #[.int .i64 0, .int .i64 0, .int .i64 0, .int .i64 0, .int .i64 0, .int .i64 0, .int .i64 0, .float .f64 0, .string ⟨#[]⟩, .slice none 0 0, .slice none 0 0, .int .i64 0, .int .i64 0, .float .f64 0, .string ⟨#[]⟩, .slice none 0 0, .slice none 0 0] 30)) hbs hs
    rw [show ((b : Int)).toNat = b by omega]
    unfold RcEnds at C ⊢
    clear h hbs hs hb0 hx0
    cases hr : cmdP (left s b) with
    | none =>
      rw [hr] at C
      dsimp only at C ⊢
      unfold zero17 at C ⊢
      have HC := Lib.hid C
      clear C hr
      go_enter Tryz.func8, Tryz.ntmps8
      go_wp2_with (first
        | (go_at_call 19; refine HC.out.mono ?_; rintro e w1 ⟨hb1, rfl⟩; have HX1 := Lib.hid ((hb1.block w.heap.size (by simp)).trans HX.out); have HB1 := Lib.hid (HB.out.trans (hb1.mono HB.out.size)); clear hb1)
        | (refine stC rfl (.tmp 4) (.tmp 19) rfl rfl w.heap.size #[.int .i64 0, .int .i64 0, .int .i64 0, .int .i64 0, .int .i64 0, .int .i64 0, .int .i64 0, .float .f64 0, .string ⟨#[]⟩, .slice none 0 0, .slice none 0 0, .int .i64 0, .int .i64 0, .float .f64 0, .string ⟨#[]⟩, .slice none 0 0, .slice none 0 0] (by kernel_rfl) (by kernel_rfl) #[.int .i64 0, .int .i64 0, .int .i64 0, .int .i64 0, .int .i64 0, .int .i64 0, .int .i64 0, .float .f64 0, .string ⟨#[]⟩, .slice none 0 0, .slice none 0 0, .int .i64 0, .int .i64 0, .float .f64 0, .string ⟨#[]⟩, .slice none 0 0, .slice none 0 0] HX1.out rfl rfl one17z ?_; refine Hid.out ?_))
      refine Lib.hid ?_
      have row := setRow_heap w1 w.heap.size #[.int .i64 0, .int .i64 0, .int .i64 0, .int .i64 0, .int .i64 0, .int .i64 0, .int .i64 0, .float .f64 0, .string ⟨#[]⟩, .slice none 0 0, .slice none 0 0, .int .i64 0, .int .i64 0, .float .f64 0, .string ⟨#[]⟩, .slice none 0 0, .slice none 0 0] #[.int .i64 0, .int .i64 0, .int .i64 0, .int .i64 0, .int .i64 0, .int .i64 0, .int .i64 0, .float .f64 0, .string ⟨#[]⟩, .slice none 0 0, .slice none 0 0, .int .i64 0, .int .i64 0, .float .f64 0, .string ⟨#[]⟩, .slice none 0 0, .slice none 0 0] 30 (0, 0) HX1.out
      have fin := Below.setRowNew HB1.out (Nat.le_refl _) #[.int .i64 0, .int .i64 0, .int .i64 0, .int .i64 0, .int .i64 0, .int .i64 0, .int .i64 0, .float .f64 0, .string ⟨#[]⟩, .slice none 0 0, .slice none 0 0, .int .i64 0, .int .i64 0, .float .f64 0, .string ⟨#[]⟩, .slice none 0 0, .slice none 0 0]
      have HF := Lib.hid (And.intro row fin)
      clear row fin
      go_wp2_with fail
      exact bodyPost_ret (v := .tuple #[.agg #[.int .i64 0, .int .i64 0, .int .i64 0, .int .i64 0, .int .i64 0, .int .i64 0, .int .i64 0, .float .f64 0, .string ⟨#[]⟩, .slice none 0 0, .slice none 0 0, .int .i64 0, .int .i64 0, .float .f64 0, .string ⟨#[]⟩, .slice none 0 0, .slice none 0 0], .int .i64 0, .int .i64 5]) (results_cmd3 rfl _ _ w.heap.size _ _ _ rfl rfl rfl HF.out.1 rfl) rfl ⟨HF.out.2, rfl⟩
    | some z =>
      obtain ⟨c, l⟩ := z
      rw [hr] at C
      dsimp only at C ⊢
      have HC := Lib.hid C
      generalize s.size - l.length = nx at *
      clear C hr
      go_enter Tryz.func8, Tryz.ntmps8
      go_wp2_with (first
        | (go_at_call 19; refine HC.out.mono ?_; rintro e w1 ⟨hb1, v, rfl, hv⟩; obtain ⟨k, n, ll, i, d, p0, p1, p2, p3, p4, p5, p6, p7, p8, p9, q0, q1, q2, q3, q4, q5, q6, q7, q8, q9, rfl⟩ := hv.named; have HX1 := Lib.hid ((hb1.block w.heap.size (by simp)).trans HX.out); have HB1 := Lib.hid (HB.out.trans (hb1.mono HB.out.size)); have HV1 := Lib.hid (hv.imp (Q := fun b => w.heap.size < b) (fun b hb _ => by simp at hb; omega)); clear hb1 hv)
        | (refine stC rfl (.tmp 4) (.tmp 19) rfl rfl w.heap.size #[.int .i64 k, .int .i64 n, .int .i64 ll, .int .i64 i, .int .i64 d, .int .i64 p0, .int .i64 p1, .float .f64 p2, .string p3, .slice p4 p5 p6, .slice p7 p8 p9, .int .i64 q0, .int .i64 q1, .float .f64 q2, .string q3, .slice q4 q5 q6, .slice q7 q8 q9] (by kernel_rfl) (by kernel_rfl) #[.int .i64 0, .int .i64 0, .int .i64 0, .int .i64 0, .int .i64 0, .int .i64 0, .int .i64 0, .float .f64 0, .string ⟨#[]⟩, .slice none 0 0, .slice none 0 0, .int .i64 0, .int .i64 0, .float .f64 0, .string ⟨#[]⟩, .slice none 0 0, .slice none 0 0] HX1.out rfl rfl one17 ?_; refine Hid.out ?_))
      refine Lib.hid ?_
      have row := setRow_heap w1 w.heap.size #[.int .i64 0, .int .i64 0, .int .i64 0, .int .i64 0, .int .i64 0, .int .i64 0, .int .i64 0, .float .f64 0, .string ⟨#[]⟩, .slice none 0 0, .slice none 0 0, .int .i64 0, .int .i64 0, .float .f64 0, .string ⟨#[]⟩, .slice none 0 0, .slice none 0 0] #[.int .i64 k, .int .i64 n, .int .i64 ll, .int .i64 i, .int .i64 d, .int .i64 p0, .int .i64 p1, .float .f64 p2, .string p3, .slice p4 p5 p6, .slice p7 p8 p9, .int .i64 q0, .int .i64 q1, .float .f64 q2, .string q3, .slice q4 q5 q6, .slice q7 q8 q9] 30 (0, 0) HX1.out
      have fin := Below.setRowNew HB1.out (Nat.le_refl _) #[.int .i64 k, .int .i64 n, .int .i64 ll, .int .i64 i, .int .i64 d, .int .i64 p0, .int .i64 p1, .float .f64 p2, .string p3, .slice p4 p5 p6, .slice p7 p8 p9, .int .i64 q0, .int .i64 q1, .float .f64 q2, .string q3, .slice q4 q5 q6, .slice q7 q8 q9]
      have own := (HV1.out.setRow (R := w.heap.size) (Nat.lt_irrefl _) #[.int .i64 k, .int .i64 n, .int .i64 ll, .int .i64 i, .int .i64 d, .int .i64 p0, .int .i64 p1, .float .f64 p2, .string p3, .slice p4 p5 p6, .slice p7 p8 p9, .int .i64 q0, .int .i64 q1, .float .f64 q2, .string q3, .slice q4 q5 q6, .slice q7 q8 q9]).imp (Q := fun b => w.heap.size ≤ b) fun b hb _ => Nat.le_of_lt hb
      have HF := Lib.hid (And.intro row (And.intro fin own))
      clear row fin own
      go_wp2_with fail
      exact bodyPost_ret (v := .tuple #[.agg #[.int .i64 k, .int .i64 n, .int .i64 ll, .int .i64 i, .int .i64 d, .int .i64 p0, .int .i64 p1, .float .f64 p2, .string p3, .slice p4 p5 p6, .slice p7 p8 p9, .int .i64 q0, .int .i64 q1, .float .f64 q2, .string q3, .slice q4 q5 q6, .slice q7 q8 q9], .int .i64 nx, .int .i64 0]) (results_cmd3 rfl _ _ w.heap.size _ _ _ rfl rfl rfl HF.out.1 rfl) rfl ⟨HF.out.2.1, #[.int .i64 k, .int .i64 n, .int .i64 ll, .int .i64 i, .int .i64 d, .int .i64 p0, .int .i64 p1, .float .f64 p2, .string p3, .slice p4 p5 p6, .slice p7 p8 p9, .int .i64 q0, .int .i64 q1, .float .f64 q2, .string q3, .slice q4 q5 q6, .slice q7 q8 q9], rfl, HF.out.2.2⟩
end Go.Proofs.YtekojglcbalhnaaGreatDoor
namespace Go.Proofs.YtekojglcbalhnaaGreatDoor
open Go.RowKit

/-- The document's reader: it has an error, or these bytes are left. -/
def Sd (w : World) (g : Nat) (s : ByteArray) : Option (List UInt8) → Prop
  | none => Rbad w g s
  | some l => ∃ b : Nat, b ≤ s.size ∧ l = left s b ∧ Rdr w g s b 0 0
theorem Sd.keep {w w' : World} {g : Nat} {s : ByteArray} {r : Option (List UInt8)} (h : Sd w g s r) (hk : w'.heap[g]? = w.heap[g]?) : Sd w' g s r := by
  cases r with
  | none => obtain ⟨a, e, p, he, h⟩ := h; exact ⟨a, e, p, he, hk.trans h⟩
  | some l => obtain ⟨b, hb, hl, h⟩ := h; exact ⟨b, hb, hl, hk.trans h⟩
def numO (r : Option (List UInt8)) : Nat := match r.bind smP with
  | none => 0
  | some z => z.1
def restN (r : Option (List UInt8)) : Option (List UInt8) := (r.bind smP).map Prod.snd
def valO (r : Option (List UInt8)) : VT := match r.bind svP with
  | none => noneT
  | some z => z.1
def restV (r : Option (List UInt8)) : Option (List UInt8) := (r.bind svP).map Prod.snd
theorem inum_st {w : World} {g : Nat} {s : ByteArray} {r : Option (List UInt8)} (h : Sd w g s r) (hs : s.size ≤ 1000000000) :
    Calls Tryz.prog 24 #[.agg #[.pointer (some ⟨g, 0, none⟩)]] w fun x w' => ∃ n : Nat, n = numO r ∧ x = .returned (.int .i64 (n : Int)) ∧ Past g w w' ∧ Sd w' g s (restN r) := by
  cases r with
  | none => exact (inum_e h).mono fun x w' ⟨h1, h2, h3⟩ => ⟨0, rfl, h1, h2, h3⟩
  | some l =>
    obtain ⟨b, hb, hl, h⟩ := h
    refine (inum_0 h hb hs).mono ?_
    rw [← hl]
    unfold InEnds numO restN
    rw [Option.bind_some]
    cases smP l with
    | none => rintro x w' ⟨h1, h2, h3⟩; exact ⟨0, rfl, h2, h1, h3⟩
    | some z => rintro x w' ⟨h1, h2, h3⟩; exact ⟨z.1, rfl, h2, h1, h3⟩
theorem isome_st {w : World} {g : Nat} {s : ByteArray} {r : Option (List UInt8)} (h : Sd w g s r) (hs : s.size ≤ 1000000000) :
    Calls Tryz.prog 25 #[.agg #[.pointer (some ⟨g, 0, none⟩)]] w fun x w' => ∃ (b0 b1 : Int) (b2 : Nat) (b3 : ByteArray) (b4 : Option Addr) (b5 b6 : Nat) (b7 : Option Addr) (b8 b9 : Nat), x = .returned (.agg #[.int .i64 b0, .int .i64 b1, .float .f64 b2, .string b3, .slice b4 b5 b6, .slice b7 b8 b9]) ∧ VOwn w' (fun b => w.heap.size ≤ b) #[.int .i64 b0, .int .i64 b1, .float .f64 b2, .string b3, .slice b4 b5 b6, .slice b7 b8 b9] (valO r) ∧ Past g w w' ∧ Sd w' g s (restV r) := by
  have go : ∀ {x : Ending} {w' : World} {t : VT} {q : Option (List UInt8)}, (∃ v, x = .returned (.agg v) ∧ VOwn w' (fun b => w.heap.size ≤ b) v t) → Past g w w' → Sd w' g s q → ∃ (b0 b1 : Int) (b2 : Nat) (b3 : ByteArray) (b4 : Option Addr) (b5 b6 : Nat) (b7 : Option Addr) (b8 b9 : Nat), x = .returned (.agg #[.int .i64 b0, .int .i64 b1, .float .f64 b2, .string b3, .slice b4 b5 b6, .slice b7 b8 b9]) ∧ VOwn w' (fun b => w.heap.size ≤ b) #[.int .i64 b0, .int .i64 b1, .float .f64 b2, .string b3, .slice b4 b5 b6, .slice b7 b8 b9] t ∧ Past g w w' ∧ Sd w' g s q := by
    rintro x w' t q ⟨v, h1, h2⟩ h3 h4
    obtain ⟨b0, b1, b2, b3, b4, b5, b6, b7, b8, b9, rfl⟩ := h2.val.eight
    exact ⟨_, _, _, _, _, _, _, _, _, _, h1, h2, h3, h4⟩
  cases r with
  | none => exact (isome_e h).mono fun x w' ⟨h1, h2, h3⟩ => go h2 h1 (q := none) h3
  | some l =>
    obtain ⟨b, hb, hl, h⟩ := h
    refine (isome_0 h hb hs).mono ?_
    rw [← hl]
    unfold IvEnds valO restV
    rw [Option.bind_some]
    cases svP l with
    | none => rintro x w' ⟨h1, h2, h3⟩; exact go h2 h1 (q := none) h3
    | some z => rintro x w' ⟨h1, h2, h3⟩; exact go h2 h1 (q := some z.2) h3
/-- What all steps come to. -/
def stepsO (l : List UInt8) : Option (List UInt8) := restV (restV (restN (restN (restN (restN (restN (some l)))))))
theorem steps_cmd (l : List UInt8) : cmdP l = (stepsO l).map fun l7 => (⟨numO (some l), numO (restN (some l)), numO (restN (restN (some l))), numO (restN (restN (restN (some l)))), numO (restN (restN (restN (restN (some l))))), valO (restN (restN (restN (restN (restN (some l)))))), valO (restV (restN (restN (restN (restN (restN (some l)))))))⟩, l7) := by
  have rn : ∀ r, restN r = (r.bind smP).map Prod.snd := fun _ => rfl
  unfold stepsO cmdP
  cases h0 : smP l with
  | none => simp [restN, restV, h0]
  | some z0 =>
    have e0 : restN (some l) = some z0.2 := by simp [restN, h0]
    have n0 : numO (some l) = z0.1 := by simp [numO, h0]
    rw [e0, n0, Option.bind_some]
    cases h1 : smP z0.2 with
    | none => simp [restN, restV, h1]
    | some z1 =>
      have e1 : restN (some z0.2) = some z1.2 := by simp [restN, h1]
      have n1 : numO (some z0.2) = z1.1 := by simp [numO, h1]
      rw [e1, n1, Option.bind_some]
      cases h2 : smP z1.2 with
      | none => simp [restN, restV, h2]
      | some z2 =>
        have e2 : restN (some z1.2) = some z2.2 := by simp [restN, h2]
        have n2 : numO (some z1.2) = z2.1 := by simp [numO, h2]
        rw [e2, n2, Option.bind_some]
        cases h3 : smP z2.2 with
        | none => simp [restN, restV, h3]
        | some z3 =>
          have e3 : restN (some z2.2) = some z3.2 := by simp [restN, h3]
          have n3 : numO (some z2.2) = z3.1 := by simp [numO, h3]
          rw [e3, n3, Option.bind_some]
          cases h4 : smP z3.2 with
          | none => simp [restN, restV, h4]
          | some z4 =>
            have e4 : restN (some z3.2) = some z4.2 := by simp [restN, h4]
            have n4 : numO (some z3.2) = z4.1 := by simp [numO, h4]
            rw [e4, n4, Option.bind_some]
            cases h5 : svP z4.2 with
            | none => simp [restV, h5]
            | some z5 =>
              have e5 : restV (some z4.2) = some z5.2 := by simp [restV, h5]
              have n5 : valO (some z4.2) = z5.1 := by simp [valO, h5]
              rw [e5, n5, Option.bind_some]
              cases h6 : svP z5.2 with
              | none => simp [restV, h6]
              | some z6 => simp [restV, valO, h6]
theorem row_set {w : World} {R : Nat} {cs : Array Value} (h : w.heap[R]? = some (.cells cs 30 (0, 0))) (o : Nat) (v : Value) : (w.setCell ⟨R, o, none⟩ v).heap[R]? = some (.cells (cs.setIfInBounds o v) 30 (0, 0)) := by
  simp [World.setCell, Array.getElem?_modify, h]
set_option maxRecDepth 20000 in
set_option maxHeartbeats 4000000 in
theorem ReadCmd_place {s : ByteArray} {a : Int} {w : World} (h : a < 0 ∨ (s.size : Int) < a) :
    Calls Tryz.prog 10 #[.string s, .int .i64 a] w fun e w' => RdCmd s a w e w' := by
  have B := Begin_any (s := s) (i := a) (w.alloc (.cells #[.int .i64 0, .int .i64 0, .int .i64 0, .int .i64 0, .int .i64 0, .int .i64 0, .int .i64 0, .float .f64 0, .string ⟨#[]⟩, .slice none 0 0, .slice none 0 0, .int .i64 0, .int .i64 0, .float .f64 0, .string ⟨#[]⟩, .slice none 0 0, .slice none 0 0] 30))
  rw [if_pos h, World.size_alloc] at B
  unfold RdCmd
  simp only [if_pos h]
  unfold zero17
  have hb0 : Below w.heap.size w (w.alloc (.cells #[.int .i64 0, .int .i64 0, .int .i64 0, .int .i64 0, .int .i64 0, .int .i64 0, .int .i64 0, .float .f64 0, .string ⟨#[]⟩, .slice none 0 0, .slice none 0 0, .int .i64 0, .int .i64 0, .float .f64 0, .string ⟨#[]⟩, .slice none 0 0, .slice none 0 0] 30)) := (Below.refl _ _).alloc (Nat.le_refl _) _
  have HX := Lib.hid (heap_alloc_new w (.cells #[.int .i64 0, .int .i64 0, .int .i64 0, .int .i64 0, .int .i64 0, .int .i64 0, .int .i64 0, .float .f64 0, .string ⟨#[]⟩, .slice none 0 0, .slice none 0 0, .int .i64 0, .int .i64 0, .float .f64 0, .string ⟨#[]⟩, .slice none 0 0, .slice none 0 0] 30))
  have HB := Lib.hid hb0
  have HBe := Lib.hid B
  clear hb0 h B
  go_enter Tryz.func10, Tryz.ntmps10
  go_wp2_with (first
    | (go_at_call 22; refine HBe.out.mono ?_; rintro x w1 ⟨rfl, h1, hb1⟩; have HX1 := Lib.hid ((hb1.block w.heap.size (by simp)).trans HX.out); have HB1 := Lib.hid (HB.out.trans (hb1.mono (Nat.le_succ _))); have K := Lib.hid (iok_any (h1.past ((Below.refl w1.heap.size w1).alloc (Nat.le_refl _) (.cells #[.pointer (some ⟨w.heap.size + 1, 0, none⟩)] 72)))); clear h1 hb1)
    | (go_at_call 23; refine K.out.mono ?_; rintro x w2 ⟨rfl, hb2⟩; have HX2 := Lib.hid (((hb2.block w.heap.size (by have := (Array.getElem?_eq_some_iff.1 HX1.out).1; simp; omega)).trans (Below.heap_alloc w1 _ _ (Array.getElem?_eq_some_iff.1 HX1.out).1)).trans HX1.out); have HB2 := Lib.hid ((HB1.out.alloc HB1.out.size (.cells #[.pointer (some ⟨w.heap.size + 1, 0, none⟩)] 72)).trans (hb2.mono (HB1.out.alloc HB1.out.size (.cells #[.pointer (some ⟨w.heap.size + 1, 0, none⟩)] 72)).size)); clear hb2)
    | (refine stC rfl (.tmp 4) (.tmp 16) rfl rfl w.heap.size #[.int .i64 0, .int .i64 0, .int .i64 0, .int .i64 0, .int .i64 0, .int .i64 0, .int .i64 0, .float .f64 0, .string ⟨#[]⟩, .slice none 0 0, .slice none 0 0, .int .i64 0, .int .i64 0, .float .f64 0, .string ⟨#[]⟩, .slice none 0 0, .slice none 0 0] (by kernel_rfl) (by kernel_rfl) #[.int .i64 0, .int .i64 0, .int .i64 0, .int .i64 0, .int .i64 0, .int .i64 0, .int .i64 0, .float .f64 0, .string ⟨#[]⟩, .slice none 0 0, .slice none 0 0, .int .i64 0, .int .i64 0, .float .f64 0, .string ⟨#[]⟩, .slice none 0 0, .slice none 0 0] HX2.out rfl rfl one17z ?_; refine Hid.out ?_))
  refine Lib.hid ?_
  have HF := Lib.hid (And.intro (setRow_heap w2 w.heap.size #[.int .i64 0, .int .i64 0, .int .i64 0, .int .i64 0, .int .i64 0, .int .i64 0, .int .i64 0, .float .f64 0, .string ⟨#[]⟩, .slice none 0 0, .slice none 0 0, .int .i64 0, .int .i64 0, .float .f64 0, .string ⟨#[]⟩, .slice none 0 0, .slice none 0 0] #[.int .i64 0, .int .i64 0, .int .i64 0, .int .i64 0, .int .i64 0, .int .i64 0, .int .i64 0, .float .f64 0, .string ⟨#[]⟩, .slice none 0 0, .slice none 0 0, .int .i64 0, .int .i64 0, .float .f64 0, .string ⟨#[]⟩, .slice none 0 0, .slice none 0 0] 30 (0, 0) HX2.out) (Below.setRowNew HB2.out (Nat.le_refl _) #[.int .i64 0, .int .i64 0, .int .i64 0, .int .i64 0, .int .i64 0, .int .i64 0, .int .i64 0, .float .f64 0, .string ⟨#[]⟩, .slice none 0 0, .slice none 0 0, .int .i64 0, .int .i64 0, .float .f64 0, .string ⟨#[]⟩, .slice none 0 0, .slice none 0 0]))
  go_wp2_with fail
  exact bodyPost_ret (v := .tuple #[.agg #[.int .i64 0, .int .i64 0, .int .i64 0, .int .i64 0, .int .i64 0, .int .i64 0, .int .i64 0, .float .f64 0, .string ⟨#[]⟩, .slice none 0 0, .slice none 0 0, .int .i64 0, .int .i64 0, .float .f64 0, .string ⟨#[]⟩, .slice none 0 0, .slice none 0 0], .int .i64 0, .int .i64 3]) (results_cmd3 rfl _ _ w.heap.size _ _ _ rfl rfl rfl HF.out.1 rfl) rfl ⟨rfl, HF.out.2⟩
end Go.Proofs.YtekojglcbalhnaaGreatDoor

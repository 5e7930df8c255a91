/-
  awake.
-/
import Derived.Test.YtfkjehgbghckhaaDoorUz
namespace Go.Proofs.YtfkjehgbghckhaaDoor
open Go.RowKit

def ex1 : ByteArray := ⟨#[120, 49, 32, 60, 61, 32, 51, 112, 45, 49]⟩
def ex2 : ByteArray := ⟨#[97, 34]⟩
def ts1 : List (Nat × Tk) := [(0, ⟨5, 2, 0, 0, [120, 49]⟩), (3, ⟨6, 2, 0, 0, [60, 61]⟩), (6, ⟨3, 4, 0, 4609434218613702656, []⟩)]
theorem ex1_0 : nextN ex1 0 = .tok 0 ⟨5, 2, 0, 0, [120, 49]⟩ := by kernel_rfl
theorem ex1_1 : nextN ex1 2 = .tok 3 ⟨6, 2, 0, 0, [60, 61]⟩ := by kernel_rfl
theorem ex1_2 : nextN ex1 5 = .tok 6 ⟨3, 4, 0, 4609434218613702656, []⟩ := by kernel_rfl
theorem ex1_3 : nextN ex1 10 = .tok 10 ⟨1, 0, 0, 0, []⟩ := by kernel_rfl
theorem ex1_all : Lx ex1 0 ts1 none :=
  .next ex1_0 (by decide) (.next ex1_1 (by decide) (.next ex1_2 (by decide) (.stop ex1_3 rfl)))
theorem ex2_0 : nextN ex2 0 = .tok 0 ⟨5, 1, 0, 0, [97]⟩ := by kernel_rfl
theorem ex2_1 : nextN ex2 1 = .err 1 14 := by kernel_rfl
theorem ex2_all : Lx ex2 0 [(0, ⟨5, 1, 0, 0, [97]⟩)] (some (1, 14)) := .next ex2_0 (by decide) (.bad ex2_1)
theorem ex3 : nextN ⟨#[49, 50, 112]⟩ 0 = .err 0 5 := by kernel_rfl
theorem ex4 : nextN ⟨#[38]⟩ 0 = .err 0 5 := by kernel_rfl
theorem ex5 : wordB [108, 101, 110] = true := by decide
theorem ex6 : wordB [120] = false := by decide
/-- What All answers at a text that is known. -/
theorem LAll_at {s : ByteArray} (hs : s.size ≤ 1000000000) {ts : List (Nat × Tk)} {o : Option (Nat × Int)} (h : Lx s 0 ts o) {w : World} (ht : Tabs w) : Calls Tryd.prog 7 #[.string s] w fun e w' => ∃ v, e = .returned (.tuple #[v, .int .i64 (whereO o), .int .i64 (errO o)]) ∧ Below w.heap.size w w' ∧ TAt w' v (keepO ts o) :=
  (LAll_any hs ht).mono fun e w' ⟨us, p, v, hL, hb, he, hO⟩ => by
    obtain ⟨rfl, rfl⟩ := h.unique hL
    exact ⟨v, he, hb, TAt.of_own hO⟩
theorem TAt.three {w : World} {v : Value} (h : TAt w v ts1) : ∃ g cap, v = .slice (some ⟨g, 0, none⟩) 3 cap ∧ g < w.heap.size ∧ w.cell? ⟨g, 5, none⟩ = some (.string ⟨#[120, 49]⟩) ∧ w.cell? ⟨g, 7, none⟩ = some (.int .i64 3) ∧ w.cell? ⟨g, 11, none⟩ = some (.string ⟨#[60, 61]⟩) ∧ w.cell? ⟨g, 16, none⟩ = some (.float .f64 4609434218613702656) := by
  obtain ⟨A, cap, rfl, h1, h2, h3⟩ := h
  obtain ⟨g, rfl, hg, hx⟩ := h3 (by decide)
  obtain ⟨_, _, _, _, _, c5⟩ := hx 0 (by decide)
  obtain ⟨_, d1, _, _, _, d5⟩ := hx 1 (by decide)
  obtain ⟨_, _, _, _, e4, _⟩ := hx 2 (by decide)
  exact ⟨g, cap, rfl, hg, c5, d1, d5, e4⟩
set_option maxRecDepth 20000 in
set_option maxHeartbeats 4000000 in
theorem awake_any {w : World} (ht : Tabs w) : Calls Tryd.prog 6 #[] w fun e w' => e = .returned (.bool true) ∧ Below w.heap.size w w' := by
  have SF := float_store
  have A1 : Calls Tryd.prog 7 #[.string ex1] w fun e w' => ∃ v, e = .returned (.tuple #[v, .int .i64 0, .int .i64 0]) ∧ Below w.heap.size w w' ∧ TAt w' v ts1 := LAll_at (s := ex1) (by decide) ex1_all ht
  have A2 : ∀ W, Tabs W → Calls Tryd.prog 7 #[.string ex2] W fun e w' => ∃ v, e = .returned (.tuple #[v, .int .i64 1, .int .i64 14]) ∧ Below W.heap.size W w' ∧ TAt w' v [] := fun W hT => LAll_at (s := ex2) (by decide) ex2_all hT
  have N1 := fun (W : World) (hT : Tabs W) => LNext_any (s := ⟨#[49, 50, 112]⟩) (a := 0) (by decide) hT
  have N2 := fun (W : World) (hT : Tabs W) => LNext_any (s := ⟨#[38]⟩) (a := 0) (by decide) hT
  have W1 := LWord_any ⟨#[108, 101, 110]⟩
  have W2 := LWord_any ⟨#[120]⟩
  rw [ex3] at N1
  rw [ex4] at N2
  have e5 : wordB (⟨#[108, 101, 110]⟩ : ByteArray).data.toList = true := ex5
  have e6 : wordB (⟨#[120]⟩ : ByteArray).data.toList = false := ex6
  rw [e5] at W1
  rw [e6] at W2
  unfold lanV zeroT tokV at N1 N2
  dsimp only at N1 N2
  unfold ex1 ex2 at *
  go_enter Tryd.func6, Tryd.ntmps6
  go_wp2_with (go_at_call 7; refine A1.mono ?_; rintro e w1 ⟨v1, rfl, hb1, hT1⟩; refine Hid.out ?_)
  refine Lib.hid ?_
  have ht1 := ht.below hb1
  go_wp2_with (go_at_call 7; refine (A2 _ ht1).mono ?_; rintro e w2 ⟨v2, rfl, hb2, _⟩; refine Hid.out ?_)
  refine Lib.hid ?_
  have ht2 := ht1.below hb2
  go_wp2_with (go_at_call 9; refine (N1 _ ht2).mono ?_; rintro e w3 ⟨rfl, hb3⟩; refine Hid.out ?_)
  refine Lib.hid ?_
  have ht3 := (ht2.below hb3).below ((Below.refl w3.heap.size w3).alloc (Nat.le_refl _) (.cells #[.int .i64 0, .int .i64 0, .int .i64 0, .int .i64 0, .float .f64 0, .string ⟨#[]⟩] 30))
  go_wp2_with (go_at_call 9; refine (N2 _ ht3).mono ?_; rintro e w4 ⟨rfl, hb4⟩; refine Hid.out ?_)
  refine Lib.hid ?_
  have hBA : Below w.heap.size w w3 := (hb1.trans (hb2.mono hb1.size)).trans (hb3.mono (Nat.le_trans hb1.size hb2.size))
  have hBB : Below w.heap.size w (w4.alloc (.cells #[.int .i64 0, .int .i64 0, .int .i64 0, .int .i64 0, .float .f64 0, .string ⟨#[]⟩] 30)) := by
    have h1 := hBA.alloc hBA.size (.cells #[.int .i64 0, .int .i64 0, .int .i64 0, .int .i64 0, .float .f64 0, .string ⟨#[]⟩] 30)
    have h2 := h1.trans (hb4.mono h1.size)
    exact h2.alloc h2.size _
  have hT4 := ((((hT1.stay hb2).stay hb3).stay ((Below.refl w3.heap.size w3).alloc (Nat.le_refl _) (.cells #[.int .i64 0, .int .i64 0, .int .i64 0, .int .i64 0, .float .f64 0, .string ⟨#[]⟩] 30))).stay hb4).stay ((Below.refl w4.heap.size w4).alloc (Nat.le_refl _) (.cells #[.int .i64 0, .int .i64 0, .int .i64 0, .int .i64 0, .float .f64 0, .string ⟨#[]⟩] 30))
  obtain ⟨g, cap, rfl, hg, c5, c7, c11, c16⟩ := hT4.three
  have HB := Lib.hid hBB
  clear hBA hBB hT1 hT4 hb1 hb2 hb3 hb4 ht1 ht2 ht3 A1 A2 N1 N2 ht
  go_wp2_with (go_at_call 14; first | (with_reducible refine (W1 _).mono ?_; rintro e w5 ⟨rfl, hb5⟩) | (with_reducible refine (W2 _).mono ?_; rintro e w6 ⟨rfl, hb6⟩))
  go_ret
  exact ⟨rfl, (HB.out.trans (hb5.mono HB.out.size)).trans (hb6.mono (Nat.le_trans HB.out.size hb5.size))⟩
end Go.Proofs.YtfkjehgbghckhaaDoor

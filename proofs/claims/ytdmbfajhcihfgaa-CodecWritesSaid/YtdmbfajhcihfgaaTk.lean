/-
  Contracts of basculeref04's tright, TypeRight.
-/
import Derived.Test.YtdmbfajhcihfgaaTc
import Derived.Test.YtdmbfajhcihfgaaVn
namespace Go.Proofs.Ytdmbfajhcihfgaa
open Go.RowKit

/-- The three cells of a box stay. -/
theorem box3_stays {w : World} {a0 a1 a2 : Value} {t : TypeId} : Hid (∀ w', Below (w.alloc (.cells #[a0, a1, a2] t)).heap.size (w.alloc (.cells #[a0, a1, a2] t)) w' →
    w'.cell? ⟨w.heap.size, 0, none⟩ = some a0 ∧ w'.cell? ⟨w.heap.size, 1, none⟩ = some a1 ∧ w'.cell? ⟨w.heap.size, 2, none⟩ = some a2) := Lib.hid fun w' hb => by
  have K := fun o => hb.cell (p := ⟨w.heap.size, o, none⟩) (by simp)
  refine ⟨?_, ?_, ?_⟩ <;> (rw [K, World.cell?_alloc_new]; rfl)

def theadB (k : Int) (c : Nat) (ns : Nat → ByteArray) (m : Nat) : Bool :=
  if k = 5 then decide (m = 1) && decide (c = 0) else riseB c ns && ((c : Int) == (m : Int))
def tplainB (k : Int) (c m : Nat) : Bool := decide (1 ≤ k) && (decide (k ≤ 7) && (decide (m = 0) && decide (c = 0)))
def trightV : TT → Int → Bool
  | .bad, _ => false
  | .mk k c ns m xs, far => decide (1 ≤ far) && (if k = 5 ∨ k = 6 then theadB k c ns m && (List.range m).all (fun i => trightV (xs i) (far - 1)) else tplainB k c m)

theorem tright_far {k : Int} {A : Option Addr} {c ca : Nat} {B : Option Addr} {m cb : Nat} {w : World} {far : Int} (h0 : ¬ 1 ≤ far) :
    Calls Try.prog 40 #[.agg (tfields k A c ca B m cb), .int .i64 far] w fun e w' => e = .returned (.bool false) ∧ Below w.heap.size w w' := by
  have hbW : ∀ o, Below w.heap.size w (w.alloc o) := fun o => (Below.refl _ _).alloc (Nat.le_refl _) _
  unfold tfields at *
  go_enter Try.func40, Try.ntmps40
  go_wp2
  all_goals (go_ret; exact ⟨rfl, hbW _⟩)
theorem tright_out {k : Int} {A : Option Addr} {c ca : Nat} {B : Option Addr} {m cb : Nat} {w : World} {far : Int} (h0 : 1 ≤ far) (hk : ¬ (1 ≤ k ∧ k ≤ 7)) :
    Calls Try.prog 40 #[.agg (tfields k A c ca B m cb), .int .i64 far] w fun e w' => e = .returned (.bool false) ∧ Below w.heap.size w w' := by
  have hbW : ∀ o, Below w.heap.size w (w.alloc o) := fun o => (Below.refl _ _).alloc (Nat.le_refl _) _
  unfold tfields at *
  by_cases h1 : 1 ≤ k
  · have h7 : ¬ k ≤ 7 := fun h => hk ⟨h1, h⟩
    clear hk
    go_enter Try.func40, Try.ntmps40
    go_wp2
    all_goals (go_ret; exact ⟨rfl, hbW _⟩)
  · clear hk
    go_enter Try.func40, Try.ntmps40
    go_wp2
    all_goals (go_ret; exact ⟨rfl, hbW _⟩)
set_option maxHeartbeats 1000000 in
theorem tright_plain {k : Int} {A : Option Addr} {c ca : Nat} {B : Option Addr} {m cb : Nat} {w : World} {far : Int} (h0 : 1 ≤ far) (hk : 1 ≤ k ∧ k ≤ 7) (h5 : k ≠ 5) (h6 : k ≠ 6) :
    Calls Try.prog 40 #[.agg (tfields k A c ca B m cb), .int .i64 far] w fun e w' => e = .returned (.bool (decide (m = 0) && decide (c = 0))) ∧ Below w.heap.size w w' := by
  have hbW : ∀ o, Below w.heap.size w (w.alloc o) := fun o => (Below.refl _ _).alloc (Nat.le_refl _) _
  have t5 : (k == 5) = false := by simpa using h5
  have t6 : (k == 6) = false := by simpa using h6
  unfold tfields at *
  by_cases hm : m = 0
  · by_cases hc : c = 0
    · have R : Hid ((decide (m = 0) && decide (c = 0)) = true) := Lib.hid (by simp [hm, hc])
      have tm : ((m : Int) == 0) = true := by simp; omega
      have tc : ((c : Int) == 0) = true := by simp; omega
      clear hm hc h5 h6
      go_enter Try.func40, Try.ntmps40
      go_wp2
      all_goals (go_ret; exact ⟨by rw [R.out]; rfl, hbW _⟩)
    · have R : Hid ((decide (m = 0) && decide (c = 0)) = false) := Lib.hid (by simp [hc])
      have tm : ((m : Int) == 0) = true := by simp; omega
      have tc : ((c : Int) == 0) = false := by simp; omega
      clear hm hc h5 h6
      go_enter Try.func40, Try.ntmps40
      go_wp2
      all_goals (go_ret; exact ⟨by rw [R.out]; rfl, hbW _⟩)
  · have R : Hid ((decide (m = 0) && decide (c = 0)) = false) := Lib.hid (by simp [hm])
    have tm : ((m : Int) == 0) = false := by simp; omega
    clear hm h5 h6
    go_enter Try.func40, Try.ntmps40
    go_wp2
    all_goals (go_ret; exact ⟨by rw [R.out]; rfl, hbW _⟩)
end Go.Proofs.Ytdmbfajhcihfgaa

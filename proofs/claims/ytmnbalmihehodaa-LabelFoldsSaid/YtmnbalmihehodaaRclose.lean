/-
  The contract of basculeref01.close.
-/
import Derived.Test.YtmnbalmihehodaaRjoin
namespace Go.Proofs.Ytmnbalmihehodaa
open Go.RowKit

/-- One entry more. -/
def setL (L : Nat → Nat → Bool) (a c : Nat) : Nat → Nat → Bool := fun x y => if x = a ∧ y = c then true else L x y

theorem RLat.set {cs : Array Value} {n : Nat} {L : Nat → Nat → Bool} (h : RLat cs n L) {a c : Nat} (ha : a < 8) (hc : c < 8) :
    RLat (cs.setIfInBounds (1 + a * 8 + c) (.bool true)) n (setL L a c) := by
  refine ⟨by simpa using h.sz, h.n8, ?_, fun x y hx hy => ?_⟩
  · rw [Array.getElem?_setIfInBounds_ne (by omega)]; exact h.num
  · unfold setL
    by_cases e : x = a ∧ y = c
    · obtain ⟨rfl, rfl⟩ := e
      rw [Array.getElem?_setIfInBounds_self_of_lt (by have := h.sz; omega)]
      simp
    · rw [Array.getElem?_setIfInBounds_ne (by omega), if_neg e]
      exact h.tab x y hx hy

theorem RLat.one {cs : Array Value} {n : Nat} {L : Nat → Nat → Bool} (h : RLat cs n L) : cs.all (·.oneCell') = true := by
  rw [Array.all_eq_true]
  intro i hi
  have hsz := h.sz
  by_cases h0 : i = 0
  · subst h0
    have := h.num
    rw [Array.getElem?_eq_getElem hi] at this
    rw [Option.some.inj this]
    rfl
  · have := h.tab ((i - 1) / 8) ((i - 1) % 8) (by omega) (by omega)
    rw [show 1 + (i - 1) / 8 * 8 + (i - 1) % 8 = i by omega, Array.getElem?_eq_getElem hi] at this
    rw [Option.some.inj this]
    rfl

theorem heap_setRow_far (w : World) (g k : Nat) (cs : Array Value) (h : k ≠ g) : (w.setRow g cs).heap[k]? = w.heap[k]? := by
  have h' : ¬ g = k := fun e => h e.symm
  simp [World.setRow, Array.getElem?_modify, h']
theorem below_setRow {B : Nat} {a w : World} (h : Below B a w) {g : Nat} (hg : B ≤ g) (cs : Array Value) : Below B a (w.setRow g cs) :=
  h.trans ⟨rfl, rfl, rfl, by simp, fun k hk => heap_setRow_far _ _ _ _ (by omega)⟩

/-- A whole store of the document's lattice. -/
theorem st31 {ops : Array Oper} {rest : List Oper} {o : Oper} {a : Act} {w : World} {Q : Exit → Act → World → Prop} (hw : Region.wanted o (yielded ops a.tmps) = true) (x y : Operand) (ho : o.op = .store 28 x y)
    (g : Nat) (cells : Array Value) (hx : a.eval x = .pointer (some ⟨g, 0, none⟩)) (hy : a.eval y = .agg cells) (old : Array Value) (hg : w.heap[g]? = some (.cells old 28 (0, 0))) (hs : cells.size = 65) (hs' : old.size = 65)
    (h1 : cells.all (·.oneCell') = true) (h : wpList Try.prog ops Q rest (a.put o.dst undef) (w.setRow g cells)) : wpList Try.prog ops Q (o :: rest) a w :=
  BigFrame.wpList_want hw fun _ hK => wp_store_row 28 x y ho g cells hx hy 28 old hg (by rw [info31, hs]) (by rw [hs, hs']) h1 (hK _ _ h)

/-- What close has behind so many rounds of its four loops. -/
def clIn (L : Nat → Nat → Bool) (a b : Nat) : Nat → (Nat → Nat → Bool)
  | 0 => L
  | c + 1 => if clIn L a b c a b && clIn L a b c b c then setL (clIn L a b c) a c else clIn L a b c
def clB (n : Nat) (L : Nat → Nat → Bool) (a : Nat) : Nat → (Nat → Nat → Bool)
  | 0 => L
  | b + 1 => clIn (clB n L a b) a b n
def clA (n : Nat) (L : Nat → Nat → Bool) : Nat → (Nat → Nat → Bool)
  | 0 => L
  | a + 1 => clB n (clA n L a) a n
def clR (n : Nat) (L : Nat → Nat → Bool) : Nat → (Nat → Nat → Bool)
  | 0 => L
  | r + 1 => clA n (clR n L r) n

/-- The world amid close. -/
structure CW (w wr : World) (n : Nat) (L : Nat → Nat → Bool) : Prop where
  below : Below w.heap.size w wr
  size : w.heap.size + 2 ≤ wr.heap.size
  acc : ∃ cs, wr.heap[w.heap.size]? = some (.cells cs 28 (0, 0)) ∧ RLat cs n L
  res : ∃ z, wr.heap[w.heap.size + 1]? = some (.cells z 28 (0, 0)) ∧ z.size = 65

theorem CW.start {w : World} {cs z : Array Value} {n : Nat} {L : Nat → Nat → Bool} (h : RLat cs n L) (hz : z.size = 65) : CW w ((w.alloc (.cells cs 28)).alloc (.cells z 28)) n L := by
  refine ⟨((Below.refl _ _).alloc (Nat.le_refl _) _).alloc (by simp) _, by simp, ⟨cs, ?_, h⟩, ⟨z, ?_, hz⟩⟩
  · rw [Below.heap_alloc _ _ _ (by simp)]; exact heap_alloc_new _ _
  · have := heap_alloc_new (w.alloc (.cells cs 28)) (.cells z 28)
    simpa using this

theorem CW.set {w wr : World} {n : Nat} {L : Nat → Nat → Bool} (h : CW w wr n L) {a c : Nat} (ha : a < 8) (hc : c < 8) :
    CW w (wr.setCell ⟨w.heap.size, 1 + a * 8 + c, none⟩ (.bool true)) n (setL L a c) := by
  obtain ⟨cs, hcs, hR⟩ := h.acc
  obtain ⟨z, hz, hz5⟩ := h.res
  exact ⟨h.below.setCell (Nat.le_refl _) _, by simpa [World.setCell] using h.size, ⟨_, heap_set hcs _ _, hR.set ha hc⟩, ⟨z, by rw [Below.heap_setCell _ _ _ _ (by simp)]; exact hz, hz5⟩⟩
theorem CW.num {w wr : World} {n : Nat} {L : Nat → Nat → Bool} (h : CW w wr n L) : wr.cell? ⟨w.heap.size, 0, none⟩ = some (.int .i64 n) := by
  obtain ⟨cs, hcs, hR⟩ := h.acc
  exact (cell_of_heap hcs 0).trans hR.num
theorem CW.cell {w wr : World} {n : Nat} {L : Nat → Nat → Bool} (h : CW w wr n L) {a c : Nat} (ha : a < 8) (hc : c < 8) : wr.cell? ⟨w.heap.size, 1 + a * 8 + c, none⟩ = some (.bool (L a c)) := by
  obtain ⟨cs, hcs, hR⟩ := h.acc
  exact (cell_of_heap hcs _).trans (hR.tab a c ha hc)
theorem CW.free {w wr : World} {n : Nat} {L : Nat → Nat → Bool} (h : CW w wr n L) (i : Nat) : wr.frozen? ⟨w.heap.size, i, none⟩ = false := by
  obtain ⟨cs, hcs, _⟩ := h.acc
  exact frozen_of_heap hcs i

/-- The document's lattice, all zero. -/
def z31 : Array Value := #[.int .i64 0] ++ Array.replicate 64 (.bool false)
theorem z31_size : z31.size = 65 := by simp [z31]
theorem zero31 : ∀ W : World, (zeroValue 28).run Try.prog W = .ok (.agg z31) W := fun _ => by kernel_rfl

/-- A struct of that kind is handed back. -/
def GivesR (n : Nat) (L : Nat → Nat → Bool) (w : World) (e : Ending) (w' : World) : Prop :=
  ∃ cs, e = .returned (.agg cs) ∧ RLat cs n L ∧ Below w.heap.size w w'

set_option maxRecDepth 100000 in
set_option maxHeartbeats 2000000 in
theorem close_ref {cs : Array Value} {n : Nat} {L : Nat → Nat → Bool} (w : World) (h : RLat cs n L) :
    Calls Try.prog 46 #[.agg cs] w (GivesR n (clR n L 8) w) := by
  have n8 := h.n8
  have hzero := zero31
  go_enter Try.func46, Try.ntmps46
  go_wp2_with fail
  clear hzero
  go_loopw [3] (fun i wr => ∃ r : Nat, r ≤ 8 ∧ i = .int .i64 r ∧ CW w wr n (clR n L r)) (fun i _ => 8 - (intOf i).toNat)
  case atStart => exact ⟨0, Nat.zero_le _, rfl, CW.start h z31_size⟩
  case round =>
    obtain ⟨r, hr, rfl, hC⟩ := hrel
    by_cases hlt : r < 8
    · obtain ⟨w1, rfl⟩ : ∃ w1 : World, w1 = wr := ⟨_, rfl⟩
      go_wp2_with fail
      go_loopw [4] (fun i wr => ∃ a : Nat, a ≤ n ∧ i = .int .i64 a ∧ CW w wr n (clA n (clR n L r) a)) (fun i _ => n - (intOf i).toNat)
      case atStart => exact ⟨0, Nat.zero_le _, rfl, hC⟩
      case round =>
        obtain ⟨a, ha, rfl, hD⟩ := hrel
        clear hC
        have hnum := hD.num
        by_cases hla : a < n
        · obtain ⟨w2, rfl⟩ : ∃ w2 : World, w2 = wr := ⟨_, rfl⟩
          go_wp2_with fail
          clear hnum
          go_loopw [5] (fun i wr => ∃ b : Nat, b ≤ n ∧ i = .int .i64 b ∧ CW w wr n (clB n (clA n (clR n L r) a) a b)) (fun i _ => n - (intOf i).toNat)
          case atStart => exact ⟨0, Nat.zero_le _, rfl, hD⟩
          case round =>
            obtain ⟨b, hb, rfl, hE⟩ := hrel
            clear hD
            have hnum := hE.num
            by_cases hlb : b < n
            · obtain ⟨w3, rfl⟩ : ∃ w3 : World, w3 = wr := ⟨_, rfl⟩
              go_wp2_with fail
              clear hnum
              generalize hM : clB n (clA n (clR n L r) a) a b = M at *
              have HM := Lib.hid hM
              clear hM
              go_loopw [6] (fun i wr => ∃ c : Nat, c ≤ n ∧ i = .int .i64 c ∧ CW w wr n (clIn M a b c)) (fun i _ => n - (intOf i).toNat)
              case atStart => exact ⟨0, Nat.zero_le _, rfl, hE⟩
              case round =>
                obtain ⟨c, hc, rfl, hF⟩ := hrel
                clear hE
                have hnum := hF.num
                by_cases hlc : c < n
                · have t1 := hF.cell (a := a) (c := b) (by omega) (by omega)
                  have t2 := hF.cell (a := b) (c := c) (by omega) (by omega)
                  have t3 := hF.cell (a := a) (c := c) (by omega) (by omega)
                  have ff := hF.free (1 + a * 8 + c)
                  cases h1 : clIn M a b c a b
                  · have Hn : Hid (clIn M a b (c + 1) = clIn M a b c) := Lib.hid (by rw [clIn, h1]; rfl)
                    rw [h1] at t1
                    clear h1 t2
                    go_wp2_with fail
                    go_roundw
                    case rel => exact ⟨c + 1, by omega, by go_num, by rw [Hn.out]; exact hF⟩
                    case measure => simp [intOf]; omega
                  cases h2 : clIn M a b c b c
                  · have Hn : Hid (clIn M a b (c + 1) = clIn M a b c) := Lib.hid (by rw [clIn, h1, h2]; rfl)
                    rw [h1] at t1
                    rw [h2] at t2
                    clear h1 h2
                    go_wp2_with fail
                    go_roundw
                    case rel => exact ⟨c + 1, by omega, by go_num, by rw [Hn.out]; exact hF⟩
                    case measure => simp [intOf]; omega
                  · have Hn : Hid (clIn M a b (c + 1) = setL (clIn M a b c) a c) := Lib.hid (by rw [clIn, h1, h2]; rfl)
                    rw [h1] at t1
                    rw [h2] at t2
                    clear h1 h2
                    go_wp2_with fail
                    go_roundw
                    case rel => exact ⟨c + 1, by omega, by go_num, by rw [Hn.out]; exact hF.set (by omega) (by omega)⟩
                    case measure => simp [intOf]; omega
                · obtain rfl : c = n := by omega
                  have Hn : Hid (clB c (clA c (clR c L r) a) a (b + 1) = clIn M a b c) := Lib.hid (by rw [clB, HM.out])
                  go_wp2_with fail
                  go_roundw
                  case rel => exact ⟨b + 1, by omega, by go_num, by rw [Hn.out]; exact hF⟩
                  case measure => simp [intOf]; omega
            · obtain rfl : b = n := by omega
              go_wp2_with fail
              go_roundw
              case rel => exact ⟨a + 1, by omega, by go_num, hE⟩
              case measure => simp [intOf]; omega
        · obtain rfl : a = n := by omega
          go_wp2_with fail
          go_roundw
          case rel => exact ⟨r + 1, by omega, by go_num, hD⟩
          case measure => simp [intOf]; omega
    · obtain rfl : r = 8 := by omega
      obtain ⟨cs1, hg, hR⟩ := hC.acc
      obtain ⟨z, hz, hz5⟩ := hC.res
      have hb := hC.below
      have hsz := Lib.hid hR.sz
      have hz5' := Lib.hid hz5
      clear hz5 hlt hr hC
      have h1 := hR.one
      have hfin := setRow_heap wr (w.heap.size + 1) z cs1 28 (0, 0) hz
      have hbf := below_setRow hb (show w.heap.size ≤ w.heap.size + 1 by omega) cs1
      go_wp2_with (first | (refine ld31 rfl _ rfl _ rfl _ hg hsz.out ?_) | (refine st31 rfl _ _ rfl _ _ rfl rfl _ hz hsz.out hz5'.out h1 ?_) | fail)
      exact bodyPost_ret (v := .agg cs1) (results_cell_row rfl _ _ _ 28 _ (0, 0) _ rfl hfin Try.underlying28 rfl (by rw [info31, hsz.out])) rfl ⟨_, rfl, hR, hbf⟩
end Go.Proofs.Ytmnbalmihehodaa

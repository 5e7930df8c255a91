/-
  Contracts of basculeref01: Make whole, Bottom, Top, Near.
-/
import Derived.Test.YtmnbalmihehodaaRmake
namespace Go.Proofs.Ytmnbalmihehodaa
open Go.RowKit

/-- The document's error code, whatever is handed in. -/
def rErr (n : Int) (len : Nat) (p q : Nat → Int) : Int := if mbo n len p q then (if rlatK n.toNat (rcl n.toNat len p q) n.toNat then 0 else 16) else 2

theorem rMake_all (n : Int) (A : Option Addr) (len cap : Nat) (p q : Nat → Int) (w : World) (hp : Prs w w.heap.size A len p q) :
    Calls Try.prog 25 #[.int .i64 n, .slice A len cap] w (GivesM (rErr n len p q) n.toNat (rcl n.toNat len p q) w) := by
  by_cases h1 : 1 ≤ n ∧ n ≤ 8
  · obtain ⟨k, rfl⟩ := Int.eq_ofNat_of_zero_le (show 0 ≤ n by omega)
    by_cases h2 : len ≤ 64
    · have e : rErr k len p q = rcode k len p q := by simp [rErr, rcode, mbo, h1.1, h1.2, h2]
      rw [e]
      exact rMake_main k A len cap p q w (by omega) (by omega) h2 hp
    · have e : rErr k len p q = 2 := by simp [rErr, mbo, h2]
      rw [e]
      exact rMake_long k A len cap _ _ w h1.1 h1.2 (by omega)
  · have e : rErr n len p q = 2 := by
      have : (decide (1 ≤ n) && decide (n ≤ 8)) = false := by simp; omega
      simp [rErr, mbo, this]
    rw [e]
    exact rMake_n n _ _ _ w h1

/-- The document's bottom, behind so many rounds. -/
def rbF (n : Nat) (L : Nat → Nat → Bool) : Nat → Nat
  | 0 => 0
  | k + 1 => (rJ n L (rbF n L k) (k + 1)).getD 0

theorem rbF_lt {n : Nat} {L : Nat → Nat → Bool} (hn : 1 ≤ n) : ∀ k, rbF n L k < n := by
  intro k
  induction k with
  | zero => simp [rbF]; omega
  | succ k ih =>
    unfold rbF
    cases h : rJ n L (rbF n L k) (k + 1) with
    | none => simp; omega
    | some c =>
      unfold rJ at h
      rw [List.find?_range_eq_some] at h
      simpa using h.2.1

set_option maxHeartbeats 400000 in
theorem rBottom_any {cs : Array Value} {n : Nat} {L : Nat → Nat → Bool} (w : World) (h : RLat cs n L) (hn : 1 ≤ n) (hm : ∀ a b, a < n → b < n → (rJ n (flip L) a b).isSome = true) :
    Calls Try.prog 31 #[.agg cs] w fun e w' => e = .returned (.int .i64 (rbF n (flip L) (n - 1))) ∧ Below w.heap.size w w' := by
  have hg : (w.alloc (.cells cs 28)).heap[w.heap.size]? = some (.cells cs 28 (0, 0)) := heap_alloc_new w _
  have hb : Below w.heap.size w (w.alloc (.cells cs 28)) := (Below.refl _ _).alloc (Nat.le_refl _) _
  have n8 := h.n8
  have hsz := Lib.hid h.sz
  have hs1 : w.heap.size < (w.alloc (.cells cs 28)).heap.size := by simp
  go_enter Try.func31, Try.ntmps31
  go_wp2_with fail
  go_loopw [3, 4] (fun x i wr => ∃ k : Nat, k + 1 ≤ n ∧ i = .int .i64 ((k + 1 : Nat) : Int) ∧ x = .int .i64 (rbF n (flip L) k) ∧ Below w.heap.size w wr ∧ Hid (wr.heap[w.heap.size]? = some (.cells cs 28 (0, 0)))) (fun _ i _ => n - (intOf i).toNat)
  case atStart => exact ⟨0, hn, rfl, rfl, hb, hg⟩
  case round =>
    obtain ⟨k, hk, rfl, rfl, hbr, hgr⟩ := hrel
    have hnum := (cell_of_heap hgr.out 0).trans h.num
    have hlt := (Array.getElem?_eq_some_iff.1 hgr.out).1
    by_cases hlk : k + 1 < n
    · have hx := rbF_lt (L := flip L) hn k
      have hsome := hm (rbF n (flip L) k) (k + 1) hx hlk
      have Hv : Hid (rV (rJ n (flip L) (rbF n (flip L) k) (k + 1)) = (rbF n (flip L) (k + 1) : Nat)) := Lib.hid (by
        rw [rbF]
        cases hc : rJ n (flip L) (rbF n (flip L) k) (k + 1) with
        | none => rw [hc] at hsome; cases hsome
        | some c => rfl)
      clear hsome
      go_wp2_with (first | (refine ld31 rfl _ rfl _ rfl _ hgr.out hsz.out ?_) | fail)
      refine (rMeet_any (rbF n (flip L) k) (k + 1) _ h hx hlk).mono ?_
      rintro e w1 ⟨rfl, hb1⟩
      rw [Hv.out]
      have hb2 := hbr.trans (hb1.mono hbr.size)
      have hg2 : Hid (w1.heap[w.heap.size]? = some (.cells cs 28 (0, 0))) := Lib.hid ((hb1.block _ hlt).trans hgr.out)
      clear hbr hgr hb1
      go_wp2_with fail
      go_roundw
      case rel => exact ⟨k + 1, by omega, by go_num, rfl, hb2, hg2⟩
      case measure => simp [intOf]; omega
    · have hk' : n - 1 = k := by omega
      go_wp2_with fail
      go_ret
      exact ⟨by rw [hk']; rfl, hbr⟩
set_option maxHeartbeats 400000 in
theorem rTop_any {cs : Array Value} {n : Nat} {L : Nat → Nat → Bool} (w : World) (h : RLat cs n L) (hn : 1 ≤ n) (hm : ∀ a b, a < n → b < n → (rJ n L a b).isSome = true) :
    Calls Try.prog 32 #[.agg cs] w fun e w' => e = .returned (.int .i64 (rbF n L (n - 1))) ∧ Below w.heap.size w w' := by
  have hg : (w.alloc (.cells cs 28)).heap[w.heap.size]? = some (.cells cs 28 (0, 0)) := heap_alloc_new w _
  have hb : Below w.heap.size w (w.alloc (.cells cs 28)) := (Below.refl _ _).alloc (Nat.le_refl _) _
  have n8 := h.n8
  have hsz := Lib.hid h.sz
  have hs1 : w.heap.size < (w.alloc (.cells cs 28)).heap.size := by simp
  go_enter Try.func32, Try.ntmps32
  go_wp2_with fail
  go_loopw [3, 4] (fun x i wr => ∃ k : Nat, k + 1 ≤ n ∧ i = .int .i64 ((k + 1 : Nat) : Int) ∧ x = .int .i64 (rbF n L k) ∧ Below w.heap.size w wr ∧ Hid (wr.heap[w.heap.size]? = some (.cells cs 28 (0, 0)))) (fun _ i _ => n - (intOf i).toNat)
  case atStart => exact ⟨0, hn, rfl, rfl, hb, hg⟩
  case round =>
    obtain ⟨k, hk, rfl, rfl, hbr, hgr⟩ := hrel
    have hnum := (cell_of_heap hgr.out 0).trans h.num
    have hlt := (Array.getElem?_eq_some_iff.1 hgr.out).1
    by_cases hlk : k + 1 < n
    · have hx := rbF_lt (L := L) hn k
      have hsome := hm (rbF n L k) (k + 1) hx hlk
      have Hv : Hid (rV (rJ n L (rbF n L k) (k + 1)) = (rbF n L (k + 1) : Nat)) := Lib.hid (by
        rw [rbF]
        cases hc : rJ n L (rbF n L k) (k + 1) with
        | none => rw [hc] at hsome; cases hsome
        | some c => rfl)
      clear hsome
      go_wp2_with (first | (refine ld31 rfl _ rfl _ rfl _ hgr.out hsz.out ?_) | fail)
      refine (rJoin_any (rbF n L k) (k + 1) _ h hx hlk).mono ?_
      rintro e w1 ⟨rfl, hb1⟩
      rw [Hv.out]
      have hb2 := hbr.trans (hb1.mono hbr.size)
      have hg2 : Hid (w1.heap[w.heap.size]? = some (.cells cs 28 (0, 0))) := Lib.hid ((hb1.block _ hlt).trans hgr.out)
      clear hbr hgr hb1
      go_wp2_with fail
      go_roundw
      case rel => exact ⟨k + 1, by omega, by go_num, rfl, hb2, hg2⟩
      case measure => simp [intOf]; omega
    · have hk' : n - 1 = k := by omega
      go_wp2_with fail
      go_ret
      exact ⟨by rw [hk']; rfl, hbr⟩

/-- A row that is owned stays owned where nothing that was there turns. -/
theorem own_below {w w' : World} {base e size n : Nat} {v : Value} {xs : List Value} (h : w.ownsRow base e size v n xs) (hb : Below w.heap.size w w') : w'.ownsRow base e size v n xs := by
  refine ⟨h.1, ?_⟩
  rcases h.2 with h0 | ⟨g, cap, cur, hv, hg, hh, r⟩
  · exact .inl h0
  · exact .inr ⟨g, cap, cur, hv, hg, (hb.block g (Array.getElem?_eq_some_iff.1 hh).1).trans hh, r⟩

/-- The labels near a, of the first k: what it is at or above (up: at or below). -/
def nearK (n : Nat) (L : Nat → Nat → Bool) (a : Int) (up : Bool) (k : Nat) : List Nat :=
  (List.range k).filter fun b => (up && rleq n L a b) || (!up && rleq n L b a)
theorem near_hit {n k : Nat} {L : Nat → Nat → Bool} {a : Int} {up : Bool} (h : ((up && rleq n L a k) || (!up && rleq n L k a)) = true) : nearK n L a up (k + 1) = nearK n L a up k ++ [k] := by
  simp only [nearK, List.range_succ, List.filter_append]
  simp [h]
theorem near_miss {n k : Nat} {L : Nat → Nat → Bool} {a : Int} {up : Bool} (h : ((up && rleq n L a k) || (!up && rleq n L k a)) = false) : nearK n L a up (k + 1) = nearK n L a up k := by
  simp only [nearK, List.range_succ, List.filter_append]
  simp [h]
theorem near_le (n : Nat) (L : Nat → Nat → Bool) (a : Int) (up : Bool) (k : Nat) : (nearK n L a up k).length ≤ k := Nat.le_trans (List.length_filter_le _ _) (by simp)

/-- What is returned is a row of the call's own, somewhere behind the box. -/
theorem row_hit {K K' : List Nat} {k : Nat} {w wr w1 : World} {u v' : Value} {o : Obj} (hK : K' = K ++ [k]) (hB : w.heap.size + 1 ≤ wr.heap.size)
    (hown : wr.ownsRow (w.heap.size + 1) 3 1 u K.length (intsOf K)) (hnx : Below w.heap.size w wr)
    (hown' : w1.ownsRow (w.heap.size + 1) 3 1 v' (K.length + 1) (intsOf K ++ [.int .i64 (k : Int)])) (hgrow : (wr.alloc o).grownBy w1 u.ownBlock) :
    w1.ownsRow (w.heap.size + 1) 3 1 v' K'.length (intsOf K') ∧ Below w.heap.size w w1 ∧ Below (w.heap.size + 1) wr w1 := by
  rw [hK]
  refine ⟨by simpa [intsOf] using hown', (hnx.alloc (by omega) o).grown hgrow (by simp; omega) (fun j hj => by have := (hown.lt j hj).1; omega),
    ((Below.refl _ wr).alloc hB o).grown hgrow (by simp; omega) (fun j hj => (hown.lt j hj).1)⟩

/-- What is returned is a row that holds these. -/
def GivesRow1 (L : List Nat) (w : World) (e : Ending) (w' : World) : Prop :=
  ∃ v, e = .returned v ∧ w'.ownsRow (w.heap.size + 1) 3 1 v L.length (intsOf L) ∧ Below w.heap.size w w'


end Go.Proofs.Ytmnbalmihehodaa

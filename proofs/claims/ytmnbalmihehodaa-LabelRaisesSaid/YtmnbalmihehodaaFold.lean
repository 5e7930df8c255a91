/-
  Contracts of label's fold, JoinAll and MeetAll.
-/
import Derived.Test.YtmnbalmihehodaaSame
namespace Go.Proofs.Ytmnbalmihehodaa
open Go.RowKit

/-- Are all of the list labels? -/
def okL (n : Nat) (f : Nat → Int) (k : Nat) : Bool := (List.range k).all fun i => isL n (f i)
theorem okL_succ (n : Nat) (f : Nat → Int) (k : Nat) : okL n f (k + 1) = (okL n f k && isL n (f k)) := by simp [okL, List.range_succ]
theorem okL_mono {n : Nat} {f : Nat → Int} {k m : Nat} (h : okL n f k = false) (hkm : k ≤ m) : okL n f m = false := by
  rw [← Bool.not_eq_true] at h ⊢
  intro hm
  apply h
  simp only [okL, List.all_eq_true, List.mem_range] at hm ⊢
  exact fun i hi => hm i (by omega)
theorem okL_iff {n : Nat} {f : Nat → Int} {k : Nat} : okL n f k = true ↔ ∀ i, i < k → isL n (f i) = true := by simp [okL]

/-- What fold has behind k rounds. -/
def fo (op : Nat → Nat → Nat) (s : Nat) (f : Nat → Int) : Nat → Nat
  | 0 => s
  | k + 1 => op (fo op s f k) (f k).toNat
theorem fo_lt {n : Nat} {op : Nat → Nat → Nat} (hop : ∀ x y, x < n → y < n → op x y < n) {s : Nat} (hs : s < n) {f : Nat → Int} : ∀ k, okL n f k = true → fo op s f k < n
  | 0, _ => hs
  | k + 1, h => by
    rw [okL_succ] at h
    simp only [Bool.and_eq_true] at h
    have := isL_iff.1 h.2
    exact hop _ _ (fo_lt hop hs k h.1) (by omega)

/-- A function of labels, by a method that is bound to a lattice. -/
structure Pairs (g n : Nat) (A B : Nat → Nat) (k : FuncId) (op : Nat → Nat → Nat) : Prop where
  fn : k = 28 ∨ k = 30
  lt : ∀ x y, x < n → y < n → op x y < n
  yes : ∀ (x y : Nat) (w : World), Lat w g n A B → x < n → y < n →
    Calls Try.prog k #[.pointer (some ⟨g, 0, none⟩), .int .i64 (x : Int), .int .i64 (y : Int)] w fun e w' => e = .returned (.tuple #[.int .i64 (op x y : Nat), .int .i64 0]) ∧ Below w.heap.size w w'
  no : ∀ (a b : Int) (w : World), Lat w g n A B → isL n b = false →
    Calls Try.prog k #[.pointer (some ⟨g, 0, none⟩), .int .i64 a, .int .i64 b] w fun e w' => e = .returned (.tuple #[.int .i64 0, .int .i64 3]) ∧ w = w'

theorem pairs_join {g n : Nat} {A B : Nat → Nat} (hlt : ∀ x y, x < n → y < n → jn n A x y < n) : Pairs g n A B 28 (jn n A) where
  fn := by simp
  lt := hlt
  yes x y w h hx hy := by
    have i1 : isL n (x : Int) = true := isL_iff.2 ⟨by omega, by omega⟩
    have i2 : isL n (y : Int) = true := isL_iff.2 ⟨by omega, by omega⟩
    have := Join_yes (x : Int) (y : Int) w h i1 i2
    simpa only [Int.toNat_natCast] using this
  no a b w h hb := Join_no a b w h (by rw [hb, Bool.and_false])
theorem pairs_meet {g n : Nat} {A B : Nat → Nat} (hlt : ∀ x y, x < n → y < n → jn n B x y < n) : Pairs g n A B 30 (jn n B) where
  fn := by simp
  lt := hlt
  yes x y w h hx hy := by
    have i1 : isL n (x : Int) = true := isL_iff.2 ⟨by omega, by omega⟩
    have i2 : isL n (y : Int) = true := isL_iff.2 ⟨by omega, by omega⟩
    have := Meet_yes (x : Int) (y : Int) w h i1 i2
    simpa only [Int.toNat_natCast] using this
  no a b w h hb := Meet_no a b w h (by rw [hb, Bool.and_false])

/-- What fold hands back. -/
def foldV (n : Nat) (op : Nat → Nat → Nat) (s : Nat) (f : Nat → Int) (len : Nat) : Value :=
  if okL n f len then .tuple #[.int .i64 (fo op s f len : Nat), .int .i64 0] else .tuple #[.int .i64 0, .int .i64 3]

theorem fold_nil (s : Int) (v u : Value) (w : World) : Calls Try.prog 26 #[.pointer none, .int .i64 s, v, u] w fun e w' => e = .returned (.tuple #[.int .i64 0, .int .i64 1]) ∧ w = w' := by
  go_enter Try.func26, Try.ntmps26
  go_wp2_with fail
  go_ret2
  exact ⟨rfl, rfl⟩

set_option maxHeartbeats 1000000 in
theorem fold_any {g n : Nat} {A B : Nat → Nat} {k : FuncId} {op : Nat → Nat → Nat} (hP : Pairs g n A B k op) (s : Nat) (hs : s < n) (C : Option Addr) (len cap : Nat) (f : Nat → Int) (w : World) (hl : len ≤ 1000)
    (h : Lat w g n A B) (hR : Rd w w.heap.size C len f) :
    Calls Try.prog 26 #[.pointer (some ⟨g, 0, none⟩), .int .i64 (s : Int), .slice C len cap, .func (.func k) #[.pointer (some ⟨g, 0, none⟩)] #[]] w fun e w' => e = .returned (foldV n op s f len) ∧ Below w.heap.size w w' := by
  have n8 := h.n8
  obtain rfl | rfl := hP.fn
  all_goals
    go_enter Try.func26, Try.ntmps26
    go_wp2_with fail
    go_loopw [10, 20] (fun m i wr => ∃ j : Nat, j ≤ len ∧ i = .int .i64 j ∧ m = .int .i64 (fo op s f j : Nat) ∧ Hid (okL n f j = true) ∧ Lat wr g n A B ∧ Below w.heap.size w wr) (fun _ i _ => len - (intOf i).toNat)
    case atStart => exact ⟨0, Nat.zero_le _, rfl, rfl, rfl, h, Below.refl _ _⟩
    case round =>
      obtain ⟨j, hj, rfl, rfl, hok, hL, hb⟩ := hrel
      by_cases hlt : j < len
      · obtain ⟨g1, o1, rfl, hg1, hc1⟩ := hR (by omega)
        have d1 := (hb.cell (p := ⟨g1, o1 + j, none⟩) hg1).trans (hc1 j hlt)
        have hfl := fo_lt hP.lt hs j hok.out
        cases hx : isL n (f j)
        · have HV : Hid (foldV n op s f len = .tuple #[.int .i64 0, .int .i64 3]) := Lib.hid (by
            have : okL n f len = false := okL_mono (k := j + 1) (by rw [okL_succ, hok.out, hx]; rfl) (by omega)
            rw [foldV, this]; rfl)
          have Hx := Lib.hid hx
          clear hR hc1 hx
          go_wp2_with fail
          refine (hP.no _ _ _ hL Hx.out).mono ?_
          rintro e w' ⟨rfl, rfl⟩
          go_wp2_with fail
          go_ret2
          exact ⟨by rw [HV.out]; rfl, hb⟩
        · have HO : Hid (okL n f (j + 1) = true) := Lib.hid (by rw [okL_succ, hok.out, hx]; rfl)
          obtain ⟨x0, x1⟩ := isL_iff.1 hx
          have HF : Hid (fo op s f (j + 1) = op (fo op s f j) (f j).toNat) := rfl
          have HQ := Lib.hid (hP.yes (fo op s f j) (f j).toNat wr hL hfl (by omega))
          have HE : Hid (((f j).toNat : Int) = f j) := Lib.hid (by omega)
          rw [HE.out] at HQ
          clear hR hc1 hx
          go_wp2_with fail
          refine HQ.out.mono ?_
          rintro e w' ⟨rfl, hb'⟩
          have hL' := hL.keep hb'
          have hbb := hb.trans (hb'.mono hb.size)
          clear hL hb hb' HQ
          go_wp2_with fail
          go_roundw
          case rel => exact ⟨j + 1, by omega, by go_num, by rw [HF.out], HO, hL', hbb⟩
          case measure => simp [intOf]; omega
      · obtain rfl : j = len := by omega
        have HV : Hid (foldV n op s f j = .tuple #[.int .i64 (fo op s f j : Nat), .int .i64 0]) := Lib.hid (by rw [foldV, hok.out]; rfl)
        go_wp2_with fail
        go_ret2
        exact ⟨by rw [HV.out]; rfl, hb⟩
end Go.Proofs.Ytmnbalmihehodaa

/-
  The library's walk back over a slice of ints.
  Walks one after the other, plainly: the first, over all nodes; the second, back, from the last that was left on.
  Contracts of the library's own functions that the program calls: the library's contracts, laid at this translation.
-/
import Derived.RangeFuncNested
import Derived.RangeFuncBound
import Derived.RangeFuncCalls
import Derived.RangeFuncLeaves
import Derived.RangeFuncBox
import Derived.Shelf.Abstract
import Derived.Shelf.RegionOpen
import Derived.WalkKit
import Derived.OwnWalkIn
import Derived.TacticsInMore
import Derived.LoopNIn
import Derived.LoopIn
import Derived.Test.YtmbjmibjobpdgaaM01
import Derived.Test.YtmbjmibjobpdgaaM25
import Derived.Test.YtmbjmibjobpdgaaM27
import Derived.Shelf.Strconv.Itoa0
import Derived.Shelf.Bits.Mul64
import Derived.Ground.SlgmProg
import Derived.Shelf.SortM.Plain
import Derived.Shelf.SortM.SortNone
import Derived.Test.YtmbjmibjobpdgaaProg
namespace Go.Proofs.Ytmbjmibjobpdgaa
open Go.RowKit Go.Shelf

attribute [local go_sem] Oper.semAt_some
/-- What a round keeps: the slice's cells and its box. -/
structure KpB (gs bn : Nat) (W W' : World) : Prop where
  row : W'.heap[gs]? = W.heap[gs]?
  box : W'.heap[bn]? = W.heap[bn]?
  size : W.heap.size ≤ W'.heap.size
theorem KpB.refl (gs bn : Nat) (W : World) : KpB gs bn W W := ⟨rfl, rfl, Nat.le_refl _⟩
theorem KpB.trans {gs bn : Nat} {A B C : World} (h : KpB gs bn A B) (k : KpB gs bn B C) : KpB gs bn A C := ⟨k.row.trans h.row, k.box.trans h.box, Nat.le_trans h.size k.size⟩
theorem kpB_b {gs bn : Nat} {w : World} (h1 : gs < w.heap.size) (h2 : bn < w.heap.size) (W : World) (l : Nat) (o o' : Obj) (hl : w.heap.size ≤ l) (_ : W.heap[l]? = some o) (_ : o.isCells = false) (_ : o.isWalk = false) : KpB gs bn W (W.putObj l o') :=
  ⟨World.putObj_heap_other (by omega), World.putObj_heap_other (by omega), by simp⟩
theorem cell_of_same {W W' : World} {g : Nat} (h : W'.heap[g]? = W.heap[g]?) (i : Nat) : W'.cell? ⟨g, i, none⟩ = W.cell? ⟨g, i, none⟩ := by
  unfold World.cell?
  rw [h]
/-- What came when k rounds are over: from the last place down. -/
def backL (N k : Nat) : List Nat := (List.range k).map fun j => N - 1 - j
theorem backL_succ (N k : Nat) : backL N (k + 1) = backL N k ++ [N - 1 - k] := by simp [backL, List.range_succ]
theorem backL_len (N k : Nat) : (backL N k).length = k := by simp [backL]
/-- A place and what stands there. -/
def encB (nd : Nat → Nat) (x : Nat) : Array Value := #[.int .i64 (x : Int), .int .i64 (nd x : Int)]
set_option maxRecDepth 100000 in
set_option maxHeartbeats 2000000 in
theorem back1_in (F : Fence) (n : Nat) (hf : F.fn 63) (hro : F.round = none) (hn : 1 ≤ n) (l Bs gs off N cap : Nat) (A : Option Addr) (nd : Nat → Nat) (hA : 0 < N → A = some ⟨gs, off, none⟩) (hN : N ≤ 10000) (J Jx : List Nat → World → Prop)
    (hY : ∀ pre x W, J pre W → pre.length < N → YieldAt F (n - 1) Try.prog l (encB nd x) W fun e W' =>
      (e = .returned (.bool true) ∧ J (pre ++ [x]) W' ∧ KpB gs Bs W W') ∨ (e = .returned (.bool false) ∧ Jx (pre ++ [x]) W'))
    (W : World) (hBs : W.cell? ⟨Bs, 0, none⟩ = some (.slice A N cap)) (hc : ∀ j, j < N → W.cell? ⟨gs, off + j, none⟩ = some (.int .i64 (nd j : Int))) (h0 : J [] W) :
    CallsIn F n Try.prog 63 #[.func (.yield l) #[] #[], .pointer (some ⟨Bs, 0, none⟩)] W fun e W' => (∃ v, e = .returned v) ∧
      ((∃ ys, ys = backL N N ∧ J ys W') ∨ (∃ pre, True ∧ Jx pre W')) := by
  refine callsIn_of_wp Try.func63 rfl hf ?_ hro
  simp only [Try.ntmps63, List.size_toArray, List.length_cons, List.length_nil, Nat.reduceAdd, Nat.reduceSub, Array.replicate_succ, Array.replicate_zero, List.push_toArray, List.append_toArray, List.nil_append, List.cons_append]
  gi_wp2
  gi_loopw [3] (fun i wr => ∃ m : Nat, m ≤ N ∧ i = .int .i64 ((m : Int) - 1) ∧ J (backL N (N - m)) wr ∧ KpB gs Bs W wr)
    (fun i _ => (intOf i + 1).toNat)
  case atStart => exact ⟨N, Nat.le_refl _, by go_num, by rw [Nat.sub_self]; exact h0, KpB.refl _ _ _⟩
  case round =>
    obtain ⟨m, hm, rfl, hJs, hk⟩ := hrel
    cases m with
    | zero =>
      have e0 : ((0 : Nat) : Int) - 1 = -1 := rfl
      rw [e0]
      gi_wp2
      go_end0
      exact ⟨⟨_, rfl⟩, .inl ⟨_, rfl, hJs⟩⟩
    | succ j =>
      have e1 : ((j + 1 : Nat) : Int) - 1 = (j : Int) := by omega
      rw [e1]
      obtain rfl := hA (by omega)
      have b0 := (cell_of_same hk.box 0).trans hBs
      have b1 := (cell_of_same hk.row (off + j)).trans (hc j (by omega))
      obtain ⟨fn, tmps, assign, body, hy, hR⟩ := hY _ j wr hJs (by rw [backL_len]; omega)
      unfold encB at hy
      gi_wp2
      refine hR.mono ?_
      rintro e W3 (⟨rfl, hJ3, hk3⟩ | ⟨rfl, hJx3⟩)
      · gi_wp2
        go_roundw
        case rel =>
          refine ⟨j, by omega, by go_num, ?_, hk.trans hk3⟩
          have e2 : N - j = N - (j + 1) + 1 := by omega
          have e3 : N - 1 - (N - (j + 1)) = j := by omega
          rw [e2, backL_succ, e3]
          exact hJ3
        case measure => simp [intOf]
      · gi_wp2
        refine bodyPost_ret (results_none rfl _ _ _) rfl ?_
        exact ⟨⟨_, rfl⟩, .inr ⟨_, trivial, hJx3⟩⟩
set_option maxHeartbeats 1000000 in
/-- slices.Backward(s): the slice is boxed; the function value captures the box. -/
theorem back_in (F : Fence) (n : Nat) (hf : F.fn 31) (hro : F.round = none) (a : Option Addr) (len cap : Nat) (w : World) :
    CallsIn F n Try.prog 31 #[.slice a len cap] w fun e w' => e = .returned (.func (.func 63) #[] #[.pointer (some ⟨w.heap.size, 0, none⟩)]) ∧ w' = w.alloc (.cells #[.slice a len cap] 30) := by
  refine callsIn_of_wp Try.func31 rfl hf ?_ hro
  simp only [Try.ntmps31, List.size_toArray, List.length_cons, List.length_nil, Nat.reduceAdd, Nat.reduceSub, Array.replicate_succ, Array.replicate_zero, List.push_toArray, List.append_toArray, List.nil_append, List.cons_append]
  gi_wp2
  go_ret
  exact ⟨rfl, rfl⟩
/-- It hands the slice's places over, from the last one down. -/
theorem back_stops (F : Fence) (n : Nat) (hf : F.fn 63) (hro : F.round = none) (hn : 1 ≤ n) (Bs gs off N cap : Nat) (A : Option Addr) (nd : Nat → Nat) (hA : 0 < N → A = some ⟨gs, off, none⟩) (hN : N ≤ 10000) (w : World) (hBs : Bs < w.heap.size) (hgs : gs < w.heap.size)
    (hb : w.cell? ⟨Bs, 0, none⟩ = some (.slice A N cap)) (hc : ∀ j, j < N → w.cell? ⟨gs, off + j, none⟩ = some (.int .i64 (nd j : Int))) :
    SeqStopsK F n Try.prog 63 #[.pointer (some ⟨Bs, 0, none⟩)] (encB nd) (KpB gs Bs) (fun ys => ys = backL N N) (fun _ => True) N w := fun l J Jx W hW _ _ hY h0 =>
  back1_in F n hf hro hn l Bs gs off N cap A nd hA hN J Jx hY W ((hW.cell (p := ⟨Bs, 0, none⟩) hBs).trans hb) (fun j hj => (hW.cell (p := ⟨gs, off + j, none⟩) hgs).trans (hc j hj)) h0
end Go.Proofs.Ytmbjmibjobpdgaa
namespace Go.Proofs.Ytmbjmibjobpdgaa

section
variable {R : Nat → List Nat} {old roots : Nat → Prop} {d : Ds} {n : Nat}
theorem opnSum_le {f g : Nat → List Nat} (h : ∀ x, (f x).length ≤ (g x).length) : ∀ n, opnSum f n ≤ opnSum g n
  | 0 => Nat.le_refl _
  | n + 1 => Nat.add_le_add (opnSum_le h n) (h n)
def Suf (R opn : Nat → List Nat) : Prop := ∀ x, ∃ pre, R x = pre ++ opn x
theorem Suf.step (h : Suf R d.opn) : Suf R d.step.opn := by
  unfold Ds.step
  cases hs : d.stk with
  | nil => exact h
  | cons x s =>
    dsimp only
    cases ho : d.opn x with
    | nil => exact h
    | cons y r =>
      dsimp only
      have key : Suf R (fup d.opn x r) := fun v => by
        by_cases e : v = x
        · subst e
          rw [fup_same]
          obtain ⟨pre, he⟩ := h v
          exact ⟨pre ++ [y], by rw [he, ho]; simp⟩
        · rw [fup_far e]; exact h v
      split
      · exact key
      · exact key
theorem Suf.steps (h : Suf R d.opn) : ∀ k, Suf R (steps d k).opn
  | 0 => h
  | k + 1 => (Suf.steps h k).step
theorem Suf.sum (h : Suf R d.opn) (n : Nat) : opnSum d.opn n ≤ opnSum R n := opnSum_le (fun x => by obtain ⟨pre, e⟩ := h x; rw [e]; simp) n
theorem Suf.lt (h : Suf R d.opn) (hR : ∀ x, x < n → ∀ y ∈ R x, y < n) : ∀ x, x < n → ∀ y ∈ d.opn x, y < n := fun x hx y hy => by
  obtain ⟨pre, e⟩ := h x
  exact hR x hx y (by rw [e]; simp [hy])
theorem met_step {v : Nat} (h : d.met v = true) : d.step.met v = true := by
  unfold Ds.step
  cases hs : d.stk with
  | nil => exact h
  | cons x s =>
    dsimp only
    cases ho : d.opn x with
    | nil => exact h
    | cons y r =>
      dsimp only
      split
      · exact h
      · show fup d.met y true v = true
        unfold fup
        split
        · rfl
        · exact h
theorem met_steps {v : Nat} (h : d.met v = true) : ∀ k, (steps d k).met v = true
  | 0 => h
  | k + 1 => met_step (met_steps h k)
theorem Inv.steps (h : Inv R old roots d) : ∀ k, Inv R old roots (steps d k)
  | 0 => h
  | k + 1 => (Inv.steps h k).step
theorem Inv.lt (h : Inv R old (fun x => x < n) d) (hs : d.stk = []) (hR : ∀ x, x < n → ∀ y ∈ R x, y < n) {x : Nat} (hx : x ∈ d.lft) : x < n := by
  obtain ⟨r, hr, h2, hrc, h4⟩ := h.above hs _ x hx (Nat.le_refl _)
  clear hx h2 h4
  induction hrc with
  | refl => exact hr
  | snoc _ e _ ih => exact hR _ ih _ e
end
/-- Amid the first walk: the first k nodes were roots. -/
structure Wk1 (R : Nat → List Nat) (n k : Nat) (d : Ds) : Prop where
  inv : Inv R (fun _ => False) (fun x => x < n) d
  stk : d.stk = []
  suf : Suf R d.opn
  all : ∀ x, x < k → d.met x = true
theorem Wk1.start (R : Nat → List Nat) (n : Nat) : Wk1 R n 0 ⟨fun _ => false, R, [], [], fun _ => 0⟩ :=
  ⟨Inv.start R _ _ _ _ (fun _ => ⟨(fun h => by cases h), fun h => h.elim⟩) (fun _ _ => rfl), rfl, fun _ => ⟨[], rfl⟩, fun x h => by omega⟩
section
variable {R : Nat → List Nat} {n k : Nat} {d : Ds}
theorem Wk1.skip (h : Wk1 R n k d) (hm : d.met k = true) : Wk1 R n (k + 1) d :=
  ⟨h.inv, h.stk, h.suf, fun x hx => by
    rcases Nat.lt_or_ge x k with h1 | h1
    · exact h.all x h1
    · obtain rfl : x = k := by omega
      exact hm⟩
theorem Wk1.walk (h : Wk1 R n k d) (hk : k < n) (hm : d.met k = false) {j : Nat} (hs : (steps (d.push k) j).stk = []) : Wk1 R n (k + 1) (steps (d.push k) j) :=
  ⟨(h.inv.push hm (.inl ⟨hk, h.stk⟩)).steps j, hs, Suf.steps (d := d.push k) h.suf j, fun x hx => by
    refine met_steps ?_ j
    show fup d.met k true x = true
    rcases Nat.lt_or_ge x k with h1 | h1
    · rw [fup_far (by omega)]; exact h.all x h1
    · obtain rfl : x = k := by omega
      exact fup_same _ _ _⟩
theorem Wk1.left (h : Wk1 R n n d) {x : Nat} (hx : x < n) : x ∈ d.lft := by
  have := (h.inv.met x).1 (h.all x hx)
  rw [h.stk] at this
  simpa using this
end
/-- What the second walk holds: what was met, the ways left, the pieces so far. -/
structure St where
  met : Nat → Bool
  opn : Nat → List Nat
  ps : List (List Nat)
/-- The second walk, over a list of places. -/
inductive Run2 (Q : Nat → List Nat) (nd : Nat → Nat) : List Nat → St → Prop
  | nil : Run2 Q nd [] ⟨fun _ => false, Q, []⟩
  | skip {pre : List Nat} {s : St} {x : Nat} (h : Run2 Q nd pre s) (hm : s.met (nd x) = true) : Run2 Q nd (pre ++ [x]) s
  | walk {pre : List Nat} {s : St} {x k : Nat} (h : Run2 Q nd pre s) (hm : s.met (nd x) = false) (hs : (steps (Ds.push ⟨s.met, s.opn, [], [], fun _ => 0⟩ (nd x)) k).stk = []) :
      Run2 Q nd (pre ++ [x]) ⟨(steps (Ds.push ⟨s.met, s.opn, [], [], fun _ => 0⟩ (nd x)) k).met, (steps (Ds.push ⟨s.met, s.opn, [], [], fun _ => 0⟩ (nd x)) k).opn, s.ps ++ [(steps (Ds.push ⟨s.met, s.opn, [], [], fun _ => 0⟩ (nd x)) k).lft]⟩
theorem Run2.suf {Q : Nat → List Nat} {nd : Nat → Nat} {L : List Nat} {s : St} (h : Run2 Q nd L s) : Suf Q s.opn := by
  induction h with
  | nil => exact fun _ => ⟨[], rfl⟩
  | skip _ _ ih => exact ih
  | @walk pre s x k _ _ _ ih => exact Suf.steps (d := Ds.push ⟨s.met, s.opn, [], [], fun _ => 0⟩ (nd x)) ih k
theorem Run2.inv {Q : Nat → List Nat} {nd : Nat → Nat} {L : List Nat} {s : St} (h : Run2 Q nd L s) : (L = [] ∧ s = ⟨fun _ => false, Q, []⟩) ∨ ∃ pre x s0, L = pre ++ [x] ∧ Run2 Q nd pre s0 ∧ ((s0.met (nd x) = true ∧ s = s0) ∨ (s0.met (nd x) = false ∧ ∃ k, (steps (Ds.push ⟨s0.met, s0.opn, [], [], fun _ => 0⟩ (nd x)) k).stk = [] ∧ s = ⟨(steps (Ds.push ⟨s0.met, s0.opn, [], [], fun _ => 0⟩ (nd x)) k).met, (steps (Ds.push ⟨s0.met, s0.opn, [], [], fun _ => 0⟩ (nd x)) k).opn, s0.ps ++ [(steps (Ds.push ⟨s0.met, s0.opn, [], [], fun _ => 0⟩ (nd x)) k).lft]⟩)) := by
  cases h with
  | nil => exact .inl ⟨rfl, rfl⟩
  | skip h hm => exact .inr ⟨_, _, _, rfl, h, .inl ⟨hm, rfl⟩⟩
  | walk h hm hs => exact .inr ⟨_, _, _, rfl, h, .inr ⟨hm, _, hs, rfl⟩⟩
/-- From the last place down: what the pieces are. -/
theorem Run2.pcs {R Q : Nat → List Nat} {n : Nat} {d : Ds} {nd : Nat → Nat} (h1 : Wk1 R n n d) (hR : ∀ x, n ≤ x → R x = []) (hQ : ∀ x y, y ∈ Q x ↔ x ∈ R y) (hnd : ∀ j x, d.lft[j]? = some x → nd j = x) :
    ∀ k, k ≤ d.lft.length → ∀ s, Run2 Q nd (backL d.lft.length k) s → Pcs R d.lft (d.lft.length - k) s.ps s.met ∧ ∀ x, s.met x = false → s.opn x = Q x := by
  intro k
  induction k with
  | zero =>
    intro _ s h
    rcases h.inv with ⟨_, rfl⟩ | ⟨pre, x, s0, e, _⟩
    · exact ⟨Pcs.nil R d.lft, fun _ _ => rfl⟩
    · exact absurd e (by simp [backL])
  | succ k ih =>
    intro hk s h
    rw [backL_succ] at h
    rcases h.inv with ⟨e, _⟩ | ⟨pre, x, s0, e, h0, hs⟩
    · exact absurd e (by simp)
    · obtain ⟨rfl, ex⟩ := List.append_inj' e rfl
      obtain rfl : d.lft.length - 1 - k = x := by simpa using ex
      obtain ⟨hp, hw⟩ := ih (by omega) s0 h0
      have hj : d.lft.length - 1 - k < d.lft.length := by omega
      obtain ⟨y, hx⟩ : ∃ y, d.lft[d.lft.length - 1 - k]? = some y := ⟨_, List.getElem?_eq_getElem hj⟩
      have hnx := hnd _ _ hx
      have ej : d.lft.length - k = d.lft.length - (k + 1) + 1 := by omega
      have ej2 : d.lft.length - 1 - k = d.lft.length - (k + 1) := by omega
      rw [hnx] at hs
      rw [ej] at hp
      rw [ej2] at hx
      rcases hs with ⟨hm, rfl⟩ | ⟨hm, j, hst, rfl⟩
      · exact ⟨hp.skip hx hm, hw⟩
      · have h2 := ((Inv.start Q (fun v => s0.met v = true) (fun v => v = y) s0.met s0.opn (fun _ => Iff.rfl) hw).push hm (.inl ⟨rfl, rfl⟩)).steps j
        have hx2 : y ∈ (steps (Ds.push ⟨s0.met, s0.opn, [], [], fun _ => 0⟩ y) j).lft := by
          have h3 := (h2.met y).1 (met_steps (d := Ds.push ⟨s0.met, s0.opn, [], [], fun _ => 0⟩ y) (show fup s0.met y true y = true from fup_same _ _ _) j)
          rw [hst] at h3
          rcases h3 with h3 | h3 | h3
          · rw [hm] at h3; cases h3
          · exact h3
          · cases h3
        refine ⟨hp.add h1.inv hQ (fun z hz => ?_) hx hm h2 hst hx2, h2.whole⟩
        obtain ⟨v, hv⟩ := hz
        refine h1.left ?_
        rcases Nat.lt_or_ge z n with h4 | h4
        · exact h4
        · rw [hR z h4] at hv; cases hv
end Go.Proofs.Ytmbjmibjobpdgaa
namespace Go.Proofs.Ytmbjmibjobpdgaa
open Go.Shelf
def lays264_ren : Go.Shelf.Ren := ⟨fun | 264 => 100 | n => n, fun | 53 => 137 | 46 => 45 | n => n, fun | n => n⟩
theorem lays264 : Go.Proofs.Lays.n264 Try.prog lays264_ren := {
  mixed := by kernel_rfl
  f264 := Try.func100.trans (congrArg some (by kernel_rfl))
  t46 := Try.underlying45
  a46 := Try.isAgg45
  z46 := Try.sizeOf45
  v46 := Try.zeroValue45
  t53 := Try.underlying137
  a53 := Try.isAgg137
  z53 := Try.sizeOf137
  v53 := Try.zeroValue137 }
open Go.RowKit Go.Lib in
theorem lib_bits_Mul64 (x y : Nat) (hx : x < 18446744073709551616) (hy : y < 18446744073709551616) (w : World) :
    Calls Try.prog 100 #[.int .u64 x, .int .u64 y] w fun e w' => e = .returned (.tuple #[.int .u64 ((x * y / 18446744073709551616 : Nat) : Int), .int .u64 ((x * y % 18446744073709551616 : Nat) : Int)]) ∧ w' = w := Any.bits_Mul64 lays264 x y hx hy w
def lays212_ren : Go.Shelf.Ren := ⟨fun | 212 => 91 | 263 => 99 | 264 => 100 | n => n, fun | 46 => 45 | 51 => 135 | 146 => 147 | 53 => 137 | 148 => 149 | n => n, fun | n => n⟩
theorem lays212 : Go.Proofs.Lays.n212 Try.prog lays212_ren := {
  mixed := by kernel_rfl
  f212 := Try.func91.trans (congrArg some (by kernel_rfl))
  f263 := Try.func99.trans (congrArg some (by kernel_rfl))
  f264 := Try.func100.trans (congrArg some (by kernel_rfl))
  t46 := Try.underlying45
  a46 := Try.isAgg45
  z46 := Try.sizeOf45
  v46 := Try.zeroValue45
  t51 := Try.underlying135
  a51 := Try.isAgg135
  z51 := Try.sizeOf135
  v51 := Try.zeroValue135
  t53 := Try.underlying137
  a53 := Try.isAgg137
  z53 := Try.sizeOf137
  v53 := Try.zeroValue137
  t146 := Try.underlying147
  a146 := Try.isAgg147
  z146 := Try.sizeOf147
  v146 := Try.zeroValue147
  t148 := Try.underlying149
  a148 := Try.isAgg149
  z148 := Try.sizeOf149
  v148 := Try.zeroValue149 }
open Go.RowKit Go.Lib in
theorem lib_bits_Mul (x y : Nat) (hx : x < 18446744073709551616) (hy : y < 18446744073709551616) (w : World) :
    Calls Try.prog 91 #[.int .u64 x, .int .u64 y] w fun e w' => e = .returned (.tuple #[.int .u64 ((x * y / 18446744073709551616 : Nat) : Int), .int .u64 ((x * y % 18446744073709551616 : Nat) : Int)]) ∧ w' = w := Any.bits_Mul lays212 x y hx hy w
def laysSlM5_f35_ren : Go.Shelf.Ren := ⟨fun | 5 => 35 | 8 => 66 | 7 => 65 | 19 => 89 | 20 => 90 | 10 => 81 | 11 => 82 | 12 => 83 | 13 => 84 | 14 => 85 | 15 => 86 | 16 => 71 | 17 => 87 | 18 => 88 | 30 => 94 | 31 => 95 | 32 => 96 | 33 => 97 | 34 => 98 | 35 => 92 | 40 => 101 | n => n, fun | 23 => 30 | 25 => 3 | 3 => 3 | 32 => 45 | 22 => 30 | 0 => 0 | 44 => 135 | 46 => 137 | 4 => 4 | 36 => 129 | 35 => 128 | 41 => 33 | 5 => 5 | 9 => 9 | 53 => 141 | 57 => 145 | 63 => 151 | 64 => 152 | n => n, fun | n => n⟩
theorem laysSlM5_f35 : Go.Proofs.SlLaysM.n5 Try.prog laysSlM5_f35_ren := {
  mixed := by kernel_rfl
  f5 := ⟨Try.f35.name, by decide, Try.func35.trans (congrArg some (by kernel_rfl))⟩
  f7 := ⟨Try.f65.name, by decide, Try.func65.trans (congrArg some (by kernel_rfl))⟩
  f8 := Try.func66.trans (congrArg some (by kernel_rfl))
  f10 := ⟨Try.f81.name, by decide, Try.func81.trans (congrArg some (by kernel_rfl))⟩
  f11 := ⟨Try.f82.name, by decide, Try.func82.trans (congrArg some (by kernel_rfl))⟩
  f12 := ⟨Try.f83.name, by decide, Try.func83.trans (congrArg some (by kernel_rfl))⟩
  f13 := ⟨Try.f84.name, by decide, Try.func84.trans (congrArg some (by kernel_rfl))⟩
  f14 := ⟨Try.f85.name, by decide, Try.func85.trans (congrArg some (by kernel_rfl))⟩
  f15 := ⟨Try.f86.name, by decide, Try.func86.trans (congrArg some (by kernel_rfl))⟩
  f16 := ⟨Try.f71.name, by decide, Try.func71.trans (congrArg some (by kernel_rfl))⟩
  f17 := ⟨Try.f87.name, by decide, Try.func87.trans (congrArg some (by kernel_rfl))⟩
  f18 := ⟨Try.f88.name, by decide, Try.func88.trans (congrArg some (by kernel_rfl))⟩
  f19 := Try.func89.trans (congrArg some (by kernel_rfl))
  f20 := Try.func90.trans (congrArg some (by kernel_rfl))
  f30 := ⟨Try.f94.name, by decide, Try.func94.trans (congrArg some (by kernel_rfl))⟩
  f31 := Try.func95.trans (congrArg some (by kernel_rfl))
  f32 := Try.func96.trans (congrArg some (by kernel_rfl))
  f33 := ⟨Try.f97.name, by decide, Try.func97.trans (congrArg some (by kernel_rfl))⟩
  f34 := ⟨Try.f98.name, by decide, Try.func98.trans (congrArg some (by kernel_rfl))⟩
  f35 := ⟨Try.f92.name, by decide, Try.func92.trans (congrArg some (by kernel_rfl))⟩
  f40 := ⟨Try.f101.name, by decide, Try.func101.trans (congrArg some (by kernel_rfl))⟩
  t0 := Try.underlying0
  a0 := Try.isAgg0
  z0 := Try.sizeOf0
  v0 := Try.zeroValue0
  t3 := Try.underlying3
  a3 := Try.isAgg3
  z3 := Try.sizeOf3
  v3 := Try.zeroValue3
  t4 := Try.underlying4
  a4 := Try.isAgg4
  z4 := Try.sizeOf4
  v4 := Try.zeroValue4
  t5 := Try.underlying5
  a5 := Try.isAgg5
  z5 := Try.sizeOf5
  v5 := Try.zeroValue5
  t9 := Try.underlying9
  a9 := Try.isAgg9
  z9 := Try.sizeOf9
  v9 := Try.zeroValue9
  t22 := Try.underlying30
  a22 := Try.isAgg30
  z22 := Try.sizeOf30
  v22 := Try.zeroValue30
  t23 := Try.underlying30
  a23 := Try.isAgg30
  z23 := Try.sizeOf30
  v23 := Try.zeroValue30
  t25 := Try.underlying3
  a25 := Try.isAgg3
  z25 := Try.sizeOf3
  v25 := Try.zeroValue3
  t32 := Try.underlying45
  a32 := Try.isAgg45
  z32 := Try.sizeOf45
  v32 := Try.zeroValue45
  t35 := Try.underlying128
  a35 := Try.isAgg128
  z35 := Try.sizeOf128
  v35 := Try.zeroValue128
  t36 := Try.underlying129
  a36 := Try.isAgg129
  z36 := Try.sizeOf129
  v36 := Try.zeroValue129
  t41 := Try.underlying33
  a41 := Try.isAgg33
  z41 := Try.sizeOf33
  v41 := Try.zeroValue33
  t44 := Try.underlying135
  a44 := Try.isAgg135
  z44 := Try.sizeOf135
  v44 := Try.zeroValue135
  t46 := Try.underlying137
  a46 := Try.isAgg137
  z46 := Try.sizeOf137
  v46 := Try.zeroValue137
  t53 := Try.underlying141
  a53 := Try.isAgg141
  z53 := Try.sizeOf141
  v53 := Try.zeroValue141
  t57 := Try.underlying145
  a57 := Try.isAgg145
  z57 := Try.sizeOf145
  v57 := Try.zeroValue145
  t63 := Try.underlying151
  a63 := Try.isAgg151
  z63 := Try.sizeOf151
  v63 := Try.zeroValue151
  t64 := Try.underlying152
  a64 := Try.isAgg152
  z64 := Try.sizeOf152
  v64 := Try.zeroValue152 }
end Go.Proofs.Ytmbjmibjobpdgaa

/-
  The contract of basculeref01.Make.
-/
import Derived.Test.YtmnbalmihehodaaRclose
namespace Go.Proofs.Ytmnbalmihehodaa
open Go.RowKit

/-- A lattice of n, nothing in its table. -/
def r31 (n : Int) : Array Value := #[.int .i64 n] ++ Array.replicate 64 (.bool false)
theorem r31_size (n : Int) : (r31 n).size = 65 := by simp [r31]
theorem built31 (n : Int) : Try.prog.built 28 [(0, .int .i64 n)] = some (r31 n) := by kernel_rfl
theorem built31z : Try.prog.built 28 [] = some z31 := by kernel_rfl
theorem z31_one : z31.all (·.oneCell') = true := by decide +kernel
theorem r31_one (n : Int) : (r31 n).all (·.oneCell') = true := by
  unfold r31
  rw [Array.all_append]
  have : (Array.replicate 64 (Value.bool false)).all (·.oneCell') = true := by decide +kernel
  rw [this]
  simp [Value.oneCell']

theorem bld31 {ops : Array Oper} {rest : List Oper} {o : Oper} {a : Act} {w : World} {Q : Exit → Act → World → Prop} (hw : o.guard = none) (x : Operand) (ho : o.op = .build 28 #[(0, x)])
    (n : Int) (hx : a.eval x = .int .i64 n) (h : wpList Try.prog ops Q rest (a.put o.dst (.agg (r31 n))) w) : wpList Try.prog ops Q (o :: rest) a w := by
  refine wpList_build hw 28 _ ho ?_ ?_
  · simp [hx, built31]
  · simpa [hx, built31] using h
theorem bld31z {ops : Array Oper} {rest : List Oper} {o : Oper} {a : Act} {w : World} {Q : Exit → Act → World → Prop} (hw : o.guard = none) (ho : o.op = .build 28 #[])
    (h : wpList Try.prog ops Q rest (a.put o.dst (.agg z31)) w) : wpList Try.prog ops Q (o :: rest) a w := by
  refine wpList_build hw 28 _ ho ?_ ?_
  · simp [built31z]
  · simpa [built31z] using h

/-- What Make hands back: an error code, and a lattice where there is none. -/
def GivesM (f : Int) (n : Nat) (L : Nat → Nat → Bool) (w : World) (e : Ending) (w' : World) : Prop :=
  ∃ cs, e = .returned (.tuple #[.agg cs, .int .i64 f]) ∧ cs.size = 65 ∧ cs.all (·.oneCell') = true ∧ (f = 0 → RLat cs n L) ∧ Below w.heap.size w w'

theorem results_ct {fn : Func} {p t : Tmp} (h : fn.results = #[.cell p 28, .tmp t]) (tmps : Array Value) (w : World) (g : Nat) (cs : Array Value)
    (hp : tmps.getD p undef = .pointer (some ⟨g, 0, none⟩)) (hg : w.heap[g]? = some (.cells cs 28 (0, 0))) (hs : cs.size = 65) :
    (results fn tmps).run Try.prog w = .ok (.tuple #[.agg cs, tmps.getD t undef]) w := by
  have hp' : tmps[p]?.getD undef = .pointer (some ⟨g, 0, none⟩) := by simpa using hp
  simp [results, h, hp', asAddr, run_loadVar_row w g 28 28 cs (0, 0) _ hg Try.underlying28 rfl (by rw [info31, hs])]

set_option maxRecDepth 100000 in
theorem rMake_n (n : Int) (v : Value) (k : Nat) (L : Nat → Nat → Bool) (w : World) (h : ¬ (1 ≤ n ∧ n ≤ 8)) :
    Calls Try.prog 25 #[.int .i64 n, v] w (GivesM 2 k L w) := by
  have hzero := zero31
  have hg : (w.alloc (.cells z31 28)).heap[w.heap.size]? = some (.cells z31 28 (0, 0)) := heap_alloc_new w _
  have hb : Below w.heap.size w (w.alloc (.cells z31 28)) := (Below.refl _ _).alloc (Nat.le_refl _) _
  have hfin := setRow_heap _ _ z31 z31 28 (0, 0) hg
  have hbf := below_setRow hb (Nat.le_refl _) z31
  by_cases h1 : n < 1
  · go_enter Try.func25, Try.ntmps25
    go_wp2_with (first | (refine bld31z rfl rfl ?_) | (refine st31 rfl _ _ rfl _ _ rfl rfl _ hg z31_size z31_size z31_one ?_) | fail)
    exact bodyPost_ret (results_ct rfl _ _ _ _ rfl hfin z31_size) rfl ⟨_, rfl, z31_size, z31_one, (fun h => by cases h), hbf⟩
  · have h2 : 8 < n := by omega
    have h3 : ¬ n < 1 := h1
    go_enter Try.func25, Try.ntmps25
    go_wp2_with (first | (refine bld31z rfl rfl ?_) | (refine st31 rfl _ _ rfl _ _ rfl rfl _ hg z31_size z31_size z31_one ?_) | fail)
    exact bodyPost_ret (results_ct rfl _ _ _ _ rfl hfin z31_size) rfl ⟨_, rfl, z31_size, z31_one, (fun h => by cases h), hbf⟩

set_option maxRecDepth 100000 in
theorem rMake_long (n : Int) (A : Option Addr) (len cap : Nat) (k : Nat) (L : Nat → Nat → Bool) (w : World) (h1 : 1 ≤ n) (h2 : n ≤ 8) (h : 64 < len) :
    Calls Try.prog 25 #[.int .i64 n, .slice A len cap] w (GivesM 2 k L w) := by
  have hzero := zero31
  have hg : (w.alloc (.cells z31 28)).heap[w.heap.size]? = some (.cells z31 28 (0, 0)) := heap_alloc_new w _
  have hb : Below w.heap.size w (w.alloc (.cells z31 28)) := (Below.refl _ _).alloc (Nat.le_refl _) _
  have hfin := setRow_heap _ _ z31 z31 28 (0, 0) hg
  have hbf := below_setRow hb (Nat.le_refl _) z31
  have h3 : (64 : Int) < len := by omega
  go_enter Try.func25, Try.ntmps25
  go_wp2_with (first | (refine bld31z rfl rfl ?_) | (refine st31 rfl _ _ rfl _ _ rfl rfl _ hg z31_size z31_size z31_one ?_) | fail)
  exact bodyPost_ret (results_ct rfl _ _ _ _ rfl hfin z31_size) rfl ⟨_, rfl, z31_size, z31_one, (fun h => by cases h), hbf⟩

/-- The document's table, in the making. -/
def idK : Nat → (Nat → Nat → Bool)
  | 0 => fun _ _ => false
  | k + 1 => setL (idK k) k k
def prL (p q : Nat → Int) (L : Nat → Nat → Bool) : Nat → (Nat → Nat → Bool)
  | 0 => L
  | k + 1 => setL (prL p q L k) (p k).toNat (q k).toNat
/-- The document's closed order. -/
def rcl (n len : Nat) (p q : Nat → Int) : Nat → Nat → Bool := clR n (prL p q (idK n) len) 8
/-- Are these two labels as they should be? -/
def rgood (n : Nat) (L : Nat → Nat → Bool) (a b : Nat) : Bool := !(a != b && (L a b && L b a)) && ((rJ n L a b).isSome && (rJ n (flip L) a b).isSome)
def rgoodIn (n : Nat) (L : Nat → Nat → Bool) (a k : Nat) : Bool := (List.range k).all fun b => rgood n L a b
def rlatK (n : Nat) (L : Nat → Nat → Bool) (k : Nat) : Bool := (List.range k).all fun a => rgoodIn n L a n
theorem rgoodIn_succ (n : Nat) (L : Nat → Nat → Bool) (a k : Nat) : rgoodIn n L a (k + 1) = (rgoodIn n L a k && rgood n L a k) := by simp [rgoodIn, List.range_succ]
theorem rlatK_succ (n : Nat) (L : Nat → Nat → Bool) (k : Nat) : rlatK n L (k + 1) = (rlatK n L k && rgoodIn n L k n) := by simp [rlatK, List.range_succ]
theorem rlatK_bad {n : Nat} {L : Nat → Nat → Bool} {a b : Nat} (h : rgood n L a b = false) (hb : b < n) (ha : a < n) : rlatK n L n = false := by
  rw [← Bool.not_eq_true]
  intro hl
  simp only [rlatK, rgoodIn, List.all_eq_true, List.mem_range] at hl
  have := hl a ha b hb
  rw [h] at this
  cases this

/-- The world amid Make. -/
structure MW (w wr : World) (n : Nat) (L : Nat → Nat → Bool) : Prop where
  below : Below w.heap.size w wr
  size : w.heap.size + 2 ≤ wr.heap.size
  res : ∃ z, wr.heap[w.heap.size]? = some (.cells z 28 (0, 0)) ∧ z.size = 65
  acc : ∃ cs, wr.heap[w.heap.size + 1]? = some (.cells cs 28 (0, 0)) ∧ RLat cs n L

theorem MW.set {w wr : World} {n : Nat} {L : Nat → Nat → Bool} (h : MW w wr n L) {a c : Nat} (ha : a < 8) (hc : c < 8) :
    MW w (wr.setCell ⟨w.heap.size + 1, 1 + a * 8 + c, none⟩ (.bool true)) n (setL L a c) := by
  obtain ⟨cs, hcs, hR⟩ := h.acc
  obtain ⟨z, hz, hz5⟩ := h.res
  exact ⟨h.below.setCell (by simp) _, by simpa [World.setCell] using h.size, ⟨z, by rw [Below.heap_setCell _ _ _ _ (by simp)]; exact hz, hz5⟩, ⟨_, heap_set hcs _ _, hR.set ha hc⟩⟩
theorem MW.drewN {w wr : World} {n : Nat} {L : Nat → Nat → Bool} (h : MW w wr n L) (k : Nat) : MW w (wr.drewN k) n L := ⟨below_draws h.below k, h.size, h.res, h.acc⟩
theorem MW.keep {w wr w' : World} {n : Nat} {L : Nat → Nat → Bool} (h : MW w wr n L) (hb : Below wr.heap.size wr w') : MW w w' n L := by
  obtain ⟨cs, hcs, hR⟩ := h.acc
  obtain ⟨z, hz, hz5⟩ := h.res
  have := h.size
  exact ⟨h.below.trans (hb.mono h.below.size), Nat.le_trans this hb.size, ⟨z, (hb.block _ (by omega)).trans hz, hz5⟩, ⟨cs, (hb.block _ (by omega)).trans hcs, hR⟩⟩
theorem MW.cell {w wr : World} {n : Nat} {L : Nat → Nat → Bool} (h : MW w wr n L) {a c : Nat} (ha : a < 8) (hc : c < 8) : wr.cell? ⟨w.heap.size + 1, 1 + a * 8 + c, none⟩ = some (.bool (L a c)) := by
  obtain ⟨cs, hcs, hR⟩ := h.acc
  exact (cell_of_heap hcs _).trans (hR.tab a c ha hc)
theorem MW.free {w wr : World} {n : Nat} {L : Nat → Nat → Bool} (h : MW w wr n L) (i : Nat) : wr.frozen? ⟨w.heap.size + 1, i, none⟩ = false := by
  obtain ⟨cs, hcs, _⟩ := h.acc
  exact frozen_of_heap hcs i
theorem r31_lat (n : Nat) (hn : n ≤ 8) : RLat (r31 n) n (idK 0) := by
  refine ⟨r31_size n, hn, by simp [r31], fun a b ha hb => ?_⟩
  unfold r31 idK
  rw [Array.getElem?_append_right (by simp; omega), Array.getElem?_replicate, if_pos (by simp; omega)]

theorem MW.start (w : World) (n : Nat) (hn : n ≤ 8) : MW w (((w.alloc (.cells z31 28)).alloc (.cells z31 28)).setRow (w.heap.size + 1) (r31 n)) n (idK 0) := by
  have h0 : ((w.alloc (.cells z31 28)).alloc (.cells z31 28)).heap[w.heap.size]? = some (.cells z31 28 (0, 0)) := by
    rw [Below.heap_alloc _ _ _ (by simp)]; exact heap_alloc_new _ _
  have h1 : ((w.alloc (.cells z31 28)).alloc (.cells z31 28)).heap[w.heap.size + 1]? = some (.cells z31 28 (0, 0)) := by
    have := heap_alloc_new (w.alloc (.cells z31 28)) (.cells z31 28)
    simpa using this
  refine ⟨below_setRow (((Below.refl _ _).alloc (Nat.le_refl _) _).alloc (by simp) _) (by omega) _, by simp, ⟨z31, ?_, z31_size⟩, ⟨_, setRow_heap _ _ _ _ _ _ h1, r31_lat n hn⟩⟩
  rw [heap_setRow_far _ _ _ _ (by omega)]
  exact h0
theorem MW.row {w wr : World} {n : Nat} {L M : Nat → Nat → Bool} {cs : Array Value} (h : MW w wr n L) (hR : RLat cs n M) : MW w (wr.setRow (w.heap.size + 1) cs) n M := by
  obtain ⟨cs0, hcs, hR0⟩ := h.acc
  obtain ⟨z, hz, hz5⟩ := h.res
  exact ⟨below_setRow h.below (by omega) _, by simpa using h.size, ⟨z, by rw [heap_setRow_far _ _ _ _ (by omega)]; exact hz, hz5⟩, ⟨cs, setRow_heap _ _ _ _ _ _ hcs, hR⟩⟩

/-- The error code. -/
def rcode (n len : Nat) (p q : Nat → Int) : Int := if okK n p q len then (if rlatK n (rcl n len p q) n then 0 else 16) else 2

set_option maxRecDepth 100000 in
set_option maxHeartbeats 4000000 in
theorem rMake_main (n : Nat) (A : Option Addr) (len cap : Nat) (p q : Nat → Int) (w : World) (h1 : 1 ≤ n) (h2 : n ≤ 8) (hlen : len ≤ 64) (hp : Prs w w.heap.size A len p q) :
    Calls Try.prog 25 #[.int .i64 n, .slice A len cap] w (GivesM (rcode n len p q) n (rcl n len p q) w) := by
  have hzero := zero31
  have hg1 : ((w.alloc (.cells z31 28)).alloc (.cells z31 28)).heap[w.heap.size + 1]? = some (.cells z31 28 (0, 0)) := by
    have := heap_alloc_new (w.alloc (.cells z31 28)) (.cells z31 28)
    simpa using this
  have h3 : (len : Int) ≤ 64 := by omega
  go_enter Try.func25, Try.ntmps25
  go_wp2_with (first | (refine bld31 rfl _ rfl n rfl ?_) | (refine st31 rfl _ _ rfl _ _ rfl rfl _ hg1 (r31_size _) z31_size (r31_one _) ?_) | fail)
  clear hzero hg1
  go_loopw [7] (fun i wr => ∃ a : Nat, a ≤ n ∧ i = .int .i64 a ∧ MW w wr n (idK a)) (fun i _ => n - (intOf i).toNat)
  case atStart => exact ⟨0, Nat.zero_le _, rfl, MW.start w n h2⟩
  case round =>
    obtain ⟨a, ha, rfl, hI⟩ := hrel
    by_cases hla : a < n
    · have hc := hI.cell (a := a) (c := a) (by omega) (by omega)
      have hf := hI.free (1 + a * 8 + a)
      go_wp2_with fail
      go_roundw
      case rel => exact ⟨a + 1, by omega, by go_num, hI.set (by omega) (by omega)⟩
      case measure => simp [intOf]; omega
    · obtain rfl : a = n := by omega
      clear hla ha
      go_wp2_with fail
      go_loopw [8] (fun i wr => ∃ j : Nat, j ≤ len ∧ i = .int .i64 j ∧ Hid (okK a p q j = true) ∧ MW w wr a (prL p q (idK a) j)) (fun i _ => len - (intOf i).toNat)
      case atStart => exact ⟨0, Nat.zero_le _, rfl, rfl, hI⟩
      case round =>
        obtain ⟨j, hj, rfl, hok, hJ⟩ := hrel
        clear hI
        by_cases hlj : j < len
        · obtain ⟨g, off, rfl, hg, hc⟩ := hp (by omega)
          obtain ⟨c0, c1⟩ := hc j hlj
          have d0 := (hJ.below.cell (p := ⟨g, off + j * 2, none⟩) hg).trans c0
          have d1 := (hJ.below.cell (p := ⟨g, off + j * 2 + 1, none⟩) hg).trans c1
          have hj0 : (0 : Int) ≤ j := by omega
          have hj1 : (j : Int) < len := by omega
          clear hc c0 c1
          go_wp2_with fail
          go_quiet (fail)
          clear d0 d1
          rename_i nq
          by_cases g1 : 0 ≤ p j
          case neg =>
            have Hf : Hid (rcode a len p q = 2) := Lib.hid (by rw [rcode, okK_mono (show okK a p q (j + 1) = false by rw [okK_succ]; simp [g1]) (show j + 1 ≤ len by omega)]; rfl)
            have hD := hJ.drewN nq
            obtain ⟨z, hz, hz5⟩ := hD.res
            have hz5' := Lib.hid hz5
            have hfin := setRow_heap _ _ _ z31 28 (0, 0) hz
            have hbf := below_setRow hD.below (Nat.le_refl _) z31
            clear hz5 hJ hD
            go_wp2_with (first | (refine bld31z rfl rfl ?_) | (refine st31 rfl _ _ rfl _ _ rfl rfl _ hz z31_size hz5'.out z31_one ?_) | fail)
            exact bodyPost_ret (results_ct rfl _ _ _ _ rfl hfin z31_size) rfl ⟨_, by rw [Hf.out]; rfl, z31_size, z31_one, (fun h => by rw [Hf.out] at h; cases h), hbf⟩
          by_cases g2 : p j < a
          case neg =>
            have Hf : Hid (rcode a len p q = 2) := Lib.hid (by rw [rcode, okK_mono (show okK a p q (j + 1) = false by rw [okK_succ]; simp [g2]) (show j + 1 ≤ len by omega)]; rfl)
            have hD := hJ.drewN nq
            obtain ⟨z, hz, hz5⟩ := hD.res
            have hz5' := Lib.hid hz5
            have hfin := setRow_heap _ _ _ z31 28 (0, 0) hz
            have hbf := below_setRow hD.below (Nat.le_refl _) z31
            clear hz5 hJ hD
            go_wp2_with (first | (refine bld31z rfl rfl ?_) | (refine st31 rfl _ _ rfl _ _ rfl rfl _ hz z31_size hz5'.out z31_one ?_) | fail)
            exact bodyPost_ret (results_ct rfl _ _ _ _ rfl hfin z31_size) rfl ⟨_, by rw [Hf.out]; rfl, z31_size, z31_one, (fun h => by rw [Hf.out] at h; cases h), hbf⟩
          by_cases g3 : 0 ≤ q j
          case neg =>
            have Hf : Hid (rcode a len p q = 2) := Lib.hid (by rw [rcode, okK_mono (show okK a p q (j + 1) = false by rw [okK_succ]; simp [g3]) (show j + 1 ≤ len by omega)]; rfl)
            have hD := hJ.drewN nq
            obtain ⟨z, hz, hz5⟩ := hD.res
            have hz5' := Lib.hid hz5
            have hfin := setRow_heap _ _ _ z31 28 (0, 0) hz
            have hbf := below_setRow hD.below (Nat.le_refl _) z31
            clear hz5 hJ hD
            go_wp2_with (first | (refine bld31z rfl rfl ?_) | (refine st31 rfl _ _ rfl _ _ rfl rfl _ hz z31_size hz5'.out z31_one ?_) | fail)
            exact bodyPost_ret (results_ct rfl _ _ _ _ rfl hfin z31_size) rfl ⟨_, by rw [Hf.out]; rfl, z31_size, z31_one, (fun h => by rw [Hf.out] at h; cases h), hbf⟩
          by_cases g4 : q j < a
          case neg =>
            have Hf : Hid (rcode a len p q = 2) := Lib.hid (by rw [rcode, okK_mono (show okK a p q (j + 1) = false by rw [okK_succ]; simp [g4]) (show j + 1 ≤ len by omega)]; rfl)
            have hD := hJ.drewN nq
            obtain ⟨z, hz, hz5⟩ := hD.res
            have hz5' := Lib.hid hz5
            have hfin := setRow_heap _ _ _ z31 28 (0, 0) hz
            have hbf := below_setRow hD.below (Nat.le_refl _) z31
            clear hz5 hJ hD
            go_wp2_with (first | (refine bld31z rfl rfl ?_) | (refine st31 rfl _ _ rfl _ _ rfl rfl _ hz z31_size hz5'.out z31_one ?_) | fail)
            exact bodyPost_ret (results_ct rfl _ _ _ _ rfl hfin z31_size) rfl ⟨_, by rw [Hf.out]; rfl, z31_size, z31_one, (fun h => by rw [Hf.out] at h; cases h), hbf⟩
          have Hf : Hid (okK a p q (j + 1) = true) := Lib.hid (by rw [okK_succ, hok.out]; simp [g1, g2, g3, g4])
          have hD := hJ.drewN nq
          have hc := hD.cell (a := (p j).toNat) (c := (q j).toNat) (by omega) (by omega)
          have hf := hD.free (1 + (p j).toNat * 8 + (q j).toNat)
          have g2' : p j < 8 := by omega
          have g4' : q j < 8 := by omega
          clear hJ
          go_wp2_with fail
          go_roundw
          case rel => exact ⟨j + 1, by omega, by go_num, Hf, hD.set (by omega) (by omega)⟩
          case measure => simp [intOf]; omega
        · obtain rfl : j = len := by omega
          clear hlj hj
          obtain ⟨cs, hcs, hR⟩ := hJ.acc
          have hsz := Lib.hid hR.sz
          go_wp2_with (first | (refine ld31 rfl _ rfl _ rfl _ hcs hsz.out ?_) | fail)
          refine (close_ref _ hR).mono ?_
          rintro e w1 ⟨cs1, rfl, hR1, hb1⟩
          have hK := hJ.keep hb1
          obtain ⟨cs2, hcs2, hR2⟩ := hK.acc
          have hsz1 := Lib.hid hR1.sz
          have hsz2 := Lib.hid hR2.sz
          have hone := hR1.one
          have hM := hK.row hR1
          clear hJ hcs hR hb1 hK hR2
          go_wp2_with (first | (refine st31 rfl _ _ rfl _ _ rfl rfl _ hcs2 hsz1.out hsz2.out hone ?_) | fail)
          clear hcs2
          generalize w1.setRow (w.heap.size + 1) cs1 = w2 at *
          have Hc : Hid (clR a (prL p q (idK a) j) 8 = rcl a j p q) := rfl
          rw [Hc.out] at hM
          go_loopw [11] (fun i wr => ∃ x : Nat, x ≤ a ∧ i = .int .i64 x ∧ Hid (rlatK a (rcl a j p q) x = true) ∧ MW w wr a (rcl a j p q)) (fun i _ => a - (intOf i).toNat)
          case atStart => exact ⟨0, Nat.zero_le _, rfl, rfl, hM⟩
          case round =>
            obtain ⟨x, hx, rfl, hrl, hX⟩ := hrel
            clear hM
            by_cases hlx : x < a
            · obtain ⟨w5, rfl⟩ : ∃ w5 : World, w5 = wr := ⟨_, rfl⟩
              go_wp2_with fail
              go_loopw [12] (fun i wr => ∃ y : Nat, y ≤ a ∧ i = .int .i64 y ∧ Hid (rgoodIn a (rcl a j p q) x y = true) ∧ MW w wr a (rcl a j p q)) (fun i _ => a - (intOf i).toNat)
              case atStart => exact ⟨0, Nat.zero_le _, rfl, rfl, hX⟩
              case round =>
                obtain ⟨y, hy, rfl, hin, hY⟩ := hrel
                clear hX
                by_cases hly : y < a
                · by_cases hxy : x = y
                  · have hgd : Hid ((x != y && (rcl a j p q x y && rcl a j p q y x)) = false) := Lib.hid (by simp [hxy])
                    have hne : ((x : Int) != (y : Int)) = false := by simp [hxy]
                    have Hxy := Lib.hid hxy
                    clear hxy
                    obtain ⟨cs, hcs, hR⟩ := hY.acc
                    have hsz := Lib.hid hR.sz
                    cases hj : rJ a (rcl a j p q) x y with
                    | none =>
                      have Hb : Hid (rgood a (rcl a j p q) x y = false) := Lib.hid (by simp [rgood, hj])
                      have Hj := Lib.hid hj
                      clear hj
                      go_wp2_with (first | (refine ld31 rfl _ rfl _ rfl _ hcs hsz.out ?_) | fail)
                      refine (rJoin_any x y _ hR (by omega) (by omega)).mono ?_
                      rintro e w3 ⟨rfl, hb3⟩
                      have hZ := hY.keep hb3
                      rw [Hj.out]
                      simp only [rV]
                      clear hcs hR hY hb3 
                      have Hf : Hid (rcode a j p q = 16) := Lib.hid (by rw [rcode, hok.out, rlatK_bad Hb.out (by omega) (by omega)]; rfl)
                      obtain ⟨z, hz, hz5⟩ := hZ.res
                      have hz5' := Lib.hid hz5
                      have hfin := setRow_heap _ _ _ z31 28 (0, 0) hz
                      have hbf := below_setRow hZ.below (Nat.le_refl _) z31
                      clear hz5 hZ
                      go_wp2_with (first | (refine bld31z rfl rfl ?_) | (refine st31 rfl _ _ rfl _ _ rfl rfl _ hz z31_size hz5'.out z31_one ?_) | fail)
                      exact bodyPost_ret (results_ct rfl _ _ _ _ rfl hfin z31_size) rfl ⟨_, by rw [Hf.out]; rfl, z31_size, z31_one, (fun h => by rw [Hf.out] at h; cases h), hbf⟩
                    | some c =>
                      cases hm : rJ a (flip (rcl a j p q)) x y with
                      | none =>
                        have Hb : Hid (rgood a (rcl a j p q) x y = false) := Lib.hid (by simp [rgood, hm])
                        have Hj := Lib.hid hj
                        have Hm := Lib.hid hm
                        clear hj hm
                        go_wp2_with (first | (refine ld31 rfl _ rfl _ rfl _ hcs hsz.out ?_) | fail)
                        refine (rJoin_any x y _ hR (by omega) (by omega)).mono ?_
                        rintro e w3 ⟨rfl, hb3⟩
                        have hZ := hY.keep hb3
                        obtain ⟨cs9, hcs9, hR9⟩ := hZ.acc
                        have hsz9 := Lib.hid hR9.sz
                        rw [Hj.out]
                        simp only [rV]
                        clear hcs hR hY hb3 
                        go_wp2_with (first | (refine ld31 rfl _ rfl _ rfl _ hcs9 hsz9.out ?_) | fail)
                        refine (rMeet_any x y _ hR9 (by omega) (by omega)).mono ?_
                        rintro e w4 ⟨rfl, hb4⟩
                        have hV := hZ.keep hb4
                        rw [Hm.out]
                        simp only [rV]
                        clear hcs9 hR9 hZ hb4
                        have Hf : Hid (rcode a j p q = 16) := Lib.hid (by rw [rcode, hok.out, rlatK_bad Hb.out (by omega) (by omega)]; rfl)
                        obtain ⟨z, hz, hz5⟩ := hV.res
                        have hz5' := Lib.hid hz5
                        have hfin := setRow_heap _ _ _ z31 28 (0, 0) hz
                        have hbf := below_setRow hV.below (Nat.le_refl _) z31
                        clear hz5 hV
                        go_wp2_with (first | (refine bld31z rfl rfl ?_) | (refine st31 rfl _ _ rfl _ _ rfl rfl _ hz z31_size hz5'.out z31_one ?_) | fail)
                        exact bodyPost_ret (results_ct rfl _ _ _ _ rfl hfin z31_size) rfl ⟨_, by rw [Hf.out]; rfl, z31_size, z31_one, (fun h => by rw [Hf.out] at h; cases h), hbf⟩
                      | some d =>
                        have Hg : Hid (rgoodIn a (rcl a j p q) x (y + 1) = true) := Lib.hid (by rw [rgoodIn_succ, hin.out]; simp [rgood, hj, hm, hgd.out])
                        have Hj := Lib.hid hj
                        have Hm := Lib.hid hm
                        clear hj hm
                        go_wp2_with (first | (refine ld31 rfl _ rfl _ rfl _ hcs hsz.out ?_) | fail)
                        refine (rJoin_any x y _ hR (by omega) (by omega)).mono ?_
                        rintro e w3 ⟨rfl, hb3⟩
                        have hZ := hY.keep hb3
                        obtain ⟨cs9, hcs9, hR9⟩ := hZ.acc
                        have hsz9 := Lib.hid hR9.sz
                        rw [Hj.out]
                        simp only [rV]
                        clear hcs hR hY hb3 
                        go_wp2_with (first | (refine ld31 rfl _ rfl _ rfl _ hcs9 hsz9.out ?_) | fail)
                        refine (rMeet_any x y _ hR9 (by omega) (by omega)).mono ?_
                        rintro e w4 ⟨rfl, hb4⟩
                        have hV := hZ.keep hb4
                        rw [Hm.out]
                        simp only [rV]
                        clear hcs9 hR9 hZ hb4
                        go_wp2_with fail
                        go_roundw
                        case rel => exact ⟨y + 1, by omega, by go_num, Hg, hV⟩
                        case measure => simp [intOf]; omega
                  have hne : ((x : Int) != (y : Int)) = true := by rw [bne_iff_ne]; omega
                  have t1 := hY.cell (a := x) (c := y) (by omega) (by omega)
                  have t2 := hY.cell (a := y) (c := x) (by omega) (by omega)
                  cases k1 : rcl a j p q x y
                  · have hgd : Hid ((x != y && (rcl a j p q x y && rcl a j p q y x)) = false) := Lib.hid (by simp [k1])
                    rw [k1] at t1
                    clear k1 t2
                    obtain ⟨cs, hcs, hR⟩ := hY.acc
                    have hsz := Lib.hid hR.sz
                    cases hj : rJ a (rcl a j p q) x y with
                    | none =>
                      have Hb : Hid (rgood a (rcl a j p q) x y = false) := Lib.hid (by simp [rgood, hj])
                      have Hj := Lib.hid hj
                      clear hj
                      go_wp2_with (first | (refine ld31 rfl _ rfl _ rfl _ hcs hsz.out ?_) | fail)
                      refine (rJoin_any x y _ hR (by omega) (by omega)).mono ?_
                      rintro e w3 ⟨rfl, hb3⟩
                      have hZ := hY.keep hb3
                      rw [Hj.out]
                      simp only [rV]
                      clear hcs hR hY hb3 t1
                      have Hf : Hid (rcode a j p q = 16) := Lib.hid (by rw [rcode, hok.out, rlatK_bad Hb.out (by omega) (by omega)]; rfl)
                      obtain ⟨z, hz, hz5⟩ := hZ.res
                      have hz5' := Lib.hid hz5
                      have hfin := setRow_heap _ _ _ z31 28 (0, 0) hz
                      have hbf := below_setRow hZ.below (Nat.le_refl _) z31
                      clear hz5 hZ
                      go_wp2_with (first | (refine bld31z rfl rfl ?_) | (refine st31 rfl _ _ rfl _ _ rfl rfl _ hz z31_size hz5'.out z31_one ?_) | fail)
                      exact bodyPost_ret (results_ct rfl _ _ _ _ rfl hfin z31_size) rfl ⟨_, by rw [Hf.out]; rfl, z31_size, z31_one, (fun h => by rw [Hf.out] at h; cases h), hbf⟩
                    | some c =>
                      cases hm : rJ a (flip (rcl a j p q)) x y with
                      | none =>
                        have Hb : Hid (rgood a (rcl a j p q) x y = false) := Lib.hid (by simp [rgood, hm])
                        have Hj := Lib.hid hj
                        have Hm := Lib.hid hm
                        clear hj hm
                        go_wp2_with (first | (refine ld31 rfl _ rfl _ rfl _ hcs hsz.out ?_) | fail)
                        refine (rJoin_any x y _ hR (by omega) (by omega)).mono ?_
                        rintro e w3 ⟨rfl, hb3⟩
                        have hZ := hY.keep hb3
                        obtain ⟨cs9, hcs9, hR9⟩ := hZ.acc
                        have hsz9 := Lib.hid hR9.sz
                        rw [Hj.out]
                        simp only [rV]
                        clear hcs hR hY hb3 t1
                        go_wp2_with (first | (refine ld31 rfl _ rfl _ rfl _ hcs9 hsz9.out ?_) | fail)
                        refine (rMeet_any x y _ hR9 (by omega) (by omega)).mono ?_
                        rintro e w4 ⟨rfl, hb4⟩
                        have hV := hZ.keep hb4
                        rw [Hm.out]
                        simp only [rV]
                        clear hcs9 hR9 hZ hb4
                        have Hf : Hid (rcode a j p q = 16) := Lib.hid (by rw [rcode, hok.out, rlatK_bad Hb.out (by omega) (by omega)]; rfl)
                        obtain ⟨z, hz, hz5⟩ := hV.res
                        have hz5' := Lib.hid hz5
                        have hfin := setRow_heap _ _ _ z31 28 (0, 0) hz
                        have hbf := below_setRow hV.below (Nat.le_refl _) z31
                        clear hz5 hV
                        go_wp2_with (first | (refine bld31z rfl rfl ?_) | (refine st31 rfl _ _ rfl _ _ rfl rfl _ hz z31_size hz5'.out z31_one ?_) | fail)
                        exact bodyPost_ret (results_ct rfl _ _ _ _ rfl hfin z31_size) rfl ⟨_, by rw [Hf.out]; rfl, z31_size, z31_one, (fun h => by rw [Hf.out] at h; cases h), hbf⟩
                      | some d =>
                        have Hg : Hid (rgoodIn a (rcl a j p q) x (y + 1) = true) := Lib.hid (by rw [rgoodIn_succ, hin.out]; simp [rgood, hj, hm, hgd.out])
                        have Hj := Lib.hid hj
                        have Hm := Lib.hid hm
                        clear hj hm
                        go_wp2_with (first | (refine ld31 rfl _ rfl _ rfl _ hcs hsz.out ?_) | fail)
                        refine (rJoin_any x y _ hR (by omega) (by omega)).mono ?_
                        rintro e w3 ⟨rfl, hb3⟩
                        have hZ := hY.keep hb3
                        obtain ⟨cs9, hcs9, hR9⟩ := hZ.acc
                        have hsz9 := Lib.hid hR9.sz
                        rw [Hj.out]
                        simp only [rV]
                        clear hcs hR hY hb3 t1
                        go_wp2_with (first | (refine ld31 rfl _ rfl _ rfl _ hcs9 hsz9.out ?_) | fail)
                        refine (rMeet_any x y _ hR9 (by omega) (by omega)).mono ?_
                        rintro e w4 ⟨rfl, hb4⟩
                        have hV := hZ.keep hb4
                        rw [Hm.out]
                        simp only [rV]
                        clear hcs9 hR9 hZ hb4
                        go_wp2_with fail
                        go_roundw
                        case rel => exact ⟨y + 1, by omega, by go_num, Hg, hV⟩
                        case measure => simp [intOf]; omega
                  cases k2 : rcl a j p q y x
                  · have hgd : Hid ((x != y && (rcl a j p q x y && rcl a j p q y x)) = false) := Lib.hid (by simp [k2])
                    rw [k1] at t1
                    rw [k2] at t2
                    clear k1 k2
                    obtain ⟨cs, hcs, hR⟩ := hY.acc
                    have hsz := Lib.hid hR.sz
                    cases hj : rJ a (rcl a j p q) x y with
                    | none =>
                      have Hb : Hid (rgood a (rcl a j p q) x y = false) := Lib.hid (by simp [rgood, hj])
                      have Hj := Lib.hid hj
                      clear hj
                      go_wp2_with (first | (refine ld31 rfl _ rfl _ rfl _ hcs hsz.out ?_) | fail)
                      refine (rJoin_any x y _ hR (by omega) (by omega)).mono ?_
                      rintro e w3 ⟨rfl, hb3⟩
                      have hZ := hY.keep hb3
                      rw [Hj.out]
                      simp only [rV]
                      clear hcs hR hY hb3 t1 t2
                      have Hf : Hid (rcode a j p q = 16) := Lib.hid (by rw [rcode, hok.out, rlatK_bad Hb.out (by omega) (by omega)]; rfl)
                      obtain ⟨z, hz, hz5⟩ := hZ.res
                      have hz5' := Lib.hid hz5
                      have hfin := setRow_heap _ _ _ z31 28 (0, 0) hz
                      have hbf := below_setRow hZ.below (Nat.le_refl _) z31
                      clear hz5 hZ
                      go_wp2_with (first | (refine bld31z rfl rfl ?_) | (refine st31 rfl _ _ rfl _ _ rfl rfl _ hz z31_size hz5'.out z31_one ?_) | fail)
                      exact bodyPost_ret (results_ct rfl _ _ _ _ rfl hfin z31_size) rfl ⟨_, by rw [Hf.out]; rfl, z31_size, z31_one, (fun h => by rw [Hf.out] at h; cases h), hbf⟩
                    | some c =>
                      cases hm : rJ a (flip (rcl a j p q)) x y with
                      | none =>
                        have Hb : Hid (rgood a (rcl a j p q) x y = false) := Lib.hid (by simp [rgood, hm])
                        have Hj := Lib.hid hj
                        have Hm := Lib.hid hm
                        clear hj hm
                        go_wp2_with (first | (refine ld31 rfl _ rfl _ rfl _ hcs hsz.out ?_) | fail)
                        refine (rJoin_any x y _ hR (by omega) (by omega)).mono ?_
                        rintro e w3 ⟨rfl, hb3⟩
                        have hZ := hY.keep hb3
                        obtain ⟨cs9, hcs9, hR9⟩ := hZ.acc
                        have hsz9 := Lib.hid hR9.sz
                        rw [Hj.out]
                        simp only [rV]
                        clear hcs hR hY hb3 t1 t2
                        go_wp2_with (first | (refine ld31 rfl _ rfl _ rfl _ hcs9 hsz9.out ?_) | fail)
                        refine (rMeet_any x y _ hR9 (by omega) (by omega)).mono ?_
                        rintro e w4 ⟨rfl, hb4⟩
                        have hV := hZ.keep hb4
                        rw [Hm.out]
                        simp only [rV]
                        clear hcs9 hR9 hZ hb4
                        have Hf : Hid (rcode a j p q = 16) := Lib.hid (by rw [rcode, hok.out, rlatK_bad Hb.out (by omega) (by omega)]; rfl)
                        obtain ⟨z, hz, hz5⟩ := hV.res
                        have hz5' := Lib.hid hz5
                        have hfin := setRow_heap _ _ _ z31 28 (0, 0) hz
                        have hbf := below_setRow hV.below (Nat.le_refl _) z31
                        clear hz5 hV
                        go_wp2_with (first | (refine bld31z rfl rfl ?_) | (refine st31 rfl _ _ rfl _ _ rfl rfl _ hz z31_size hz5'.out z31_one ?_) | fail)
                        exact bodyPost_ret (results_ct rfl _ _ _ _ rfl hfin z31_size) rfl ⟨_, by rw [Hf.out]; rfl, z31_size, z31_one, (fun h => by rw [Hf.out] at h; cases h), hbf⟩
                      | some d =>
                        have Hg : Hid (rgoodIn a (rcl a j p q) x (y + 1) = true) := Lib.hid (by rw [rgoodIn_succ, hin.out]; simp [rgood, hj, hm, hgd.out])
                        have Hj := Lib.hid hj
                        have Hm := Lib.hid hm
                        clear hj hm
                        go_wp2_with (first | (refine ld31 rfl _ rfl _ rfl _ hcs hsz.out ?_) | fail)
                        refine (rJoin_any x y _ hR (by omega) (by omega)).mono ?_
                        rintro e w3 ⟨rfl, hb3⟩
                        have hZ := hY.keep hb3
                        obtain ⟨cs9, hcs9, hR9⟩ := hZ.acc
                        have hsz9 := Lib.hid hR9.sz
                        rw [Hj.out]
                        simp only [rV]
                        clear hcs hR hY hb3 t1 t2
                        go_wp2_with (first | (refine ld31 rfl _ rfl _ rfl _ hcs9 hsz9.out ?_) | fail)
                        refine (rMeet_any x y _ hR9 (by omega) (by omega)).mono ?_
                        rintro e w4 ⟨rfl, hb4⟩
                        have hV := hZ.keep hb4
                        rw [Hm.out]
                        simp only [rV]
                        clear hcs9 hR9 hZ hb4
                        go_wp2_with fail
                        go_roundw
                        case rel => exact ⟨y + 1, by omega, by go_num, Hg, hV⟩
                        case measure => simp [intOf]; omega
                  · have Hb : Hid (rgood a (rcl a j p q) x y = false) := Lib.hid (by simp [rgood, k1, k2]; omega)
                    rw [k1] at t1
                    rw [k2] at t2
                    clear k1 k2
                    have Hf : Hid (rcode a j p q = 16) := Lib.hid (by rw [rcode, hok.out, rlatK_bad Hb.out (by omega) (by omega)]; rfl)
                    obtain ⟨z, hz, hz5⟩ := hY.res
                    have hz5' := Lib.hid hz5
                    have hfin := setRow_heap _ _ _ z31 28 (0, 0) hz
                    have hbf := below_setRow hY.below (Nat.le_refl _) z31
                    clear hz5 hY
                    go_wp2_with (first | (refine bld31z rfl rfl ?_) | (refine st31 rfl _ _ rfl _ _ rfl rfl _ hz z31_size hz5'.out z31_one ?_) | fail)
                    exact bodyPost_ret (results_ct rfl _ _ _ _ rfl hfin z31_size) rfl ⟨_, by rw [Hf.out]; rfl, z31_size, z31_one, (fun h => by rw [Hf.out] at h; cases h), hbf⟩
                · obtain rfl : y = a := by omega
                  have Hl : Hid (rlatK y (rcl y j p q) (x + 1) = true) := Lib.hid (by rw [rlatK_succ, hrl.out, hin.out]; rfl)
                  go_wp2_with fail
                  go_roundw
                  case rel => exact ⟨x + 1, by omega, by go_num, Hl, hY⟩
                  case measure => simp [intOf]; omega
            · obtain rfl : x = a := by omega
              have Hf : Hid (rcode x j p q = 0) := Lib.hid (by rw [rcode, hok.out, hrl.out]; rfl)
              obtain ⟨z, hz, hz5⟩ := hX.res
              obtain ⟨cs, hcs, hR⟩ := hX.acc
              have hsz := Lib.hid hR.sz
              have hz5' := Lib.hid hz5
              have hone := hR.one
              have hfin := setRow_heap _ _ _ cs 28 (0, 0) hz
              have hbf := below_setRow hX.below (Nat.le_refl _) cs
              clear hz5 hX
              go_wp2_with (first | (refine ld31 rfl _ rfl _ rfl _ hcs hsz.out ?_) | (refine st31 rfl _ _ rfl _ _ rfl rfl _ hz hsz.out hz5'.out hone ?_) | fail)
              exact bodyPost_ret (results_ct rfl _ _ _ _ rfl hfin hsz.out) rfl ⟨_, by rw [Hf.out]; rfl, hsz.out, hone, (fun _ => hR), hbf⟩
end Go.Proofs.Ytmnbalmihehodaa

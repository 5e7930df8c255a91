/-
  Contracts of the library's own functions that the program calls: the library's contracts, laid at this translation.
  The landed Loops: plainly; the library's Sort of a row of the call's own.
-/
import Derived.Shelf.Small.Bits
import Derived.Shelf.Small.Wraps
import Derived.Shelf.Strconv.Itoa0
import Derived.Shelf.Sort.Plain
import Derived.Shelf.Bits.Mul64
import Derived.Shelf.Slices.Turned
import Derived.Shelf.Slices.Reverse
import Derived.Ground.Names2Prog
import Derived.Shelf.Slices.SearchI
import Derived.Shelf.Slices.Cells
import Derived.Shelf.Slices.In.SortNone
import Derived.Shelf.Slices.Empties
import Derived.Test.YtmbjmibjobpdgaaProg
import Derived.Sort.OwnSortedInts
import Derived.Lib.SlKeysI
import Derived.Test.YtmbjmibjobpdgaaM44
namespace Go.Proofs.Ytmbjmibjobpdgaa
open Go.Shelf
def lays189_ren : Go.Shelf.Ren := ⟨fun | 189 => 35 | 125 => 66 | 257 => 65 | 128 => 89 | 129 => 90 | 294 => 81 | 295 => 82 | 296 => 83 | 297 => 84 | 298 => 85 | 299 => 86 | 216 => 71 | 300 => 87 | 301 => 88 | 328 => 94 | 329 => 95 | 330 => 96 | 331 => 97 | 332 => 98 | 215 => 92 | 343 => 101 | n => n, fun | 28 => 30 | 3 => 3 | 46 => 45 | 0 => 0 | 51 => 135 | 53 => 137 | 4 => 4 | 183 => 129 | 182 => 128 | 131 => 33 | 5 => 5 | 9 => 9 | 218 => 141 | 222 => 145 | 228 => 151 | 229 => 152 | n => n, fun | n => n⟩
theorem lays189 : Go.Proofs.Lays.n189 Try.prog lays189_ren := {
  mixed := by kernel_rfl
  f125 := Try.func66.trans (congrArg some (by kernel_rfl))
  f128 := Try.func89.trans (congrArg some (by kernel_rfl))
  f129 := Try.func90.trans (congrArg some (by kernel_rfl))
  f189 := Try.func35.trans (congrArg some (by kernel_rfl))
  f215 := Try.func92.trans (congrArg some (by kernel_rfl))
  f216 := Try.func71.trans (congrArg some (by kernel_rfl))
  f257 := Try.func65.trans (congrArg some (by kernel_rfl))
  f294 := Try.func81.trans (congrArg some (by kernel_rfl))
  f295 := Try.func82.trans (congrArg some (by kernel_rfl))
  f296 := Try.func83.trans (congrArg some (by kernel_rfl))
  f297 := Try.func84.trans (congrArg some (by kernel_rfl))
  f298 := Try.func85.trans (congrArg some (by kernel_rfl))
  f299 := Try.func86.trans (congrArg some (by kernel_rfl))
  f300 := Try.func87.trans (congrArg some (by kernel_rfl))
  f301 := Try.func88.trans (congrArg some (by kernel_rfl))
  f328 := Try.func94.trans (congrArg some (by kernel_rfl))
  f329 := Try.func95.trans (congrArg some (by kernel_rfl))
  f330 := Try.func96.trans (congrArg some (by kernel_rfl))
  f331 := Try.func97.trans (congrArg some (by kernel_rfl))
  f332 := Try.func98.trans (congrArg some (by kernel_rfl))
  f343 := Try.func101.trans (congrArg some (by kernel_rfl))
  t0 := Try.underlying0
  a0 := Try.isAgg0
  z0 := Try.sizeOf0
  v0 := Try.zeroValue0
  t3 := Try.underlying3
  a3 := Try.isAgg3
  z3 := Try.sizeOf3
  v3 := Try.zeroValue3
  t4 := Try.underlying4
  a4 := Try.isAgg4
  z4 := Try.sizeOf4
  v4 := Try.zeroValue4
  t5 := Try.underlying5
  a5 := Try.isAgg5
  z5 := Try.sizeOf5
  v5 := Try.zeroValue5
  t9 := Try.underlying9
  a9 := Try.isAgg9
  z9 := Try.sizeOf9
  v9 := Try.zeroValue9
  t28 := Try.underlying30
  a28 := Try.isAgg30
  z28 := Try.sizeOf30
  v28 := Try.zeroValue30
  t46 := Try.underlying45
  a46 := Try.isAgg45
  z46 := Try.sizeOf45
  v46 := Try.zeroValue45
  t51 := Try.underlying135
  a51 := Try.isAgg135
  z51 := Try.sizeOf135
  v51 := Try.zeroValue135
  t53 := Try.underlying137
  a53 := Try.isAgg137
  z53 := Try.sizeOf137
  v53 := Try.zeroValue137
  t131 := Try.underlying33
  a131 := Try.isAgg33
  z131 := Try.sizeOf33
  v131 := Try.zeroValue33
  t182 := Try.underlying128
  a182 := Try.isAgg128
  z182 := Try.sizeOf128
  v182 := Try.zeroValue128
  t183 := Try.underlying129
  a183 := Try.isAgg129
  z183 := Try.sizeOf129
  v183 := Try.zeroValue129
  t218 := Try.underlying141
  a218 := Try.isAgg141
  z218 := Try.sizeOf141
  v218 := Try.zeroValue141
  t222 := Try.underlying145
  a222 := Try.isAgg145
  z222 := Try.sizeOf145
  v222 := Try.zeroValue145
  t228 := Try.underlying151
  a228 := Try.isAgg151
  z228 := Try.sizeOf151
  v228 := Try.zeroValue151
  t229 := Try.underlying152
  a229 := Try.isAgg152
  z229 := Try.sizeOf152
  v229 := Try.zeroValue152 }
open Go.Sort Go.RowKit in
theorem lib_slices_Sort_int (blk off cap : Nat) (zs : List Int) (w : World) (hH : Holds (Value.int .i64) w blk off zs.toArray) (hblk : blk < w.heap.size) (hsz : zs.length < 4611686018427387904) :
    Calls Try.prog 35 #[.slice (some ⟨blk, off, none⟩) zs.length cap] w fun e w' =>
      e = .returned (.tuple #[]) ∧ ∃ n os, w' = grow (putRow (Value.int .i64) (Sort.ahead w n) blk off (zs.mergeSort fun x y => decide (x ≤ y)).toArray) os := Any.slices_Sort_int lays189 blk off cap zs w hH hblk hsz
def lays107_ren : Go.Shelf.Ren := ⟨fun | 107 => 34 | 108 => 64 | n => n, fun | 28 => 30 | 3 => 3 | 4 => 4 | 0 => 0 | n => n, fun | n => n⟩
theorem lays107 : Go.Proofs.Lays.n107 Try.prog lays107_ren := {
  mixed := by kernel_rfl
  f107 := Try.func34.trans (congrArg some (by kernel_rfl))
  f108 := Try.func64.trans (congrArg some (by kernel_rfl))
  t0 := Try.underlying0
  a0 := Try.isAgg0
  z0 := Try.sizeOf0
  v0 := Try.zeroValue0
  t3 := Try.underlying3
  a3 := Try.isAgg3
  z3 := Try.sizeOf3
  v3 := Try.zeroValue3
  t4 := Try.underlying4
  a4 := Try.isAgg4
  z4 := Try.sizeOf4
  v4 := Try.zeroValue4
  t28 := Try.underlying30
  a28 := Try.isAgg30
  z28 := Try.sizeOf30
  v28 := Try.zeroValue30 }
open Go.Lib in
theorem lib_slices_Contains_int (b off n c : Nat) (zs : List Int) (x : Int) (w : World) (hz : n ≤ zs.length) (hbig : n ≤ 9223372036854775807) (hc : ∀ j, j < zs.length → w.cell? ⟨b, off + j, none⟩ = some (.int .i64 (zs.getD j 0))) :
    Calls Try.prog 34 #[.slice (some ⟨b, off, none⟩) n c, .int .i64 x] w fun e w' => e = .returned (.bool ((zs.take n).contains x)) ∧ w' = w := Any.slices_Contains_int lays107 b off n c zs x w hz hbig hc
open Go.Lib in
theorem lib_slices_Contains_int_empty (a : Option Addr) (c : Nat) (x : Int) (w : World) :
    Calls Try.prog 34 #[.slice a 0 c, .int .i64 x] w fun e w' => e = .returned (.bool false) ∧ w' = w := Any.slices_Contains_int_empty lays107 a c x w
def lays112_ren : Go.Shelf.Ren := ⟨fun | 112 => 40 | n => n, fun | 28 => 30 | 3 => 3 | 4 => 4 | 0 => 0 | n => n, fun | n => n⟩
theorem lays112 : Go.Proofs.Lays.n112 Try.prog lays112_ren := {
  mixed := by kernel_rfl
  f112 := Try.func40.trans (congrArg some (by kernel_rfl))
  t0 := Try.underlying0
  a0 := Try.isAgg0
  z0 := Try.sizeOf0
  v0 := Try.zeroValue0
  t3 := Try.underlying3
  a3 := Try.isAgg3
  z3 := Try.sizeOf3
  v3 := Try.zeroValue3
  t4 := Try.underlying4
  a4 := Try.isAgg4
  z4 := Try.sizeOf4
  v4 := Try.zeroValue4
  t28 := Try.underlying30
  a28 := Try.isAgg30
  z28 := Try.sizeOf30
  v28 := Try.zeroValue30 }
open Go.RowKit Go.Lib Go.Sort in
theorem lib_slices_Reverse_int_empty (a : Option Addr) (cap : Nat) (w : World) :
    Calls Try.prog 40 #[.slice a 0 cap] w fun e w' => e = .returned (.tuple #[]) ∧ w' = w := Any.slices_Reverse_int_empty lays112 a cap w
def laysNm225_ren : Go.Shelf.Ren := ⟨fun | 25 => 43 | 31 => 71 | 32 => 72 | 37 => 92 | n => n, fun | 22 => 30 | 3 => 3 | 4 => 4 | 40 => 45 | 0 => 0 | n => n, fun | n => n⟩
theorem laysNm225 : Go.Proofs.Lays2.n25 Try.prog laysNm225_ren := {
  mixed := by kernel_rfl
  f25 := Try.func43.trans (congrArg some (by kernel_rfl))
  f31 := Try.func71.trans (congrArg some (by kernel_rfl))
  f32 := Try.func72.trans (congrArg some (by kernel_rfl))
  f37 := Try.func92.trans (congrArg some (by kernel_rfl))
  t0 := Try.underlying0
  a0 := Try.isAgg0
  z0 := Try.sizeOf0
  v0 := Try.zeroValue0
  t3 := Try.underlying3
  a3 := Try.isAgg3
  z3 := Try.sizeOf3
  v3 := Try.zeroValue3
  t4 := Try.underlying4
  a4 := Try.isAgg4
  z4 := Try.sizeOf4
  v4 := Try.zeroValue4
  t22 := Try.underlying30
  a22 := Try.isAgg30
  z22 := Try.sizeOf30
  v22 := Try.zeroValue30
  t40 := Try.underlying45
  a40 := Try.isAgg45
  z40 := Try.sizeOf45
  v40 := Try.zeroValue45 }
open Go.RowKit Go.Lib in
theorem lib_slices_BinarySearch_int (b off n c : Nat) (zs : List Int) (x : Int) (w : World) (hz : n ≤ zs.length) (hbig : n < 4611686018427387904) (hc : ∀ j, j < zs.length → w.cell? ⟨b, off + j, none⟩ = some (.int .i64 (zs.getD j 0))) (hs : (zs.take n).Pairwise (· ≤ ·)) :
    Calls Try.prog 43 #[.slice (some ⟨b, off, none⟩) n c, .int .i64 x] w fun e w' => e = .returned (.tuple #[.int .i64 ((zs.take n).countP (· < x) : Nat), .bool ((zs.take n).contains x)]) ∧ ∃ q, w' = w.drewN q := Any.slices_BinarySearch_int laysNm225 b off n c zs x w hz hbig hc hs
open Go.RowKit Go.Lib Go.Sort in
theorem lib_slices_Reverse_int_cells (b off n c : Nat) (zs : List Int) (w : World) (hz : n ≤ zs.length) (hbig : n ≤ 9223372036854775807) (hc : ∀ j, j < zs.length → w.cell? ⟨b, off + j, none⟩ = some (.int .i64 (zs.getD j 0))) (hf : ∀ j, j < n → w.frozen? ⟨b, off + j, none⟩ = false) :
    Calls Try.prog 40 #[.slice (some ⟨b, off, none⟩) n c] w fun e w' => e = .returned (.tuple #[]) ∧ ∃ q, w' = (w.drewN q).setCells b off ((zs.take n).reverse.map (Value.int .i64)) := Any.slices_Reverse_int_cells lays112 b off n c zs w hz hbig hc hf
open Go.RowKit Go.Sort in
theorem lib_slices_Sort_int_none (p : Option Addr) (cap : Nat) (w : World) :
    Calls Try.prog 35 #[.slice p 0 cap] w fun e w' => e = .returned (.tuple #[]) ∧ w' = w := Any.slices_Sort_int_none lays189 p cap w
open Go.RowKit Go.Lib in
theorem lib_slices_BinarySearch_int_empty (a : Option Addr) (c : Nat) (x : Int) (w : World) :
    Calls Try.prog 43 #[.slice a 0 c, .int .i64 x] w fun e w' => e = .returned (.tuple #[.int .i64 0, .bool false]) ∧ w' = w := Any.slices_BinarySearch_int_empty laysNm225 a c x w
end Go.Proofs.Ytmbjmibjobpdgaa
namespace Go.Proofs.Ytmbjmibjobpdgaa
open Go.RowKit

theorem Pcs.loops1 {R : Nat → List Nat} {l : List Nat} {j : Nat} {Ps : List (List Nat)} {met : Nat → Bool} (h : Pcs R l j Ps met) {v : Nat} (hm : v ∈ (Ps.filter (onLoop R)).flatten) : Cyc R v := by
  obtain ⟨P, hP, hvP⟩ := List.mem_flatten.1 hm
  obtain ⟨hP, hf⟩ := List.mem_filter.1 hP
  obtain ⟨x, _, hc⟩ := h.cls P hP
  have hnd : P.Nodup := by
    have := h.apart
    exact flat_nodup this P hP
  unfold onLoop at hf
  rw [Bool.or_eq_true] at hf
  rcases hf with hf | hf
  · have hf := of_decide_eq_true hf
    have : ∃ w ∈ P, w ≠ v := by
      apply Classical.byContradiction
      intro hn
      have hall : ∀ w ∈ P, w = v := fun w hw => Classical.byContradiction fun e => hn ⟨w, hw, e⟩
      match P, hf, hnd, hall with
      | a :: b :: _, _, hnd, hall =>
        have ha := hall a (by simp)
        have hb := hall b (by simp)
        subst ha
        rw [List.nodup_cons] at hnd
        exact hnd.1 (by rw [hb]; simp)
    obtain ⟨w, hw, hne⟩ := this
    have hvw : Eqv R v w := Eqv.trans ((hc v).1 hvP).symm ((hc w).1 hw)
    rcases hvw.1.head with e | ⟨u, hu, hr⟩
    · exact absurd e.symm hne
    · exact ⟨u, hu, hr.trans hvw.2⟩
  · by_cases hl : 1 < P.length
    · have : ∃ w ∈ P, w ≠ v := by
        apply Classical.byContradiction
        intro hn
        have hall : ∀ w ∈ P, w = v := fun w hw => Classical.byContradiction fun e => hn ⟨w, hw, e⟩
        match P, hl, hnd, hall with
        | a :: b :: _, _, hnd, hall =>
          have ha := hall a (by simp)
          have hb := hall b (by simp)
          subst ha
          rw [List.nodup_cons] at hnd
          exact hnd.1 (by rw [hb]; simp)
      obtain ⟨w, hw, hne⟩ := this
      have hvw : Eqv R v w := Eqv.trans ((hc v).1 hvP).symm ((hc w).1 hw)
      rcases hvw.1.head with e | ⟨u, hu, hr⟩
      · exact absurd e.symm hne
      · exact ⟨u, hu, hr.trans hvw.2⟩
    · match P, hvP, hl, hf with
      | [a], hvP, _, hf =>
        have : v = a := by simpa using hvP
        subst this
        have hf : (R v).contains v = true := hf
        exact ⟨v, by simpa using hf, .refl v⟩
      | a :: b :: t, _, hl, _ => exact absurd (by simp) hl
theorem cyc_path {G : GT} {v : Nat} : Cyc (outN G) v ↔ Path G v v := by
  constructor
  · rintro ⟨u, hu, hr⟩
    have hs : Stp G v u := mem_outN.1 hu
    clear hu
    have key : ∀ {y : Nat}, Rch (outN G) (fun _ => False) u y → Path G v y := fun h => by
      induction h with
      | refl => exact .one hs
      | snoc _ e _ ih => exact .snoc ih (mem_outN.1 e)
    exact key hr
  · intro h
    have key : ∀ {x y : Nat}, Path G x y → ∃ u ∈ outN G x, Rch (outN G) (fun _ => False) u y := fun h => by
      induction h with
      | one s => exact ⟨_, mem_outN.2 s, .refl _⟩
      | snoc _ s ih =>
        obtain ⟨u, hu, hr⟩ := ih
        exact ⟨u, hu, .snoc hr (mem_outN.2 s) (fun h => h)⟩
    exact key h
theorem flat_sub (p : List Nat → Bool) : ∀ (L : List (List Nat)), (L.filter p).flatten.Sublist L.flatten
  | [] => List.Sublist.refl _
  | a :: L => by
    rw [List.filter_cons, List.flatten_cons]
    split
    · rw [List.flatten_cons]; exact (List.Sublist.refl a).append (flat_sub p L)
    · exact (flat_sub p L).trans (List.sublist_append_right _ _)
/-- What lies on loops, gathered piece by piece and sorted: the document's list. -/
theorem loops_sorted {G : GT} {d : Ds} {Ps : List (List Nat)} {met : Nat → Bool} (hw : Wk1 (outN G) G.n G.n d) (hp : Pcs (outN G) d.lft 0 Ps met) : (ofNs (Ps.filter (onLoop (outN G))).flatten).mergeSort (fun x y => decide (x ≤ y)) = loopsL G := by
  have hmem : ∀ v : Nat, v ∈ (Ps.filter (onLoop (outN G))).flatten ↔ v < G.n ∧ loopB G v = true := fun v => by
    constructor
    · intro hm
      have hc := hp.loops1 hm
      have hpth := cyc_path.1 hc
      obtain ⟨u, hu, _⟩ := hc
      have hv : v < G.n := (mem_outN.1 hu).1
      exact ⟨hv, (reachB_iff hv).2 hpth⟩
    · rintro ⟨hv, hb⟩
      exact (hp.loops v (hw.left hv)).2 (cyc_path.2 ((reachB_iff hv).1 hb))
  have hnd : ((Ps.filter (onLoop (outN G))).flatten).Nodup := (flat_sub _ _).nodup hp.apart
  have hperm : (ofNs (Ps.filter (onLoop (outN G))).flatten).Perm (loopsL G) := by
    refine (List.perm_ext_iff_of_nodup ?_ (pickL_nodup _ _)).2 fun x => ?_
    · unfold ofNs
      rw [List.Nodup, List.pairwise_map]
      exact hnd.imp fun h e => h (by omega)
    · unfold ofNs
      rw [List.mem_map]
      rw [pickL_mem]
      constructor
      · rintro ⟨v, hv, rfl⟩
        exact ⟨v, rfl, (hmem v).1 hv⟩
      · rintro ⟨v, rfl, hv⟩
        exact ⟨v, (hmem v).2 hv, rfl⟩
  have e := mergeSort_of_perm_i hperm
  have hr : (loopsL G).Pairwise (fun a b => a < b) := by
    unfold loopsL pickL
    refine List.pairwise_map.2 ((List.Pairwise.filter _ (List.pairwise_lt_range (n := G.n))).imp fun {a b} h => ?_)
    omega
  exact e.trans (List.mergeSort_of_pairwise (hr.imp fun {a b} h => decide_eq_true (by omega)))
/-- The library's Sort of a row of the call's own. -/
theorem sort_own {w : World} {B n c : Nat} {A : Option Addr} {L : List Int} (h : OwnI w B (.slice A n c) L) (hlen : L.length ≤ 100000) : Calls Try.prog 35 #[.slice A n c] w fun e w' => e = .returned (.tuple #[]) ∧ OwnI w' B (.slice A n c) (L.mergeSort fun x y => decide (x ≤ y)) ∧ w.grownBy w' (Value.slice A n c).ownBlock := by
  obtain ⟨h0, _⟩ := h.lieAt
  subst h0
  rcases id h.2 with ⟨e1, h2⟩ | ⟨g, cap, cur, e, hB, hh, c1, c2, c3, c4⟩
  · injection e1 with e1 _ e3
    subst e1 e3
    have hn : L = [] := List.length_eq_zero_iff.1 h2
    subst hn
    refine (lib_slices_Sort_int_none none 0 w).mono ?_
    rintro e w' ⟨rfl, rfl⟩
    exact ⟨rfl, by simpa using h, grown_refl _ _⟩
  · injection e with e1 e2 e3
    subst e1 e3
    refine (lib_slices_Sort_int g 0 c L w (holds_of_blockI hh (by rw [Nat.mul_one] at c4; exact c4)) (row_lt hh) (by omega)).mono ?_
    rintro e w' ⟨rfl, m, os, rfl⟩
    refine ⟨rfl, ?_, grownBy_sortedI _⟩
    have hl : (L.mergeSort fun x y => decide (x ≤ y)).length = L.length := List.length_mergeSort _
    have := ownsRow_sortedI (w := w) (base := B) (g := g) (cap := c) (n := m) (e := 3) (os := os) (cur := cur) (ss := L) (ts := L.mergeSort fun x y => decide (x ≤ y)) hl hB hh c1 c2 c3
    unfold OwnI
    rw [hl]
    exact this
end Go.Proofs.Ytmbjmibjobpdgaa

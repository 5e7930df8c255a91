/-
  Contract of strconv.FormatUint at base 10; what the two tables hold, and that it stays.
-/
import Derived.Test.YthplhgbclbeodaaDoorShelf
import Derived.Test.YthplhgbclbeodaaDoorFc
import Derived.Lib.Walk
import Derived.BigCall
import Derived.BigGuard
namespace Go.Proofs.YthplhgbclbeodaaDoor
open Go.RowKit Ieee Go.Sort Go.Lib

/-- What the walks ask of the listed variables. -/
structure Tabs (w : World) : Prop where
  bits : TabAt 1 Lib.deBruijn64tab w
  pow : Lib.TabIs Tryd.prog w "internal/strconv.uint64pow10" .u64 Lib.pow10Tab
theorem tab_size {w : World} {l : List Int} (h : Lib.TabIs Tryd.prog w "internal/strconv.uint64pow10" .u64 l) : 2 < w.heap.size := by
  unfold TabIs World.var? at h
  have hg : Tryd.prog.globalNamed "internal/strconv.uint64pow10" = some 2 := by kernel_rfl
  rw [hg] at h
  rcases Nat.lt_or_ge 2 w.heap.size with h' | h'
  · exact h'
  · simp only [Option.bind_some] at h
    rw [Array.getElem?_eq_none h'] at h; simp at h
theorem Tabs.below {w w' : World} (h : Tabs w) (hb : Below w.heap.size w w') : Tabs w' := by
  have hs := tab_size h.pow
  constructor
  · intro j hj
    rw [hb.cell (p := ⟨1, j, none⟩) (show 1 < w.heap.size by omega)]
    exact h.bits j hj
  · have hp := h.pow
    unfold TabIs World.var? at *
    have hg : Tryd.prog.globalNamed "internal/strconv.uint64pow10" = some 2 := by kernel_rfl
    rw [hg] at hp ⊢
    simp only [Option.bind_some] at hp ⊢
    rw [hb.block 2 hs]
    exact hp
theorem Tabs.drewN {w : World} (h : Tabs w) (n : Nat) : Tabs (w.drewN n) := ⟨fun j hj => by rw [World.cell?_drewN]; exact h.bits j hj, h.pow⟩
theorem below_grow {w : World} {k : Nat} {os : Array Obj} : Below w.heap.size w (grow (w.drewN k) os) :=
  ⟨rfl, rfl, rfl, by simp [grow, World.drewN], fun i hi => by
    show (w.heap ++ os)[i]? = _
    rw [Array.getElem?_append_left hi]⟩

theorem decDigits_dig : ∀ n, Lib.decDigits n = digL n := by
  intro n
  induction n using Nat.strongRecOn with
  | ind n ih =>
    rw [Lib.decDigits, digL]
    by_cases h : n < 10
    · rw [dif_pos h, if_pos h]; unfold dc; rw [Nat.mod_eq_of_lt h]
    · rw [dif_neg h, if_neg h, ih (n / 10) (by omega)]; rfl

theorem holds_zero0 (w : World) (T : TypeId) (nd : Nat) (hs : nd ≤ 24) : Holds (fun (b : UInt8) => Value.int .u8 (b.toNat : Int)) (w.alloc (.cells zeros24 T)) w.heap.size 0 (Array.replicate nd (0 : UInt8)) := fun j hj => by
  have hj' : j < nd := by simpa using hj
  refine ⟨?_, World.frozen?_alloc_new _ _ _ _⟩
  rw [World.cell?_alloc_new, zeros24_at _ (by omega), getElem!_pos _ j hj]
  simp

theorem uint_small {u : Nat} (h : u < 100) (w : World) : Calls Tryd.prog 62 #[.int .u64 u, .int .i64 10] w fun e w' => e = .returned (.string (strL (digL u))) ∧ w = w' := by
  have S := lib_internal_strconv_small u h
  have D := Lib.hid (decDigits_dig u)
  have W : wrap64 (u : Int) = u := by unfold wrap64; omega
  go_enter Tryd.func62, Tryd.ntmps62
  go_wp2_with (go_at_call 69; refine (S _).mono ?_; rintro e w' ⟨rfl, rfl⟩)
  go_ret
  rw [D.out]; exact ⟨rfl, rfl⟩

set_option maxRecDepth 100000 in
set_option maxHeartbeats 1000000 in
theorem uint_long {u : Nat} (h : 100 ≤ u) (hu64 : u < 18446744073709551616) {w : World} (htab : Lib.TabIs Tryd.prog w "internal/strconv.uint64pow10" .u64 Lib.pow10Tab) : Calls Tryd.prog 62 #[.int .u64 u, .int .i64 10] w fun e w' => e = .returned (.string (strL (digL u))) ∧ Below w.heap.size w w' := by
  have hu1 : 1 ≤ u := by omega
  have hnd20 : Lib.nDigits u ≤ 20 := by have := Lib.numDigits_eq u hu1 hu64; split at this <;> omega
  have hal : Tryd.prog.arrayLen 71 = 24 := by kernel_rfl
  have hsl : ∀ W, (Instr.sliceAt 71 (.pointer (some ⟨w.heap.size, 0, none⟩)) none (some (.int .i64 (Lib.nDigits u : Int))) none).run Tryd.prog W = .ok (.slice (some ⟨w.heap.size, 0, none⟩) (Lib.nDigits u) 24) W := fun W => by
    rw [run_sliceAt_array_h W 71 ⟨w.heap.size, 0, none⟩ (by kernel_rfl) .i64 (Lib.nDigits u : Int) (by omega) (by rw [hal]; omega)]
    go_simp
  have hH0 := holds_zero0 w 71 (Lib.nDigits u) (by omega)
  have hfmt := lib_internal_strconv_formatBase10 w.heap.size 0 24 u (Array.replicate (Lib.nDigits u) 0) (w.alloc (.cells Lib.zeros24 71)) hH0 (by rw [Array.size_replicate]; exact Lib.lt_pow_nDigits u) hu64 (by rw [Array.size_replicate]; omega)
  rw [Array.size_replicate] at hfmt
  have HH0 := Lib.hid hH0
  have D := Lib.hid (decDigits_dig u)
  have htab' := Lib.tabIs_alloc htab (.cells Lib.zeros24 71)
  have N := fun W hT => lib_internal_strconv_numDigits u hu1 hu64 W hT
  have T : decide ((u : Int) < 100) = false := by simp; omega
  clear hH0 hal hu1 h htab
  go_enter Tryd.func62, Tryd.ntmps62
  go_wp2_with (go_at_call 70; refine (N _ htab').mono ?_; rintro e w' ⟨rfl, rfl⟩)
  go_at_call 71
  refine hfmt.mono ?_
  rintro e w' ⟨rfl, k, v', dk, rfl, hF⟩
  have hcv : (convert 67 9 (.slice (some ⟨w.heap.size, 0, none⟩) (Lib.nDigits u) 24)).run Tryd.prog ((putRow (fun (b : UInt8) => Value.int .u8 (b.toNat : Int)) (w.alloc (.cells Lib.zeros24 71)) w.heap.size 0 dk).drewN k) = .ok (.string ⟨(Lib.decDigits u).toArray⟩) ((putRow (fun (b : UInt8) => Value.int .u8 (b.toNat : Int)) (w.alloc (.cells Lib.zeros24 71)) w.heap.size 0 dk).drewN k) := by
    have h := run_convert_bytes_back (P := Tryd.prog) ((putRow (fun (b : UInt8) => Value.int .u8 (b.toNat : Int)) (w.alloc (.cells Lib.zeros24 71)) w.heap.size 0 dk).drewN k) 67 9 5 ⟨w.heap.size, 0, none⟩ 24 (Lib.decDigits u) Tryd.underlying67 Tryd.underlying5 Tryd.underlying9 (fun j hj => by
      rw [Lib.row_is_numeral hF j hj, Lib.add_plain, World.cell?_drewN]
      exact cell?_putRow (fun (b : UInt8) => Value.int .u8 (b.toNat : Int)) _ w.heap.size 0 _ dk HH0.out (by rw [hF.size, Array.size_replicate]) j (by rw [hF.size]; rw [Lib.decDigits_length] at hj; exact hj))
    rw [Lib.decDigits_length] at h
    exact h
  go_wp2
  go_ret
  refine ⟨by rw [D.out]; rfl, ?_⟩
  rw [alloc_eq_grow]
  obtain ⟨os', _, e⟩ := putRow_grow_new (fun (b : UInt8) => Value.int .u8 (b.toNat : Int)) w #[.cells Lib.zeros24 71] w.heap.size 0 dk (Nat.le_refl _)
  rw [e]
  exact below_grow
theorem uint_any {u : Nat} (hu64 : u < 18446744073709551616) {w : World} (ht : Tabs w) : Calls Tryd.prog 55 #[.int .u64 u, .int .i64 10] w fun e w' => e = .returned (.string (strL (digL u))) ∧ Below w.heap.size w w' := by
  have U : Calls Tryd.prog 62 #[.int .u64 u, .int .i64 10] w fun e w' => e = .returned (.string (strL (digL u))) ∧ Below w.heap.size w w' := by
    by_cases h : u < 100
    · exact (uint_small h w).mono fun e w' h => ⟨h.1, h.2 ▸ Below.refl _ _⟩
    · exact uint_long (by omega) hu64 ht.pow
  clear ht hu64
  go_enter Tryd.func55, Tryd.ntmps55
  go_wp2_with (go_at_call 62; refine U.mono ?_; rintro e w' ⟨rfl, hb⟩)
  go_ret
  exact ⟨rfl, hb⟩
theorem itoa_any {n : Int} (h0 : -9223372036854775808 ≤ n) (h1 : n ≤ 9223372036854775807) {w : World} (ht : Tabs w) : Calls Tryd.prog 56 #[.int .i64 n] w fun e w' => e = .returned (.string (expS n)) ∧ Below w.heap.size w w' := by
  refine (lib_strconv_Itoa n h0 h1 w ht.pow).mono ?_
  rintro e w' ⟨rfl, k, os, rfl⟩
  refine ⟨?_, below_grow⟩
  congr 2
  unfold Lib.itoa expS
  by_cases h : n < 0
  · rw [if_pos h, if_pos h, decDigits_dig, show n.natAbs = (-n).toNat by omega]
    exact (strL_append [45] (digL (-n).toNat)).symm
  · rw [if_neg h, if_neg h, decDigits_dig]; rfl
end Go.Proofs.YthplhgbclbeodaaDoor

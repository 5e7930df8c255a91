/-
  Contract of the library's strings.Clone: the same bytes in new memory.
  Contracts of the program's readInt, readCount, readStr, readTruth, readKind.
  Contract of the program's readFloat.
-/
import Derived.Test.YtekojglcbalhnaaGreatDoorM12
import Derived.Lib.BufferWrite
import Derived.Lib.UnsafeStr
import Derived.Test.YtekojglcbalhnaaGreatDoorM15
import Derived.Test.YtekojglcbalhnaaGreatDoorM02
import Derived.Test.YtekojglcbalhnaaGreatDoorM06
namespace Go.Proofs.YtekojglcbalhnaaGreatDoor
open Go.RowKit

theorem info5s : (Tryz.prog.info? 5).map (·.size) = some 1 := by kernel_rfl
theorem cells5 : Tryz.prog.cellsOf 5 = 1 := by kernel_rfl
theorem clone_0 (w : World) : Calls Tryz.prog 204 #[.string ⟨#[]⟩] w fun e w' => e = .returned (.string ⟨#[]⟩) ∧ w = w' := by
  go_enter Tryz.func204, Tryz.ntmps204
  go_wp2_with fail
  go_ret
  exact ⟨rfl, rfl⟩
theorem bytes_len (s : ByteArray) : s.data.toList.length = s.size := by rw [Array.length_toList]; rfl
theorem bytes_str (s : ByteArray) : (⟨s.data.toList.toArray⟩ : ByteArray) = s := by cases s; simp
set_option maxRecDepth 20000 in
set_option maxHeartbeats 1000000 in
theorem clone_any {s : ByteArray} (h : s.size ≤ 1000000000) (w : World) : Calls Tryz.prog 204 #[.string s] w fun e w' => e = .returned (.string s) ∧ Below w.heap.size w w' := by
  by_cases h0 : s.size = 0
  · have e : s = ⟨#[]⟩ := by
      apply ByteArray.ext
      exact Array.eq_empty_of_size_eq_zero h0
    subst e
    exact (clone_0 w).mono fun e w' ⟨h1, h2⟩ => ⟨h1, h2 ▸ Below.refl _ _⟩
  · have t0 : ((s.size : Int) == 0) = false := by rw [beq_eq_false_iff_ne]; omega
    obtain ⟨i0, hi, hz0, hz1, hz2⟩ := info_parts info5
    have H0 := Lib.hid h0
    clear h0
    go_enter Tryz.func204, Tryz.ntmps204
    go_wp2_with (at_make; refine wpList_make_full _ rfl (.tmp 8) (.tmp 8) 103 rfl w.heap.size 5 i0 (.int .u8 0) 1 Tryz.underlying103 hi hz0 hz1 .i64 .i64 _ _ s.size rfl rfl rfl rfl (by rw [hz2]; omega) (by unfold maxLen; omega) (Nat.le_refl _) ?_; intro w1 hown hgrow; refine Hid.out ?_)
    refine Lib.hid ?_
    have hb1 : Below w.heap.size w w1 := (Below.refl _ _).grown hgrow (Nat.le_refl _) (fun k h => by cases h)
    have hpos : 0 < s.size := by have := H0.out; omega
    obtain ⟨cur, hg, hcur⟩ : ∃ cur, w1.heap[w.heap.size]? = some (.cells cur 5 (0, 0)) ∧ cur.size = s.size := by
      rcases hown.2 with ⟨hv, _⟩ | ⟨g, cap, cur, hv, _, hh, _, _, hs, _⟩
      · cases hv
      · injection hv with h1 h2 h3
        injection h1 with h1
        injection h1 with h1
        subst h1 h3
        exact ⟨cur, hh, by omega⟩
    have hcp := fun ty => Lib.run_copy_row_string (P := Tryz.prog) w1 103 9 ty 5 w.heap.size 0 s.size s.size s cur 5 Tryz.underlying103 info5s hg (Nat.le_refl _) (by omega)
    have hrow : (cur.toList.take 0 ++ Lib.byteCells s.data.toList ++ cur.toList.drop (0 + s.size)).toArray = (Lib.byteCells s.data.toList).toArray := by
      rw [List.drop_of_length_le (by rw [Array.length_toList]; omega)]; simp
    rw [hrow] at hcp
    obtain ⟨w2, hw2⟩ : ∃ w2, w2 = w1.setRow w.heap.size (Lib.byteCells s.data.toList).toArray := ⟨_, rfl⟩
    rw [← hw2] at hcp
    have hh2 : w2.heap[w.heap.size]? = some (.cells (Lib.byteCells s.data.toList).toArray 5 (0, 0)) := by rw [hw2]; exact setRow_heap w1 _ cur _ 5 _ hg
    have hb2 : Below w.heap.size w w2 := by rw [hw2]; exact hb1.trans ⟨rfl, rfl, rfl, by simp [World.setRow], fun k hk => setRow_other w1 _ k _ (by omega)⟩
    have hsh : w2.shape? w.heap.size = some (5, s.size) := by simp [World.shape?, hh2, Lib.byteCells_length]
    have hun := fun ty => Lib.run_unsafeString_row (P := Tryz.prog) w2 263 3 ty 5 Tryz.underlying263 cells5 w.heap.size s.size hsh s.data.toList (by intro e; have := bytes_len s; rw [e] at this; simp at this; omega) (by rw [bytes_len]; exact Nat.le_refl _) (by rw [bytes_len]; omega) (fun j x hx => by
      rw [Addr.add_lit, Nat.zero_add]
      have : (Lib.byteCells s.data.toList)[j]? = some (.int .u8 x.toNat) := by simp [Lib.byteCells, hx]
      simp [World.cell?, hh2, this])
    rw [bytes_len, bytes_str] at hun
    have HB2 := Lib.hid (Lib.below_freeze hb2 (p := ⟨w.heap.size, 0, none⟩) (Nat.le_refl _) s.size)
    clear hown hgrow hg hcur hrow hh2 hw2 hb1 hb2 hsh
    go_wp2_with fail
    go_ret
    exact ⟨rfl, HB2.out⟩
theorem Clone_any {s : ByteArray} (h : s.size ≤ 1000000000) (w : World) : Calls Tryz.prog 176 #[.string s] w fun e w' => e = .returned (.string s) ∧ Below w.heap.size w w' := by
  have C := clone_any h
  go_enter Tryz.func176, Tryz.ntmps176
  go_wp2_with (go_at_call 204; refine (C _).mono ?_; rintro e w1 ⟨rfl, hb1⟩)
  go_ret
  exact ⟨rfl, hb1⟩
end Go.Proofs.YtekojglcbalhnaaGreatDoor
namespace Go.Proofs.YtekojglcbalhnaaGreatDoor
open Go.RowKit

theorem DEnds.error {s : ByteArray} {w : World} {g : Nat} {p : Int} {α : Type} {c : Nat} {x : Ending} {w' : World} {val : α → Value} (h : DEnds s w g p (.error c : Except Nat (α × List UInt8)) x w' val) : x = .panicked (errL c) ∧ Past g w w' := ⟨h.2, h.1⟩
theorem DEnds.okay {s : ByteArray} {w : World} {g : Nat} {p : Int} {α : Type} {n : α} {l : List UInt8} {x : Ending} {w' : World} {val : α → Value} (h : DEnds s w g p (.ok (n, l)) x w' val) : x = .returned (val n) ∧ Past g w w' ∧ ∃ a : Nat, a ≤ s.size ∧ l = left s a ∧ Dr w' g s a p := ⟨h.2.1, h.1, h.2.2⟩
theorem insist_is (b : Bool) (w : World) : Calls Tryz.prog 141 #[.bool b] w fun e w' => e = (if b = true then .returned (.tuple #[]) else .panicked (errL 5)) ∧ w = w' := by
  cases b with
  | true => exact (insist_yes w).mono fun e w' h => by rw [if_pos rfl]; exact h
  | false => exact (insist_no w).mono fun e w' h => by rw [if_neg Bool.false_ne_true]; exact h
section
variable {w : World} {g : Nat} {s : ByteArray} {a : Nat} {p : Int}
theorem readInt_ok (h : Dr w g s a p) (ha : a ≤ s.size) (hs : s.size ≤ 1000000000) :
    Calls Tryz.prog 195 #[.pointer (some ⟨g, 0, none⟩)] w fun x w' => DEnds s w g p (iP (left s a)) x w' (fun n : Int => .int .i64 n) := by
  have U := readUint_ok h ha hs
  unfold iP
  have hin : ∀ n l, uP 0 0 (left s a) = .ok (n, l) → n < 18446744073709551616 := fun n l hu => uP_lt _ 0 0 n l (fun _ => by decide) hu
  cases hu : uP 0 0 (left s a) with
  | error c =>
    rw [hu] at U
    have U' := U.mono fun e w1 h => DEnds.error h
    clear h hu U hin
    go_enter Tryz.func195, Tryz.ntmps195
    go_wp2_with (go_at_call 112; refine U'.mono ?_; rintro e w1 ⟨rfl, hp1⟩)
    exact ⟨rfl, hp1, rfl⟩
  | ok z =>
    obtain ⟨n, l⟩ := z
    rw [hu] at U
    have hn := hin n l hu
    have U' := U.mono fun e w1 h => DEnds.okay h
    have E1 : wrap64 (IntKind.u64.wrap ((n : Int) / 2)) = (n : Int) / 2 := by rw [IntKind.wrap_u64]; unfold wrap64; omega
    have HE := Lib.hid E1
    have HN := Lib.hid hn
    clear h hu U hin hn E1
    by_cases h2 : n % 2 = 1
    · have t : ((n : Int) % 2 == 1) = true := by simp; omega
      have Z := Lib.hid (show wrap64 (wrap64 (-wrap64 (IntKind.u64.wrap ((n : Int) / 2))) - 1) = zag n by
        rw [HE.out]; unfold zag; rw [if_pos h2]; have := HN.out; unfold wrap64; omega)
      clear h2
      go_enter Tryz.func195, Tryz.ntmps195
      go_wp2_with (go_at_call 112; refine U'.mono ?_; rintro e w1 ⟨rfl, hp1, hr1⟩; have HR1 := Lib.hid hr1; clear hr1)
      go_ret
      exact ⟨hp1, congrArg (fun z => Ending.returned (Value.int .i64 z)) Z.out, HR1.out⟩
    · have t : ((n : Int) % 2 == 1) = false := by simp; omega
      have Z := Lib.hid (show wrap64 (IntKind.u64.wrap ((n : Int) / 2)) = zag n by rw [HE.out]; unfold zag; rw [if_neg h2]; omega)
      clear h2
      go_enter Tryz.func195, Tryz.ntmps195
      go_wp2_with (go_at_call 112; refine U'.mono ?_; rintro e w1 ⟨rfl, hp1, hr1⟩; have HR1 := Lib.hid hr1; clear hr1)
      go_ret
      exact ⟨hp1, congrArg (fun z => Ending.returned (Value.int .i64 z)) Z.out, HR1.out⟩
theorem readCount_ok (h : Dr w g s a p) (ha : a ≤ s.size) (hs : s.size ≤ 1000000000) :
    Calls Tryz.prog 198 #[.pointer (some ⟨g, 0, none⟩)] w fun x w' => DEnds s w g p (mP (left s a)) x w' (fun n : Nat => .int .i64 n) := by
  have U := readUint_ok h ha hs
  cases hu : uP 0 0 (left s a) with
  | error c =>
    rw [hu] at U
    have U' := U.mono fun e w1 h => DEnds.error h
    have em : mP (left s a) = .error c := by unfold mP; rw [hu]
    rw [em]
    clear h hu U em
    go_enter Tryz.func198, Tryz.ntmps198
    go_wp2_with (go_at_call 112; refine U'.mono ?_; rintro e w1 ⟨rfl, hp1⟩)
    exact ⟨rfl, hp1, rfl⟩
  | ok z =>
    obtain ⟨n, l⟩ := z
    rw [hu] at U
    have U' := U.mono fun e w1 h => DEnds.okay h
    have Y := Lib.hid insist_yes
    have N := Lib.hid insist_no
    have em : mP (left s a) = if 200 < n then .error 5 else .ok (n, l) := by unfold mP; rw [hu]
    rw [em]
    clear h hu U em
    by_cases h2 : 200 < n
    · have t : decide ((n : Int) ≤ 200) = false := by simp; omega
      rw [if_pos h2]
      go_enter Tryz.func198, Tryz.ntmps198
      go_wp2_with (first | (go_at_call 112; refine U'.mono ?_; rintro e w1 ⟨rfl, hp1, hr1⟩) | (go_at_call 141; refine (N.out _).mono ?_; rintro e w2 ⟨rfl, rfl⟩))
      exact ⟨rfl, hp1, rfl⟩
    · have t : decide ((n : Int) ≤ 200) = true := by simp; omega
      rw [if_neg h2]
      go_enter Tryz.func198, Tryz.ntmps198
      go_wp2_with (first | (go_at_call 112; refine U'.mono ?_; rintro e w1 ⟨rfl, hp1, hr1⟩; have HR1 := Lib.hid hr1; clear hr1) | (go_at_call 141; refine (Y.out _).mono ?_; rintro e w2 ⟨rfl, rfl⟩))
      go_ret
      exact ⟨hp1, rfl, HR1.out⟩
set_option maxRecDepth 20000 in
theorem readTruth_end (h : Dr w g s a p) (hs : s.size ≤ 1000000000) (ha : a = s.size) :
    Calls Tryz.prog 194 #[.pointer (some ⟨g, 0, none⟩)] w fun x w' => x = .panicked (errL 14) ∧ Past g w w' := by
  have B := readByte_end h hs ha
  clear h
  go_enter Tryz.func194, Tryz.ntmps194
  go_wp2_with (go_at_call 140; refine B.mono ?_; rintro e w1 ⟨rfl, hp1⟩)
  exact ⟨rfl, rfl, hp1⟩
set_option maxRecDepth 20000 in
theorem readTruth_no (h : Dr w g s a p) (hs : s.size ≤ 1000000000) (ha : a < s.size) (hb : 1 < s[a].toNat) :
    Calls Tryz.prog 194 #[.pointer (some ⟨g, 0, none⟩)] w fun x w' => x = .panicked (errL 5) ∧ Past g w w' := by
  have B := readByte_ok h hs ha
  have N := Lib.hid insist_no
  generalize s[a] = b at *
  have t : decide ((b.toNat : Int) ≤ 1) = false := by simp; omega
  clear h
  go_enter Tryz.func194, Tryz.ntmps194
  go_wp2_with (first | (go_at_call 140; refine B.mono ?_; rintro e w1 ⟨rfl, h1, hp1⟩) | (go_at_call 141; refine (N.out _).mono ?_; rintro e w2 ⟨rfl, rfl⟩))
  exact ⟨rfl, rfl, hp1⟩
set_option maxRecDepth 20000 in
theorem readTruth_yes (h : Dr w g s a p) (hs : s.size ≤ 1000000000) (ha : a < s.size) (hb : ¬ 1 < s[a].toNat) :
    Calls Tryz.prog 194 #[.pointer (some ⟨g, 0, none⟩)] w fun x w' => x = .returned (.int .i64 (s[a].toNat : Nat)) ∧ Dr w' g s ((a + 1 : Nat) : Int) p ∧ Past g w w' := by
  have B := readByte_ok h hs ha
  have Y := Lib.hid insist_yes
  generalize s[a] = b at *
  have t : decide ((b.toNat : Int) ≤ 1) = true := by simp; omega
  have hb2 := b.toNat_lt
  clear h
  go_enter Tryz.func194, Tryz.ntmps194
  go_wp2_with (first | (go_at_call 140; refine B.mono ?_; rintro e w1 ⟨rfl, h1, hp1⟩; have H1 := Lib.hid h1; clear h1) | (go_at_call 141; refine (Y.out _).mono ?_; rintro e w2 ⟨rfl, rfl⟩))
  go_ret
  exact ⟨rfl, H1.out, hp1⟩
set_option maxRecDepth 20000 in
theorem kind_no (h : Dr w g s a p) (hp : 0 ≤ p ∧ p ≤ 1000) {d : Int} (hd : 12 ≤ d ∨ 200 < p + 1) :
    Calls Tryz.prog 193 #[.pointer (some ⟨g, 0, none⟩), .int .i64 d] w fun x w' => x = .panicked (errL 5) ∧ Past g w w' := by
  obtain ⟨c0, c1, c2, cf⟩ := h.cells
  have h1 := h.set2 (p + 1)
  have P1 := Lib.hid ((Past.refl g w).set 2 (.int .i64 (p + 1)))
  obtain ⟨w1, hw1⟩ : ∃ w1, w1 = w.setCell ⟨g, 2, none⟩ (.int .i64 (p + 1)) := ⟨_, rfl⟩
  have N := Lib.hid insist_no
  clear h
  by_cases h12 : d < 12
  · have h2 : decide (p + 1 ≤ 200) = false := by simp; omega
    go_enter Tryz.func193, Tryz.ntmps193
    go_wp2_with (go_at_call 141; refine (N.out _).mono ?_; rintro e w2 ⟨rfl, rfl⟩)
    exact ⟨rfl, rfl, P1.out⟩
  · go_enter Tryz.func193, Tryz.ntmps193
    go_wp2_with (go_at_call 141; refine (N.out _).mono ?_; rintro e w2 ⟨rfl, rfl⟩)
    exact ⟨rfl, rfl, P1.out⟩
/-- A part begins, and its kind is read. -/
def kindP (d p : Int) (l : List UInt8) : Except Nat (Nat × List UInt8) := if 12 ≤ d ∨ 200 < p + 1 then .error 5 else match l with | [] => .error 14 | b :: r => .ok (b.toNat, r)
set_option maxRecDepth 20000 in
theorem kind_any (h : Dr w g s a p) (hp : 0 ≤ p ∧ p ≤ 1000) (ha : a ≤ s.size) (hs : s.size ≤ 1000000000) {d : Int} :
    Calls Tryz.prog 193 #[.pointer (some ⟨g, 0, none⟩), .int .i64 d] w fun x w' => DEnds s w g (p + 1) (kindP d p (left s a)) x w' (fun k : Nat => .int .i64 k) := by
  by_cases hd : 12 ≤ d ∨ 200 < p + 1
  · have e : kindP d p (left s a) = .error 5 := by unfold kindP; rw [if_pos hd]
    rw [e]
    exact (kind_no h hp hd).mono fun x w' hx => ⟨hx.2, hx.1⟩
  · obtain ⟨c0, c1, c2, cf⟩ := h.cells
    have h1 := h.set2 (p + 1)
    have hP1 := (Past.refl g w).set 2 (.int .i64 (p + 1))
    have Y := Lib.hid insist_yes
    have h12 : d < 12 := by omega
    have h2 : decide (p + 1 ≤ 200) = true := by simp; omega
    by_cases hlt : a < s.size
    · have B := readByte_ok h1 hs hlt
      have e : kindP d p (left s a) = .ok (s[a].toNat, left s (a + 1)) := by unfold kindP; rw [if_neg hd, left_cons hlt]
      rw [e]
      generalize s[a] = b at *
      have hb2 := b.toNat_lt
      have P1 := Lib.hid hP1
      clear h h1 hd e hP1
      go_enter Tryz.func193, Tryz.ntmps193
      go_wp2_with (first | (go_at_call 141; refine (Y.out _).mono ?_; rintro e w2 ⟨rfl, rfl⟩) | (go_at_call 140; refine B.mono ?_; rintro e w3 ⟨rfl, h3, hp3⟩))
      go_ret
      exact ⟨P1.out.trans hp3, rfl, a + 1, hlt, rfl, h3⟩
    · have B := readByte_end h1 hs (by omega)
      have e : kindP d p (left s a) = .error 14 := by unfold kindP; rw [if_neg hd, left_nil (by omega)]
      rw [e]
      have P1 := Lib.hid hP1
      clear h h1 hd e hP1
      go_enter Tryz.func193, Tryz.ntmps193
      go_wp2_with (first | (go_at_call 141; refine (Y.out _).mono ?_; rintro e w2 ⟨rfl, rfl⟩) | (go_at_call 140; refine B.mono ?_; rintro e w3 ⟨rfl, hp3⟩))
      exact ⟨rfl, P1.out.trans hp3, rfl⟩
set_option maxRecDepth 20000 in
set_option maxHeartbeats 2000000 in
theorem readStr_ok {most : Int} (h : Dr w g s a p) (ha : a ≤ s.size) (hs : s.size ≤ 1000000000) (hm : -9223372036854775808 ≤ most ∧ most ≤ 9223372036854775807) :
    Calls Tryz.prog 197 #[.pointer (some ⟨g, 0, none⟩), .int .i64 most] w fun x w' => DEnds s w g p (sP most (left s a)) x w' (fun t => .string t) := by
  have U := readUint_ok h ha hs
  have Y := Lib.hid insist_yes
  have N := Lib.hid insist_no
  cases hu : uP 0 0 (left s a) with
  | error c =>
    rw [hu] at U
    have U' := U.mono fun e w1 h => DEnds.error h
    have em : sP most (left s a) = .error c := by unfold sP; rw [hu]
    rw [em]
    clear h hu U em
    go_enter Tryz.func197, Tryz.ntmps197
    go_wp2_with (go_at_call 112; refine U'.mono ?_; rintro e w1 ⟨rfl, hp1⟩)
    exact ⟨rfl, hp1, rfl⟩
  | ok z =>
    obtain ⟨n, l⟩ := z
    rw [hu] at U
    have hn := uP_lt _ 0 0 n l (fun _ => by decide) hu
    have U' := U.mono fun e w1 h => DEnds.okay h
    have em : sP most (left s a) = if most < 0 ∨ most < n then .error 5 else if l.length < n then .error 14 else .ok (strL (l.take n), l.drop n) := by unfold sP; rw [hu]
    rw [em]
    clear h hu U em
    by_cases h0 : most < 0
    · have t : decide (0 ≤ most) = false := by simp; omega
      rw [if_pos (.inl h0)]
      go_enter Tryz.func197, Tryz.ntmps197
      go_wp2_with (first | (go_at_call 112; refine U'.mono ?_; rintro e w1 ⟨rfl, hp1, hr1⟩; have HR1 := Lib.hid hr1; clear hr1) | (go_at_call 141; refine (N.out _).mono ?_; rintro e w2 ⟨rfl, rfl⟩))
      exact ⟨rfl, hp1, rfl⟩
    · have t : decide (0 ≤ most) = true := by simp; omega
      have E1 : IntKind.u64.wrap most = most := by rw [IntKind.wrap_u64]; omega
      by_cases h1 : most < n
      · have t2 : decide ((n : Int) ≤ most) = false := by simp; omega
        rw [if_pos (.inr h1)]
        go_enter Tryz.func197, Tryz.ntmps197
        go_wp2_with (first | (go_at_call 112; refine U'.mono ?_; rintro e w1 ⟨rfl, hp1, hr1⟩; have HR1 := Lib.hid hr1; clear hr1) | (go_at_call 141; refine (N.out _).mono ?_; rintro e w2 ⟨rfl, rfl⟩))
        exact ⟨rfl, hp1, rfl⟩
      · have t2 : decide ((n : Int) ≤ most) = true := by simp; omega
        rw [if_neg (by omega)]
        have HS := Lib.hid hs
        clear h0 h1 hm
        by_cases hlt : l.length < n
        · rw [if_pos hlt]
          have HLT := Lib.hid hlt
          clear hlt
          go_enter Tryz.func197, Tryz.ntmps197
          go_wp2_with (first | (go_at_call 112; refine U'.mono ?_; rintro e w1 ⟨rfl, hp1, hr1⟩; have HR1 := Lib.hid hr1; clear hr1) | (go_at_call 141; refine (Y.out _).mono ?_; rintro e w2 ⟨rfl, rfl⟩; refine Hid.out ?_))
          refine Lib.hid ?_
          obtain ⟨a1, ha1, hl, hr1⟩ := HR1.out
          have hlen := left_len s a1
          rw [← hl] at hlen
          have T := take_torn (n := n) hr1 ha1 hs (by have := HLT.out; omega)
          have HT := Lib.hid T
          clear T hr1 HR1 hlen hl
          go_wp2_with (go_at_call 165; refine HT.out.mono ?_; rintro e w3 ⟨rfl, hp3⟩)
          exact ⟨rfl, hp1.trans hp3, rfl⟩
        · rw [if_neg hlt]
          have HLT := Lib.hid hlt
          obtain ⟨tt, htt⟩ : ∃ tt, tt = strL (l.take n) := ⟨_, rfl⟩
          obtain ⟨dl, hdl⟩ : ∃ dl, dl = l.drop n := ⟨_, rfl⟩
          rw [← htt, ← hdl]
          have HTT := Lib.hid htt
          have HDL := Lib.hid hdl
          clear hlt htt hdl
          go_enter Tryz.func197, Tryz.ntmps197
          go_wp2_with (first | (go_at_call 112; refine U'.mono ?_; rintro e w1 ⟨rfl, hp1, hr1⟩; have HR1 := Lib.hid hr1; clear hr1) | (go_at_call 141; refine (Y.out _).mono ?_; rintro e w2 ⟨rfl, rfl⟩; refine Hid.out ?_))
          refine Lib.hid ?_
          obtain ⟨a1, ha1, hl, hr1⟩ := HR1.out
          have hlen := left_len s a1
          have hn1 : a1 + n ≤ s.size := by
            have := HLT.out
            rw [hl] at this
            omega
          have T := take_ok (n := n) hr1 hs hn1
          have ex : s.extract a1 (a1 + n) = tt := by rw [HTT.out, hl]; exact cut_left s a1 n
          rw [ex] at T
          have HT := Lib.hid T
          have hsz : tt.size ≤ 1000000000 := by
            have e1 : (strL (l.take n)).size = (l.take n).length := rfl
            rw [HTT.out, e1, List.length_take, hl, hlen]; omega
          have HC := Lib.hid fun W => Clone_any hsz W
          have HD := Lib.hid (show dl = left s (a1 + n) by rw [HDL.out, hl]; unfold left; rw [List.drop_drop])
          have HA := Lib.hid hn1
          clear T hr1 HR1 hlen ex hsz hn1 hl
          go_wp2_with (first | (go_at_call 165; refine HT.out.mono ?_; rintro e w3 ⟨rfl, hr3, hp3⟩; have HR3 := Lib.hid hr3; clear hr3) | (go_at_call 176; refine (HC.out _).mono ?_; rintro e w4 ⟨rfl, hb4⟩))
          go_ret
          exact ⟨(hp1.trans hp3).trans (Past.of_below hb4), rfl, a1 + n, HA.out, HD.out, HR3.out.past hb4⟩
end
end Go.Proofs.YtekojglcbalhnaaGreatDoor
namespace Go.Proofs.YtekojglcbalhnaaGreatDoor
open Go.RowKit

def accW (l : List UInt8) (b : Nat) : Nat := l.foldl (fun x c => x * 256 + c.toNat) b
theorem wP_acc : ∀ (k b : Nat) (l : List UInt8), k ≤ l.length → wP k b l = .ok (accW (l.take k) b, l.drop k) := by
  intro k
  induction k with
  | zero => intro b l _; rfl
  | succ k ih =>
    intro b l h
    cases l with
    | nil => simp at h
    | cons c l => rw [wP, ih _ _ (by simpa using h)]; rfl
theorem accW_snoc (l : List UInt8) (c : UInt8) (b : Nat) : accW (l ++ [c]) b = accW l b * 256 + c.toNat := by unfold accW; rw [List.foldl_append]; rfl
theorem accW_lt : ∀ (l : List UInt8) (b n : Nat), b < 2 ^ n → accW l b < 2 ^ (n + 8 * l.length) := by
  intro l
  induction l with
  | nil => intro b n h; simpa [accW] using h
  | cons c l ih =>
    intro b n h
    have hc := c.toNat_lt
    have := ih (b * 256 + c.toNat) (n + 8) (by rw [Nat.pow_add]; omega)
    rw [List.length_cons, show n + 8 * (l.length + 1) = n + 8 + 8 * l.length by omega]
    exact this
theorem or_byte {x b : Nat} (hx : x < 72057594037927936) (hb : b < 256) : bits .or .u64 (IntKind.u64.wrap ((x : Int) * 256)) (b : Int) = ((x * 256 + b : Nat) : Int) := by
  have e : IntKind.u64.wrap ((x : Int) * 256) = ((x * 256 : Nat) : Int) := by rw [IntKind.wrap_u64]; omega
  rw [e, u64_or_nat _ _ (by omega) (by omega)]
  have h := or_add (k := 8) (n := b) (x := x) (by omega)
  have e2 : x * 256 ||| b = x * 256 + b := by
    rw [Nat.or_comm]
    have e3 : (2 : Nat) ^ 8 = 256 := rfl
    rw [e3] at h
    omega
  rw [e2]
theorem readFloat_torn {w : World} {g : Nat} {s : ByteArray} {a : Nat} {p : Int} (h : Dr w g s a p) (ha : a ≤ s.size) (hs : s.size ≤ 1000000000) (hn : s.size < a + 8) :
    Calls Tryz.prog 196 #[.pointer (some ⟨g, 0, none⟩)] w fun x w' => x = .panicked (errL 14) ∧ Past g w w' := by
  have T := take_torn (n := 8) h ha hs hn
  clear h
  go_enter Tryz.func196, Tryz.ntmps196
  go_wp2_with (go_at_call 165; refine T.mono ?_; rintro e w1 ⟨rfl, hp1⟩)
  exact ⟨rfl, rfl, hp1⟩
set_option maxRecDepth 20000 in
set_option maxHeartbeats 2000000 in
theorem readFloat_ok {w : World} {g : Nat} {s : ByteArray} {a : Nat} {p : Int} (h : Dr w g s a p) (hs : s.size ≤ 1000000000) (hn : a + 8 ≤ s.size) :
    Calls Tryz.prog 196 #[.pointer (some ⟨g, 0, none⟩)] w fun x w' => DEnds s w g p (if canonW (accW ((left s a).take 8) 0) = accW ((left s a).take 8) 0 then .ok (accW ((left s a).take 8) 0, left s (a + 8)) else .error 5) x w' (fun b : Nat => .float .f64 b) := by
  have T := take_ok (n := 8) h hs hn
  rw [cut_left] at T
  have hlen : ((left s a).take 8).length = 8 := by rw [List.length_take, left_len]; omega
  have hlt := accW_lt ((left s a).take 8) 0 0 (by decide)
  generalize (left s a).take 8 = L at *
  have hsz : (strL L).size = 8 := hlen
  have hda : (strL L).data.toList = L := by unfold strL; simp
  have CB := fun W => conv_buf (strL L) W
  rw [hda] at CB
  have HC := Lib.hid CB
  have HL := Lib.hid hlen
  have HLT := Lib.hid (show accW L 0 < 18446744073709551616 by rw [hlen] at hlt; simpa using hlt)
  have HN := Lib.hid hn
  obtain ⟨tt, htt⟩ : ∃ tt, tt = strL L := ⟨_, rfl⟩
  rw [← htt] at T HC hsz
  obtain ⟨r, hr⟩ : ∃ r : Except Nat (Nat × List UInt8), r = (if canonW (accW L 0) = accW L 0 then .ok (accW L 0, left s (a + 8)) else .error 5) := ⟨_, rfl⟩
  rw [← hr]
  have HRR := Lib.hid hr
  clear h hlt hlen hda CB htt hr
  go_enter Tryz.func196, Tryz.ntmps196
  go_wp2_with (go_at_call 165; refine T.mono ?_; rintro e w1 ⟨rfl, hr1, hp1⟩; obtain ⟨v2, w2, hcv, hbuf, hb2⟩ := HC.out w1; have HR2 := Lib.hid (hr1.past hb2); have HP2 := Lib.hid (hp1.trans (Past.of_below hb2)); have HBF := Lib.hid hbuf; clear hr1 hp1 hbuf hb2; refine Hid.out ?_)
  refine Lib.hid ?_
  obtain ⟨gb, cap, hv, _, hgb, hcell, _⟩ := HBF.out
  rw [HL.out] at hv
  subst hv
  have HCE := Lib.hid hcell
  have CN := Canon_f (accW L 0)
  have BR := bits_run
  have FR := float_run
  have HCN := Lib.hid CN
  have HBR := Lib.hid BR
  have HFR := Lib.hid FR
  have Y := Lib.hid insist_yes
  have N := Lib.hid insist_no
  clear hcell CN BR FR
  go_wp2_with fail
  clear hcv
  go_loop [3, 11] (fun nv iv => ∃ (i x : Nat), i ≤ 8 ∧ nv = .int .u64 x ∧ iv = .int .i64 i ∧ Hid (x = accW (L.take i) 0)) (fun _ iv => 8 - (intOf iv).toNat)
  case atStart => exact ⟨0, 0, by omega, rfl, rfl, Lib.hid rfl⟩
  case round =>
    obtain ⟨i, x, hi, rfl, rfl, hx⟩ := hrel
    by_cases h8 : i < 8
    · have hLi : i < L.length := by rw [HL.out]; exact h8
      obtain ⟨b, hb⟩ : ∃ b, b = L[i] := ⟨_, rfl⟩
      have hc0 : w2.cell? ⟨gb, i, none⟩ = some (.int .u8 b.toNat) := HCE.out i _ (by simp [Lib.byteCells, hLi, hb])
      have hN : Hid (x * 256 + b.toNat = accW (L.take (i + 1)) 0) := Lib.hid (by rw [List.take_succ_eq_append_getElem hLi, accW_snoc, ← hx.out, hb])
      have hxlt : x < 72057594037927936 := by
        have h1 := accW_lt (L.take i) 0 0 (by decide)
        rw [← hx.out, List.length_take] at h1
        have h2 : 2 ^ (0 + 8 * min i L.length) ≤ 2 ^ 56 := Nat.pow_le_pow_right (by decide) (by omega)
        have h3 : (2 : Nat) ^ 56 = 72057594037927936 := rfl
        omega
      have HO := Lib.hid (or_byte hxlt b.toNat_lt)
      have HB := Lib.hid (show IntKind.u64.wrap (b.toNat : Int) = b.toNat by rw [IntKind.wrap_u64]; have := b.toNat_lt; omega)
      have HX := Lib.hid hxlt
      clear hb hLi hxlt hx
      go_wp2_with fail
      go_round
      case rel => exact ⟨i + 1, x * 256 + b.toNat, by omega, congrArg (Value.int .u64) (by rw [HB.out]; exact HO.out), by go_num, hN⟩
      case measure => simp [intOf]; omega
    · obtain rfl : i = 8 := by omega
      have hx8 : x = accW L 0 := by rw [hx.out, List.take_of_length_le (by rw [HL.out]; exact Nat.le_refl _)]
      rw [← hx8] at HCN HLT
      have hcn := HCN.out
      have hbr := HBR.out
      have hfr := HFR.out
      have HX8 := Lib.hid hx8
      have HCE2 := HCE
      by_cases hc : canonW x = x
      · have t : ((canonW x : Nat) : Int) = ((x : Nat) : Int) := by rw [hc]
        rw [hc] at hcn
        have HQ := Lib.hid (show canonW (accW L 0) = accW L 0 by rw [← hx8]; exact hc)
        clear hc t hx8 hx
        go_wp2_with (first | (go_at_call 189; refine (hcn _).mono ?_; rintro e w3 ⟨rfl, rfl⟩) | (go_at_call 141; refine (Y.out _).mono ?_; rintro e w4 ⟨rfl, rfl⟩))
        go_ret
        refine ⟨HP2.out, ?_⟩
        rw [HRR.out, if_pos HQ.out]
        exact ⟨by rw [← HX8.out]; rfl, a + 8, HN.out, rfl, HR2.out⟩
      · have HQ := Lib.hid (show ¬ canonW (accW L 0) = accW L 0 by rw [← hx8]; exact hc)
        obtain ⟨cx, hcx⟩ : ∃ cx, cx = canonW x := ⟨_, rfl⟩
        rw [← hcx] at hcn hc
        have t : ((cx : Int) == (x : Int)) = false := by rw [beq_eq_false_iff_ne]; omega
        clear hc hx8 hx hcx
        go_wp2_with (first | (go_at_call 189; refine (hcn _).mono ?_; rintro e w3 ⟨rfl, rfl⟩) | (go_at_call 141; refine (N.out _).mono ?_; rintro e w4 ⟨rfl, rfl⟩))
        refine ⟨rfl, HP2.out, ?_⟩
        rw [HRR.out, if_neg HQ.out]
        rfl
end Go.Proofs.YtekojglcbalhnaaGreatDoor

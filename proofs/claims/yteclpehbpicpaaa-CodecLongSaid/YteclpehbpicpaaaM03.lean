/-
  The document's reader: Int, begin, many.
  The document's reader: Str.
  Plain facts on numbers as bytes: what is written is read again, cut off it is none, and each has one way.
-/
import Derived.Test.YteclpehbpicpaaaM02
import Derived.Laws.DeepStrings4
namespace Go.Proofs.Yteclpehbpicpaaa
open Go.RowKit

theorem uP_lt : ∀ (l : List UInt8) (i n v : Nat) (r : List UInt8), (i ≤ 9 → n < 2 ^ (7 * i)) → uP i n l = .ok (v, r) → v < 18446744073709551616 := by
  intro l
  induction l with
  | nil => intro i n v r _ h; rw [uP_nil] at h; cases h
  | cons b l ih =>
    intro i n v r hn h
    by_cases hbad : 9 < i ∨ (i = 9 ∧ 1 < b.toNat) ∨ (0 < i ∧ b.toNat = 0)
    · rw [uP_bad hbad] at h; cases h
    · have hE := acc_eq hn hbad b.toNat_lt
      by_cases hl : b.toNat < 128
      · rw [uP_last hbad hl] at h
        cases h
        have h1 := hE.1
        rw [IntKind.wrap_u64] at h1
        omega
      · rw [uP_more hbad hl] at h
        exact ih (i + 1) _ v r hE.2 h
theorem uP_err : ∀ (l : List UInt8) (i n c : Nat), uP i n l = .error c → c = 5 ∨ c = 14 := by
  intro l
  induction l with
  | nil => intro i n c h; rw [uP_nil] at h; cases h; right; rfl
  | cons b l ih =>
    intro i n c h
    by_cases hbad : 9 < i ∨ (i = 9 ∧ 1 < b.toNat) ∨ (0 < i ∧ b.toNat = 0)
    · rw [uP_bad hbad] at h; cases h; left; rfl
    · by_cases hl : b.toNat < 128
      · rw [uP_last hbad hl] at h; cases h
      · rw [uP_more hbad hl] at h
        exact ih _ _ _ h
/-- A number read from a place on, both ways that it may end. -/
theorem Uint_bad {w : World} {g : Nat} {s : ByteArray} {a : Nat} {p : Int} {c : Nat} (h : Rdr w g s a 0 p) (ha : a ≤ s.size) (hs : s.size ≤ 1000000000) (hu : uP 0 0 (left s a) = .error c) :
    Calls Try.prog 28 #[.pointer (some ⟨g, 0, none⟩)] w fun x w' => x = .returned (.int .u64 0) ∧ Past g w w' ∧ ∃ a : Nat, Rdr w' g s a c p := by
  have U := Uint_ok h ha hs
  rw [hu] at U
  exact U.mono fun x w' hx => ⟨hx.2.1, hx.1, hx.2.2.2⟩
theorem Uint_good {w : World} {g : Nat} {s : ByteArray} {a : Nat} {p : Int} {n : Nat} {l : List UInt8} (h : Rdr w g s a 0 p) (ha : a ≤ s.size) (hs : s.size ≤ 1000000000) (hu : uP 0 0 (left s a) = .ok (n, l)) :
    Calls Try.prog 28 #[.pointer (some ⟨g, 0, none⟩)] w fun x w' => x = .returned (.int .u64 n) ∧ Past g w w' ∧ ∃ a : Nat, a ≤ s.size ∧ l = left s a ∧ Rdr w' g s a 0 p := by
  have U := Uint_ok h ha hs
  rw [hu] at U
  exact U.mono fun x w' hx => ⟨hx.2.1, hx.1, hx.2.2⟩
theorem Uint_err {w : World} {g : Nat} {s : ByteArray} {a e p : Int} (h : Rdr w g s a e p) (he : e ≠ 0) :
    Calls Try.prog 28 #[.pointer (some ⟨g, 0, none⟩)] w fun x w' => x = .returned (.int .u64 0) ∧ Rdr w' g s a e p ∧ Past g w w' := by
  have B := Byte_err h he
  have HH := Lib.hid h
  have te : (e != 0) = true := by simpa using he
  clear h
  go_enter Try.func28, Try.ntmps28
  go_wp2_with fail
  go_loopw [3, 4] (fun nv iv wr => nv = .int .u64 0 ∧ iv = .int .i64 0 ∧ wr = w) (fun _ _ _ => 0)
  case atStart => exact ⟨rfl, rfl, rfl⟩
  case round =>
    obtain ⟨rfl, rfl, rfl⟩ := hrel
    go_wp2_with (go_at_call 58; refine B.mono ?_; rintro e w1 ⟨rfl, h1, hp1⟩; obtain ⟨d0, d1, d2, d3, df⟩ := h1.cells)
    go_ret
    exact ⟨rfl, h1, hp1⟩
/-! ### Int -/
def zag (n : Nat) : Int := if n % 2 = 1 then -1 - (n / 2 : Nat) else (n / 2 : Nat)
def iP (l : List UInt8) : Except Nat (Int × List UInt8) := match uP 0 0 l with | .error c => .error c | .ok (n, r) => .ok (zag n, r)
set_option maxRecDepth 20000 in
theorem Int_ok {w : World} {g : Nat} {s : ByteArray} {a : Nat} {p : Int} (h : Rdr w g s a 0 p) (ha : a ≤ s.size) (hs : s.size ≤ 1000000000) :
    Calls Try.prog 29 #[.pointer (some ⟨g, 0, none⟩)] w fun x w' => Ends s w g p (iP (left s a)) x w' (.int .i64 0) (fun n => .int .i64 n) := by
  unfold iP
  cases hu : uP 0 0 (left s a) with
  | error c =>
    have U := Uint_bad h ha hs hu
    have hc := uP_err _ _ _ _ hu
    clear h hu
    go_enter Try.func29, Try.ntmps29
    go_wp2_with (go_at_call 28; refine U.mono ?_; rintro e w1 ⟨rfl, hp1, a1, h1⟩)
    go_ret
    exact ⟨hp1, rfl, by omega, a1, h1⟩
  | ok q =>
    obtain ⟨n, l⟩ := q
    have U := Uint_good h ha hs hu
    have hn := uP_lt _ 0 0 n l (fun _ => by decide) hu
    clear h hu
    by_cases ho : n % 2 = 1
    · have t : ((n : Int) % 2 == 1) = true := by simp; omega
      have HZ : Hid (zag n = wrap64 (-1 - wrap64 (IntKind.u64.wrap ((n : Int) / 2)))) := Lib.hid (by unfold zag; rw [if_pos ho, IntKind.wrap_u64]; unfold wrap64; omega)
      clear hn ho
      go_enter Try.func29, Try.ntmps29
      go_wp2_with (go_at_call 28; refine U.mono ?_; rintro e w1 ⟨rfl, hp1, a1, ha1, hl, h1⟩)
      go_ret
      exact ⟨hp1, congrArg (fun z => Ending.returned (Value.int .i64 z)) HZ.out.symm, a1, ha1, hl, h1⟩
    · have t : ((n : Int) % 2 == 1) = false := by simp; omega
      have HZ : Hid (zag n = wrap64 (IntKind.u64.wrap ((n : Int) / 2))) := Lib.hid (by unfold zag; rw [if_neg ho, IntKind.wrap_u64]; unfold wrap64; omega)
      clear hn ho
      go_enter Try.func29, Try.ntmps29
      go_wp2_with (go_at_call 28; refine U.mono ?_; rintro e w1 ⟨rfl, hp1, a1, ha1, hl, h1⟩)
      go_ret
      exact ⟨hp1, congrArg (fun z => Ending.returned (Value.int .i64 z)) HZ.out.symm, a1, ha1, hl, h1⟩
/-! ### many -/
def mP (l : List UInt8) : Except Nat (Nat × List UInt8) := match uP 0 0 l with | .error c => .error c | .ok (n, r) => if 200 < n then .error 5 else .ok (n, r)
set_option maxRecDepth 20000 in
theorem many_ok {w : World} {g : Nat} {s : ByteArray} {a : Nat} {p : Int} (h : Rdr w g s a 0 p) (ha : a ≤ s.size) (hs : s.size ≤ 1000000000) :
    Calls Try.prog 93 #[.pointer (some ⟨g, 0, none⟩)] w fun x w' => Ends s w g p (mP (left s a)) x w' (.int .i64 0) (fun n => .int .i64 n) := by
  cases hu : uP 0 0 (left s a) with
  | error c =>
    have U := Uint_bad h ha hs hu
    have hc := uP_err _ _ _ _ hu
    have e : mP (left s a) = .error c := by unfold mP; rw [hu]
    rw [e]
    clear h hu e
    go_enter Try.func93, Try.ntmps93
    go_wp2_with (go_at_call 28; refine U.mono ?_; rintro e w1 ⟨rfl, hp1, a1, h1⟩)
    go_ret
    exact ⟨hp1, rfl, by omega, a1, h1⟩
  | ok q =>
    obtain ⟨n, l⟩ := q
    have U := Uint_good h ha hs hu
    by_cases ho : 200 < n
    · have e : mP (left s a) = .error 5 := by unfold mP; rw [hu]; exact if_pos ho
      rw [e]
      clear h hu e
      go_enter Try.func93, Try.ntmps93
      go_wp2_with (first | (go_at_call 28; refine U.mono ?_; rintro e w1 ⟨rfl, hp1, a1, ha1, hl, h1⟩; have F := fail_0 h1 5) | (go_at_call 59; refine F.mono ?_; rintro e w2 ⟨rfl, h2, hp2⟩))
      go_ret
      exact ⟨hp1.trans hp2, rfl, by decide, a1, h2⟩
    · have e : mP (left s a) = .ok (n, l) := by unfold mP; rw [hu]; exact if_neg ho
      rw [e]
      clear h hu e
      have E1 : IntKind.i64.wrap (n : Int) = n := by rw [IntKind.wrap_i64]; omega
      go_enter Try.func93, Try.ntmps93
      go_wp2_with (go_at_call 28; refine U.mono ?_; rintro e w1 ⟨rfl, hp1, a1, ha1, hl, h1⟩)
      go_ret
      exact ⟨hp1, rfl, a1, ha1, hl, h1⟩
/-! ### begin -/
theorem begin_ok {w : World} {g : Nat} {s : ByteArray} {a : Nat} {p d : Int} (h : Rdr w g s a 0 p) (hp : 0 ≤ p ∧ p ≤ 1000) :
    Calls Try.prog 92 #[.pointer (some ⟨g, 0, none⟩), .int .i64 d] w fun x w' => x = .returned (.tuple #[]) ∧ Past g w w' ∧ Rdr w' g s a (if 12 < d ∨ 200 < p + 1 then 5 else 0) (p + 1) := by
  obtain ⟨c0, c1, c2, c3, cf⟩ := h.cells
  have h1 := h.set3 (p + 1)
  have hp1 : Past g w (w.setCell ⟨g, 3, none⟩ (.int .i64 (p + 1))) := (Past.refl _ _).set _ _
  have F := fail_0 h1 5
  have H1 := Lib.hid h1
  have HP1 := Lib.hid hp1
  clear h h1 hp1
  by_cases hd : 12 < d
  · rw [if_pos (.inl hd)]
    go_enter Try.func92, Try.ntmps92
    go_wp2_with (go_at_call 59; refine F.mono ?_; rintro e w2 ⟨rfl, h2, hp2⟩)
    go_end0
    exact ⟨rfl, HP1.out.trans hp2, h2⟩
  · by_cases h200 : 200 < p + 1
    · rw [if_pos (.inr h200)]
      go_enter Try.func92, Try.ntmps92
      go_wp2_with (go_at_call 59; refine F.mono ?_; rintro e w2 ⟨rfl, h2, hp2⟩)
      go_end0
      exact ⟨rfl, HP1.out.trans hp2, h2⟩
    · rw [if_neg (by omega)]
      go_enter Try.func92, Try.ntmps92
      go_wp2_with fail
      go_end0
      exact ⟨rfl, HP1.out, H1.out⟩
end Go.Proofs.Yteclpehbpicpaaa
namespace Go.Proofs.Yteclpehbpicpaaa
open Go.RowKit

def sP (most : Int) (l : List UInt8) : Except Nat (ByteArray × List UInt8) :=
  match uP 0 0 l with
  | .error c => .error c
  | .ok (n, r) => if most < 0 ∨ most < n then .error 5 else if r.length < n then .error 14 else .ok (strL (r.take n), r.drop n)
theorem cut_left (s : ByteArray) (a n : Nat) : s.extract a (a + n) = strL ((left s a).take n) := by
  apply ByteArray.ext
  unfold strL left
  rw [ByteArray.data_extract]
  apply Array.ext'
  simp
set_option maxRecDepth 20000 in
set_option maxHeartbeats 2000000 in
theorem Str_ok {w : World} {g : Nat} {s : ByteArray} {a : Nat} {p most : Int} (h : Rdr w g s a 0 p) (ha : a ≤ s.size) (hs : s.size ≤ 1000000000) (hm : -9223372036854775808 ≤ most ∧ most ≤ 9223372036854775807) :
    Calls Try.prog 30 #[.pointer (some ⟨g, 0, none⟩), .int .i64 most] w fun x w' => Ends s w g p (sP most (left s a)) x w' (.string ⟨#[]⟩) (fun t => .string t) := by
  cases hu : uP 0 0 (left s a) with
  | error c =>
    have U := Uint_bad h ha hs hu
    have hc := uP_err _ _ _ _ hu
    have e : sP most (left s a) = .error c := by unfold sP; rw [hu]
    rw [e]
    have tc : ((c : Int) != 0) = true := by simp; omega
    clear h hu e hm
    go_enter Try.func30, Try.ntmps30
    go_wp2_with (go_at_call 28; refine U.mono ?_; rintro e w1 ⟨rfl, hp1, a1, h1⟩; obtain ⟨d0, d1, d2, d3, df⟩ := h1.cells)
    go_ret
    exact ⟨hp1, rfl, by omega, a1, h1⟩
  | ok q =>
    obtain ⟨n, l⟩ := q
    have U := Uint_good h ha hs hu
    have hn := uP_lt _ 0 0 n l (fun _ => by decide) hu
    by_cases hbad : most < 0 ∨ most < n
    · have e : sP most (left s a) = .error 5 := by unfold sP; rw [hu]; exact if_pos hbad
      rw [e]
      clear h hu e
      by_cases h0 : most < 0
      · clear hn
        go_enter Try.func30, Try.ntmps30
        go_wp2_with (first | (go_at_call 28; refine U.mono ?_; rintro e w1 ⟨rfl, hp1, a1, ha1, hl, h1⟩; obtain ⟨d0, d1, d2, d3, df⟩ := h1.cells; have F := fail_0 h1 5) | (go_at_call 59; refine F.mono ?_; rintro e w2 ⟨rfl, h2, hp2⟩))
        go_ret
        exact ⟨hp1.trans hp2, rfl, by decide, a1, h2⟩
      · have E1 : IntKind.u64.wrap most = most := by rw [IntKind.wrap_u64]; omega
        have hlt : most < n := by omega
        clear hn hbad
        go_enter Try.func30, Try.ntmps30
        go_wp2_with (first | (go_at_call 28; refine U.mono ?_; rintro e w1 ⟨rfl, hp1, a1, ha1, hl, h1⟩; obtain ⟨d0, d1, d2, d3, df⟩ := h1.cells; have F := fail_0 h1 5) | (go_at_call 59; refine F.mono ?_; rintro e w2 ⟨rfl, h2, hp2⟩))
        go_ret
        exact ⟨hp1.trans hp2, rfl, by decide, a1, h2⟩
    · have E1 : IntKind.u64.wrap most = most := by rw [IntKind.wrap_u64]; omega
      have hle : (n : Int) ≤ most := by omega
      have h0 : 0 ≤ most := by omega
      by_cases hlen : l.length < n
      · have e : sP most (left s a) = .error 14 := by unfold sP; rw [hu]; exact (if_neg hbad).trans (if_pos hlen)
        rw [e]
        clear h hu e hn hbad hm
        go_enter Try.func30, Try.ntmps30
        go_wp2_with (first | (go_at_call 28; refine U.mono ?_; rintro e w1 ⟨rfl, hp1, a1, ha1, hl, h1⟩; obtain ⟨d0, d1, d2, d3, df⟩ := h1.cells))
        have hl2 : s.size - a1 < n := by rw [← left_len, ← hl]; exact hlen
        go_quiet (fail)
        have hd : Below w1.heap.size w1 (w1.drewN nq) := below_drewN (Below.refl _ _) _
        generalize w1.drewN nq = w2 at hd ⊢
        have F := fail_0 (h1.past hd) 14
        have P2 := Lib.hid (hp1.trans (Past.of_below hd))
        clear hd
        go_wp2_with (go_at_call 59; refine F.mono ?_; rintro e w3 ⟨rfl, h3, hp3⟩)
        go_ret
        exact ⟨P2.out.trans hp3, rfl, by decide, a1, h3⟩
      · have e : sP most (left s a) = .ok (strL (l.take n), l.drop n) := by unfold sP; rw [hu]; exact (if_neg hbad).trans (if_neg hlen)
        rw [e]
        clear h hu e hn hbad hm
        go_enter Try.func30, Try.ntmps30
        go_wp2_with (first | (go_at_call 28; refine U.mono ?_; rintro e w1 ⟨rfl, hp1, a1, ha1, hl, h1⟩; obtain ⟨d0, d1, d2, d3, df⟩ := h1.cells))
        have hl2 : n ≤ s.size - a1 := by rw [← left_len, ← hl]; omega
        have E2 : IntKind.i64.wrap (n : Int) = n := by rw [IntKind.wrap_i64]; omega
        have H1 := Lib.hid h1
        have HL := Lib.hid hl
        clear h1 hl hlen U
        go_quiet (fail)
        have hd : Below w1.heap.size w1 (w1.drewN nq) := below_drewN (Below.refl _ _) _
        generalize w1.drewN nq = w2 at hd ⊢
        obtain ⟨f0, f1, f2, f3, ff⟩ := (H1.out.past hd).cells
        have h2 := Lib.hid ((H1.out.past hd).set1 ((a1 : Int) + n))
        have P2 := Lib.hid ((hp1.trans (Past.of_below (g := g) hd)).set 1 (.int .i64 ((a1 : Int) + n)))
        clear hd d0 d1 d2 d3 df
        go_wp2_with fail
        obtain ⟨w3, hw3⟩ : ∃ w3, w3 = w2.setCell ⟨g, 1, none⟩ (.int .i64 ((a1 : Int) + n)) := ⟨_, rfl⟩
        rw [← hw3]
        have h3 := h2.out
        rw [← hw3] at h3
        have P3 := P2.out
        rw [← hw3] at P3
        obtain ⟨e0, e1, e2, e3, ef⟩ := h3.cells
        have H3 := Lib.hid h3
        have HP3 := Lib.hid P3
        clear hw3 h2 P2 f0 f1 f2 f3 ff h3 P3
        have i1 : (a1 : Int) + n - n = a1 := by omega
        have i2 : ((a1 : Int) + n).toNat = a1 + n := by omega
        have HC := Lib.hid (cut_left s a1 n)
        have SL : ∀ w : World, (Instr.slice 9 (.string s) (some (.int .i64 (a1 : Int))) (some (.int .i64 ((a1 : Int) + n))) none).run Try.prog w = .ok (.string (s.extract a1 (a1 + n))) w := fun w => by
          rw [run_slice_string_if w 9 s .i64 .i64 _ _ Try.underlying9, if_pos (by omega), if_pos (by omega), i2, Int.toNat_natCast]
        go_quiet (fail)
        have hd : Below w3.heap.size w3 (w3.drewN nq) := below_drewN (Below.refl _ _) _
        generalize w3.drewN nq = w4 at hd ⊢
        have HD := Lib.hid hd
        clear hd
        go_wp2_with fail
        go_ret
        refine ⟨HP3.out.trans (Past.of_below HD.out), ?_, a1 + n, by omega, ?_, ?_⟩
        · rw [HL.out, ← HC.out]; rfl
        · rw [HL.out]; unfold left; rw [List.drop_drop]
        · rw [Int.natCast_add]; exact H3.out.past HD.out
end Go.Proofs.Yteclpehbpicpaaa
namespace Go.Proofs.Yteclpehbpicpaaa
open Go.RowKit

theorem pow7 (i : Nat) : 2 ^ (7 * (i + 1)) = 128 * 2 ^ (7 * i) := by
  rw [Nat.mul_add, Nat.pow_add]; omega
theorem byte_lo {m : Nat} (h : m < 128) : (UInt8.ofNat m).toNat = m := by simp; omega
theorem byte_hi (m : Nat) : (UInt8.ofNat (m % 128 + 128)).toNat = m % 128 + 128 := by simp; omega
theorem split128 (m P : Nat) : m % 128 * P + m / 128 * (128 * P) = m * P := by
  have h := Nat.div_add_mod m 128
  calc m % 128 * P + m / 128 * (128 * P) = (128 * (m / 128) + m % 128) * P := by rw [Nat.add_mul, Nat.mul_comm 128 (m / 128), Nat.mul_assoc]; omega
    _ = m * P := by rw [h]
/-- What stands in the way of a group. -/
theorem group_ok {i n m : Nat} (hi : i ≤ 9) (h64 : n + m * 2 ^ (7 * i) < 18446744073709551616) (h0 : 0 < m ∨ i = 0) :
    (m < 128 → ¬ (9 < i ∨ (i = 9 ∧ 1 < m) ∨ (0 < i ∧ m = 0))) ∧ (¬ m < 128 → i + 1 ≤ 9 ∧ ¬ (9 < i ∨ (i = 9 ∧ 1 < m % 128 + 128) ∨ (0 < i ∧ m % 128 + 128 = 0))) := by
  by_cases h9 : i = 9
  · subst h9
    simp only [Nat.reduceMul, Nat.reducePow] at h64
    constructor
    · intro h; omega
    · intro h; omega
  · exact ⟨fun h => by omega, fun h => by omega⟩
theorem u_back : ∀ (k m i n : Nat) (r : List UInt8), m ≤ k → i ≤ 9 → n + m * 2 ^ (7 * i) < 18446744073709551616 → (0 < m ∨ i = 0) → uP i n (uintL m ++ r) = .ok (n + m * 2 ^ (7 * i), r) := by
  intro k
  induction k with
  | zero =>
    intro m i n r hk hi h64 h0
    obtain rfl : m = 0 := by omega
    have g := (group_ok hi h64 h0).1 (by omega)
    rw [uintL_last (by omega), List.cons_append, List.nil_append]
    rw [uP_last (by rw [byte_lo (by omega)]; exact g) (by rw [byte_lo (by omega)]; omega), byte_lo (by omega)]
  | succ k ih =>
    intro m i n r hk hi h64 h0
    have g := group_ok hi h64 h0
    by_cases h : m < 128
    · rw [uintL_last h, List.cons_append, List.nil_append]
      rw [uP_last (by rw [byte_lo h]; exact g.1 h) (by rw [byte_lo h]; exact h), byte_lo h, Nat.mod_eq_of_lt h]
    · obtain ⟨g1, g2⟩ := g.2 h
      have hs := split128 m (2 ^ (7 * i))
      have e : n + (m % 128 + 128) % 128 * 2 ^ (7 * i) + m / 128 * 2 ^ (7 * (i + 1)) = n + m * 2 ^ (7 * i) := by
        rw [pow7]
        have : (m % 128 + 128) % 128 = m % 128 := by omega
        rw [this]; omega
      rw [uintL_more h, List.cons_append]
      rw [uP_more (by rw [byte_hi]; exact g2) (by rw [byte_hi]; omega), byte_hi]
      rw [ih (m / 128) (i + 1) _ r (by omega) g1 (by rw [e]; exact h64) (.inl (by omega)), e]
theorem u_cut : ∀ (k m i n j : Nat), m ≤ k → i ≤ 9 → n + m * 2 ^ (7 * i) < 18446744073709551616 → (0 < m ∨ i = 0) → j < (uintL m).length → uP i n ((uintL m).take j) = .error 14 := by
  intro k
  induction k with
  | zero =>
    intro m i n j hk hi h64 h0 hj
    obtain rfl : m = 0 := by omega
    rw [uintL_last (by omega)] at hj ⊢
    obtain rfl : j = 0 := by simpa using hj
    exact uP_nil _ _
  | succ k ih =>
    intro m i n j hk hi h64 h0 hj
    have g := group_ok hi h64 h0
    by_cases h : m < 128
    · rw [uintL_last h] at hj ⊢
      obtain rfl : j = 0 := by simpa using hj
      exact uP_nil _ _
    · obtain ⟨g1, g2⟩ := g.2 h
      have hs := split128 m (2 ^ (7 * i))
      have e : n + (m % 128 + 128) % 128 * 2 ^ (7 * i) + m / 128 * 2 ^ (7 * (i + 1)) = n + m * 2 ^ (7 * i) := by
        rw [pow7]
        have : (m % 128 + 128) % 128 = m % 128 := by omega
        rw [this]; omega
      rw [uintL_more h] at hj ⊢
      cases j with
      | zero => exact uP_nil _ _
      | succ j =>
        rw [List.take_succ_cons]
        rw [uP_more (by rw [byte_hi]; exact g2) (by rw [byte_hi]; omega), byte_hi]
        exact ih (m / 128) (i + 1) _ j (by omega) g1 (by rw [e]; exact h64) (.inl (by omega)) (by simpa using hj)
theorem ofNat_toNat8 (b : UInt8) : UInt8.ofNat b.toNat = b := by simp
theorem u_one : ∀ (l : List UInt8) (i n v : Nat) (r : List UInt8), uP i n l = .ok (v, r) → ∃ m, l = uintL m ++ r ∧ v = n + m * 2 ^ (7 * i) ∧ (0 < m ∨ i = 0) := by
  intro l
  induction l with
  | nil => intro i n v r h; rw [uP_nil] at h; cases h
  | cons b l ih =>
    intro i n v r h
    have hb := b.toNat_lt
    by_cases hbad : 9 < i ∨ (i = 9 ∧ 1 < b.toNat) ∨ (0 < i ∧ b.toNat = 0)
    · rw [uP_bad hbad] at h; cases h
    · by_cases hl : b.toNat < 128
      · rw [uP_last hbad hl] at h
        injection h with h
        injection h with h1 h2
        subst h1 h2
        refine ⟨b.toNat, ?_, by rw [Nat.mod_eq_of_lt hl], by omega⟩
        rw [uintL_last hl, ofNat_toNat8]; rfl
      · rw [uP_more hbad hl] at h
        obtain ⟨m, h1, h2, h3⟩ := ih _ _ _ _ h
        refine ⟨b.toNat % 128 + 128 * m, ?_, ?_, .inl (by omega)⟩
        · rw [uintL_more (by omega), h1]
          have e1 : (b.toNat % 128 + 128 * m) % 128 + 128 = b.toNat := by omega
          have e2 : (b.toNat % 128 + 128 * m) / 128 = m := by omega
          rw [e1, e2, ofNat_toNat8]; rfl
        · rw [h2, pow7, Nat.add_mul, Nat.mul_comm 128 m, Nat.mul_assoc]; omega
/-- The three at a number's beginning. -/
theorem U_back {n : Nat} (h : n < 18446744073709551616) (r : List UInt8) : uP 0 0 (uintL n ++ r) = .ok (n, r) := by
  have := u_back n n 0 0 r (Nat.le_refl _) (by omega) (by simpa using h) (.inr rfl)
  simpa using this
theorem U_cut {n j : Nat} (h : n < 18446744073709551616) (hj : j < (uintL n).length) : uP 0 0 ((uintL n).take j) = .error 14 :=
  u_cut n n 0 0 j (Nat.le_refl _) (by omega) (by simpa using h) (.inr rfl) hj
theorem U_one {l r : List UInt8} {n : Nat} (h : uP 0 0 l = .ok (n, r)) : l = uintL n ++ r := by
  obtain ⟨m, h1, h2, _⟩ := u_one l 0 0 n r h
  have : n = m := by simpa using h2
  rw [this]; exact h1
theorem zag_zig {n : Int} (h : -9223372036854775808 ≤ n ∧ n ≤ 9223372036854775807) : zag (zig n) = n := by
  unfold zag zig; split <;> split <;> omega
theorem zig_zag {n : Nat} (h : n < 18446744073709551616) : zig (zag n) = n := by
  unfold zag zig; split <;> split <;> omega
theorem zag_in {n : Nat} (h : n < 18446744073709551616) : -9223372036854775808 ≤ zag n ∧ zag n ≤ 9223372036854775807 := by
  unfold zag; split <;> omega
theorem I_back {n : Int} (h : -9223372036854775808 ≤ n ∧ n ≤ 9223372036854775807) (r : List UInt8) : iP (uintL (zig n) ++ r) = .ok (n, r) := by
  unfold iP
  rw [U_back (zig_lt h)]
  show Except.ok (zag (zig n), r) = _
  rw [zag_zig h]
theorem I_cut {n : Int} {j : Nat} (h : -9223372036854775808 ≤ n ∧ n ≤ 9223372036854775807) (hj : j < (uintL (zig n)).length) : iP ((uintL (zig n)).take j) = .error 14 := by
  unfold iP
  rw [U_cut (zig_lt h) hj]
theorem U_in {l r : List UInt8} {n : Nat} (h : uP 0 0 l = .ok (n, r)) : n < 18446744073709551616 := uP_lt l 0 0 n r (fun _ => by decide) h
theorem I_one {l r : List UInt8} {n : Int} (h : iP l = .ok (n, r)) : l = uintL (zig n) ++ r ∧ -9223372036854775808 ≤ n ∧ n ≤ 9223372036854775807 := by
  unfold iP at h
  split at h
  · cases h
  · rename_i m r' hu
    injection h with h
    injection h with h1 h2
    subst h1 h2
    rw [zig_zag (U_in hu)]
    exact ⟨U_one hu, zag_in (U_in hu)⟩
/-- A string. -/
theorem strL_self (b : ByteArray) : strL b.data.toList = b := by unfold strL; cases b; simp
theorem lst_len (t : ByteArray) : t.data.toList.length = t.size := by rw [Array.length_toList]; rfl
theorem lst_strL (l : List UInt8) : (strL l).data.toList = l := by unfold strL; simp
theorem S_back {t : ByteArray} {most : Int} (h : (t.size : Int) ≤ most) (h9 : t.size ≤ 1000000000) (r : List UInt8) : sP most (uintL t.size ++ t.data.toList ++ r) = .ok (t, r) := by
  have e := lst_len t
  unfold sP
  rw [List.append_assoc, U_back (by omega)]
  show (if most < 0 ∨ most < (t.size : Int) then Except.error 5 else if (t.data.toList ++ r).length < t.size then .error 14 else .ok (strL ((t.data.toList ++ r).take t.size), (t.data.toList ++ r).drop t.size)) = _
  rw [if_neg (by omega), if_neg (by rw [List.length_append]; omega), List.take_left' e, List.drop_left' e, strL_self]
theorem take_cat (A B : List UInt8) (j : Nat) : (j < A.length ∧ (A ++ B).take j = A.take j) ∨ (A.length ≤ j ∧ (A ++ B).take j = A ++ B.take (j - A.length)) := by
  by_cases h : j < A.length
  · exact .inl ⟨h, List.take_append_of_le_length (by omega)⟩
  · exact .inr ⟨by omega, by rw [List.take_append, List.take_of_length_le (by omega)]⟩
theorem S_cut {t : ByteArray} {most : Int} {j : Nat} (h : (t.size : Int) ≤ most) (h9 : t.size ≤ 1000000000) (hj : j < (uintL t.size ++ t.data.toList).length) : sP most ((uintL t.size ++ t.data.toList).take j) = .error 14 := by
  have e := lst_len t
  unfold sP
  rcases take_cat (uintL t.size) t.data.toList j with ⟨h1, h2⟩ | ⟨h1, h2⟩
  · rw [h2, U_cut (by omega) h1]
  · rw [h2, U_back (by omega)]
    rw [List.length_append] at hj
    show (if most < 0 ∨ most < (t.size : Int) then Except.error 5 else if (t.data.toList.take (j - (uintL t.size).length)).length < t.size then .error 14 else .ok (strL ((t.data.toList.take (j - (uintL t.size).length)).take t.size), (t.data.toList.take (j - (uintL t.size).length)).drop t.size)) = _
    rw [if_neg (by omega), if_pos (by rw [List.length_take]; omega)]
theorem S_one {t : ByteArray} {most : Int} {l r : List UInt8} (h : sP most l = .ok (t, r)) : l = uintL t.size ++ t.data.toList ++ r ∧ (t.size : Int) ≤ most := by
  unfold sP at h
  split at h
  · cases h
  · rename_i n q hu
    split at h
    · cases h
    · split at h
      · cases h
      · rename_i h1 h2
        injection h with h
        injection h with h3 h4
        subst h3 h4
        have e : (strL (q.take n)).size = n := by
          show (q.take n).toArray.size = n
          simp; omega
        rw [e, lst_strL]
        refine ⟨?_, by omega⟩
        rw [List.append_assoc, List.take_append_drop]
        exact U_one hu
end Go.Proofs.Yteclpehbpicpaaa

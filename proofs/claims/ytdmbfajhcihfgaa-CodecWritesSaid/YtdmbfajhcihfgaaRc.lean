/-
  The document's reader: Int, begin, many.
-/
import Derived.Test.YtdmbfajhcihfgaaRb
namespace Go.Proofs.Ytdmbfajhcihfgaa
open Go.RowKit

theorem uP_lt : ∀ (l : List UInt8) (i n v : Nat) (r : List UInt8), (i ≤ 9 → n < 2 ^ (7 * i)) → uP i n l = .ok (v, r) → v < 18446744073709551616 := by
  intro l
  induction l with
  | nil => intro i n v r _ h; rw [uP_nil] at h; cases h
  | cons b l ih =>
    intro i n v r hn h
    by_cases hbad : 9 < i ∨ (i = 9 ∧ 1 < b.toNat) ∨ (0 < i ∧ b.toNat = 0)
    · rw [uP_bad hbad] at h; cases h
    · have hE := acc_eq hn hbad b.toNat_lt
      by_cases hl : b.toNat < 128
      · rw [uP_last hbad hl] at h
        cases h
        have h1 := hE.1
        rw [IntKind.wrap_u64] at h1
        omega
      · rw [uP_more hbad hl] at h
        exact ih (i + 1) _ v r hE.2 h
theorem uP_err : ∀ (l : List UInt8) (i n c : Nat), uP i n l = .error c → c = 5 ∨ c = 14 := by
  intro l
  induction l with
  | nil => intro i n c h; rw [uP_nil] at h; cases h; right; rfl
  | cons b l ih =>
    intro i n c h
    by_cases hbad : 9 < i ∨ (i = 9 ∧ 1 < b.toNat) ∨ (0 < i ∧ b.toNat = 0)
    · rw [uP_bad hbad] at h; cases h; left; rfl
    · by_cases hl : b.toNat < 128
      · rw [uP_last hbad hl] at h; cases h
      · rw [uP_more hbad hl] at h
        exact ih _ _ _ h
/-- A number read from a place on, both ways that it may end. -/
theorem Uint_bad {w : World} {g : Nat} {s : ByteArray} {a : Nat} {p : Int} {c : Nat} (h : Rdr w g s a 0 p) (ha : a ≤ s.size) (hs : s.size ≤ 1000000000) (hu : uP 0 0 (left s a) = .error c) :
    Calls Try.prog 106 #[.pointer (some ⟨g, 0, none⟩)] w fun x w' => x = .returned (.int .u64 0) ∧ Past g w w' ∧ ∃ a : Nat, Rdr w' g s a c p := by
  have U := Uint_ok h ha hs
  rw [hu] at U
  exact U.mono fun x w' hx => ⟨hx.2.1, hx.1, hx.2.2.2⟩
theorem Uint_good {w : World} {g : Nat} {s : ByteArray} {a : Nat} {p : Int} {n : Nat} {l : List UInt8} (h : Rdr w g s a 0 p) (ha : a ≤ s.size) (hs : s.size ≤ 1000000000) (hu : uP 0 0 (left s a) = .ok (n, l)) :
    Calls Try.prog 106 #[.pointer (some ⟨g, 0, none⟩)] w fun x w' => x = .returned (.int .u64 n) ∧ Past g w w' ∧ ∃ a : Nat, a ≤ s.size ∧ l = left s a ∧ Rdr w' g s a 0 p := by
  have U := Uint_ok h ha hs
  rw [hu] at U
  exact U.mono fun x w' hx => ⟨hx.2.1, hx.1, hx.2.2⟩
theorem Uint_err {w : World} {g : Nat} {s : ByteArray} {a e p : Int} (h : Rdr w g s a e p) (he : e ≠ 0) :
    Calls Try.prog 106 #[.pointer (some ⟨g, 0, none⟩)] w fun x w' => x = .returned (.int .u64 0) ∧ Rdr w' g s a e p ∧ Past g w w' := by
  have B := Byte_err h he
  have HH := Lib.hid h
  have te : (e != 0) = true := by simpa using he
  clear h
  go_enter Try.func106, Try.ntmps106
  go_wp2_with fail
  go_loopw [3, 4] (fun nv iv wr => nv = .int .u64 0 ∧ iv = .int .i64 0 ∧ wr = w) (fun _ _ _ => 0)
  case atStart => exact ⟨rfl, rfl, rfl⟩
  case round =>
    obtain ⟨rfl, rfl, rfl⟩ := hrel
    go_wp2_with (go_at_call 78; refine B.mono ?_; rintro e w1 ⟨rfl, h1, hp1⟩; obtain ⟨d0, d1, d2, d3, df⟩ := h1.cells)
    go_ret
    exact ⟨rfl, h1, hp1⟩
/-! ### Int -/
def zag (n : Nat) : Int := if n % 2 = 1 then -1 - (n / 2 : Nat) else (n / 2 : Nat)
def iP (l : List UInt8) : Except Nat (Int × List UInt8) := match uP 0 0 l with | .error c => .error c | .ok (n, r) => .ok (zag n, r)
set_option maxRecDepth 20000 in
theorem Int_ok {w : World} {g : Nat} {s : ByteArray} {a : Nat} {p : Int} (h : Rdr w g s a 0 p) (ha : a ≤ s.size) (hs : s.size ≤ 1000000000) :
    Calls Try.prog 79 #[.pointer (some ⟨g, 0, none⟩)] w fun x w' => Ends s w g p (iP (left s a)) x w' (.int .i64 0) (fun n => .int .i64 n) := by
  unfold iP
  cases hu : uP 0 0 (left s a) with
  | error c =>
    have U := Uint_bad h ha hs hu
    have hc := uP_err _ _ _ _ hu
    clear h hu
    go_enter Try.func79, Try.ntmps79
    go_wp2_with (go_at_call 106; refine U.mono ?_; rintro e w1 ⟨rfl, hp1, a1, h1⟩)
    go_ret
    exact ⟨hp1, rfl, by omega, a1, h1⟩
  | ok q =>
    obtain ⟨n, l⟩ := q
    have U := Uint_good h ha hs hu
    have hn := uP_lt _ 0 0 n l (fun _ => by decide) hu
    clear h hu
    by_cases ho : n % 2 = 1
    · have t : ((n : Int) % 2 == 1) = true := by simp; omega
      have HZ : Hid (zag n = wrap64 (-1 - wrap64 (IntKind.u64.wrap ((n : Int) / 2)))) := Lib.hid (by unfold zag; rw [if_pos ho, IntKind.wrap_u64]; unfold wrap64; omega)
      clear hn ho
      go_enter Try.func79, Try.ntmps79
      go_wp2_with (go_at_call 106; refine U.mono ?_; rintro e w1 ⟨rfl, hp1, a1, ha1, hl, h1⟩)
      go_ret
      exact ⟨hp1, congrArg (fun z => Ending.returned (Value.int .i64 z)) HZ.out.symm, a1, ha1, hl, h1⟩
    · have t : ((n : Int) % 2 == 1) = false := by simp; omega
      have HZ : Hid (zag n = wrap64 (IntKind.u64.wrap ((n : Int) / 2))) := Lib.hid (by unfold zag; rw [if_neg ho, IntKind.wrap_u64]; unfold wrap64; omega)
      clear hn ho
      go_enter Try.func79, Try.ntmps79
      go_wp2_with (go_at_call 106; refine U.mono ?_; rintro e w1 ⟨rfl, hp1, a1, ha1, hl, h1⟩)
      go_ret
      exact ⟨hp1, congrArg (fun z => Ending.returned (Value.int .i64 z)) HZ.out.symm, a1, ha1, hl, h1⟩
/-! ### many -/
def mP (l : List UInt8) : Except Nat (Nat × List UInt8) := match uP 0 0 l with | .error c => .error c | .ok (n, r) => if 200 < n then .error 5 else .ok (n, r)
set_option maxRecDepth 20000 in
theorem many_ok {w : World} {g : Nat} {s : ByteArray} {a : Nat} {p : Int} (h : Rdr w g s a 0 p) (ha : a ≤ s.size) (hs : s.size ≤ 1000000000) :
    Calls Try.prog 81 #[.pointer (some ⟨g, 0, none⟩)] w fun x w' => Ends s w g p (mP (left s a)) x w' (.int .i64 0) (fun n => .int .i64 n) := by
  cases hu : uP 0 0 (left s a) with
  | error c =>
    have U := Uint_bad h ha hs hu
    have hc := uP_err _ _ _ _ hu
    have e : mP (left s a) = .error c := by unfold mP; rw [hu]
    rw [e]
    clear h hu e
    go_enter Try.func81, Try.ntmps81
    go_wp2_with (go_at_call 106; refine U.mono ?_; rintro e w1 ⟨rfl, hp1, a1, h1⟩)
    go_ret
    exact ⟨hp1, rfl, by omega, a1, h1⟩
  | ok q =>
    obtain ⟨n, l⟩ := q
    have U := Uint_good h ha hs hu
    by_cases ho : 200 < n
    · have e : mP (left s a) = .error 5 := by unfold mP; rw [hu]; exact if_pos ho
      rw [e]
      clear h hu e
      go_enter Try.func81, Try.ntmps81
      go_wp2_with (first | (go_at_call 106; refine U.mono ?_; rintro e w1 ⟨rfl, hp1, a1, ha1, hl, h1⟩; have F := fail_0 h1 5) | (go_at_call 49; refine F.mono ?_; rintro e w2 ⟨rfl, h2, hp2⟩))
      go_ret
      exact ⟨hp1.trans hp2, rfl, by decide, a1, h2⟩
    · have e : mP (left s a) = .ok (n, l) := by unfold mP; rw [hu]; exact if_neg ho
      rw [e]
      clear h hu e
      have E1 : IntKind.i64.wrap (n : Int) = n := by rw [IntKind.wrap_i64]; omega
      go_enter Try.func81, Try.ntmps81
      go_wp2_with (go_at_call 106; refine U.mono ?_; rintro e w1 ⟨rfl, hp1, a1, ha1, hl, h1⟩)
      go_ret
      exact ⟨hp1, rfl, a1, ha1, hl, h1⟩
/-! ### begin -/
theorem begin_ok {w : World} {g : Nat} {s : ByteArray} {a : Nat} {p d : Int} (h : Rdr w g s a 0 p) (hp : 0 ≤ p ∧ p ≤ 1000) :
    Calls Try.prog 77 #[.pointer (some ⟨g, 0, none⟩), .int .i64 d] w fun x w' => x = .returned (.tuple #[]) ∧ Past g w w' ∧ Rdr w' g s a (if 12 < d ∨ 200 < p + 1 then 5 else 0) (p + 1) := by
  obtain ⟨c0, c1, c2, c3, cf⟩ := h.cells
  have h1 := h.set3 (p + 1)
  have hp1 : Past g w (w.setCell ⟨g, 3, none⟩ (.int .i64 (p + 1))) := (Past.refl _ _).set _ _
  have F := fail_0 h1 5
  have H1 := Lib.hid h1
  have HP1 := Lib.hid hp1
  clear h h1 hp1
  by_cases hd : 12 < d
  · rw [if_pos (.inl hd)]
    go_enter Try.func77, Try.ntmps77
    go_wp2_with (go_at_call 49; refine F.mono ?_; rintro e w2 ⟨rfl, h2, hp2⟩)
    go_end0
    exact ⟨rfl, HP1.out.trans hp2, h2⟩
  · by_cases h200 : 200 < p + 1
    · rw [if_pos (.inr h200)]
      go_enter Try.func77, Try.ntmps77
      go_wp2_with (go_at_call 49; refine F.mono ?_; rintro e w2 ⟨rfl, h2, hp2⟩)
      go_end0
      exact ⟨rfl, HP1.out.trans hp2, h2⟩
    · rw [if_neg (by omega)]
      go_enter Try.func77, Try.ntmps77
      go_wp2_with fail
      go_end0
      exact ⟨rfl, HP1.out, H1.out⟩
end Go.Proofs.Ytdmbfajhcihfgaa

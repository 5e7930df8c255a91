/-
  Contract of basculeref03.Parse.
-/
import Derived.Test.YtcmohggnehkjeaaGreatFq
namespace Go.Proofs.YtcmohggnehkjeaaGreat
open Go.RowKit Ieee

/-- What number answers, in parts. -/
def Numbers (s : ByteArray) (m k : Nat) (rest : ByteArray) : Prop := ∀ W, Calls Tryz.prog 212 #[.string s] W fun e w' => e = .returned (.tuple #[.int .u64 m, .int .i64 k, .string rest]) ∧ Below W.heap.size W w'
theorem Numbers.go {s : ByteArray} {m k : Nat} {rest : ByteArray} (h : Numbers s m k rest) {W : World} {Q : Ending → World → Prop} (hQ : ∀ e w', e = .returned (.tuple #[.int .u64 m, .int .i64 k, .string rest]) ∧ Below W.heap.size W w' → Q e w') : Calls Tryz.prog 212 #[.string s] W Q := (h W).mono hQ
theorem ref_empty {s rest : ByteArray} {m k : Nat} {w : World} (hs : s.size < 1) (T1 : (s.toList == [110, 97, 110]) = false) (T2 : (s.toList == [105, 110, 102]) = false)
    (N : Numbers s m k rest) (h : k < 1) :
    Calls Tryz.prog 198 #[.string s] w fun e w' => e = .returned (.tuple #[.float .f64 0, .int .i64 5]) ∧ Below w.heap.size w w' := by
  go_enter Tryz.func198, Tryz.ntmps198
  go_wp2_with (go_at_call 212; (with_reducible refine Numbers.go N ?_); rintro e w1 ⟨rfl, hb1⟩)
  go_ret2
  exact ⟨rfl, hb1⟩
theorem ref_n_bad {s s' rest : ByteArray} {m k : Nat} {w : World} (hs : 0 < s.size) (c0 : s[0] = 45) (E1 : s.extract 1 s.size = s') (T1 : (s.toList == [110, 97, 110]) = false) (T2 : (s'.toList == [105, 110, 102]) = false)
    (N : Numbers s' m k rest) (h : k < 1 ∨ (¬ k < 1 ∧ 20 < k) ∨ (¬ k < 1 ∧ ¬ 20 < k ∧ rest.size < 2) ∨ (¬ k < 1 ∧ ¬ 20 < k ∧ ∃ h : 1 < rest.size, ((rest[0].toNat : Int) != 112) = true)) :
    Calls Tryz.prog 198 #[.string s] w fun e w' => e = .returned (.tuple #[.float .f64 0, .int .i64 5]) ∧ Below w.heap.size w w' := by
  rcases h with h | ⟨h, h2⟩ | ⟨h, h2, h3⟩ | ⟨h, h2, h3, h4⟩
  all_goals
    go_enter Tryz.func198, Tryz.ntmps198
    go_wp2_with (go_at_call 212; (with_reducible refine Numbers.go N ?_); rintro e w1 ⟨rfl, hb1⟩)
    go_ret2
    exact ⟨rfl, hb1⟩
theorem ref_nb_bad {s s' rest r r' rest2 : ByteArray} {m k p q : Nat} {w : World} (hs : 0 < s.size) (c0 : s[0] = 45) (E1 : s.extract 1 s.size = s') (T1 : (s.toList == [110, 97, 110]) = false) (T2 : (s'.toList == [105, 110, 102]) = false)
    (N : Numbers s' m k rest) (h1 : ¬ k < 1) (h2 : ¬ 20 < k) (h3 : 1 < rest.size) (c1 : rest[0] = 112) (E2 : rest.extract 1 rest.size = r) (h4 : 0 < r.size) (c2 : r[0] = 45) (E3 : r.extract 1 r.size = r') (N2 : Numbers r' p q rest2) (h : q < 1 ∨ (¬ q < 1 ∧ 4 < q) ∨ (¬ q < 1 ∧ ¬ 4 < q ∧ rest2.toList.isEmpty = false)) :
    Calls Tryz.prog 198 #[.string s] w fun e w' => e = .returned (.tuple #[.float .f64 0, .int .i64 5]) ∧ Below w.heap.size w w' := by
  have c1' : ((rest[0].toNat : Int) != 112) = false := by rw [c1]; rfl
  rcases h with h | ⟨h, h5⟩ | ⟨h, h5, h6⟩
  all_goals
    go_enter Tryz.func198, Tryz.ntmps198
    go_wp2_with (go_at_call 212; first | ((with_reducible refine Numbers.go N ?_); rintro e w1 ⟨rfl, hb1⟩) | ((with_reducible refine Numbers.go N2 ?_); rintro e w2 ⟨rfl, hb2⟩))
    go_ret2
    exact ⟨rfl, hb1.trans (hb2.mono hb1.size)⟩
theorem ref_nb_good {s s' rest r r' rest2 : ByteArray} {m k p q x : Nat} {y : Int} {w : World} (hs : 0 < s.size) (c0 : s[0] = 45) (E1 : s.extract 1 s.size = s') (T1 : (s.toList == [110, 97, 110]) = false) (T2 : (s'.toList == [105, 110, 102]) = false)
    (N : Numbers s' m k rest) (h1 : ¬ k < 1) (h2 : ¬ 20 < k) (h3 : 1 < rest.size) (c1 : rest[0] = 112) (E2 : rest.extract 1 rest.size = r) (h4 : 0 < r.size) (c2 : r[0] = 45) (E3 : r.extract 1 r.size = r') (N2 : Numbers r' p q rest2) (h5 : ¬ q < 1) (h6 : ¬ 4 < q) (h7 : rest2.toList.isEmpty = true) (hp : p ≤ 9999)
    (M : Says 213 #[.bool true, .int .u64 m, .int .i64 (-(p : Int))] (.tuple #[.float .f64 x, .int .i64 y])) :
    Calls Tryz.prog 198 #[.string s] w fun e w' => e = .returned (.tuple #[.float .f64 x, .int .i64 y]) ∧ Below w.heap.size w w' := by
  have c1' : ((rest[0].toNat : Int) != 112) = false := by rw [c1]; rfl
  have Wp : wrap64 (p : Int) = p := by unfold wrap64; omega
  go_enter Tryz.func198, Tryz.ntmps198
  go_wp2_with (first | (go_at_call 212; first | ((with_reducible refine Numbers.go N ?_); rintro e w1 ⟨rfl, hb1⟩) | ((with_reducible refine Numbers.go N2 ?_); rintro e w2 ⟨rfl, hb2⟩)) | (go_at_call 213; (with_reducible refine Says.go M ?_); rintro e w' ⟨rfl, rfl⟩))
  go_ret2
  exact ⟨rfl, hb1.trans (hb2.mono hb1.size)⟩
theorem ref_nu_bad {s s' rest r rest2 : ByteArray} {m k p q : Nat} {w : World} (hs : 0 < s.size) (c0 : s[0] = 45) (E1 : s.extract 1 s.size = s') (T1 : (s.toList == [110, 97, 110]) = false) (T2 : (s'.toList == [105, 110, 102]) = false)
    (N : Numbers s' m k rest) (h1 : ¬ k < 1) (h2 : ¬ 20 < k) (h3 : 1 < rest.size) (c1 : rest[0] = 112) (E2 : rest.extract 1 rest.size = r) (h4 : 0 < r.size) (c2 : ((r[0].toNat : Int) == 45) = false) (N2 : Numbers r p q rest2) (h : q < 1 ∨ (¬ q < 1 ∧ 4 < q) ∨ (¬ q < 1 ∧ ¬ 4 < q ∧ rest2.toList.isEmpty = false)) :
    Calls Tryz.prog 198 #[.string s] w fun e w' => e = .returned (.tuple #[.float .f64 0, .int .i64 5]) ∧ Below w.heap.size w w' := by
  have c1' : ((rest[0].toNat : Int) != 112) = false := by rw [c1]; rfl
  rcases h with h | ⟨h, h5⟩ | ⟨h, h5, h6⟩
  all_goals
    go_enter Tryz.func198, Tryz.ntmps198
    go_wp2_with (go_at_call 212; first | ((with_reducible refine Numbers.go N ?_); rintro e w1 ⟨rfl, hb1⟩) | ((with_reducible refine Numbers.go N2 ?_); rintro e w2 ⟨rfl, hb2⟩))
    go_ret2
    exact ⟨rfl, hb1.trans (hb2.mono hb1.size)⟩
theorem ref_nu_good {s s' rest r rest2 : ByteArray} {m k p q x : Nat} {y : Int} {w : World} (hs : 0 < s.size) (c0 : s[0] = 45) (E1 : s.extract 1 s.size = s') (T1 : (s.toList == [110, 97, 110]) = false) (T2 : (s'.toList == [105, 110, 102]) = false)
    (N : Numbers s' m k rest) (h1 : ¬ k < 1) (h2 : ¬ 20 < k) (h3 : 1 < rest.size) (c1 : rest[0] = 112) (E2 : rest.extract 1 rest.size = r) (h4 : 0 < r.size) (c2 : ((r[0].toNat : Int) == 45) = false) (N2 : Numbers r p q rest2) (h5 : ¬ q < 1) (h6 : ¬ 4 < q) (h7 : rest2.toList.isEmpty = true) (hp : p ≤ 9999)
    (M : Says 213 #[.bool true, .int .u64 m, .int .i64 (p : Int)] (.tuple #[.float .f64 x, .int .i64 y])) :
    Calls Tryz.prog 198 #[.string s] w fun e w' => e = .returned (.tuple #[.float .f64 x, .int .i64 y]) ∧ Below w.heap.size w w' := by
  have c1' : ((rest[0].toNat : Int) != 112) = false := by rw [c1]; rfl
  have Wp : wrap64 (p : Int) = p := by unfold wrap64; omega
  go_enter Tryz.func198, Tryz.ntmps198
  go_wp2_with (first | (go_at_call 212; first | ((with_reducible refine Numbers.go N ?_); rintro e w1 ⟨rfl, hb1⟩) | ((with_reducible refine Numbers.go N2 ?_); rintro e w2 ⟨rfl, hb2⟩)) | (go_at_call 213; (with_reducible refine Says.go M ?_); rintro e w' ⟨rfl, rfl⟩))
  go_ret2
  exact ⟨rfl, hb1.trans (hb2.mono hb1.size)⟩
theorem ref_p_bad {s rest : ByteArray} {m k : Nat} {w : World} (hs : 0 < s.size) (c0 : ((s[0].toNat : Int) == 45) = false) (T1 : (s.toList == [110, 97, 110]) = false) (T2 : (s.toList == [105, 110, 102]) = false)
    (N : Numbers s m k rest) (h : k < 1 ∨ (¬ k < 1 ∧ 20 < k) ∨ (¬ k < 1 ∧ ¬ 20 < k ∧ rest.size < 2) ∨ (¬ k < 1 ∧ ¬ 20 < k ∧ ∃ h : 1 < rest.size, ((rest[0].toNat : Int) != 112) = true)) :
    Calls Tryz.prog 198 #[.string s] w fun e w' => e = .returned (.tuple #[.float .f64 0, .int .i64 5]) ∧ Below w.heap.size w w' := by
  rcases h with h | ⟨h, h2⟩ | ⟨h, h2, h3⟩ | ⟨h, h2, h3, h4⟩
  all_goals
    go_enter Tryz.func198, Tryz.ntmps198
    go_wp2_with (go_at_call 212; (with_reducible refine Numbers.go N ?_); rintro e w1 ⟨rfl, hb1⟩)
    go_ret2
    exact ⟨rfl, hb1⟩
theorem ref_pb_bad {s rest r r' rest2 : ByteArray} {m k p q : Nat} {w : World} (hs : 0 < s.size) (c0 : ((s[0].toNat : Int) == 45) = false) (T1 : (s.toList == [110, 97, 110]) = false) (T2 : (s.toList == [105, 110, 102]) = false)
    (N : Numbers s m k rest) (h1 : ¬ k < 1) (h2 : ¬ 20 < k) (h3 : 1 < rest.size) (c1 : rest[0] = 112) (E2 : rest.extract 1 rest.size = r) (h4 : 0 < r.size) (c2 : r[0] = 45) (E3 : r.extract 1 r.size = r') (N2 : Numbers r' p q rest2) (h : q < 1 ∨ (¬ q < 1 ∧ 4 < q) ∨ (¬ q < 1 ∧ ¬ 4 < q ∧ rest2.toList.isEmpty = false)) :
    Calls Tryz.prog 198 #[.string s] w fun e w' => e = .returned (.tuple #[.float .f64 0, .int .i64 5]) ∧ Below w.heap.size w w' := by
  have c1' : ((rest[0].toNat : Int) != 112) = false := by rw [c1]; rfl
  rcases h with h | ⟨h, h5⟩ | ⟨h, h5, h6⟩
  all_goals
    go_enter Tryz.func198, Tryz.ntmps198
    go_wp2_with (go_at_call 212; first | ((with_reducible refine Numbers.go N ?_); rintro e w1 ⟨rfl, hb1⟩) | ((with_reducible refine Numbers.go N2 ?_); rintro e w2 ⟨rfl, hb2⟩))
    go_ret2
    exact ⟨rfl, hb1.trans (hb2.mono hb1.size)⟩
theorem ref_pb_good {s rest r r' rest2 : ByteArray} {m k p q x : Nat} {y : Int} {w : World} (hs : 0 < s.size) (c0 : ((s[0].toNat : Int) == 45) = false) (T1 : (s.toList == [110, 97, 110]) = false) (T2 : (s.toList == [105, 110, 102]) = false)
    (N : Numbers s m k rest) (h1 : ¬ k < 1) (h2 : ¬ 20 < k) (h3 : 1 < rest.size) (c1 : rest[0] = 112) (E2 : rest.extract 1 rest.size = r) (h4 : 0 < r.size) (c2 : r[0] = 45) (E3 : r.extract 1 r.size = r') (N2 : Numbers r' p q rest2) (h5 : ¬ q < 1) (h6 : ¬ 4 < q) (h7 : rest2.toList.isEmpty = true) (hp : p ≤ 9999)
    (M : Says 213 #[.bool false, .int .u64 m, .int .i64 (-(p : Int))] (.tuple #[.float .f64 x, .int .i64 y])) :
    Calls Tryz.prog 198 #[.string s] w fun e w' => e = .returned (.tuple #[.float .f64 x, .int .i64 y]) ∧ Below w.heap.size w w' := by
  have c1' : ((rest[0].toNat : Int) != 112) = false := by rw [c1]; rfl
  have Wp : wrap64 (p : Int) = p := by unfold wrap64; omega
  go_enter Tryz.func198, Tryz.ntmps198
  go_wp2_with (first | (go_at_call 212; first | ((with_reducible refine Numbers.go N ?_); rintro e w1 ⟨rfl, hb1⟩) | ((with_reducible refine Numbers.go N2 ?_); rintro e w2 ⟨rfl, hb2⟩)) | (go_at_call 213; (with_reducible refine Says.go M ?_); rintro e w' ⟨rfl, rfl⟩))
  go_ret2
  exact ⟨rfl, hb1.trans (hb2.mono hb1.size)⟩
theorem ref_pu_bad {s rest r rest2 : ByteArray} {m k p q : Nat} {w : World} (hs : 0 < s.size) (c0 : ((s[0].toNat : Int) == 45) = false) (T1 : (s.toList == [110, 97, 110]) = false) (T2 : (s.toList == [105, 110, 102]) = false)
    (N : Numbers s m k rest) (h1 : ¬ k < 1) (h2 : ¬ 20 < k) (h3 : 1 < rest.size) (c1 : rest[0] = 112) (E2 : rest.extract 1 rest.size = r) (h4 : 0 < r.size) (c2 : ((r[0].toNat : Int) == 45) = false) (N2 : Numbers r p q rest2) (h : q < 1 ∨ (¬ q < 1 ∧ 4 < q) ∨ (¬ q < 1 ∧ ¬ 4 < q ∧ rest2.toList.isEmpty = false)) :
    Calls Tryz.prog 198 #[.string s] w fun e w' => e = .returned (.tuple #[.float .f64 0, .int .i64 5]) ∧ Below w.heap.size w w' := by
  have c1' : ((rest[0].toNat : Int) != 112) = false := by rw [c1]; rfl
  rcases h with h | ⟨h, h5⟩ | ⟨h, h5, h6⟩
  all_goals
    go_enter Tryz.func198, Tryz.ntmps198
    go_wp2_with (go_at_call 212; first | ((with_reducible refine Numbers.go N ?_); rintro e w1 ⟨rfl, hb1⟩) | ((with_reducible refine Numbers.go N2 ?_); rintro e w2 ⟨rfl, hb2⟩))
    go_ret2
    exact ⟨rfl, hb1.trans (hb2.mono hb1.size)⟩
theorem ref_pu_good {s rest r rest2 : ByteArray} {m k p q x : Nat} {y : Int} {w : World} (hs : 0 < s.size) (c0 : ((s[0].toNat : Int) == 45) = false) (T1 : (s.toList == [110, 97, 110]) = false) (T2 : (s.toList == [105, 110, 102]) = false)
    (N : Numbers s m k rest) (h1 : ¬ k < 1) (h2 : ¬ 20 < k) (h3 : 1 < rest.size) (c1 : rest[0] = 112) (E2 : rest.extract 1 rest.size = r) (h4 : 0 < r.size) (c2 : ((r[0].toNat : Int) == 45) = false) (N2 : Numbers r p q rest2) (h5 : ¬ q < 1) (h6 : ¬ 4 < q) (h7 : rest2.toList.isEmpty = true) (hp : p ≤ 9999)
    (M : Says 213 #[.bool false, .int .u64 m, .int .i64 (p : Int)] (.tuple #[.float .f64 x, .int .i64 y])) :
    Calls Tryz.prog 198 #[.string s] w fun e w' => e = .returned (.tuple #[.float .f64 x, .int .i64 y]) ∧ Below w.heap.size w w' := by
  have c1' : ((rest[0].toNat : Int) != 112) = false := by rw [c1]; rfl
  have Wp : wrap64 (p : Int) = p := by unfold wrap64; omega
  go_enter Tryz.func198, Tryz.ntmps198
  go_wp2_with (first | (go_at_call 212; first | ((with_reducible refine Numbers.go N ?_); rintro e w1 ⟨rfl, hb1⟩) | ((with_reducible refine Numbers.go N2 ?_); rintro e w2 ⟨rfl, hb2⟩)) | (go_at_call 213; (with_reducible refine Says.go M ?_); rintro e w' ⟨rfl, rfl⟩))
  go_ret2
  exact ⟨rfl, hb1.trans (hb2.mono hb1.size)⟩
end Go.Proofs.YtcmohggnehkjeaaGreat

/-
  Plain facts: an error of a reader is never 0; how much was read.
  The law's awake: what the document fixes.
  Contract of the program's Type.
  Plain facts on types as bytes: what is written is read as it was.
  Contract of the document's SameType, where the two are the same.
-/
import Derived.Test.YteclpehbpicpaaaM36
import Derived.Test.YteclpehbpicpaaaM37
import Derived.Test.YteclpehbpicpaaaM29
import Derived.Test.YteclpehbpicpaaaM15
namespace Go.Proofs.Yteclpehbpicpaaa
open Go.RowKit

theorem uP_ne : ∀ (l : List UInt8) (i n c : Nat), uP i n l = .error c → c ≠ 0 := by
  intro l
  induction l with
  | nil => intro i n c h; rw [uP] at h; cases h; decide
  | cons b l ih =>
    intro i n c h
    rw [uP] at h
    split at h
    · cases h; decide
    · split at h
      · cases h
      · exact ih _ _ _ h
theorem iP_ne {l : List UInt8} {c : Nat} (h : iP l = .error c) : c ≠ 0 := by
  unfold iP at h
  cases hu : uP 0 0 l with
  | error c' => rw [hu] at h; cases h; exact uP_ne _ _ _ _ hu
  | ok z => rw [hu] at h; cases h
theorem mP_ne {l : List UInt8} {c : Nat} (h : mP l = .error c) : c ≠ 0 := by
  unfold mP at h
  cases hu : uP 0 0 l with
  | error c' => rw [hu] at h; cases h; exact uP_ne _ _ _ _ hu
  | ok z =>
    rw [hu] at h
    dsimp only at h
    split at h
    · cases h; decide
    · cases h
theorem sP_ne {m : Int} {l : List UInt8} {c : Nat} (h : sP m l = .error c) : c ≠ 0 := by
  unfold sP at h
  cases hu : uP 0 0 l with
  | error c' => rw [hu] at h; cases h; exact uP_ne _ _ _ _ hu
  | ok z =>
    rw [hu] at h
    dsimp only at h
    split at h
    · cases h; decide
    · split at h
      · cases h; decide
      · cases h
theorem plainP_ne {k : Nat} {l : List UInt8} {c : Nat} (h : plainP k l = .error c) : c ≠ 0 := by
  unfold plainP at h
  split at h
  · split at h
    · cases h; decide
    · split at h
      · cases h; decide
      · cases h
  · split at h
    · cases hi : iP l with
      | error c' => rw [hi] at h; cases h; exact iP_ne hi
      | ok z => rw [hi] at h; cases h
    · split at h
      · cases hi : wP 8 0 l with
        | error c' => rw [hi] at h; cases h; rw [(wP_err _ _ _ _ hi).1]; decide
        | ok z =>
          rw [hi] at h
          dsimp only at h
          split at h
          · cases h
          · cases h; decide
      · cases hi : sP 200 l with
        | error c' => rw [hi] at h; cases h; exact sP_ne hi
        | ok z => rw [hi] at h; cases h
theorem itemsP_ne {F : Nat → List UInt8 → Except Nat (VT × Nat × List UInt8)} {k : Nat} (hF : ∀ p l c, F p l = .error c → c ≠ 0) : ∀ (n p : Nat) (l : List UInt8) (c : Nat), itemsP F k n p l = .error c → c ≠ 0 := by
  intro n
  induction n with
  | zero => intro p l c h; rw [itemsP] at h; cases h
  | succ n ih =>
    intro p l c h
    rw [itemsP] at h
    cases hz : (if k = 6 then sP 30 l else .ok (⟨#[]⟩, l)) with
    | error c' =>
      rw [hz] at h
      cases h
      by_cases h6 : k = 6
      · rw [if_pos h6] at hz; exact sP_ne hz
      · rw [if_neg h6] at hz; cases hz
    | ok q =>
      obtain ⟨nm, l1⟩ := q
      rw [hz] at h
      dsimp only at h
      cases hf : F p l1 with
      | error c' => rw [hf] at h; cases h; exact hF _ _ _ hf
      | ok q =>
        obtain ⟨t, p1, l2⟩ := q
        rw [hf] at h
        dsimp only at h
        cases hi : itemsP F k n p1 l2 with
        | error c' => rw [hi] at h; cases h; exact ih _ _ _ hi
        | ok q => rw [hi] at h; cases h
theorem vP_ne : ∀ (q p : Nat) (l : List UInt8) (c : Nat), vP q p l = .error c → c ≠ 0 := by
  intro q
  induction q with
  | zero => intro p l c h; rw [vP] at h; cases h; decide
  | succ q ih =>
    intro p l c h
    cases l with
    | nil =>
      rw [vP_nil] at h
      split at h <;> (cases h; decide)
    | cons b l =>
      rw [vP_cons] at h
      split at h
      · cases h; decide
      · split at h
        · cases h; decide
        · split at h
          · cases hp : plainP b.toNat l with
            | error c' => rw [hp] at h; cases h; exact plainP_ne hp
            | ok z => rw [hp] at h; cases h
          · cases hm : mP l with
            | error c' => rw [hm] at h; cases h; exact mP_ne hm
            | ok z =>
              obtain ⟨n, r1⟩ := z
              rw [hm] at h
              dsimp only at h
              cases hi : itemsP (vP q) b.toNat n (p + 1) r1 with
              | error c' => rw [hi] at h; cases h; exact itemsP_ne ih _ _ _ _ hi
              | ok z => rw [hi] at h; cases h
theorem titemsP_ne {F : Nat → List UInt8 → Except Nat (TT × Nat × List UInt8)} (hF : ∀ p l c, F p l = .error c → c ≠ 0) : ∀ (n p : Nat) (l : List UInt8) (c : Nat), titemsP F n p l = .error c → c ≠ 0 := by
  intro n
  induction n with
  | zero => intro p l c h; rw [titemsP] at h; cases h
  | succ n ih =>
    intro p l c h
    rw [titemsP] at h
    cases hz : sP 30 l with
    | error c' => rw [hz] at h; cases h; exact sP_ne hz
    | ok q =>
      obtain ⟨nm, l1⟩ := q
      rw [hz] at h
      dsimp only at h
      cases hf : F p l1 with
      | error c' => rw [hf] at h; cases h; exact hF _ _ _ hf
      | ok q =>
        obtain ⟨t, p1, l2⟩ := q
        rw [hf] at h
        dsimp only at h
        cases hi : titemsP F n p1 l2 with
        | error c' => rw [hi] at h; cases h; exact ih _ _ _ hi
        | ok q => rw [hi] at h; cases h
theorem tP_ne : ∀ (q p : Nat) (l : List UInt8) (c : Nat), tP q p l = .error c → c ≠ 0 := by
  intro q
  induction q with
  | zero => intro p l c h; rw [tP] at h; cases h; decide
  | succ q ih =>
    intro p l c h
    cases l with
    | nil =>
      rw [tP_nil] at h
      split at h <;> (cases h; decide)
    | cons b l =>
      rw [tP_cons] at h
      split at h
      · cases h; decide
      · split at h
        · cases h; decide
        · split at h
          · cases hp : tP q (p + 1) l with
            | error c' => rw [hp] at h; cases h; exact ih _ _ _ hp
            | ok z => rw [hp] at h; cases h
          · split at h
            · cases hm : mP l with
              | error c' => rw [hm] at h; cases h; exact mP_ne hm
              | ok z =>
                obtain ⟨n, r1⟩ := z
                rw [hm] at h
                dsimp only at h
                cases hi : titemsP (tP q) n (p + 1) r1 with
                | error c' => rw [hi] at h; cases h; exact titemsP_ne ih _ _ _ _ hi
                | ok z => rw [hi] at h; cases h
            · cases h
/-- What was read from the beginning: its bytes are the first ones. -/
theorem ext_cat {s : ByteArray} {A l : List UInt8} (h : left s 0 = A ++ l) : s.extract 0 (s.size - l.length) = strL A ∧ s.size - l.length ≤ s.size := by
  have hl := left_len s 0
  have e : s.size - l.length = 0 + A.length := by
    rw [h, List.length_append] at hl; omega
  refine ⟨?_, Nat.sub_le _ _⟩
  rw [e, cut_left, h]
  congr 1
  simp
end Go.Proofs.Yteclpehbpicpaaa
namespace Go.Proofs.Yteclpehbpicpaaa
open Go.RowKit

theorem leaf_val {k n : Int} {f : Nat} {s : ByteArray} (w : World) (hk : -9223372036854775808 ≤ k ∧ k ≤ 9223372036854775807) (hn : -9223372036854775808 ≤ n ∧ n ≤ 9223372036854775807) (hf : f < 18446744073709551616) (hs : s.size ≤ maxLen) :
    Val w w.heap.size (fields k n f s none 0 0 none 0 0) (.mk k n f s 0 (fun _ => ⟨#[]⟩) 0 (fun _ => .bad)) :=
  .mk k n f s none 0 0 none 0 0 _ _ (fun _ => #[]) hk hn hf hs ⟨Nat.le_refl _, by unfold maxLen; omega⟩ ⟨Nat.le_refl _, by unfold maxLen; omega⟩ (fun h => absurd h (by omega)) (fun h => absurd h (by omega)) (fun i hi => absurd hi (by omega))
def tru : VT := .mk 1 1 0 ⟨#[]⟩ 0 (fun _ => ⟨#[]⟩) 0 (fun _ => .bad)
def hlf : VT := .mk 3 0 4609434218613702656 ⟨#[]⟩ 0 (fun _ => ⟨#[]⟩) 0 (fun _ => .bad)
theorem wr_tru : wrV tru = .tuple #[.string ⟨#[1, 1]⟩, .int .i64 0] := by kernel_rfl
theorem wr_half : wrV hlf = .tuple #[.string ⟨#[3, 63, 248, 0, 0, 0, 0, 0, 0]⟩, .int .i64 0] := by kernel_rfl
theorem rd_bad : rdU ⟨#[128, 0]⟩ 0 = .tuple #[.int .u64 0, .int .i64 0, .int .i64 5] := by kernel_rfl
theorem rd_300 : rdU ⟨#[172, 2]⟩ 0 = .tuple #[.int .u64 300, .int .i64 2, .int .i64 0] := by kernel_rfl
theorem u_300 : strL (uintL 300) = ⟨#[172, 2]⟩ := by rw [uintL_more (by omega), uintL_last (by omega)]; decide
theorem u_m3 : strL (uintL (zig (-3))) = ⟨#[5]⟩ := by
  have e : zig (-3) = 5 := by decide
  rw [e, uintL_last (by omega)]; decide
theorem s_ab : strB ⟨#[97, 98]⟩ = ⟨#[2, 97, 98]⟩ := by
  unfold strB
  have e : (⟨#[97, 98]⟩ : ByteArray).size = 2 := by decide
  rw [e, uintL_last (by omega)]; decide
set_option maxRecDepth 100000 in
set_option maxHeartbeats 2000000 in
theorem awake_any (w : World) : Calls Try.prog 9 #[] w fun e w' => e = .returned (.bool true) ∧ Below w.heap.size w w' := by
  have V1 : ∀ W, Calls Try.prog 12 #[.agg #[.int .i64 1, .int .i64 1, .float .f64 0, .string ⟨#[]⟩, .slice none 0 0, .slice none 0 0]] W fun e w' => e = .returned (.tuple #[.string ⟨#[1, 1]⟩, .int .i64 0]) ∧ Below W.heap.size W w' := fun W => by
    have h := Value_f (leaf_val (k := 1) (n := 1) (f := 0) (s := ⟨#[]⟩) W (by omega) (by omega) (by omega) (by decide))
    have e := wr_tru
    unfold tru at e
    rw [e] at h
    exact h
  have V2 : ∀ W, Calls Try.prog 12 #[.agg #[.int .i64 3, .int .i64 0, .float .f64 4609434218613702656, .string ⟨#[]⟩, .slice none 0 0, .slice none 0 0]] W fun e w' => e = .returned (.tuple #[.string ⟨#[3, 63, 248, 0, 0, 0, 0, 0, 0]⟩, .int .i64 0]) ∧ Below W.heap.size W w' := fun W => by
    have h := Value_f (leaf_val (k := 3) (n := 0) (f := 4609434218613702656) (s := ⟨#[]⟩) W (by omega) (by omega) (by omega) (by decide))
    have e := wr_half
    unfold hlf at e
    rw [e] at h
    exact h
  have R1 : ∀ W, Calls Try.prog 24 #[.string ⟨#[128, 0]⟩, .int .i64 0] W fun e w' => e = .returned (.tuple #[.int .u64 0, .int .i64 0, .int .i64 5]) ∧ Below W.heap.size W w' := fun W => by
    have h := ReadUint_f (s := ⟨#[128, 0]⟩) (a := 0) (w := W) (by decide)
    rw [rd_bad] at h
    exact h
  have R2 : ∀ W, Calls Try.prog 24 #[.string ⟨#[172, 2]⟩, .int .i64 0] W fun e w' => e = .returned (.tuple #[.int .u64 300, .int .i64 2, .int .i64 0]) ∧ Below W.heap.size W w' := fun W => by
    have h := ReadUint_f (s := ⟨#[172, 2]⟩) (a := 0) (w := W) (by decide)
    rw [rd_300] at h
    exact h
  have U1 : ∀ W, Calls Try.prog 18 #[.int .u64 300] W fun e w' => e = .returned (.string ⟨#[172, 2]⟩) ∧ Below W.heap.size W w' := fun W => by
    have h := Uint_f (n := 300) (by omega) W
    rw [u_300] at h
    exact h
  have I1 : ∀ W, Calls Try.prog 20 #[.int .i64 (-3)] W fun e w' => e = .returned (.string ⟨#[5]⟩) ∧ Below W.heap.size W w' := fun W => by
    have h := Int_f (n := -3) (by omega) W
    rw [u_m3] at h
    exact h
  have S1 : ∀ W, Calls Try.prog 22 #[.string ⟨#[97, 98]⟩] W fun e w' => e = .returned (.string ⟨#[2, 97, 98]⟩) ∧ Below W.heap.size W w' := fun W => by
    have h := Str_f (t := ⟨#[97, 98]⟩) (by decide) W
    rw [s_ab] at h
    exact h
  have HV1 := Lib.hid V1
  have HV2 := Lib.hid V2
  have HR1 := Lib.hid R1
  have HR2 := Lib.hid R2
  have HU := Lib.hid U1
  have HI := Lib.hid I1
  have HS := Lib.hid S1
  clear V1 V2 R1 R2 U1 I1 S1
  go_enter Try.func9, Try.ntmps9
  have H0 := Lib.hid (Below.refl w.heap.size w)
  go_wp2_with (first
    | (go_at_call 12; first
      | ((with_reducible refine (HV1.out _).mono ?_); rintro e w1 ⟨rfl, hb⟩; have H1 := Lib.hid (H0.out.trans hb); clear hb)
      | ((with_reducible refine (HV2.out _).mono ?_); rintro e w2 ⟨rfl, hb⟩; have H2 := Lib.hid (H1.out.trans (hb.mono H1.out.size)); clear hb))
    | (go_at_call 24; first
      | ((with_reducible refine (HR1.out _).mono ?_); rintro e w3 ⟨rfl, hb⟩; have H3 := Lib.hid (H2.out.trans (hb.mono H2.out.size)); clear hb)
      | ((with_reducible refine (HR2.out _).mono ?_); rintro e w4 ⟨rfl, hb⟩; have H4 := Lib.hid (H3.out.trans (hb.mono H3.out.size)); clear hb))
    | (go_at_call 18; refine (HU.out _).mono ?_; rintro e w5 ⟨rfl, hb⟩; have H5 := Lib.hid (H4.out.trans (hb.mono H4.out.size)); clear hb)
    | (go_at_call 20; refine (HI.out _).mono ?_; rintro e w6 ⟨rfl, hb⟩; have H6 := Lib.hid (H5.out.trans (hb.mono H5.out.size)); clear hb)
    | (go_at_call 22; refine (HS.out _).mono ?_; rintro e w7 ⟨rfl, hb⟩; have H7 := Lib.hid (H6.out.trans (hb.mono H6.out.size)); clear hb))
  go_ret
  exact ⟨rfl, H7.out⟩
end Go.Proofs.Yteclpehbpicpaaa
namespace Go.Proofs.Yteclpehbpicpaaa
open Go.RowKit

theorem typL_few {t : TT} {v : Array Value} {w : World} {lim : Nat} (hv : TVal w lim v t) (hr : ∃ a, trightV t a = true) (ht : ttot t ≤ 200) : (typL t).length ≤ 130000 := by
  obtain ⟨a, hr⟩ := hr
  have h1 := twt_right t a hr
  have h2 := typeB_size t v w lim hv (by omega)
  have e : (typL t).length = (typeB t).size := by unfold typL; rw [Array.length_toList]; rfl
  omega
theorem tok_ttot {t : TT} {v : Array Value} {w : World} {lim : Nat} (hv : TVal w lim v t) (h : tokV t = true) : ttot t ≤ 200 ∧ trightV t 12 = true := by
  have hcnt := tcnt_tot hv 0 (by omega) (by omega)
  unfold tokV at h
  rw [hcnt, Bool.and_eq_true] at h
  have := of_decide_eq_true h.1
  exact ⟨by omega, h.2⟩
theorem typL_pos (t : TT) (h : ∃ a, trightV t a = true) : 0 < (typL t).length := by
  cases t with
  | bad => obtain ⟨a, h⟩ := h; rw [trightV] at h; exact absurd h (by decide)
  | mk k c ns m xs => rw [typL_mk]; split <;> simp
/-- What Type answers: the bytes of a right type; of others none, and an error. -/
def twrV (t : TT) : Value := if tokV t = true then .tuple #[.string (typeB t), .int .i64 0] else .tuple #[.string ⟨#[]⟩, .int .i64 5]
set_option maxRecDepth 20000 in
set_option maxHeartbeats 1000000 in
theorem Type_f {t : TT} {v : Array Value} {w : World} (hv : TVal w w.heap.size v t) : Calls Try.prog 13 #[.agg v] w fun e w' => e = .returned (twrV t) ∧ Below w.heap.size w w' := by
  have hbW : Below w.heap.size w (w.alloc (.cells v 30)) := (Below.refl _ _).alloc (Nat.le_refl _) _
  have hvW := hv.stay hbW
  have P := typeright_f (hvW.mono hbW.size)
  have A0 := Lib.hid fun (hr : tokV t = true) (W : World) (hW : Below (w.alloc (.cells v 30)).heap.size (w.alloc (.cells v 30)) W) => addType_any t v W w.heap.size _ [] (hvW.stay (hW.mono hbW.size)) ⟨12, (tok_ttot hv hr).2⟩ (Row5.nil W _) (Nat.le_trans hbW.size hW.size) (by have := typL_few hv ⟨12, (tok_ttot hv hr).2⟩ (tok_ttot hv hr).1; simp; omega)
  have HP := Lib.hid fun (hr : tokV t = true) => typL_pos t ⟨12, (tok_ttot hv hr).2⟩
  obtain ⟨a0, a1, a2, rfl⟩ := hv.three
  have HK := box3_stays (w := w) (a0 := a0) (a1 := a1) (a2 := a2) (t := 30)
  have HS : Hid (strL (typL t) = typeB t) := Lib.hid (str_lst _)
  unfold twrV
  generalize typeB t = bs at *
  generalize typL t = L at *
  cases ho : tokV t with
  | false =>
    rw [ho] at P
    rw [if_neg (by decide)]
    clear hv hvW A0 HP ho
    go_enter Try.func13, Try.ntmps13
    go_wp2_with (go_at_call 43; refine P.mono ?_; rintro e w1 ⟨rfl, hb1⟩)
    go_ret2
    exact ⟨rfl, hbW.trans (hb1.mono hbW.size)⟩
  | true =>
    rw [ho] at P
    rw [if_pos rfl]
    have A1 := Lib.hid (A0.out ho)
    have HP1 := Lib.hid (HP.out ho)
    clear hv hvW A0 HP ho
    go_enter Try.func13, Try.ntmps13
    go_wp2_with (first | (go_at_call 43; refine P.mono ?_; rintro e w1 ⟨rfl, hb1⟩; obtain ⟨q0, q1, q2⟩ := HK.out w1 hb1; have HC := Lib.hid (A1.out w1 hb1)) | (go_at_call 44; refine HC.out.mono ?_; rintro e w2 ⟨v2, rfl, hr2, hk2⟩; have hcv := conv_row hr2 HP1.out; have HK2 := Lib.hid (hk2.below (Nat.le_trans hbW.size hb1.size)); clear hr2 hk2))
    go_ret2
    exact ⟨by rw [← HS.out]; rfl, (hbW.trans (hb1.mono hbW.size)).trans HK2.out⟩
end Go.Proofs.Yteclpehbpicpaaa
namespace Go.Proofs.Yteclpehbpicpaaa
open Go.RowKit

def titmL (ns : Nat → ByteArray) (H : Nat → TT) : Nat → Nat → List (ByteArray × TT)
  | 0, _ => []
  | r + 1, i => (ns i, H i) :: titmL ns H r (i + 1)
theorem titm_len (ns : Nat → ByteArray) (H : Nat → TT) : ∀ r i, (titmL ns H r i).length = r := by
  intro r
  induction r with
  | zero => intro i; rfl
  | succ r ih => intro i; rw [titmL, List.length_cons, ih]
theorem titm_get (ns : Nat → ByteArray) (H : Nat → TT) (d : ByteArray × TT) : ∀ r i j, j < r → (titmL ns H r i).getD j d = (ns (i + j), H (i + j)) := by
  intro r
  induction r with
  | zero => intro i j h; omega
  | succ r ih =>
    intro i j h
    rw [titmL]
    cases j with
    | zero => rfl
    | succ j =>
      rw [List.getD_cons_succ, ih (i + 1) j (by omega), show i + 1 + j = i + (j + 1) by omega]
/-- A type as it is read again. -/
def tnorm : TT → TT
  | .bad => .bad
  | .mk k _ ns m xs => if k = 5 then tlist (tnorm (xs 0)) else if k = 6 then trec (titmL ns (fun i => tnorm (xs i)) m 0) else tleaf k
theorem tright_head {k : Int} {c : Nat} {ns : Nat → ByteArray} {m : Nat} {xs : Nat → TT} {far : Int} (h : trightV (.mk k c ns m xs) far = true) :
    1 ≤ far ∧ ((k = 5 ∧ m = 1 ∧ c = 0 ∧ trightV (xs 0) (far - 1) = true) ∨ (k = 6 ∧ c = m ∧ (∀ i, i < m → (ns i).size ≤ 30) ∧ ∀ i, i < m → trightV (xs i) (far - 1) = true) ∨ (1 ≤ k ∧ k ≤ 7 ∧ k ≠ 5 ∧ k ≠ 6 ∧ m = 0 ∧ c = 0)) := by
  rw [trightV, Bool.and_eq_true] at h
  obtain ⟨h1, hr⟩ := h
  refine ⟨of_decide_eq_true h1, ?_⟩
  by_cases h56 : k = 5 ∨ k = 6
  · rw [if_pos h56, Bool.and_eq_true] at hr
    obtain ⟨hh, hall⟩ := hr
    have hitem : ∀ i, i < m → trightV (xs i) (far - 1) = true := fun i hi => List.all_eq_true.1 hall i (List.mem_range.2 hi)
    rcases h56 with rfl | rfl
    · unfold theadB at hh
      simp at hh
      exact .inl ⟨rfl, hh.1, hh.2, hitem 0 (by omega)⟩
    · unfold theadB at hh
      simp only [show ¬ ((6 : Int) = 5) by omega, if_false, Bool.and_eq_true] at hh
      obtain ⟨hrise, hcm⟩ := hh
      have hcm : (c : Int) = m := by simpa using hcm
      have hcm : c = m := by omega
      refine .inr (.inl ⟨rfl, hcm, fun i hi => ?_, hitem⟩)
      have hat := List.all_eq_true.1 hrise i (List.mem_range.2 (by omega))
      unfold riseAt nameB at hat
      simp at hat
      omega
  · rw [if_neg h56] at hr
    unfold tplainB at hr
    simp at hr
    exact .inr (.inr ⟨by omega, by omega, by omega, by omega, by omega, by omega⟩)
theorem ttot_1 {t : TT} {far : Int} (h : trightV t far = true) : 1 ≤ ttot t := by
  cases t with
  | bad => rw [trightV] at h; exact absurd h (by decide)
  | mk k c ns m xs => rw [ttot]; omega
theorem titems_back (F : Nat → List UInt8 → Except Nat (TT × Nat × List UInt8)) (ns : Nat → ByteArray) (G : Nat → List UInt8) (H : Nat → TT) (T : Nat → Nat) (m : Nat) (lim : Nat)
    (hn : ∀ i, i < m → (ns i).size ≤ 30)
    (hF : ∀ i, i < m → ∀ p r, p + T i ≤ lim → F p (G i ++ r) = .ok (H i, p + T i, r)) :
    ∀ r i p rest, i + r ≤ m → p + sufN T r i ≤ lim → titemsP F r p (sufL true ns G r i ++ rest) = .ok (titmL ns H r i, p + sufN T r i, rest) := by
  intro r
  induction r with
  | zero => intro i p rest _ _; rfl
  | succ r ih =>
    intro i p rest hi hp
    rw [sufN] at hp ⊢
    have hni := hn i (by omega)
    have hnm : sP 30 (sufL true ns G (r + 1) i ++ rest) = .ok (ns i, G i ++ (sufL true ns G r (i + 1) ++ rest)) := by
      rw [sufL, if_pos rfl]
      have := S_back (t := ns i) (most := 30) (by omega) (by omega) (G i ++ (sufL true ns G r (i + 1) ++ rest))
      rw [← this]
      unfold strBL
      simp
    rw [titemsP, hnm]
    dsimp only
    rw [hF i (by omega) p _ (by omega)]
    dsimp only
    rw [ih (i + 1) (p + T i) rest (by omega) (by omega)]
    dsimp only
    rw [titmL, show p + T i + sufN T r (i + 1) = p + (T i + sufN T r (i + 1)) by omega]
theorem t_back : ∀ (t : TT) (q p : Nat) (r : List UInt8), trightV t q = true → p + ttot t ≤ 200 → tP q p (typL t ++ r) = .ok (tnorm t, p + ttot t, r) := by
  intro t
  induction t with
  | bad => intro q p r h; rw [trightV] at h; exact absurd h (by decide)
  | mk k c ns m xs ih =>
    intro q p r h hp
    obtain ⟨hq, hh⟩ := tright_head h
    obtain ⟨q, rfl⟩ : ∃ q', q = q' + 1 := ⟨q - 1, by omega⟩
    have hq1 : ((q + 1 : Nat) : Int) - 1 = (q : Nat) := by omega
    rw [hq1] at hh
    rw [ttot] at hp ⊢
    rcases hh with ⟨rfl, rfl, hc, hx⟩ | ⟨rfl, hc, hnn, hx⟩ | ⟨h1, h7, h5, h6, rfl, hc⟩
    · have e1 : sumN (fun i => ttot (xs i)) 1 = ttot (xs 0) := by
        have e : sumN (fun i => ttot (xs i)) 1 = sumN (fun i => ttot (xs i)) 0 + ttot (xs 0) := rfl
        have z : sumN (fun i => ttot (xs i)) 0 = 0 := rfl
        omega
      rw [e1] at hp ⊢
      rw [typL_mk, if_neg (by decide), itL, itL]
      simp only [decide_eq_true_eq]
      rw [if_neg (by decide)]
      have hI := ih 0 q (p + 1) r hx (by omega)
      show tP (q + 1) p (5 :: (typL (xs 0) ++ r)) = _
      rw [tP_cons, if_neg (by omega), if_neg (by decide), if_pos (by decide), hI]
      rw [tnorm]
      rw [if_pos rfl, show p + 1 + ttot (xs 0) = p + (1 + ttot (xs 0)) by omega]
    · have hsum := sumN_item (T := fun i => ttot (xs i)) (m := m) (fun i hi => ttot_1 (hx i hi))
      rw [typL_mk, if_pos rfl, nz_6, ← suf_all]
      have hI := titems_back (tP q) ns (fun i => typL (xs i)) (fun i => tnorm (xs i)) (fun i => ttot (xs i)) m 200 hnn (fun i hi p r hp => ih i q p r (hx i hi) hp) m 0 (p + 1) r (by omega) (by rw [sufN_all]; omega)
      have e : ([UInt8.ofNat (6 : Int).toNat] ++ uintL m ++ sufL (decide ((6 : Int) = 6)) ns (fun i => typL (xs i)) m 0 ++ r) = 6 :: (uintL m ++ (sufL true ns (fun i => typL (xs i)) m 0 ++ r)) := by
        simp
      rw [e, tP_cons, if_neg (by omega), if_neg (by decide), if_neg (by decide), if_pos (by decide), M_back (by omega)]
      dsimp only
      rw [hI, sufN_all]
      rw [tnorm]
      rw [if_neg (by decide), if_pos rfl, show p + 1 + sumN (fun i => ttot (xs i)) m = p + (1 + sumN (fun i => ttot (xs i)) m) by omega]
    · have z : sumN (fun i => ttot (xs i)) 0 = 0 := rfl
      rw [z] at hp ⊢
      obtain ⟨kk, rfl⟩ : ∃ kk : Nat, k = kk := ⟨k.toNat, by omega⟩
      rw [typL_mk, if_neg h6, itL]
      have hb : (UInt8.ofNat kk).toNat = kk := byte_lo (by omega)
      show tP (q + 1) p (UInt8.ofNat kk :: r) = _
      rw [tP_cons, if_neg (by omega), hb, if_neg (by omega), if_neg (by omega), if_neg (by omega)]
      rw [tnorm]
      rw [if_neg h5, if_neg h6]
end Go.Proofs.Yteclpehbpicpaaa
namespace Go.Proofs.Yteclpehbpicpaaa
open Go.RowKit

/-- Two types are the same. -/
def sameP : TT → TT → Prop
  | .mk k c ns m xs, .mk k' c' ns' m' xs' => k = k' ∧ c = c' ∧ m = m' ∧ (∀ i, i < c → ns i = ns' i) ∧ ∀ i, i < m → sameP (xs i) (xs' i)
  | _, _ => False
theorem sameT_any : ∀ (t u : TT) (v x : Array Value) (w : World), TVal w w.heap.size v t → TVal w w.heap.size x u → sameP t u →
    Calls Try.prog 36 #[.agg v, .agg x] w fun e w' => e = .returned (.bool true) ∧ Below w.heap.size w w' := by
  intro t
  induction t with
  | bad => intro u v x w hv; cases hv
  | mk k c ns m xs ih =>
    intro u v x w hv hx hs
    cases hv with
    | mk _ A _ ca B _ cb _ _ vs hk hc hm hns hB hxs =>
      cases hx with
      | mk k' A' c' ca' B' m' cb' ns' xs' vs' hk' hc' hm' hns' hB' hxs' =>
        rw [sameP] at hs
        obtain ⟨rfl, rfl, rfl, hn, hit⟩ := hs
        have hmx : m ≤ 9223372036854775807 := by have := hm; unfold maxLen at this; omega
        have hcx : c ≤ 9223372036854775807 := by have := hc; unfold maxLen at this; omega
        unfold tfields
        have HB := Lib.hid (And.intro hB (And.intro hB' (And.intro hxs (And.intro hxs' hit))))
        have HN := Lib.hid (And.intro hns (And.intro hns' hn))
        have HIH := Lib.hid ih
        clear hB hB' hxs hxs' hit hns hns' hn ih
        go_enter Try.func36, Try.ntmps36
        go_wp2_with fail
        obtain ⟨W1, hW1⟩ : ∃ W1, W1 = (w.alloc (.cells #[.int .i64 k, .slice A c ca, .slice B m cb] 30)).alloc (.cells #[.int .i64 k, .slice A' c ca', .slice B' m cb'] 30) := ⟨_, rfl⟩
        have hbW : Below w.heap.size w W1 := by rw [hW1]; exact ((Below.refl _ _).alloc (Nat.le_refl _) _).alloc (by simp) _
        have hx1 : Bt W1 w.heap.size #[.int .i64 k, .slice A c ca, .slice B m cb] := by rw [hW1]; exact (Bt.new w _).alloc _
        have hx2 : Bt W1 (w.heap.size + 1) #[.int .i64 k, .slice A' c ca', .slice B' m cb'] := by
          rw [hW1]
          have := Bt.new (w.alloc (.cells #[.int .i64 k, .slice A c ca, .slice B m cb] 30)) #[.int .i64 k, .slice A' c ca', .slice B' m cb']
          rw [World.size_alloc] at this
          exact this
        rw [← hW1]
        have HBW := Lib.hid hbW
        have HX1 := Lib.hid hx1
        have HX2 := Lib.hid hx2
        have HSZ := Lib.hid (show w.heap.size + 2 = W1.heap.size by rw [hW1]; simp)
        clear hbW hx1 hx2 hW1
        go_loopw [5] (fun iv wr => ∃ i : Nat, i ≤ c ∧ iv = .int .i64 i ∧ Below W1.heap.size W1 wr) (fun iv _ => c - (intOf iv).toNat)
        case atStart => exact ⟨0, Nat.zero_le _, rfl, Below.refl _ _⟩
        case round =>
          obtain ⟨i, hi, rfl, hb⟩ := hrel
          obtain ⟨a0, a1, a2, af, al⟩ := (HX1.out.below hb (by have := HSZ.out; omega)).cells
          obtain ⟨b0, b1, b2, bf, bl⟩ := (HX2.out.below hb (by have := HSZ.out; omega)).cells
          by_cases hlt : i < c
          · obtain ⟨hns, hns', hn⟩ := HN.out
            obtain ⟨g, o, rfl, hg, hx⟩ := hns (by omega)
            obtain ⟨g', o', rfl, hg', hx'⟩ := hns' (by omega)
            have n1 : wr.cell? ⟨g, o + i, none⟩ = some (.string (ns i)) := ((HBW.out.trans (Below.mono hb (by have := HSZ.out; omega))).cell (p := ⟨g, o + i, none⟩) hg).trans (hx i hlt).1
            have n2 : wr.cell? ⟨g', o' + i, none⟩ = some (.string (ns i)) := by
              rw [hn i hlt]
              exact ((HBW.out.trans (Below.mono hb (by have := HSZ.out; omega))).cell (p := ⟨g', o' + i, none⟩) hg').trans (hx' i hlt).1
            have HBb := Lib.hid hb
            clear hns hns' hn hx hx' hb
            go_wp2_with fail
            go_quiet (fail)
            have hd : Below wr.heap.size wr (wr.drewN nq) := below_drewN (Below.refl _ _) _
            generalize wr.drewN nq = w2 at hd ⊢
            have HB2 := Lib.hid (HBb.out.trans (hd.mono HBb.out.size))
            clear hd
            go_wp2_with fail
            go_roundw
            case rel => exact ⟨i + 1, by omega, by go_num, HB2.out⟩
            case measure => simp [intOf]; omega
          · have HBb := Lib.hid hb
            clear hb
            go_wp2_with fail
            go_loopw [6] (fun iv wr => ∃ j : Nat, j ≤ m ∧ iv = .int .i64 j ∧ Below W1.heap.size W1 wr) (fun iv _ => m - (intOf iv).toNat)
            case atStart => exact ⟨0, Nat.zero_le _, rfl, HBb.out⟩
            case round =>
              obtain ⟨j, hj, rfl, hb⟩ := hrel
              obtain ⟨a0, a1, a2, af, al⟩ := (HX1.out.below hb (by have := HSZ.out; omega)).cells
              obtain ⟨b0, b1, b2, bf, bl⟩ := (HX2.out.below hb (by have := HSZ.out; omega)).cells
              by_cases hjt : j < m
              · obtain ⟨hB, hB', hxs, hxs', hit⟩ := HB.out
                obtain ⟨g, o, rfl, hg, hx⟩ := hB (by omega)
                obtain ⟨g', o', rfl, hg', hx'⟩ := hB' (by omega)
                have hbb := HBW.out.trans (Below.mono hb (by have := HSZ.out; omega))
                have hdr : Below w.heap.size w wr.drew := hbb.drew
                have hvi := hxs j hjt
                have hvi' := hxs' j hjt
                have hcall := HIH.out j (xs' j) (vs j) (vs' j) wr.drew ((hvi.stay hdr).mono hdr.size) ((hvi'.stay hdr).mono hdr.size) (hit j hjt)
                have h1 : ThreeAt wr g (o + j * 3) (vs j) := (hx j hjt).keep fun o => hbb.cell (p := ⟨g, o, none⟩) hg
                have h2 : ThreeAt wr g' (o' + j * 3) (vs' j) := (hx' j hjt).keep fun o => hbb.cell (p := ⟨g', o, none⟩) hg'
                obtain ⟨p0, p1, p2, e1⟩ := hvi.three
                obtain ⟨r0, r1, r2, e2⟩ := hvi'.three
                rw [e1] at h1 hcall
                rw [e2] at h2 hcall
                obtain ⟨c0, c1, c2⟩ := h1.cells
                obtain ⟨d0, d1, d2⟩ := h2.cells
                have HBb := Lib.hid hb
                clear hB hB' hxs hxs' hit hx hx' hvi hvi' h1 h2 e1 e2 hbb hdr hb
                go_wp2_with fail
                go_region_law (go_simp; go_at_call 36; refine hcall.mono ?_; rintro e w5 ⟨rfl, hb5⟩)
                all_goals
                  go_wp2_with fail
                  go_roundw
                  case rel => exact ⟨j + 1, by omega, by go_num, (HBb.out.drew).trans (hb5.mono (Nat.le_trans HBb.out.size (Nat.le_refl _)))⟩
                  case measure => simp [intOf]; omega
              · have HBb := Lib.hid hb
                clear hb
                go_wp2_with fail
                go_ret
                exact ⟨rfl, HBW.out.trans (Below.mono HBb.out (by have := HSZ.out; omega))⟩
end Go.Proofs.Yteclpehbpicpaaa

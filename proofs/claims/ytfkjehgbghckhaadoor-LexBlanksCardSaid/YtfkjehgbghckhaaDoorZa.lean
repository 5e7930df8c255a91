/-
  The landed lex's small functions, and value's Name, strings.Clone.
-/
import Derived.Test.YtfkjehgbghckhaaDoorUm
namespace Go.Proofs.YtfkjehgbghckhaaDoor
open Go.RowKit

theorem ldig_any (c : UInt8) (w : World) : Calls Tryd.prog 29 #[.int .u8 c.toNat] w fun e w' => e = .returned (.bool (isD c)) ∧ w = w' := by
  obtain ⟨r, hr⟩ : ∃ r, r = isD c := ⟨_, rfl⟩
  rw [← hr]
  unfold isD at hr
  have HR := Lib.hid hr
  clear hr
  by_cases h1 : 48 ≤ c.toNat
  · have t1 : decide ((48 : Int) ≤ (c.toNat : Int)) = true := decide_eq_true (by omega)
    obtain ⟨b, hb⟩ : ∃ b, decide (c.toNat ≤ 57) = b := ⟨_, rfl⟩
    have t2 : decide ((c.toNat : Int) ≤ 57) = b := by rw [← hb, decide_eq_decide]; omega
    have HC := Lib.hid (show r = b by rw [HR.out, decide_eq_true h1, hb]; rfl)
    clear h1 hb
    go_enter Tryd.func29, Tryd.ntmps29
    go_wp2_with fail
    go_ret
    exact ⟨by rw [HC.out]; rfl, rfl⟩
  · have t1 : decide ((48 : Int) ≤ (c.toNat : Int)) = false := decide_eq_false (by omega)
    have HC := Lib.hid (show r = false by rw [HR.out, decide_eq_false h1]; rfl)
    clear h1
    go_enter Tryd.func29, Tryd.ntmps29
    go_wp2_with fail
    go_ret
    exact ⟨by rw [HC.out]; rfl, rfl⟩
theorem llet_any (c : UInt8) (w : World) : Calls Tryd.prog 31 #[.int .u8 c.toNat] w fun e w' => e = .returned (.bool (letB c)) ∧ w = w' := by
  obtain ⟨r, hr⟩ : ∃ r, r = letB c := ⟨_, rfl⟩
  rw [← hr]
  unfold letB at hr
  have HR := Lib.hid hr
  clear hr
  by_cases h1 : 97 ≤ c.toNat
  · have t1 : decide ((97 : Int) ≤ (c.toNat : Int)) = true := decide_eq_true (by omega)
    obtain ⟨b, hb⟩ : ∃ b, decide (c.toNat ≤ 122) = b := ⟨_, rfl⟩
    have t2 : decide ((c.toNat : Int) ≤ 122) = b := by rw [← hb, decide_eq_decide]; omega
    have HC := Lib.hid (show r = b by rw [HR.out, decide_eq_true h1, hb]; rfl)
    clear h1 hb
    go_enter Tryd.func31, Tryd.ntmps31
    go_wp2_with fail
    go_ret
    exact ⟨by rw [HC.out]; rfl, rfl⟩
  · have t1 : decide ((97 : Int) ≤ (c.toNat : Int)) = false := decide_eq_false (by omega)
    have HC := Lib.hid (show r = false by rw [HR.out, decide_eq_false h1]; rfl)
    clear h1
    go_enter Tryd.func31, Tryd.ntmps31
    go_wp2_with fail
    go_ret
    exact ⟨by rw [HC.out]; rfl, rfl⟩
theorem vdig_any (c : UInt8) (w : World) : Calls Tryd.prog 57 #[.int .u8 c.toNat] w fun e w' => e = .returned (.bool (isD c)) ∧ w = w' := by
  obtain ⟨r, hr⟩ : ∃ r, r = isD c := ⟨_, rfl⟩
  rw [← hr]
  unfold isD at hr
  have HR := Lib.hid hr
  clear hr
  by_cases h1 : 48 ≤ c.toNat
  · have t1 : decide ((48 : Int) ≤ (c.toNat : Int)) = true := decide_eq_true (by omega)
    obtain ⟨b, hb⟩ : ∃ b, decide (c.toNat ≤ 57) = b := ⟨_, rfl⟩
    have t2 : decide ((c.toNat : Int) ≤ 57) = b := by rw [← hb, decide_eq_decide]; omega
    have HC := Lib.hid (show r = b by rw [HR.out, decide_eq_true h1, hb]; rfl)
    clear h1 hb
    go_enter Tryd.func57, Tryd.ntmps57
    go_wp2_with fail
    go_ret
    exact ⟨by rw [HC.out]; rfl, rfl⟩
  · have t1 : decide ((48 : Int) ≤ (c.toNat : Int)) = false := decide_eq_false (by omega)
    have HC := Lib.hid (show r = false by rw [HR.out, decide_eq_false h1]; rfl)
    clear h1
    go_enter Tryd.func57, Tryd.ntmps57
    go_wp2_with fail
    go_ret
    exact ⟨by rw [HC.out]; rfl, rfl⟩
theorem vlet_any (c : UInt8) (w : World) : Calls Tryd.prog 56 #[.int .u8 c.toNat] w fun e w' => e = .returned (.bool (letB c)) ∧ w = w' := by
  obtain ⟨r, hr⟩ : ∃ r, r = letB c := ⟨_, rfl⟩
  rw [← hr]
  unfold letB at hr
  have HR := Lib.hid hr
  clear hr
  by_cases h1 : 97 ≤ c.toNat
  · have t1 : decide ((97 : Int) ≤ (c.toNat : Int)) = true := decide_eq_true (by omega)
    obtain ⟨b, hb⟩ : ∃ b, decide (c.toNat ≤ 122) = b := ⟨_, rfl⟩
    have t2 : decide ((c.toNat : Int) ≤ 122) = b := by rw [← hb, decide_eq_decide]; omega
    have HC := Lib.hid (show r = b by rw [HR.out, decide_eq_true h1, hb]; rfl)
    clear h1 hb
    go_enter Tryd.func56, Tryd.ntmps56
    go_wp2_with fail
    go_ret
    exact ⟨by rw [HC.out]; rfl, rfl⟩
  · have t1 : decide ((97 : Int) ≤ (c.toNat : Int)) = false := decide_eq_false (by omega)
    have HC := Lib.hid (show r = false by rw [HR.out, decide_eq_false h1]; rfl)
    clear h1
    go_enter Tryd.func56, Tryd.ntmps56
    go_wp2_with fail
    go_ret
    exact ⟨by rw [HC.out]; rfl, rfl⟩
theorem lnam_any (c : UInt8) (w : World) : Calls Tryd.prog 42 #[.int .u8 c.toNat] w fun e w' => e = .returned (.bool (namB c)) ∧ w = w' := by
  have L := llet_any c
  have D := ldig_any c
  cases hl : letB c with
  | true =>
    rw [hl] at L
    have HC := Lib.hid (show namB c = true by unfold namB; rw [hl]; rfl)
    clear D hl
    go_enter Tryd.func42, Tryd.ntmps42
    go_wp2_with (go_at_call 31; refine (L _).mono ?_; rintro e w1 ⟨rfl, rfl⟩)
    go_ret
    exact ⟨by rw [HC.out]; rfl, rfl⟩
  | false =>
    rw [hl] at L
    cases hd : isD c with
    | true =>
      rw [hd] at D
      have HC := Lib.hid (show namB c = true by unfold namB; rw [hl, hd]; rfl)
      clear hl hd
      go_enter Tryd.func42, Tryd.ntmps42
      go_wp2_with (first | (go_at_call 31; refine (L _).mono ?_; rintro e w1 ⟨rfl, rfl⟩) | (go_at_call 29; refine (D _).mono ?_; rintro e w1 ⟨rfl, rfl⟩))
      go_ret
      exact ⟨by rw [HC.out]; rfl, rfl⟩
    | false =>
      rw [hd] at D
      obtain ⟨b, hb⟩ : ∃ b, decide (c.toNat = 95) = b := ⟨_, rfl⟩
      have t1 : ((c.toNat : Int) == 95) = b := by rw [← hb]; exact u8_test c 95
      have HC := Lib.hid (show namB c = b by unfold namB; rw [hl, hd, hb]; rfl)
      clear hl hd hb
      go_enter Tryd.func42, Tryd.ntmps42
      go_wp2_with (first | (go_at_call 31; refine (L _).mono ?_; rintro e w1 ⟨rfl, rfl⟩) | (go_at_call 29; refine (D _).mono ?_; rintro e w1 ⟨rfl, rfl⟩))
      go_ret
      exact ⟨by rw [HC.out]; rfl, rfl⟩
set_option maxHeartbeats 1000000 in
theorem lcnt_any {s : ByteArray} (hs : s.size ≤ 100000) (w : World) :
    Calls Tryd.prog 38 #[.string s] w fun e w' => e = .returned (.int .i64 (((dig (left s 0)).length : Nat) : Int)) ∧ w = w' := by
  have D := ldig_any
  obtain ⟨R, hR⟩ : ∃ R, (dig (left s 0)).length = R := ⟨_, rfl⟩
  rw [hR]
  have HR : Hid (0 + (dig (left s 0)).length = R) := Lib.hid (by omega)
  clear hR
  go_enter Tryd.func38, Tryd.ntmps38
  go_wp2_with fail
  go_loopw [3] (fun iv wr => ∃ k : Nat, k ≤ s.size ∧ iv = .int .i64 k ∧ Hid (k + (dig (left s k)).length = R) ∧ wr = w) (fun iv _ => s.size - (intOf iv).toNat)
  case atStart => exact ⟨0, Nat.zero_le _, by go_num, HR, rfl⟩
  case round =>
    obtain ⟨k, hk, rfl, hF, rfl⟩ := hrel
    by_cases hlt : k < s.size
    · obtain ⟨c, hc⟩ : ∃ c, s[k] = c := ⟨_, rfl⟩
      have hF' := hF.out
      rw [left_cons hlt, hc] at hF'
      cases hd : isD c with
      | true =>
        have DC := D c
        rw [hd] at DC
        have HN : Hid (k + 1 + (dig (left s (k + 1))).length = R) := Lib.hid (by
          unfold dig at hF' ⊢
          rw [tw_cons hd] at hF'; omega)
        clear hF' hF hd
        go_wp2_with (go_at_call 29; refine (DC _).mono ?_; rintro e w1 ⟨rfl, rfl⟩)
        go_roundw
        case rel => exact ⟨k + 1, by omega, by go_num, HN, trivial⟩
        case measure => simp [intOf]; omega
      | false =>
        have DC := D c
        rw [hd] at DC
        have HN : Hid (k = R) := Lib.hid (by
          unfold dig at hF'
          rw [tw_stop hd] at hF'; omega)
        clear hF' hF hd
        go_wp2_with (go_at_call 29; refine (DC _).mono ?_; rintro e w1 ⟨rfl, rfl⟩)
        go_ret
        exact ⟨by rw [HN.out]; rfl, rfl⟩
    · have HN : Hid (k = R) := Lib.hid (by
        have hF' := hF.out
        rw [left_nil (by omega)] at hF'
        simpa [dig] using hF')
      clear hF
      go_wp2_with fail
      go_ret
      exact ⟨by rw [HN.out]; rfl, rfl⟩
theorem lclo_any {s : ByteArray} (h : s.size ≤ 100000) (w : World) : Calls Tryd.prog 58 #[.string s] w fun e w' => e = .returned (.string s) ∧ Below w.heap.size w w' := by
  have C := fun W => lib_stringslite_Clone s W (by omega)
  go_enter Tryd.func58, Tryd.ntmps58
  go_wp2_with (go_at_call 74; refine (C _).mono ?_; rintro e w1 ⟨rfl, hb1⟩)
  go_ret
  exact ⟨rfl, hb1⟩
/-- The result's box, amid a landed reader. -/
structure RB (w wr : World) : Prop where
  below : Below w.heap.size w wr
  res : ∃ a0 a1 a2 a3 a4 a5, Bx wr w.heap.size #[a0, a1, a2, a3, a4, a5]
theorem RB.start (w : World) (v0 v1 v2 v3 v4 v5 : Value) : RB w (w.alloc (.cells #[v0, v1, v2, v3, v4, v5] 30)) :=
  ⟨(Below.refl _ _).alloc (Nat.le_refl _) _, _, _, _, _, _, _, Bx.new w _⟩
theorem RB.lt {w wr : World} (h : RB w wr) : w.heap.size < wr.heap.size := by
  obtain ⟨a0, a1, a2, a3, a4, a5, hr⟩ := h.res
  exact hr.lt
theorem RB.step {w wr w' : World} (h : RB w wr) (hb : Below wr.heap.size wr w') : RB w w' := by
  obtain ⟨a0, a1, a2, a3, a4, a5, hr⟩ := h.res
  exact ⟨h.below.trans (hb.mono h.below.size), a0, a1, a2, a3, a4, a5, hr.below hb hr.lt⟩
theorem RB.stepB {w wr w' : World} (h : RB w wr) (hb : Below (w.heap.size + 1) wr w') : RB w w' := by
  obtain ⟨a0, a1, a2, a3, a4, a5, hr⟩ := h.res
  exact ⟨h.below.trans (hb.mono (by omega)), a0, a1, a2, a3, a4, a5, hr.below hb (by omega)⟩
theorem RB.cells {w wr : World} (h : RB w wr) : ∃ a0 a1 a2 a3 a4 a5, wr.cell? ⟨w.heap.size, 0, none⟩ = some a0 ∧ wr.cell? ⟨w.heap.size, 1, none⟩ = some a1 ∧ wr.cell? ⟨w.heap.size, 2, none⟩ = some a2 ∧ wr.cell? ⟨w.heap.size, 3, none⟩ = some a3 ∧ wr.cell? ⟨w.heap.size, 4, none⟩ = some a4 ∧ wr.cell? ⟨w.heap.size, 5, none⟩ = some a5 ∧ (∀ o, wr.frozen? ⟨w.heap.size, o, none⟩ = false) := by
  obtain ⟨a0, a1, a2, a3, a4, a5, hr⟩ := h.res
  exact ⟨a0, a1, a2, a3, a4, a5, hr.cells⟩
theorem RB.done {w wr : World} (h : RB w wr) (v0 v1 v2 v3 v4 v5 : Value) : Bx (six wr w.heap.size v0 v1 v2 v3 v4 v5) w.heap.size #[v0, v1, v2, v3, v4, v5] ∧ Below w.heap.size w (six wr w.heap.size v0 v1 v2 v3 v4 v5) := by
  obtain ⟨a0, a1, a2, a3, a4, a5, hr⟩ := h.res
  exact ⟨hr.six v0 v1 v2 v3 v4 v5, below_six h.below (Nat.le_refl _) v0 v1 v2 v3 v4 v5⟩
/-- A token and an error come back: the token out of its box (slots p and q). -/
theorem results_tokq {fn : Func} {p q : Nat} (h : fn.results = #[.cell p 30, .tmp q]) (tmps : Array Value) (w : World) (R : Nat) (a0 a1 a2 a3 a4 a5 : Value) (y : Value)
    (hp : tmps.getD p undef = .pointer (some ⟨R, 0, none⟩)) (h5 : tmps.getD q undef = y) (hg : Bx w R #[a0, a1, a2, a3, a4, a5]) :
    (results fn tmps).run Tryd.prog w = .ok (.tuple #[.agg #[a0, a1, a2, a3, a4, a5], y]) w := by
  have hp' : tmps[p]?.getD undef = .pointer (some ⟨R, 0, none⟩) := by simpa using hp
  have h5' : tmps[q]?.getD undef = y := by simpa using h5
  simp [results, h, hp', h5', asAddr, run_loadVar_row w R 30 30 #[a0, a1, a2, a3, a4, a5] (0, 0) _ hg Tryd.underlying30 rfl (by rw [info25]; rfl)]
theorem results_tok1 {fn : Func} {p : Nat} (h : fn.results = #[.cell p 30]) (tmps : Array Value) (w : World) (R : Nat) (a0 a1 a2 a3 a4 a5 : Value)
    (hp : tmps.getD p undef = .pointer (some ⟨R, 0, none⟩)) (hg : Bx w R #[a0, a1, a2, a3, a4, a5]) :
    (results fn tmps).run Tryd.prog w = .ok (.agg #[a0, a1, a2, a3, a4, a5]) w := by
  have hp' : tmps[p]?.getD undef = .pointer (some ⟨R, 0, none⟩) := by simpa using hp
  simp [results, h, hp', asAddr, run_loadVar_row w R 30 30 #[a0, a1, a2, a3, a4, a5] (0, 0) _ hg Tryd.underlying30 rfl (by rw [info25]; rfl)]
theorem box_bad {fn : Func} {p q : Nat} (hfn : fn.results = #[.cell p 30, .tmp q]) {w w' : World} {k a b n : Int} {f : Nat} {s : ByteArray} {y : Int} {tmps : Array Value} {at_ : Nat}
    (hg : Bx w' w.heap.size #[.int .i64 k, .int .i64 a, .int .i64 b, .int .i64 n, .float .f64 f, .string s]) (hB : Below w.heap.size w w')
    (hp : tmps.getD p undef = .pointer (some ⟨w.heap.size, 0, none⟩)) (h5 : tmps.getD q undef = .int .i64 y) :
    bodyPost Tryd.prog fn (fun e w' => HdEnds at_ (.err y) w e w') Exit.ret ⟨tmps, []⟩ w' :=
  bodyPost_ret (results_tokq hfn _ _ w.heap.size _ _ _ _ _ _ _ hp h5 hg) rfl ⟨⟨k, a, b, n, f, s, rfl⟩, hB⟩
theorem box_good {fn : Func} {p q : Nat} (hfn : fn.results = #[.cell p 30, .tmp q]) {w w' : World} {b n : Int} {s : ByteArray} {t : Tk} {tmps : Array Value}
    (hg : Bx w' w.heap.size #[.int .i64 t.k, .int .i64 0, .int .i64 b, .int .i64 n, .float .f64 t.f, .string s]) (hB : Below w.heap.size w w')
    (hp : tmps.getD p undef = .pointer (some ⟨w.heap.size, 0, none⟩)) (h5 : tmps.getD q undef = .int .i64 0) (hb : b = (t.len : Int)) (hn : n = (t.n : Int)) (hs : s = strL t.s) :
    bodyPost Tryd.prog fn (fun e w' => HdEnds 0 (.ok t) w e w') Exit.ret ⟨tmps, []⟩ w' := by
  subst hb hn hs
  refine bodyPost_ret (results_tokq hfn _ _ w.heap.size _ _ _ _ _ _ _ hp h5 hg) rfl ⟨?_, hB⟩
  show _ = Ending.returned (.tuple #[.agg (tokV t.k 0 ((0 + t.len : Nat) : Int) t.n t.f (strL t.s)), .int .i64 0])
  rw [Nat.zero_add]; rfl
set_option maxRecDepth 20000 in
theorem wtx_any {s : ByteArray} (h : s.size ≤ 100000) (k : Int) (w : World) : Calls Tryd.prog 45 #[.int .i64 k, .string s] w fun e w' => e = .returned (.agg #[.int .i64 k, .int .i64 0, .int .i64 s.size, .int .i64 0, .float .f64 0, .string s]) ∧ Below w.heap.size w w' := by
  have C := fun W => lclo_any h W
  have SF := float_store
  go_enter Tryd.func45, Tryd.ntmps45
  go_wp2_with (go_at_call 58; refine (C _).mono ?_; rintro e w1 ⟨rfl, hb1⟩; refine Hid.out ?_)
  refine Lib.hid ?_
  have hR := (RB.start w (.int .i64 0) (.int .i64 0) (.int .i64 0) (.int .i64 0) (.float .f64 0) (.string ⟨#[]⟩)).step hb1
  obtain ⟨a0, a1, a2, a3, a4, a5, d0, d1, d2, d3, d4, d5, df⟩ := hR.cells
  have HR := Lib.hid hR
  clear hR hb1 C
  go_wp2_with fail
  exact bodyPost_ret (results_tok1 rfl _ _ w.heap.size _ _ _ _ _ _ rfl (HR.out.done _ _ _ _ _ _).1) rfl ⟨rfl, (HR.out.done _ _ _ _ _ _).2⟩
/-- A name's bytes: is it short enough? -/
def shortB (s : ByteArray) : Bool := decide (s.size ≤ 30)
set_option maxHeartbeats 2000000 in
theorem vname_any {s : ByteArray} (hs : s.size ≤ 100000) (h0 : 0 < s.size) (hl : letB s[0] = true) (ha : ∀ j (h : j < s.size), namB s[j] = true) (w : World) :
    Calls Tryd.prog 44 #[.string s] w fun e w' => e = .returned (.bool (shortB s)) ∧ w = w' := by
  have L := vlet_any
  have D := vdig_any
  obtain ⟨c0, hc0⟩ : ∃ c, s[0] = c := ⟨_, rfl⟩
  have L0 := L c0
  rw [hc0] at hl
  rw [hl] at L0
  have HA := Lib.hid ha
  clear ha hl
  by_cases h30 : 30 < s.size
  · have HR : Hid (shortB s = false) := Lib.hid (decide_eq_false (by omega))
    go_enter Tryd.func44, Tryd.ntmps44
    go_wp2_with fail
    go_ret
    exact ⟨by rw [HR.out]; rfl, rfl⟩
  · have HR : Hid (shortB s = true) := Lib.hid (decide_eq_true (by omega))
    go_enter Tryd.func44, Tryd.ntmps44
    go_wp2_with (go_at_call 56; refine (L0 _).mono ?_; rintro e w1 ⟨rfl, rfl⟩)
    clear L0 hc0
    go_loopw [20] (fun iv wr => ∃ k : Nat, k ≤ s.size ∧ iv = .int .i64 k ∧ wr = w) (fun iv _ => s.size - (intOf iv).toNat)
    case atStart => exact ⟨0, Nat.zero_le _, by go_num, rfl⟩
    case round =>
      obtain ⟨k, hk, rfl, rfl⟩ := hrel
      by_cases hlt : k < s.size
      · obtain ⟨c, hc⟩ : ∃ c, s[k] = c := ⟨_, rfl⟩
        have hn := HA.out k hlt
        rw [hc] at hn
        unfold namB at hn
        have LC := L c
        have DC := D c
        cases l : letB c with
        | true =>
          rw [l] at LC
          clear l hn DC L D
          go_wp2_with (go_at_call 56; refine (LC _).mono ?_; rintro e w1 ⟨rfl, rfl⟩)
          go_roundw
          case rel => exact ⟨k + 1, by omega, by go_num, trivial⟩
          case measure => simp [intOf]; omega
        | false =>
          rw [l] at LC hn
          cases d : isD c with
          | true =>
            rw [d] at DC
            clear l d hn L D
            go_wp2_with (first | (go_at_call 56; refine (LC _).mono ?_; rintro e w1 ⟨rfl, rfl⟩) | (go_at_call 57; refine (DC _).mono ?_; rintro e w1 ⟨rfl, rfl⟩))
            go_roundw
            case rel => exact ⟨k + 1, by omega, by go_num, trivial⟩
            case measure => simp [intOf]; omega
          | false =>
            rw [d] at DC hn
            have h95 : c.toNat = 95 := by simpa using hn
            have n1 : ((c.toNat : Int) != 95) = false := by simp; omega
            clear l d hn h95 L D
            go_wp2_with (first | (go_at_call 56; refine (LC _).mono ?_; rintro e w1 ⟨rfl, rfl⟩) | (go_at_call 57; refine (DC _).mono ?_; rintro e w1 ⟨rfl, rfl⟩))
            go_roundw
            case rel => exact ⟨k + 1, by omega, by go_num, trivial⟩
            case measure => simp [intOf]; omega
      · clear HA L D
        go_wp2_with fail
        go_ret
        exact ⟨by rw [HR.out]; rfl, rfl⟩
end Go.Proofs.YtfkjehgbghckhaaDoor

/-
  The document's sign.
-/
import Derived.Test.YtfkjehgbghckhaaDoorUg
namespace Go.Proofs.YtfkjehgbghckhaaDoor
open Go.RowKit

theorem boxes (w : World) (cs : Array Value) (v0 v1 v2 v3 v4 v5 : Value) : Bx ((w.alloc (.cells cs 30)).alloc (.cells #[v0, v1, v2, v3, v4, v5] 30)) (w.heap.size + 1) #[v0, v1, v2, v3, v4, v5] ∧ Below w.heap.size w ((w.alloc (.cells cs 30)).alloc (.cells #[v0, v1, v2, v3, v4, v5] 30)) := by
  have h := Bx.new (w.alloc (.cells cs 30)) #[v0, v1, v2, v3, v4, v5]
  rw [show (w.alloc (.cells cs 30)).heap.size = w.heap.size + 1 by simp] at h
  exact ⟨h, ((Below.refl _ _).alloc (Nat.le_refl _) _).alloc (by simp) _⟩
theorem good2 {fn : Func} (hfn : fn.results = #[.cell 4 30, .tmp 5]) {w : World} {cs : Array Value} {b n : Int} {s : ByteArray} {t : Tk} {tmps : Array Value} {at_ : Nat}
    (hp : tmps.getD 4 undef = .pointer (some ⟨w.heap.size + 1, 0, none⟩)) (h5 : tmps.getD 5 undef = .int .i64 0) (hb : b = ((at_ + t.len : Nat) : Int)) (hn : n = (t.n : Int)) (hs : s = strL t.s) :
    bodyPost Tryd.prog fn (fun e w' => HdEnds at_ (.ok t) w e w') Exit.ret ⟨tmps, []⟩ ((w.alloc (.cells cs 30)).alloc (.cells #[.int .i64 t.k, .int .i64 at_, .int .i64 b, .int .i64 n, .float .f64 t.f, .string s] 30)) := by
  subst hb hn hs
  obtain ⟨h1, h2⟩ := boxes w cs (.int .i64 t.k) (.int .i64 at_) (.int .i64 ((at_ + t.len : Nat) : Int)) (.int .i64 t.n) (.float .f64 t.f) (.string (strL t.s))
  exact bodyPost_ret (results_tok hfn _ _ (w.heap.size + 1) _ _ _ _ _ _ _ hp h5 h1) rfl ⟨rfl, h2⟩
theorem data_list (v : ByteArray) (l : List UInt8) (h : v = strL l) : v.toList = l := by rw [h, str_is]; rfl
def twosL : List (List UInt8) := [[61, 61], [60, 61], [38, 38], [124, 124]]
def signsA : ByteArray := ⟨#[40, 41, 91, 93, 123, 125, 44, 58, 46, 63, 43, 45, 42, 47, 37, 33, 60]⟩
theorem signs_cut : ∀ i, i < 17 → ∃ d, onesL[i]? = some d ∧ signsA.extract i (i + 1) = strL [d] := by
  intro i hi
  have h : (List.range 17).all (fun i => match onesL[i]? with | some d => decide (signsA.extract i (i + 1) = strL [d]) | none => false) = true := by decide +kernel
  rw [List.all_eq_true] at h
  have h1 := h i (List.mem_range.2 hi)
  cases hd : onesL[i]? with
  | none => rw [hd] at h1; cases h1
  | some d => rw [hd] at h1; exact ⟨d, rfl, by simpa using h1⟩
end Go.Proofs.YtfkjehgbghckhaaDoor

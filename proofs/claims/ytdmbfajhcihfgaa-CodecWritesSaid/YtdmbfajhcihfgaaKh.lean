/-
  Contract of the program's Type.
-/
import Derived.Test.YtdmbfajhcihfgaaKg
namespace Go.Proofs.Ytdmbfajhcihfgaa
open Go.RowKit

theorem typL_few {t : TT} {v : Array Value} {w : World} {lim : Nat} (hv : TVal w lim v t) (hr : ∃ a, trightV t a = true) (ht : ttot t ≤ 200) : (typL t).length ≤ 130000 := by
  obtain ⟨a, hr⟩ := hr
  have h1 := twt_right t a hr
  have h2 := typeB_size t v w lim hv (by omega)
  have e : (typL t).length = (typeB t).size := by unfold typL; rw [Array.length_toList]; rfl
  omega
theorem tok_ttot {t : TT} {v : Array Value} {w : World} {lim : Nat} (hv : TVal w lim v t) (h : tokV t = true) : ttot t ≤ 200 ∧ trightV t 12 = true := by
  have hcnt := tcnt_tot hv 0 (by omega) (by omega)
  unfold tokV at h
  rw [hcnt, Bool.and_eq_true] at h
  have := of_decide_eq_true h.1
  exact ⟨by omega, h.2⟩
theorem typL_pos (t : TT) (h : ∃ a, trightV t a = true) : 0 < (typL t).length := by
  cases t with
  | bad => obtain ⟨a, h⟩ := h; rw [trightV] at h; exact absurd h (by decide)
  | mk k c ns m xs => rw [typL_mk]; split <;> simp
/-- What Type answers: the bytes of a right type; of others none, and an error. -/
def twrV (t : TT) : Value := if tokV t = true then .tuple #[.string (typeB t), .int .i64 0] else .tuple #[.string ⟨#[]⟩, .int .i64 5]
set_option maxRecDepth 20000 in
set_option maxHeartbeats 1000000 in
theorem Type_f {t : TT} {v : Array Value} {w : World} (hv : TVal w w.heap.size v t) : Calls Try.prog 12 #[.agg v] w fun e w' => e = .returned (twrV t) ∧ Below w.heap.size w w' := by
  have hbW : Below w.heap.size w (w.alloc (.cells v 30)) := (Below.refl _ _).alloc (Nat.le_refl _) _
  have hvW := hv.stay hbW
  have P := typeright_f (hvW.mono hbW.size)
  have A0 := Lib.hid fun (hr : tokV t = true) (W : World) (hW : Below (w.alloc (.cells v 30)).heap.size (w.alloc (.cells v 30)) W) => addType_any t v W w.heap.size _ [] (hvW.stay (hW.mono hbW.size)) ⟨12, (tok_ttot hv hr).2⟩ (Row5.nil W _) (Nat.le_trans hbW.size hW.size) (by have := typL_few hv ⟨12, (tok_ttot hv hr).2⟩ (tok_ttot hv hr).1; simp; omega)
  have HP := Lib.hid fun (hr : tokV t = true) => typL_pos t ⟨12, (tok_ttot hv hr).2⟩
  obtain ⟨a0, a1, a2, rfl⟩ := hv.three
  have HK := box3_stays (w := w) (a0 := a0) (a1 := a1) (a2 := a2) (t := 30)
  have HS : Hid (strL (typL t) = typeB t) := Lib.hid (str_lst _)
  unfold twrV
  generalize typeB t = bs at *
  generalize typL t = L at *
  cases ho : tokV t with
  | false =>
    rw [ho] at P
    rw [if_neg (by decide)]
    clear hv hvW A0 HP ho
    go_enter Try.func12, Try.ntmps12
    go_wp2_with (go_at_call 37; refine P.mono ?_; rintro e w1 ⟨rfl, hb1⟩)
    go_ret2
    exact ⟨rfl, hbW.trans (hb1.mono hbW.size)⟩
  | true =>
    rw [ho] at P
    rw [if_pos rfl]
    have A1 := Lib.hid (A0.out ho)
    have HP1 := Lib.hid (HP.out ho)
    clear hv hvW A0 HP ho
    go_enter Try.func12, Try.ntmps12
    go_wp2_with (first | (go_at_call 37; refine P.mono ?_; rintro e w1 ⟨rfl, hb1⟩; obtain ⟨q0, q1, q2⟩ := HK.out w1 hb1; have HC := Lib.hid (A1.out w1 hb1)) | (go_at_call 38; refine HC.out.mono ?_; rintro e w2 ⟨v2, rfl, hr2, hk2⟩; have hcv := conv_row hr2 HP1.out; have HK2 := Lib.hid (hk2.below (Nat.le_trans hbW.size hb1.size)); clear hr2 hk2))
    go_ret2
    exact ⟨by rw [← HS.out]; rfl, (hbW.trans (hb1.mono hbW.size)).trans HK2.out⟩
end Go.Proofs.Ytdmbfajhcihfgaa

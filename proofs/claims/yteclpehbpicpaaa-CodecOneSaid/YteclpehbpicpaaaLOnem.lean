/-
  For any bytes the law CodecOne answers true: each thing has just one way. No condition.
-/
import Derived.Test.YteclpehbpicpaaaRows
import Derived.Test.YteclpehbpicpaaaLOneBm
import Derived.Test.YteclpehbpicpaaaLOneCm
import Derived.Test.YteclpehbpicpaaaLOneDm
import Derived.Test.YteclpehbpicpaaaLOneEm
import Derived.ProofKit
import Derived.OpenShut
namespace Go.Proofs.Yteclpehbpicpaaa.codecOne
open Go.ChangeShapes Go.WideShapes Go.ChangeAt Go.RowKit
open Go.ChangeMaps (open_string shut_string)

theorem own : ownKnob Try.prog.godebug = none := by kernel_rfl
theorem walk {s : ByteArray} (w : World) :
    Calls Try.prog 7 #[.string s] w fun e w' => e = .returned (.bool true) ∧ Below w.heap.size w w' := by
  by_cases hs : s.size ≤ 3000
  · rcases partU hs with PU | PU <;> rcases partI hs with PI | PI <;> rcases partV hs with PV | PV <;> rcases partT hs with PT | PT
    · exact walk_eeee hs w PU PI PV PT
    · exact walk_eeek hs w PU PI PV PT
    · exact walk_eeke hs w PU PI PV PT
    · exact walk_eekk hs w PU PI PV PT
    · exact walk_ekee hs w PU PI PV PT
    · exact walk_ekek hs w PU PI PV PT
    · exact walk_ekke hs w PU PI PV PT
    · exact walk_ekkk hs w PU PI PV PT
    · exact walk_keee hs w PU PI PV PT
    · exact walk_keek hs w PU PI PV PT
    · exact walk_keke hs w PU PI PV PT
    · exact walk_kekk hs w PU PI PV PT
    · exact walk_kkee hs w PU PI PV PT
    · exact walk_kkek hs w PU PI PV PT
    · exact walk_kkke hs w PU PI PV PT
    · exact walk_kkkk hs w PU PI PV PT
  · have t0 : decide (3000 < (s.size : Int)) = true := by simp; omega
    have HAW := Lib.hid awake_any
    clear hs
    go_enter Try.func7, Try.ntmps7
    go_wp2_with (go_at_call 9; first | (refine (HAW.out w).mono ?_; rintro e w1 ⟨rfl, hb1⟩) | (refine (HAW.out _).mono ?_; rintro e w2 ⟨rfl, hb2⟩))
    go_ret
    exact ⟨rfl, hb1.trans (hb2.mono hb1.size)⟩
set_option maxRecDepth 100000 in
theorem lifted (os : Os) (started : os.Started) (H : Type) (enc : TypeId × Value → H) :
    ReturnsInHanded {} Try.checked os 7 .any (Rows.codecOneSpec.pre6 enc Try.prog Try.f7 Rows.codecOneRow.domain false) (Rows.codecOneSpec.post enc Try.prog Try.f7 false true false false) := by
  refine returnsInHanded_of_change (C := Try.checked) own started (by kernel_rfl) Try.func7
    (ChangeSpec.witness6 (enc := enc) (C := Try.checked) false ⟨#[], #[.string ⟨#[]⟩], []⟩ 8 (by kernel_rfl) (by kernel_rfl) (by kernel_rfl) (by kernel_rfl)) ?_
  intro W base args ds gs before hval0 hW hcnd _
  have hval : ∀ (j : Nat) t v, Try.f7.params[j]? = some t → args[j]? = some v → Value.okWide Try.prog W .any base t v := hval0
  have hW' := hW
  obtain ⟨p, q, hA0, hV, rfl, hfz, hnd⟩ := hW
  have hA : DataW.TrodAll enc Try.prog W 0 (fun _ => true) true Try.f7.params.toList args.toList ds p := hA0
  rw [Try.params7] at hA hval
  obtain ⟨v0, vs0, d0, ds0, p0, q0, hargs, rfl, rfl, h0, r0⟩ := trodAll_cons hA
  obtain ⟨rfl, rfl, rfl⟩ := trodAll_nil r0
  obtain rfl : args = #[v0] := by cases args; simp_all
  obtain ⟨rfl, rfl⟩ := trodVars_none hV
  obtain ⟨s, rfl, rfl, rfl, hs⟩ := open_string Try.underlying9 (hval 0 9 v0 rfl rfl) h0
  clear hA0 hval0
  simp only [List.append_nil] at hW'
  refine (walk W).mono fun e W' ⟨he, hg⟩ => ?_
  subst he
  exact ⟨_, rfl, _, _, _, [], [], [], hW', trodAll_cons_mk (shut_bool Try.underlying4 _) trodAll_mk0,
    trodAll_cons_mk (shut_string Try.underlying9 hs) trodAll_mk0, rfl, hg.frame _, fun h => by cases h⟩
theorem over : Rows.codecOneRow.holds Try.pinned (OpenSpec.ofChange Rows.codecOneSpec) :=
  OpenClaim.holds_of_wide 7 Try.f7 rfl rfl rfl rfl rfl rfl rfl ⟨rfl, rfl, rfl, rfl, rfl⟩ rfl rfl rfl rfl rfl (by kernel_rfl) Try.func7 (by kernel_rfl)
    (of_decide_eq_true (by kernel_rfl)) (by unfold Func.isWrapper; first | (rw [if_pos (by decide +kernel)]; kernel_rfl) | (rw [if_neg (by decide +kernel)]; exact ⟨rfl, rfl⟩))
    (fun os started H enc _ => lifted os started H enc)
theorem proved : Rows.CodecOneSaid := over
end Go.Proofs.Yteclpehbpicpaaa.codecOne

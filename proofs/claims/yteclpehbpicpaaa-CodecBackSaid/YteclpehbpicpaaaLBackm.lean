/-
  For any value, any type, any bytes ahead and behind, and any place to cut at, the law CodecBack answers true: what is written is read as it was, and cut off anywhere it is none. No condition.
-/
import Derived.Test.YteclpehbpicpaaaRows
import Derived.Test.YteclpehbpicpaaaLBackCm
import Derived.Test.YteclpehbpicpaaaM39
import Derived.Test.YteclpehbpicpaaaM40
import Derived.ProofKit
import Derived.OpenShut
namespace Go.Proofs.Yteclpehbpicpaaa.codecBack
open Go.ChangeShapes Go.WideShapes Go.ChangeAt Go.RowKit
open Go.ChangeMaps (open_string shut_string)

theorem walk {t : VT} {v : Array Value} {u : TT} {x : Array Value} {w : World} {A B : ByteArray} {c : Int} (hv : Val w w.heap.size v t) (hx : TVal w w.heap.size x u) :
    Calls Try.prog 6 #[.agg v, .agg x, .string A, .string B, .int .i64 c] w (Yes w) := by
  cases hsm : smallV t with
  | false => exact walk_big hv hx (.inl hsm)
  | true =>
    cases htm : tsmallV u with
    | false => exact walk_big hv hx (.inr (.inl ⟨hsm, htm⟩))
    | true =>
      by_cases hA : A.size ≤ 200
      · by_cases hB : B.size ≤ 200
        · cases hok : okV t with
          | false => cases htk : tokV u with
            | false => exact walk_ee hv hx hsm htm hA hB hok htk
            | true => exact walk_ek hv hx hsm htm hA hB hok htk
          | true => cases htk : tokV u with
            | false => exact walk_ke hv hx hsm htm hA hB hok htk
            | true => exact walk_kk hv hx hsm htm hA hB hok htk
        · exact walk_big hv hx (.inr (.inr (.inr ⟨hsm, htm, hA, by omega⟩)))
      · exact walk_big hv hx (.inr (.inr (.inl ⟨hsm, htm, by omega⟩)))
theorem own : ownKnob Try.prog.godebug = none := by kernel_rfl
set_option maxRecDepth 100000 in
theorem lifted (os : Os) (started : os.Started) (H : Type) (enc : TypeId × Value → H) :
    ReturnsInHanded {} Try.checked os 6 .any (Rows.codecBackSpec.pre6 enc Try.prog Try.f6 Rows.codecBackRow.domain false) (Rows.codecBackSpec.post enc Try.prog Try.f6 false true false false) := by
  refine returnsInHanded_of_change (C := Try.checked) own started (by kernel_rfl) Try.func6
    (ChangeSpec.witness6 (enc := enc) (C := Try.checked) false ⟨#[], #[.agg #[.int .i64 0, .int .i64 0, .float .f64 0, .string ⟨#[]⟩, .slice none 0 0, .slice none 0 0], .agg #[.int .i64 0, .slice none 0 0, .slice none 0 0], .string ⟨#[]⟩, .string ⟨#[]⟩, .int .i64 0], []⟩ 8 (by kernel_rfl) (by kernel_rfl) (by kernel_rfl) (by kernel_rfl)) ?_
  intro W base args ds gs before hval0 hW hcnd _
  have hval : ∀ (j : Nat) t v, Try.f6.params[j]? = some t → args[j]? = some v → Value.okWide Try.prog W .any base t v := hval0
  have hW' := hW
  obtain ⟨p, q, hA0, hV, rfl, hfz, hnd⟩ := hW
  have hA : DataW.TrodAll enc Try.prog W 0 (fun _ => true) true Try.f6.params.toList args.toList ds p := hA0
  rw [Try.params6] at hA hval
  obtain ⟨v0, vs0, d0, ds0, p0, q0, hargs, rfl, rfl, h0, r0⟩ := trodAll_cons hA
  obtain ⟨v1, vs1, d1, ds1, p1, q1, rfl, rfl, rfl, h1, r1⟩ := trodAll_cons r0
  obtain ⟨v2, vs2, d2, ds2, p2, q2, rfl, rfl, rfl, h2, r2⟩ := trodAll_cons r1
  obtain ⟨v3, vs3, d3, ds3, p3, q3, rfl, rfl, rfl, h3, r3⟩ := trodAll_cons r2
  obtain ⟨v4, vs4, d4, ds4, p4, q4, rfl, rfl, rfl, h4, r4⟩ := trodAll_cons r3
  obtain ⟨rfl, rfl, rfl⟩ := trodAll_nil r4
  obtain rfl : args = #[v0, v1, v2, v3, v4] := by cases args; simp_all
  obtain ⟨rfl, rfl⟩ := trodVars_none hV
  obtain ⟨A, rfl, rfl, rfl, hsA⟩ := open_string Try.underlying9 (hval 2 9 v2 rfl rfl) h2
  obtain ⟨B, rfl, rfl, rfl, hsB⟩ := open_string Try.underlying9 (hval 3 9 v3 rfl rfl) h3
  obtain ⟨c, rfl, rfl, rfl, w4⟩ := open_int Try.underlying3 (hval 4 3 v4 rfl rfl) h4
  clear hA0 hval0
  simp only [List.append_nil] at hW'
  have hlt0 : ∀ x ∈ p0, x.block < W.heap.size := fun x hx => by simpa using hW'.lt x (by simp [hx])
  have hlt1 : ∀ x ∈ p1, x.block < W.heap.size := fun x hx => by simpa using hW'.lt x (by simp [hx])
  obtain ⟨a, t, rfl, hv⟩ := open_val (hval 0 27 v0 rfl rfl) h0 hlt0
  obtain ⟨b, u, rfl, hx⟩ := open_typ (hval 1 30 v1 rfl rfl) h1 hlt1
  refine (walk hv hx).mono fun e W' ⟨he, hg⟩ => ?_
  subst he
  exact ⟨_, rfl, _, _, _, [], _, [], hW', trodAll_cons_mk (shut_bool Try.underlying4 _) trodAll_mk0,
    trodAll_cons_mk (stays_val h0 hg hlt0) (trodAll_cons_mk (stays_typ h1 hg hlt1) (trodAll_cons_mk (shut_string Try.underlying9 hsA) (trodAll_cons_mk (shut_string Try.underlying9 hsB) (trodAll_cons_mk (shut_int Try.underlying3 w4) trodAll_mk0)))), rfl, hg.frame _, fun h => by cases h⟩
theorem over : Rows.codecBackRow.holds Try.pinned (OpenSpec.ofChange Rows.codecBackSpec) :=
  OpenClaim.holds_of_wide 6 Try.f6 rfl rfl rfl rfl rfl rfl rfl ⟨rfl, rfl, rfl, rfl, rfl⟩ rfl rfl rfl rfl rfl (by kernel_rfl) Try.func6 (by kernel_rfl)
    (of_decide_eq_true (by kernel_rfl)) (by unfold Func.isWrapper; first | (rw [if_pos (by decide +kernel)]; kernel_rfl) | (rw [if_neg (by decide +kernel)]; exact ⟨rfl, rfl⟩))
    (fun os started H enc _ => lifted os started H enc)
theorem proved : Rows.CodecBackSaid := over
end Go.Proofs.Yteclpehbpicpaaa.codecBack

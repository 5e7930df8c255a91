/-
  NARROWER THAN 'FOR EVERY INPUT', by the rows' own cells (each row's printed sentence says how): TypesJoin: loops · TypesLaws: loops · TypesValues: loops · TypesParts: loops · InferNil: loops · InferParts: loops.
  DERIVED. THE GIVEN ROWS OF THIS SEAT. 6 by the template 'for every input the law returns true; each argument reads behind the call as it read before'; 0 by the template 'total and deterministic' (their statements: YtcmohggnehkjeaaGreatTotals.lean).
  GIVEN WITH THE SEED: the statements are not yours to turn. If you find one false, say at which input.
  Laid BY PROGRAM, IN A SANDBOX (cutbox-rows.mjs): the forced cells as the released guide's own fill.sh prints them over the translation 19df42041c13085b… (all of the seat's roots in one cut). By AI agents, Wed Nov 11 2026. No macro, syntax, notation, axiom, sorry.
-/
import Derived.Test.YtcmohggnehkjeaaGreatChecked
import GoSem.Claim
import GoSem.ClaimJoined
import GoSem.ClaimMapViews
import Derived.JoinedTies
import Derived.KernelRfl
namespace Go.Proofs.YtcmohggnehkjeaaGreat
/- THE CELL 'sum', in the pinned program and in every row, IS THE sha256 OF THE DUMP (.gsa) THAT YtcmohggnehkjeaaGreatProg.lean LOADS. Nothing in Lean hashes anything: it is a label: what it is worth is what the hold of that sum in a sandbox is worth. -/
noncomputable def Tryz.pinned : Pinned := { name := "ytcmohggnehkjeaagreat", sum := "19df42041c13085b6964e2413d37ade042f14d553b8af53b3dc3df8e3285ce9a", checked := Tryz.checked }
namespace Rows
def none {H : Type} : Left H := { results := [], args := [] }

/-- 'basculelaw09.TypesJoin': WHATEVER THE INPUT: true; the input reads as it did. -/
def typesJoinSpec : ChangeSpec := { name := "typesJoin", fn := fun _ => fun
  | [d1, d2] => { results := [.lit (.bool true)], args := [d1, d2] }
  | _ => none }
def typesJoinRow : OpenClaim := { program := "ytcmohggnehkjeaagreat", sum := "19df42041c13085b6964e2413d37ade042f14d553b8af53b3dc3df8e3285ce9a", func := "bascule/basculelaw09.TypesJoin", spec := "typesJoin", inPlace := ["math.Float64frombits", "math.Float64bits"], unfollowed := true, recurses := true, loops := true, apart := false }
def TypesJoinSaid : Prop := typesJoinRow.holds Tryz.pinned (OpenSpec.ofChange typesJoinSpec)

/-- ITS FALSE NEIGHBOUR: 'it returns false'. Refute it at one input. -/
def typesJoinWrong : ChangeSpec := { name := "typesJoin", fn := fun _ => fun
  | [d1, d2] => { results := [.lit (.bool false)], args := [d1, d2] }
  | _ => none }
def TypesJoinWrongFalsely : Prop := typesJoinRow.holds Tryz.pinned (OpenSpec.ofChange typesJoinWrong)

/-- 'basculelaw09.TypesLaws': WHATEVER THE INPUT: true; the input reads as it did. -/
def typesLawsSpec : ChangeSpec := { name := "typesLaws", fn := fun _ => fun
  | [d1, d2, d3] => { results := [.lit (.bool true)], args := [d1, d2, d3] }
  | _ => none }
def typesLawsRow : OpenClaim := { program := "ytcmohggnehkjeaagreat", sum := "19df42041c13085b6964e2413d37ade042f14d553b8af53b3dc3df8e3285ce9a", func := "bascule/basculelaw09.TypesLaws", spec := "typesLaws", inPlace := ["math.Float64frombits", "math.Float64bits"], unfollowed := true, recurses := true, loops := true, apart := false }
def TypesLawsSaid : Prop := typesLawsRow.holds Tryz.pinned (OpenSpec.ofChange typesLawsSpec)

/-- ITS FALSE NEIGHBOUR: 'it returns false'. Refute it at one input. -/
def typesLawsWrong : ChangeSpec := { name := "typesLaws", fn := fun _ => fun
  | [d1, d2, d3] => { results := [.lit (.bool false)], args := [d1, d2, d3] }
  | _ => none }
def TypesLawsWrongFalsely : Prop := typesLawsRow.holds Tryz.pinned (OpenSpec.ofChange typesLawsWrong)

/-- 'basculelaw09.TypesValues': WHATEVER THE INPUT: true; the input reads as it did. -/
def typesValuesSpec : ChangeSpec := { name := "typesValues", fn := fun _ => fun
  | [d1, d2, d3] => { results := [.lit (.bool true)], args := [d1, d2, d3] }
  | _ => none }
def typesValuesRow : OpenClaim := { program := "ytcmohggnehkjeaagreat", sum := "19df42041c13085b6964e2413d37ade042f14d553b8af53b3dc3df8e3285ce9a", func := "bascule/basculelaw09.TypesValues", spec := "typesValues", inPlace := ["math.Float64frombits", "math.Float64bits"], unfollowed := true, recurses := true, loops := true, apart := false }
def TypesValuesSaid : Prop := typesValuesRow.holds Tryz.pinned (OpenSpec.ofChange typesValuesSpec)

/-- ITS FALSE NEIGHBOUR: 'it returns false'. Refute it at one input. -/
def typesValuesWrong : ChangeSpec := { name := "typesValues", fn := fun _ => fun
  | [d1, d2, d3] => { results := [.lit (.bool false)], args := [d1, d2, d3] }
  | _ => none }
def TypesValuesWrongFalsely : Prop := typesValuesRow.holds Tryz.pinned (OpenSpec.ofChange typesValuesWrong)

/-- 'basculelaw09.TypesParts': WHATEVER THE INPUT: true; the input reads as it did. -/
def typesPartsSpec : ChangeSpec := { name := "typesParts", fn := fun _ => fun
  | [d1, d2] => { results := [.lit (.bool true)], args := [d1, d2] }
  | _ => none }
def typesPartsRow : OpenClaim := { program := "ytcmohggnehkjeaagreat", sum := "19df42041c13085b6964e2413d37ade042f14d553b8af53b3dc3df8e3285ce9a", func := "bascule/basculelaw09.TypesParts", spec := "typesParts", inPlace := ["math.Float64frombits", "math.Float64bits"], unfollowed := true, recurses := true, loops := true, apart := false }
def TypesPartsSaid : Prop := typesPartsRow.holds Tryz.pinned (OpenSpec.ofChange typesPartsSpec)

/-- ITS FALSE NEIGHBOUR: 'it returns false'. Refute it at one input. -/
def typesPartsWrong : ChangeSpec := { name := "typesParts", fn := fun _ => fun
  | [d1, d2] => { results := [.lit (.bool false)], args := [d1, d2] }
  | _ => none }
def TypesPartsWrongFalsely : Prop := typesPartsRow.holds Tryz.pinned (OpenSpec.ofChange typesPartsWrong)

/-- 'basculelaw11.InferNil': WHATEVER THE INPUT: true; the input reads as it did. -/
def inferNilSpec : ChangeSpec := { name := "inferNil", fn := fun _ => fun
  | [d1, d2] => { results := [.lit (.bool true)], args := [d1, d2] }
  | _ => none }
def inferNilRow : OpenClaim := { program := "ytcmohggnehkjeaagreat", sum := "19df42041c13085b6964e2413d37ade042f14d553b8af53b3dc3df8e3285ce9a", func := "bascule/basculelaw11.InferNil", spec := "inferNil", inPlace := ["math.Float64bits", "math.Float64frombits"], unfollowed := true, recurses := true, loops := true, apart := false }
def InferNilSaid : Prop := inferNilRow.holds Tryz.pinned (OpenSpec.ofChange inferNilSpec)

/-- ITS FALSE NEIGHBOUR: 'it returns false'. Refute it at one input. -/
def inferNilWrong : ChangeSpec := { name := "inferNil", fn := fun _ => fun
  | [d1, d2] => { results := [.lit (.bool false)], args := [d1, d2] }
  | _ => none }
def InferNilWrongFalsely : Prop := inferNilRow.holds Tryz.pinned (OpenSpec.ofChange inferNilWrong)

/-- 'basculelaw11.InferParts': WHATEVER THE INPUT: true; the input reads as it did. -/
def inferPartsSpec : ChangeSpec := { name := "inferParts", fn := fun _ => fun
  | [d1, d2, d3, d4, d5] => { results := [.lit (.bool true)], args := [d1, d2, d3, d4, d5] }
  | _ => none }
def inferPartsRow : OpenClaim := { program := "ytcmohggnehkjeaagreat", sum := "19df42041c13085b6964e2413d37ade042f14d553b8af53b3dc3df8e3285ce9a", func := "bascule/basculelaw11.InferParts", spec := "inferParts", inPlace := ["math.Float64frombits", "math.Float64bits"], unfollowed := true, recurses := true, loops := true, apart := false }
def InferPartsSaid : Prop := inferPartsRow.holds Tryz.pinned (OpenSpec.ofChange inferPartsSpec)

/-- ITS FALSE NEIGHBOUR: 'it returns false'. Refute it at one input. -/
def inferPartsWrong : ChangeSpec := { name := "inferParts", fn := fun _ => fun
  | [d1, d2, d3, d4, d5] => { results := [.lit (.bool false)], args := [d1, d2, d3, d4, d5] }
  | _ => none }
def InferPartsWrongFalsely : Prop := inferPartsRow.holds Tryz.pinned (OpenSpec.ofChange inferPartsWrong)

/- THE SECOND FORM. 'bulk': how many values and letters a reading holds, each counted each time it is reached (what is shared counts as often as it is met; a slice's spare places count too). A statement '..UptoSaid' is the law's where the arguments, and the package variables that the reading takes, are together of bulk at most 1048576: NARROWER than '..Said'. Prove '..Said' where nothing that the law and all that it calls make is longer than what came in: it says more and counts as full. Else prove '..UptoSaid'. A law counts once. -/
mutual
def uptoBulk {H : Type} : DataW H → Nat
  | .lit (.string bytes) => bytes.length + 1
  | .lit _ => 1
  | .nil => 1
  | .ptr d => uptoBulk d + 1
  | .slice elems spare => uptoBulkAll elems + uptoBulkAll spare + 1
  | .agg parts => uptoBulkAll parts + 1
  | .iface _ d => uptoBulk d + 1
  | .map entries => uptoBulkEntries entries + 1
  | .held _ => 1
def uptoBulkAll {H : Type} : List (DataW H) → Nat
  | [] => 0
  | d :: r => uptoBulk d + uptoBulkAll r
def uptoBulkEntries {H : Type} : List (Lit × DataW H) → Nat
  | [] => 0
  | x :: r => uptoBulkEntry x + uptoBulkEntries r
def uptoBulkEntry {H : Type} : Lit × DataW H → Nat
  | (.string bytes, d) => bytes.length + uptoBulk d + 1
  | (_, d) => uptoBulk d + 1
 end
def uptoSmall : (H : Type) → List (DataW H) → Bool := fun _ ds => decide (uptoBulkAll ds ≤ 1048576)
def OpenSpec.upto (s : _root_.Go.ChangeSpec) : _root_.Go.OpenSpec := { _root_.Go.OpenSpec.ofChange s with cond := some uptoSmall }

/-- 'basculelaw09.TypesJoin', WHERE WHAT IT READS IS OF BULK AT MOST 1048576: true; the input reads as it did. -/
def typesJoinUptoRow : OpenClaim := { program := "ytcmohggnehkjeaagreat", sum := "19df42041c13085b6964e2413d37ade042f14d553b8af53b3dc3df8e3285ce9a", func := "bascule/basculelaw09.TypesJoin", spec := "typesJoin", inPlace := ["math.Float64frombits", "math.Float64bits"], unfollowed := true, recurses := true, loops := true, apart := false, narrowed := true }
def TypesJoinUptoSaid : Prop := typesJoinUptoRow.holds Tryz.pinned (OpenSpec.upto typesJoinSpec)

/-- 'basculelaw09.TypesLaws', WHERE WHAT IT READS IS OF BULK AT MOST 1048576: true; the input reads as it did. -/
def typesLawsUptoRow : OpenClaim := { program := "ytcmohggnehkjeaagreat", sum := "19df42041c13085b6964e2413d37ade042f14d553b8af53b3dc3df8e3285ce9a", func := "bascule/basculelaw09.TypesLaws", spec := "typesLaws", inPlace := ["math.Float64frombits", "math.Float64bits"], unfollowed := true, recurses := true, loops := true, apart := false, narrowed := true }
def TypesLawsUptoSaid : Prop := typesLawsUptoRow.holds Tryz.pinned (OpenSpec.upto typesLawsSpec)

/-- 'basculelaw09.TypesValues', WHERE WHAT IT READS IS OF BULK AT MOST 1048576: true; the input reads as it did. -/
def typesValuesUptoRow : OpenClaim := { program := "ytcmohggnehkjeaagreat", sum := "19df42041c13085b6964e2413d37ade042f14d553b8af53b3dc3df8e3285ce9a", func := "bascule/basculelaw09.TypesValues", spec := "typesValues", inPlace := ["math.Float64frombits", "math.Float64bits"], unfollowed := true, recurses := true, loops := true, apart := false, narrowed := true }
def TypesValuesUptoSaid : Prop := typesValuesUptoRow.holds Tryz.pinned (OpenSpec.upto typesValuesSpec)

/-- 'basculelaw09.TypesParts', WHERE WHAT IT READS IS OF BULK AT MOST 1048576: true; the input reads as it did. -/
def typesPartsUptoRow : OpenClaim := { program := "ytcmohggnehkjeaagreat", sum := "19df42041c13085b6964e2413d37ade042f14d553b8af53b3dc3df8e3285ce9a", func := "bascule/basculelaw09.TypesParts", spec := "typesParts", inPlace := ["math.Float64frombits", "math.Float64bits"], unfollowed := true, recurses := true, loops := true, apart := false, narrowed := true }
def TypesPartsUptoSaid : Prop := typesPartsUptoRow.holds Tryz.pinned (OpenSpec.upto typesPartsSpec)

/-- 'basculelaw11.InferNil', WHERE WHAT IT READS IS OF BULK AT MOST 1048576: true; the input reads as it did. -/
def inferNilUptoRow : OpenClaim := { program := "ytcmohggnehkjeaagreat", sum := "19df42041c13085b6964e2413d37ade042f14d553b8af53b3dc3df8e3285ce9a", func := "bascule/basculelaw11.InferNil", spec := "inferNil", inPlace := ["math.Float64bits", "math.Float64frombits"], unfollowed := true, recurses := true, loops := true, apart := false, narrowed := true }
def InferNilUptoSaid : Prop := inferNilUptoRow.holds Tryz.pinned (OpenSpec.upto inferNilSpec)

/-- 'basculelaw11.InferParts', WHERE WHAT IT READS IS OF BULK AT MOST 1048576: true; the input reads as it did. -/
def inferPartsUptoRow : OpenClaim := { program := "ytcmohggnehkjeaagreat", sum := "19df42041c13085b6964e2413d37ade042f14d553b8af53b3dc3df8e3285ce9a", func := "bascule/basculelaw11.InferParts", spec := "inferParts", inPlace := ["math.Float64frombits", "math.Float64bits"], unfollowed := true, recurses := true, loops := true, apart := false, narrowed := true }
def InferPartsUptoSaid : Prop := inferPartsUptoRow.holds Tryz.pinned (OpenSpec.upto inferPartsSpec)

end Rows
end Go.Proofs.YtcmohggnehkjeaaGreat

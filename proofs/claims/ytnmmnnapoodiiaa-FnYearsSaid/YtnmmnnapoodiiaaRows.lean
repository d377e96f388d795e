/-
  No cell of these rows narrows 'for every input' (looked for: loops, veiled, ifaces, maps, wideKeys, modest, calm, conditions, laid).
  DERIVED. THE GIVEN ROWS OF THIS SEAT. 7 by the template 'for every input the law returns true; each argument reads behind the call as it read before'; 0 by the template 'total and deterministic' (their statements: YtnmmnnapoodiiaaTotals.lean).
  GIVEN WITH THE SEED: the statements are not yours to turn. If you find one false, say at which input.
  Laid BY PROGRAM, IN A SANDBOX (cutbox-rows.mjs): the forced cells as the released guide's own fill.sh prints them over the translation fc54de65dce5af8a… (all of the seat's roots in one cut). By AI agents, Wed Nov 11 2026. No macro, syntax, notation, axiom, sorry.
-/
import Derived.Test.YtnmmnnapoodiiaaChecked
import GoSem.Claim
import GoSem.ClaimJoined
import GoSem.ClaimMapViews
import Derived.JoinedTies
import Derived.KernelRfl
namespace Go.Proofs.Ytnmmnnapoodiiaa
/- THE CELL 'sum', in the pinned program and in every row, IS THE sha256 OF THE DUMP (.gsa) THAT YtnmmnnapoodiiaaProg.lean LOADS. Nothing in Lean hashes anything: it is a label: what it is worth is what the hold of that sum in a sandbox is worth. -/
noncomputable def Try.pinned : Pinned := { name := "ytnmmnnapoodiiaa", sum := "fc54de65dce5af8a6f1463cd6a30ae47f5529c244ca685057d8d0d56175e0b8f", checked := Try.checked }
namespace Rows
def none {H : Type} : Left H := { results := [], args := [] }

/-- 'laws.FnYears': WHATEVER THE INPUT: true; the input reads as it did. -/
def fnYearsSpec : ChangeSpec := { name := "fnYears", fn := fun _ => fun
  | [d] => { results := [.lit (.bool true)], args := [d] }
  | _ => none }
def fnYearsRow : OpenClaim := { program := "ytnmmnnapoodiiaa", sum := "fc54de65dce5af8a6f1463cd6a30ae47f5529c244ca685057d8d0d56175e0b8f", func := "loop.example/g03307/laws.FnYears", spec := "fnYears", apart := false }
def FnYearsSaid : Prop := fnYearsRow.holds Try.pinned (OpenSpec.ofChange fnYearsSpec)

/-- ITS FALSE NEIGHBOUR: 'it returns false'. Refute it at one input. -/
def fnYearsWrong : ChangeSpec := { name := "fnYears", fn := fun _ => fun
  | [d] => { results := [.lit (.bool false)], args := [d] }
  | _ => none }
def FnYearsWrongFalsely : Prop := fnYearsRow.holds Try.pinned (OpenSpec.ofChange fnYearsWrong)

/-- 'laws.FnExactYearOk': WHATEVER THE INPUT: true; the input reads as it did. -/
def fnExactYearOkSpec : ChangeSpec := { name := "fnExactYearOk", fn := fun _ => fun
  | [d] => { results := [.lit (.bool true)], args := [d] }
  | _ => none }
def fnExactYearOkRow : OpenClaim := { program := "ytnmmnnapoodiiaa", sum := "fc54de65dce5af8a6f1463cd6a30ae47f5529c244ca685057d8d0d56175e0b8f", func := "loop.example/g03307/laws.FnExactYearOk", spec := "fnExactYearOk", apart := false }
def FnExactYearOkSaid : Prop := fnExactYearOkRow.holds Try.pinned (OpenSpec.ofChange fnExactYearOkSpec)

/-- ITS FALSE NEIGHBOUR: 'it returns false'. Refute it at one input. -/
def fnExactYearOkWrong : ChangeSpec := { name := "fnExactYearOk", fn := fun _ => fun
  | [d] => { results := [.lit (.bool false)], args := [d] }
  | _ => none }
def FnExactYearOkWrongFalsely : Prop := fnExactYearOkRow.holds Try.pinned (OpenSpec.ofChange fnExactYearOkWrong)

/-- 'laws.FnExactLevelsOf': WHATEVER THE INPUT: true; the input reads as it did. -/
def fnExactLevelsOfSpec : ChangeSpec := { name := "fnExactLevelsOf", fn := fun _ => fun
  | [d] => { results := [.lit (.bool true)], args := [d] }
  | _ => none }
def fnExactLevelsOfRow : OpenClaim := { program := "ytnmmnnapoodiiaa", sum := "fc54de65dce5af8a6f1463cd6a30ae47f5529c244ca685057d8d0d56175e0b8f", func := "loop.example/g03307/laws.FnExactLevelsOf", spec := "fnExactLevelsOf", apart := false }
def FnExactLevelsOfSaid : Prop := fnExactLevelsOfRow.holds Try.pinned (OpenSpec.ofChange fnExactLevelsOfSpec)

/-- ITS FALSE NEIGHBOUR: 'it returns false'. Refute it at one input. -/
def fnExactLevelsOfWrong : ChangeSpec := { name := "fnExactLevelsOf", fn := fun _ => fun
  | [d] => { results := [.lit (.bool false)], args := [d] }
  | _ => none }
def FnExactLevelsOfWrongFalsely : Prop := fnExactLevelsOfRow.holds Try.pinned (OpenSpec.ofChange fnExactLevelsOfWrong)

/-- 'laws.FnExactShortDays': WHATEVER THE INPUT: true; the input reads as it did. -/
def fnExactShortDaysSpec : ChangeSpec := { name := "fnExactShortDays", fn := fun _ => fun
  | [d] => { results := [.lit (.bool true)], args := [d] }
  | _ => none }
def fnExactShortDaysRow : OpenClaim := { program := "ytnmmnnapoodiiaa", sum := "fc54de65dce5af8a6f1463cd6a30ae47f5529c244ca685057d8d0d56175e0b8f", func := "loop.example/g03307/laws.FnExactShortDays", spec := "fnExactShortDays", apart := false }
def FnExactShortDaysSaid : Prop := fnExactShortDaysRow.holds Try.pinned (OpenSpec.ofChange fnExactShortDaysSpec)

/-- ITS FALSE NEIGHBOUR: 'it returns false'. Refute it at one input. -/
def fnExactShortDaysWrong : ChangeSpec := { name := "fnExactShortDays", fn := fun _ => fun
  | [d] => { results := [.lit (.bool false)], args := [d] }
  | _ => none }
def FnExactShortDaysWrongFalsely : Prop := fnExactShortDaysRow.holds Try.pinned (OpenSpec.ofChange fnExactShortDaysWrong)

/-- 'laws.FnExactLostWater': WHATEVER THE INPUT: true; the input reads as it did. -/
def fnExactLostWaterSpec : ChangeSpec := { name := "fnExactLostWater", fn := fun _ => fun
  | [d] => { results := [.lit (.bool true)], args := [d] }
  | _ => none }
def fnExactLostWaterRow : OpenClaim := { program := "ytnmmnnapoodiiaa", sum := "fc54de65dce5af8a6f1463cd6a30ae47f5529c244ca685057d8d0d56175e0b8f", func := "loop.example/g03307/laws.FnExactLostWater", spec := "fnExactLostWater", apart := false }
def FnExactLostWaterSaid : Prop := fnExactLostWaterRow.holds Try.pinned (OpenSpec.ofChange fnExactLostWaterSpec)

/-- ITS FALSE NEIGHBOUR: 'it returns false'. Refute it at one input. -/
def fnExactLostWaterWrong : ChangeSpec := { name := "fnExactLostWater", fn := fun _ => fun
  | [d] => { results := [.lit (.bool false)], args := [d] }
  | _ => none }
def FnExactLostWaterWrongFalsely : Prop := fnExactLostWaterRow.holds Try.pinned (OpenSpec.ofChange fnExactLostWaterWrong)

/-- 'laws.FnExactTakenWater': WHATEVER THE INPUT: true; the input reads as it did. -/
def fnExactTakenWaterSpec : ChangeSpec := { name := "fnExactTakenWater", fn := fun _ => fun
  | [d] => { results := [.lit (.bool true)], args := [d] }
  | _ => none }
def fnExactTakenWaterRow : OpenClaim := { program := "ytnmmnnapoodiiaa", sum := "fc54de65dce5af8a6f1463cd6a30ae47f5529c244ca685057d8d0d56175e0b8f", func := "loop.example/g03307/laws.FnExactTakenWater", spec := "fnExactTakenWater", apart := false }
def FnExactTakenWaterSaid : Prop := fnExactTakenWaterRow.holds Try.pinned (OpenSpec.ofChange fnExactTakenWaterSpec)

/-- ITS FALSE NEIGHBOUR: 'it returns false'. Refute it at one input. -/
def fnExactTakenWaterWrong : ChangeSpec := { name := "fnExactTakenWater", fn := fun _ => fun
  | [d] => { results := [.lit (.bool false)], args := [d] }
  | _ => none }
def FnExactTakenWaterWrongFalsely : Prop := fnExactTakenWaterRow.holds Try.pinned (OpenSpec.ofChange fnExactTakenWaterWrong)

/-- 'laws.FnExactDryDays': WHATEVER THE INPUT: true; the input reads as it did. -/
def fnExactDryDaysSpec : ChangeSpec := { name := "fnExactDryDays", fn := fun _ => fun
  | [d] => { results := [.lit (.bool true)], args := [d] }
  | _ => none }
def fnExactDryDaysRow : OpenClaim := { program := "ytnmmnnapoodiiaa", sum := "fc54de65dce5af8a6f1463cd6a30ae47f5529c244ca685057d8d0d56175e0b8f", func := "loop.example/g03307/laws.FnExactDryDays", spec := "fnExactDryDays", apart := false }
def FnExactDryDaysSaid : Prop := fnExactDryDaysRow.holds Try.pinned (OpenSpec.ofChange fnExactDryDaysSpec)

/-- ITS FALSE NEIGHBOUR: 'it returns false'. Refute it at one input. -/
def fnExactDryDaysWrong : ChangeSpec := { name := "fnExactDryDays", fn := fun _ => fun
  | [d] => { results := [.lit (.bool false)], args := [d] }
  | _ => none }
def FnExactDryDaysWrongFalsely : Prop := fnExactDryDaysRow.holds Try.pinned (OpenSpec.ofChange fnExactDryDaysWrong)

/- THE SECOND FORM. 'bulk': how many values and letters a reading holds, each counted each time it is reached (what is shared counts as often as it is met; a slice's spare places count too). A statement '..UptoSaid' is the law's where the arguments, and the package variables that the reading takes, are together of bulk at most 1048576: NARROWER than '..Said'. Prove '..Said' where nothing that the law and all that it calls make is longer than what came in: it says more and counts as full. Else prove '..UptoSaid'. A law counts once. -/
mutual
def uptoBulk {H : Type} : DataW H → Nat
  | .lit (.string bytes) => bytes.length + 1
  | .lit _ => 1
  | .nil => 1
  | .ptr d => uptoBulk d + 1
  | .slice elems spare => uptoBulkAll elems + uptoBulkAll spare + 1
  | .agg parts => uptoBulkAll parts + 1
  | .iface _ d => uptoBulk d + 1
  | .map entries => uptoBulkEntries entries + 1
  | .held _ => 1
def uptoBulkAll {H : Type} : List (DataW H) → Nat
  | [] => 0
  | d :: r => uptoBulk d + uptoBulkAll r
def uptoBulkEntries {H : Type} : List (Lit × DataW H) → Nat
  | [] => 0
  | x :: r => uptoBulkEntry x + uptoBulkEntries r
def uptoBulkEntry {H : Type} : Lit × DataW H → Nat
  | (.string bytes, d) => bytes.length + uptoBulk d + 1
  | (_, d) => uptoBulk d + 1
 end
def uptoSmall : (H : Type) → List (DataW H) → Bool := fun _ ds => decide (uptoBulkAll ds ≤ 1048576)
def OpenSpec.upto (s : _root_.Go.ChangeSpec) : _root_.Go.OpenSpec := { _root_.Go.OpenSpec.ofChange s with cond := some uptoSmall }

/-- 'laws.FnYears', WHERE WHAT IT READS IS OF BULK AT MOST 1048576: true; the input reads as it did. -/
def fnYearsUptoRow : OpenClaim := { program := "ytnmmnnapoodiiaa", sum := "fc54de65dce5af8a6f1463cd6a30ae47f5529c244ca685057d8d0d56175e0b8f", func := "loop.example/g03307/laws.FnYears", spec := "fnYears", apart := false, narrowed := true }
def FnYearsUptoSaid : Prop := fnYearsUptoRow.holds Try.pinned (OpenSpec.upto fnYearsSpec)

/-- 'laws.FnExactYearOk', WHERE WHAT IT READS IS OF BULK AT MOST 1048576: true; the input reads as it did. -/
def fnExactYearOkUptoRow : OpenClaim := { program := "ytnmmnnapoodiiaa", sum := "fc54de65dce5af8a6f1463cd6a30ae47f5529c244ca685057d8d0d56175e0b8f", func := "loop.example/g03307/laws.FnExactYearOk", spec := "fnExactYearOk", apart := false, narrowed := true }
def FnExactYearOkUptoSaid : Prop := fnExactYearOkUptoRow.holds Try.pinned (OpenSpec.upto fnExactYearOkSpec)

/-- 'laws.FnExactLevelsOf', WHERE WHAT IT READS IS OF BULK AT MOST 1048576: true; the input reads as it did. -/
def fnExactLevelsOfUptoRow : OpenClaim := { program := "ytnmmnnapoodiiaa", sum := "fc54de65dce5af8a6f1463cd6a30ae47f5529c244ca685057d8d0d56175e0b8f", func := "loop.example/g03307/laws.FnExactLevelsOf", spec := "fnExactLevelsOf", apart := false, narrowed := true }
def FnExactLevelsOfUptoSaid : Prop := fnExactLevelsOfUptoRow.holds Try.pinned (OpenSpec.upto fnExactLevelsOfSpec)

/-- 'laws.FnExactShortDays', WHERE WHAT IT READS IS OF BULK AT MOST 1048576: true; the input reads as it did. -/
def fnExactShortDaysUptoRow : OpenClaim := { program := "ytnmmnnapoodiiaa", sum := "fc54de65dce5af8a6f1463cd6a30ae47f5529c244ca685057d8d0d56175e0b8f", func := "loop.example/g03307/laws.FnExactShortDays", spec := "fnExactShortDays", apart := false, narrowed := true }
def FnExactShortDaysUptoSaid : Prop := fnExactShortDaysUptoRow.holds Try.pinned (OpenSpec.upto fnExactShortDaysSpec)

/-- 'laws.FnExactLostWater', WHERE WHAT IT READS IS OF BULK AT MOST 1048576: true; the input reads as it did. -/
def fnExactLostWaterUptoRow : OpenClaim := { program := "ytnmmnnapoodiiaa", sum := "fc54de65dce5af8a6f1463cd6a30ae47f5529c244ca685057d8d0d56175e0b8f", func := "loop.example/g03307/laws.FnExactLostWater", spec := "fnExactLostWater", apart := false, narrowed := true }
def FnExactLostWaterUptoSaid : Prop := fnExactLostWaterUptoRow.holds Try.pinned (OpenSpec.upto fnExactLostWaterSpec)

/-- 'laws.FnExactTakenWater', WHERE WHAT IT READS IS OF BULK AT MOST 1048576: true; the input reads as it did. -/
def fnExactTakenWaterUptoRow : OpenClaim := { program := "ytnmmnnapoodiiaa", sum := "fc54de65dce5af8a6f1463cd6a30ae47f5529c244ca685057d8d0d56175e0b8f", func := "loop.example/g03307/laws.FnExactTakenWater", spec := "fnExactTakenWater", apart := false, narrowed := true }
def FnExactTakenWaterUptoSaid : Prop := fnExactTakenWaterUptoRow.holds Try.pinned (OpenSpec.upto fnExactTakenWaterSpec)

/-- 'laws.FnExactDryDays', WHERE WHAT IT READS IS OF BULK AT MOST 1048576: true; the input reads as it did. -/
def fnExactDryDaysUptoRow : OpenClaim := { program := "ytnmmnnapoodiiaa", sum := "fc54de65dce5af8a6f1463cd6a30ae47f5529c244ca685057d8d0d56175e0b8f", func := "loop.example/g03307/laws.FnExactDryDays", spec := "fnExactDryDays", apart := false, narrowed := true }
def FnExactDryDaysUptoSaid : Prop := fnExactDryDaysUptoRow.holds Try.pinned (OpenSpec.upto fnExactDryDaysSpec)

end Rows
end Go.Proofs.Ytnmmnnapoodiiaa

/-
  No cell of these rows narrows 'for every input' (looked for: loops, veiled, ifaces, maps, wideKeys, modest, calm, conditions, laid).
  DERIVED. THE GIVEN ROWS OF THIS SEAT. 7 by the template 'for every input the law returns true; each argument reads behind the call as it read before'; 0 by the template 'total and deterministic' (their statements: YtilabfmnaegidaaTotals.lean).
  GIVEN WITH THE SEED: the statements are not yours to turn. If you find one false, say at which input.
  Laid BY PROGRAM, IN A SANDBOX (cutbox-rows.mjs): the forced cells as the released guide's own fill.sh prints them over the translation a83a21512cd1448d… (all of the seat's roots in one cut). By AI agents, Wed Nov 11 2026. No macro, syntax, notation, axiom, sorry.
-/
import Derived.Test.YtilabfmnaegidaaChecked
import GoSem.Claim
import GoSem.ClaimJoined
import GoSem.ClaimMapViews
import Derived.JoinedTies
import Derived.KernelRfl
namespace Go.Proofs.Ytilabfmnaegidaa
/- THE CELL 'sum', in the pinned program and in every row, IS THE sha256 OF THE DUMP (.gsa) THAT YtilabfmnaegidaaProg.lean LOADS. Nothing in Lean hashes anything: it is a label: what it is worth is what the hold of that sum in a sandbox is worth. -/
noncomputable def Try.pinned : Pinned := { name := "ytilabfmnaegidaa", sum := "a83a21512cd1448da17008ac8be8809718c0fa31cd01b65c5cffa47e0de5a379", checked := Try.checked }
namespace Rows
def none {H : Type} : Left H := { results := [], args := [] }

/-- 'laws.FnCutProofs': WHATEVER THE INPUT: true; the input reads as it did. -/
def fnCutProofsSpec : ChangeSpec := { name := "fnCutProofs", fn := fun _ => fun
  | [d] => { results := [.lit (.bool true)], args := [d] }
  | _ => none }
def fnCutProofsRow : OpenClaim := { program := "ytilabfmnaegidaa", sum := "a83a21512cd1448da17008ac8be8809718c0fa31cd01b65c5cffa47e0de5a379", func := "loop.example/g03307/laws.FnCutProofs", spec := "fnCutProofs", unfollowed := true, recurses := true, apart := false }
def FnCutProofsSaid : Prop := fnCutProofsRow.holds Try.pinned (OpenSpec.ofChange fnCutProofsSpec)

/-- ITS FALSE NEIGHBOUR: 'it returns false'. Refute it at one input. -/
def fnCutProofsWrong : ChangeSpec := { name := "fnCutProofs", fn := fun _ => fun
  | [d] => { results := [.lit (.bool false)], args := [d] }
  | _ => none }
def FnCutProofsWrongFalsely : Prop := fnCutProofsRow.holds Try.pinned (OpenSpec.ofChange fnCutProofsWrong)

/-- 'laws.FnExactCutWidth': WHATEVER THE INPUT: true; the input reads as it did. -/
def fnExactCutWidthSpec : ChangeSpec := { name := "fnExactCutWidth", fn := fun _ => fun
  | [d1, d2] => { results := [.lit (.bool true)], args := [d1, d2] }
  | _ => none }
def fnExactCutWidthRow : OpenClaim := { program := "ytilabfmnaegidaa", sum := "a83a21512cd1448da17008ac8be8809718c0fa31cd01b65c5cffa47e0de5a379", func := "loop.example/g03307/laws.FnExactCutWidth", spec := "fnExactCutWidth", apart := false }
def FnExactCutWidthSaid : Prop := fnExactCutWidthRow.holds Try.pinned (OpenSpec.ofChange fnExactCutWidthSpec)

/-- ITS FALSE NEIGHBOUR: 'it returns false'. Refute it at one input. -/
def fnExactCutWidthWrong : ChangeSpec := { name := "fnExactCutWidth", fn := fun _ => fun
  | [d1, d2] => { results := [.lit (.bool false)], args := [d1, d2] }
  | _ => none }
def FnExactCutWidthWrongFalsely : Prop := fnExactCutWidthRow.holds Try.pinned (OpenSpec.ofChange fnExactCutWidthWrong)

/-- 'laws.FnExactIsCut': WHATEVER THE INPUT: true; the input reads as it did. -/
def fnExactIsCutSpec : ChangeSpec := { name := "fnExactIsCut", fn := fun _ => fun
  | [d1, d2, d3, d4] => { results := [.lit (.bool true)], args := [d1, d2, d3, d4] }
  | _ => none }
def fnExactIsCutRow : OpenClaim := { program := "ytilabfmnaegidaa", sum := "a83a21512cd1448da17008ac8be8809718c0fa31cd01b65c5cffa47e0de5a379", func := "loop.example/g03307/laws.FnExactIsCut", spec := "fnExactIsCut", apart := false }
def FnExactIsCutSaid : Prop := fnExactIsCutRow.holds Try.pinned (OpenSpec.ofChange fnExactIsCutSpec)

/-- ITS FALSE NEIGHBOUR: 'it returns false'. Refute it at one input. -/
def fnExactIsCutWrong : ChangeSpec := { name := "fnExactIsCut", fn := fun _ => fun
  | [d1, d2, d3, d4] => { results := [.lit (.bool false)], args := [d1, d2, d3, d4] }
  | _ => none }
def FnExactIsCutWrongFalsely : Prop := fnExactIsCutRow.holds Try.pinned (OpenSpec.ofChange fnExactIsCutWrong)

/-- 'laws.FnExactNarrowestCut': WHATEVER THE INPUT: true; the input reads as it did. -/
def fnExactNarrowestCutSpec : ChangeSpec := { name := "fnExactNarrowestCut", fn := fun _ => fun
  | [d1, d2, d3] => { results := [.lit (.bool true)], args := [d1, d2, d3] }
  | _ => none }
def fnExactNarrowestCutRow : OpenClaim := { program := "ytilabfmnaegidaa", sum := "a83a21512cd1448da17008ac8be8809718c0fa31cd01b65c5cffa47e0de5a379", func := "loop.example/g03307/laws.FnExactNarrowestCut", spec := "fnExactNarrowestCut", apart := false }
def FnExactNarrowestCutSaid : Prop := fnExactNarrowestCutRow.holds Try.pinned (OpenSpec.ofChange fnExactNarrowestCutSpec)

/-- ITS FALSE NEIGHBOUR: 'it returns false'. Refute it at one input. -/
def fnExactNarrowestCutWrong : ChangeSpec := { name := "fnExactNarrowestCut", fn := fun _ => fun
  | [d1, d2, d3] => { results := [.lit (.bool false)], args := [d1, d2, d3] }
  | _ => none }
def FnExactNarrowestCutWrongFalsely : Prop := fnExactNarrowestCutRow.holds Try.pinned (OpenSpec.ofChange fnExactNarrowestCutWrong)

/-- 'laws.FnExactCutOf': WHATEVER THE INPUT: true; the input reads as it did. -/
def fnExactCutOfSpec : ChangeSpec := { name := "fnExactCutOf", fn := fun _ => fun
  | [d1, d2, d3, d4] => { results := [.lit (.bool true)], args := [d1, d2, d3, d4] }
  | _ => none }
def fnExactCutOfRow : OpenClaim := { program := "ytilabfmnaegidaa", sum := "a83a21512cd1448da17008ac8be8809718c0fa31cd01b65c5cffa47e0de5a379", func := "loop.example/g03307/laws.FnExactCutOf", spec := "fnExactCutOf", unfollowed := true, recurses := true, apart := false }
def FnExactCutOfSaid : Prop := fnExactCutOfRow.holds Try.pinned (OpenSpec.ofChange fnExactCutOfSpec)

/-- ITS FALSE NEIGHBOUR: 'it returns false'. Refute it at one input. -/
def fnExactCutOfWrong : ChangeSpec := { name := "fnExactCutOf", fn := fun _ => fun
  | [d1, d2, d3, d4] => { results := [.lit (.bool false)], args := [d1, d2, d3, d4] }
  | _ => none }
def FnExactCutOfWrongFalsely : Prop := fnExactCutOfRow.holds Try.pinned (OpenSpec.ofChange fnExactCutOfWrong)

/-- 'laws.FnExactProvesGreatest': WHATEVER THE INPUT: true; the input reads as it did. -/
def fnExactProvesGreatestSpec : ChangeSpec := { name := "fnExactProvesGreatest", fn := fun _ => fun
  | [d1, d2, d3, d4, d5] => { results := [.lit (.bool true)], args := [d1, d2, d3, d4, d5] }
  | _ => none }
def fnExactProvesGreatestRow : OpenClaim := { program := "ytilabfmnaegidaa", sum := "a83a21512cd1448da17008ac8be8809718c0fa31cd01b65c5cffa47e0de5a379", func := "loop.example/g03307/laws.FnExactProvesGreatest", spec := "fnExactProvesGreatest", apart := false }
def FnExactProvesGreatestSaid : Prop := fnExactProvesGreatestRow.holds Try.pinned (OpenSpec.ofChange fnExactProvesGreatestSpec)

/-- ITS FALSE NEIGHBOUR: 'it returns false'. Refute it at one input. -/
def fnExactProvesGreatestWrong : ChangeSpec := { name := "fnExactProvesGreatest", fn := fun _ => fun
  | [d1, d2, d3, d4, d5] => { results := [.lit (.bool false)], args := [d1, d2, d3, d4, d5] }
  | _ => none }
def FnExactProvesGreatestWrongFalsely : Prop := fnExactProvesGreatestRow.holds Try.pinned (OpenSpec.ofChange fnExactProvesGreatestWrong)

/-- 'laws.FnExactNeededPipes': WHATEVER THE INPUT: true; the input reads as it did. -/
def fnExactNeededPipesSpec : ChangeSpec := { name := "fnExactNeededPipes", fn := fun _ => fun
  | [d1, d2, d3] => { results := [.lit (.bool true)], args := [d1, d2, d3] }
  | _ => none }
def fnExactNeededPipesRow : OpenClaim := { program := "ytilabfmnaegidaa", sum := "a83a21512cd1448da17008ac8be8809718c0fa31cd01b65c5cffa47e0de5a379", func := "loop.example/g03307/laws.FnExactNeededPipes", spec := "fnExactNeededPipes", unfollowed := true, recurses := true, apart := false }
def FnExactNeededPipesSaid : Prop := fnExactNeededPipesRow.holds Try.pinned (OpenSpec.ofChange fnExactNeededPipesSpec)

/-- ITS FALSE NEIGHBOUR: 'it returns false'. Refute it at one input. -/
def fnExactNeededPipesWrong : ChangeSpec := { name := "fnExactNeededPipes", fn := fun _ => fun
  | [d1, d2, d3] => { results := [.lit (.bool false)], args := [d1, d2, d3] }
  | _ => none }
def FnExactNeededPipesWrongFalsely : Prop := fnExactNeededPipesRow.holds Try.pinned (OpenSpec.ofChange fnExactNeededPipesWrong)

/- THE SECOND FORM. 'bulk': how many values and letters a reading holds, each counted each time it is reached (what is shared counts as often as it is met; a slice's spare places count too). A statement '..UptoSaid' is the law's where the arguments, and the package variables that the reading takes, are together of bulk at most 1048576: NARROWER than '..Said'. Prove '..Said' where nothing that the law and all that it calls make is longer than what came in: it says more and counts as full. Else prove '..UptoSaid'. A law counts once. -/
mutual
def uptoBulk {H : Type} : DataW H → Nat
  | .lit (.string bytes) => bytes.length + 1
  | .lit _ => 1
  | .nil => 1
  | .ptr d => uptoBulk d + 1
  | .slice elems spare => uptoBulkAll elems + uptoBulkAll spare + 1
  | .agg parts => uptoBulkAll parts + 1
  | .iface _ d => uptoBulk d + 1
  | .map entries => uptoBulkEntries entries + 1
  | .held _ => 1
def uptoBulkAll {H : Type} : List (DataW H) → Nat
  | [] => 0
  | d :: r => uptoBulk d + uptoBulkAll r
def uptoBulkEntries {H : Type} : List (Lit × DataW H) → Nat
  | [] => 0
  | x :: r => uptoBulkEntry x + uptoBulkEntries r
def uptoBulkEntry {H : Type} : Lit × DataW H → Nat
  | (.string bytes, d) => bytes.length + uptoBulk d + 1
  | (_, d) => uptoBulk d + 1
 end
def uptoSmall : (H : Type) → List (DataW H) → Bool := fun _ ds => decide (uptoBulkAll ds ≤ 1048576)
def OpenSpec.upto (s : _root_.Go.ChangeSpec) : _root_.Go.OpenSpec := { _root_.Go.OpenSpec.ofChange s with cond := some uptoSmall }

/-- 'laws.FnCutProofs', WHERE WHAT IT READS IS OF BULK AT MOST 1048576: true; the input reads as it did. -/
def fnCutProofsUptoRow : OpenClaim := { program := "ytilabfmnaegidaa", sum := "a83a21512cd1448da17008ac8be8809718c0fa31cd01b65c5cffa47e0de5a379", func := "loop.example/g03307/laws.FnCutProofs", spec := "fnCutProofs", unfollowed := true, recurses := true, apart := false, narrowed := true }
def FnCutProofsUptoSaid : Prop := fnCutProofsUptoRow.holds Try.pinned (OpenSpec.upto fnCutProofsSpec)

/-- 'laws.FnExactCutWidth', WHERE WHAT IT READS IS OF BULK AT MOST 1048576: true; the input reads as it did. -/
def fnExactCutWidthUptoRow : OpenClaim := { program := "ytilabfmnaegidaa", sum := "a83a21512cd1448da17008ac8be8809718c0fa31cd01b65c5cffa47e0de5a379", func := "loop.example/g03307/laws.FnExactCutWidth", spec := "fnExactCutWidth", apart := false, narrowed := true }
def FnExactCutWidthUptoSaid : Prop := fnExactCutWidthUptoRow.holds Try.pinned (OpenSpec.upto fnExactCutWidthSpec)

/-- 'laws.FnExactIsCut', WHERE WHAT IT READS IS OF BULK AT MOST 1048576: true; the input reads as it did. -/
def fnExactIsCutUptoRow : OpenClaim := { program := "ytilabfmnaegidaa", sum := "a83a21512cd1448da17008ac8be8809718c0fa31cd01b65c5cffa47e0de5a379", func := "loop.example/g03307/laws.FnExactIsCut", spec := "fnExactIsCut", apart := false, narrowed := true }
def FnExactIsCutUptoSaid : Prop := fnExactIsCutUptoRow.holds Try.pinned (OpenSpec.upto fnExactIsCutSpec)

/-- 'laws.FnExactNarrowestCut', WHERE WHAT IT READS IS OF BULK AT MOST 1048576: true; the input reads as it did. -/
def fnExactNarrowestCutUptoRow : OpenClaim := { program := "ytilabfmnaegidaa", sum := "a83a21512cd1448da17008ac8be8809718c0fa31cd01b65c5cffa47e0de5a379", func := "loop.example/g03307/laws.FnExactNarrowestCut", spec := "fnExactNarrowestCut", apart := false, narrowed := true }
def FnExactNarrowestCutUptoSaid : Prop := fnExactNarrowestCutUptoRow.holds Try.pinned (OpenSpec.upto fnExactNarrowestCutSpec)

/-- 'laws.FnExactCutOf', WHERE WHAT IT READS IS OF BULK AT MOST 1048576: true; the input reads as it did. -/
def fnExactCutOfUptoRow : OpenClaim := { program := "ytilabfmnaegidaa", sum := "a83a21512cd1448da17008ac8be8809718c0fa31cd01b65c5cffa47e0de5a379", func := "loop.example/g03307/laws.FnExactCutOf", spec := "fnExactCutOf", unfollowed := true, recurses := true, apart := false, narrowed := true }
def FnExactCutOfUptoSaid : Prop := fnExactCutOfUptoRow.holds Try.pinned (OpenSpec.upto fnExactCutOfSpec)

/-- 'laws.FnExactProvesGreatest', WHERE WHAT IT READS IS OF BULK AT MOST 1048576: true; the input reads as it did. -/
def fnExactProvesGreatestUptoRow : OpenClaim := { program := "ytilabfmnaegidaa", sum := "a83a21512cd1448da17008ac8be8809718c0fa31cd01b65c5cffa47e0de5a379", func := "loop.example/g03307/laws.FnExactProvesGreatest", spec := "fnExactProvesGreatest", apart := false, narrowed := true }
def FnExactProvesGreatestUptoSaid : Prop := fnExactProvesGreatestUptoRow.holds Try.pinned (OpenSpec.upto fnExactProvesGreatestSpec)

/-- 'laws.FnExactNeededPipes', WHERE WHAT IT READS IS OF BULK AT MOST 1048576: true; the input reads as it did. -/
def fnExactNeededPipesUptoRow : OpenClaim := { program := "ytilabfmnaegidaa", sum := "a83a21512cd1448da17008ac8be8809718c0fa31cd01b65c5cffa47e0de5a379", func := "loop.example/g03307/laws.FnExactNeededPipes", spec := "fnExactNeededPipes", unfollowed := true, recurses := true, apart := false, narrowed := true }
def FnExactNeededPipesUptoSaid : Prop := fnExactNeededPipesUptoRow.holds Try.pinned (OpenSpec.upto fnExactNeededPipesSpec)

end Rows
end Go.Proofs.Ytilabfmnaegidaa

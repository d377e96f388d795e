/-
  No cell of these rows narrows 'for every input' (looked for: loops, veiled, ifaces, maps, wideKeys, modest, calm, conditions, laid).
  DERIVED. THE GIVEN ROWS OF THIS SEAT. 8 by the template 'for every input the law returns true; each argument reads behind the call as it read before'; 0 by the template 'total and deterministic' (their statements: YtenhdpemfdecfaaTotals.lean).
  GIVEN WITH THE SEED: the statements are not yours to turn. If you find one false, say at which input.
  Laid BY PROGRAM, IN A SANDBOX (cutbox-rows.mjs): the forced cells as the released guide's own fill.sh prints them over the translation 670bcb2fafcb36d4… (all of the seat's roots in one cut). By AI agents, Wed Nov 11 2026. No macro, syntax, notation, axiom, sorry.
-/
import Derived.Test.YtenhdpemfdecfaaChecked
import GoSem.Claim
import GoSem.ClaimJoined
import GoSem.ClaimMapViews
import Derived.JoinedTies
import Derived.KernelRfl
namespace Go.Proofs.Ytenhdpemfdecfaa
/- THE CELL 'sum', in the pinned program and in every row, IS THE sha256 OF THE DUMP (.gsa) THAT YtenhdpemfdecfaaProg.lean LOADS. Nothing in Lean hashes anything: it is a label: what it is worth is what the hold of that sum in a sandbox is worth. -/
noncomputable def Try.pinned : Pinned := { name := "ytenhdpemfdecfaa", sum := "670bcb2fafcb36d43885712a362707f6c36e3649301a3a73d9bde814114f224a", checked := Try.checked }
namespace Rows
def none {H : Type} : Left H := { results := [], args := [] }

/-- 'laws.FnPipes': WHATEVER THE INPUT: true; the input reads as it did. -/
def fnPipesSpec : ChangeSpec := { name := "fnPipes", fn := fun _ => fun
  | [d] => { results := [.lit (.bool true)], args := [d] }
  | _ => none }
def fnPipesRow : OpenClaim := { program := "ytenhdpemfdecfaa", sum := "670bcb2fafcb36d43885712a362707f6c36e3649301a3a73d9bde814114f224a", func := "loop.example/g03307/laws.FnPipes", spec := "fnPipes", apart := false }
def FnPipesSaid : Prop := fnPipesRow.holds Try.pinned (OpenSpec.ofChange fnPipesSpec)

/-- ITS FALSE NEIGHBOUR: 'it returns false'. Refute it at one input. -/
def fnPipesWrong : ChangeSpec := { name := "fnPipes", fn := fun _ => fun
  | [d] => { results := [.lit (.bool false)], args := [d] }
  | _ => none }
def FnPipesWrongFalsely : Prop := fnPipesRow.holds Try.pinned (OpenSpec.ofChange fnPipesWrong)

/-- 'laws.FnFlows': WHATEVER THE INPUT: true; the input reads as it did. -/
def fnFlowsSpec : ChangeSpec := { name := "fnFlows", fn := fun _ => fun
  | [d] => { results := [.lit (.bool true)], args := [d] }
  | _ => none }
def fnFlowsRow : OpenClaim := { program := "ytenhdpemfdecfaa", sum := "670bcb2fafcb36d43885712a362707f6c36e3649301a3a73d9bde814114f224a", func := "loop.example/g03307/laws.FnFlows", spec := "fnFlows", unfollowed := true, recurses := true, apart := false }
def FnFlowsSaid : Prop := fnFlowsRow.holds Try.pinned (OpenSpec.ofChange fnFlowsSpec)

/-- ITS FALSE NEIGHBOUR: 'it returns false'. Refute it at one input. -/
def fnFlowsWrong : ChangeSpec := { name := "fnFlows", fn := fun _ => fun
  | [d] => { results := [.lit (.bool false)], args := [d] }
  | _ => none }
def FnFlowsWrongFalsely : Prop := fnFlowsRow.holds Try.pinned (OpenSpec.ofChange fnFlowsWrong)

/-- 'laws.FnExactWidestWay': WHATEVER THE INPUT: true; the input reads as it did. -/
def fnExactWidestWaySpec : ChangeSpec := { name := "fnExactWidestWay", fn := fun _ => fun
  | [d1, d2, d3] => { results := [.lit (.bool true)], args := [d1, d2, d3] }
  | _ => none }
def fnExactWidestWayRow : OpenClaim := { program := "ytenhdpemfdecfaa", sum := "670bcb2fafcb36d43885712a362707f6c36e3649301a3a73d9bde814114f224a", func := "loop.example/g03307/laws.FnExactWidestWay", spec := "fnExactWidestWay", apart := false }
def FnExactWidestWaySaid : Prop := fnExactWidestWayRow.holds Try.pinned (OpenSpec.ofChange fnExactWidestWaySpec)

/-- ITS FALSE NEIGHBOUR: 'it returns false'. Refute it at one input. -/
def fnExactWidestWayWrong : ChangeSpec := { name := "fnExactWidestWay", fn := fun _ => fun
  | [d1, d2, d3] => { results := [.lit (.bool false)], args := [d1, d2, d3] }
  | _ => none }
def FnExactWidestWayWrongFalsely : Prop := fnExactWidestWayRow.holds Try.pinned (OpenSpec.ofChange fnExactWidestWayWrong)

/-- 'laws.FnExactFlowOk': WHATEVER THE INPUT: true; the input reads as it did. -/
def fnExactFlowOkSpec : ChangeSpec := { name := "fnExactFlowOk", fn := fun _ => fun
  | [d1, d2, d3, d4] => { results := [.lit (.bool true)], args := [d1, d2, d3, d4] }
  | _ => none }
def fnExactFlowOkRow : OpenClaim := { program := "ytenhdpemfdecfaa", sum := "670bcb2fafcb36d43885712a362707f6c36e3649301a3a73d9bde814114f224a", func := "loop.example/g03307/laws.FnExactFlowOk", spec := "fnExactFlowOk", apart := false }
def FnExactFlowOkSaid : Prop := fnExactFlowOkRow.holds Try.pinned (OpenSpec.ofChange fnExactFlowOkSpec)

/-- ITS FALSE NEIGHBOUR: 'it returns false'. Refute it at one input. -/
def fnExactFlowOkWrong : ChangeSpec := { name := "fnExactFlowOk", fn := fun _ => fun
  | [d1, d2, d3, d4] => { results := [.lit (.bool false)], args := [d1, d2, d3, d4] }
  | _ => none }
def FnExactFlowOkWrongFalsely : Prop := fnExactFlowOkRow.holds Try.pinned (OpenSpec.ofChange fnExactFlowOkWrong)

/-- 'laws.FnExactFlowSize': WHATEVER THE INPUT: true; the input reads as it did. -/
def fnExactFlowSizeSpec : ChangeSpec := { name := "fnExactFlowSize", fn := fun _ => fun
  | [d1, d2, d3, d4] => { results := [.lit (.bool true)], args := [d1, d2, d3, d4] }
  | _ => none }
def fnExactFlowSizeRow : OpenClaim := { program := "ytenhdpemfdecfaa", sum := "670bcb2fafcb36d43885712a362707f6c36e3649301a3a73d9bde814114f224a", func := "loop.example/g03307/laws.FnExactFlowSize", spec := "fnExactFlowSize", apart := false }
def FnExactFlowSizeSaid : Prop := fnExactFlowSizeRow.holds Try.pinned (OpenSpec.ofChange fnExactFlowSizeSpec)

/-- ITS FALSE NEIGHBOUR: 'it returns false'. Refute it at one input. -/
def fnExactFlowSizeWrong : ChangeSpec := { name := "fnExactFlowSize", fn := fun _ => fun
  | [d1, d2, d3, d4] => { results := [.lit (.bool false)], args := [d1, d2, d3, d4] }
  | _ => none }
def FnExactFlowSizeWrongFalsely : Prop := fnExactFlowSizeRow.holds Try.pinned (OpenSpec.ofChange fnExactFlowSizeWrong)

/-- 'laws.FnExactGreatestFlow': WHATEVER THE INPUT: true; the input reads as it did. -/
def fnExactGreatestFlowSpec : ChangeSpec := { name := "fnExactGreatestFlow", fn := fun _ => fun
  | [d1, d2, d3] => { results := [.lit (.bool true)], args := [d1, d2, d3] }
  | _ => none }
def fnExactGreatestFlowRow : OpenClaim := { program := "ytenhdpemfdecfaa", sum := "670bcb2fafcb36d43885712a362707f6c36e3649301a3a73d9bde814114f224a", func := "loop.example/g03307/laws.FnExactGreatestFlow", spec := "fnExactGreatestFlow", unfollowed := true, recurses := true, apart := false }
def FnExactGreatestFlowSaid : Prop := fnExactGreatestFlowRow.holds Try.pinned (OpenSpec.ofChange fnExactGreatestFlowSpec)

/-- ITS FALSE NEIGHBOUR: 'it returns false'. Refute it at one input. -/
def fnExactGreatestFlowWrong : ChangeSpec := { name := "fnExactGreatestFlow", fn := fun _ => fun
  | [d1, d2, d3] => { results := [.lit (.bool false)], args := [d1, d2, d3] }
  | _ => none }
def FnExactGreatestFlowWrongFalsely : Prop := fnExactGreatestFlowRow.holds Try.pinned (OpenSpec.ofChange fnExactGreatestFlowWrong)

/-- 'laws.FnExactFindFlow': WHATEVER THE INPUT: true; the input reads as it did. -/
def fnExactFindFlowSpec : ChangeSpec := { name := "fnExactFindFlow", fn := fun _ => fun
  | [d1, d2, d3] => { results := [.lit (.bool true)], args := [d1, d2, d3] }
  | _ => none }
def fnExactFindFlowRow : OpenClaim := { program := "ytenhdpemfdecfaa", sum := "670bcb2fafcb36d43885712a362707f6c36e3649301a3a73d9bde814114f224a", func := "loop.example/g03307/laws.FnExactFindFlow", spec := "fnExactFindFlow", unfollowed := true, recurses := true, apart := false }
def FnExactFindFlowSaid : Prop := fnExactFindFlowRow.holds Try.pinned (OpenSpec.ofChange fnExactFindFlowSpec)

/-- ITS FALSE NEIGHBOUR: 'it returns false'. Refute it at one input. -/
def fnExactFindFlowWrong : ChangeSpec := { name := "fnExactFindFlow", fn := fun _ => fun
  | [d1, d2, d3] => { results := [.lit (.bool false)], args := [d1, d2, d3] }
  | _ => none }
def FnExactFindFlowWrongFalsely : Prop := fnExactFindFlowRow.holds Try.pinned (OpenSpec.ofChange fnExactFindFlowWrong)

/-- 'laws.FnExactIsUsed': WHATEVER THE INPUT: true; the input reads as it did. -/
def fnExactIsUsedSpec : ChangeSpec := { name := "fnExactIsUsed", fn := fun _ => fun
  | [d1, d2, d3] => { results := [.lit (.bool true)], args := [d1, d2, d3] }
  | _ => none }
def fnExactIsUsedRow : OpenClaim := { program := "ytenhdpemfdecfaa", sum := "670bcb2fafcb36d43885712a362707f6c36e3649301a3a73d9bde814114f224a", func := "loop.example/g03307/laws.FnExactIsUsed", spec := "fnExactIsUsed", apart := false }
def FnExactIsUsedSaid : Prop := fnExactIsUsedRow.holds Try.pinned (OpenSpec.ofChange fnExactIsUsedSpec)

/-- ITS FALSE NEIGHBOUR: 'it returns false'. Refute it at one input. -/
def fnExactIsUsedWrong : ChangeSpec := { name := "fnExactIsUsed", fn := fun _ => fun
  | [d1, d2, d3] => { results := [.lit (.bool false)], args := [d1, d2, d3] }
  | _ => none }
def FnExactIsUsedWrongFalsely : Prop := fnExactIsUsedRow.holds Try.pinned (OpenSpec.ofChange fnExactIsUsedWrong)

/- THE SECOND FORM. 'bulk': how many values and letters a reading holds, each counted each time it is reached (what is shared counts as often as it is met; a slice's spare places count too). A statement '..UptoSaid' is the law's where the arguments, and the package variables that the reading takes, are together of bulk at most 1048576: NARROWER than '..Said'. Prove '..Said' where nothing that the law and all that it calls make is longer than what came in: it says more and counts as full. Else prove '..UptoSaid'. A law counts once. -/
mutual
def uptoBulk {H : Type} : DataW H → Nat
  | .lit (.string bytes) => bytes.length + 1
  | .lit _ => 1
  | .nil => 1
  | .ptr d => uptoBulk d + 1
  | .slice elems spare => uptoBulkAll elems + uptoBulkAll spare + 1
  | .agg parts => uptoBulkAll parts + 1
  | .iface _ d => uptoBulk d + 1
  | .map entries => uptoBulkEntries entries + 1
  | .held _ => 1
def uptoBulkAll {H : Type} : List (DataW H) → Nat
  | [] => 0
  | d :: r => uptoBulk d + uptoBulkAll r
def uptoBulkEntries {H : Type} : List (Lit × DataW H) → Nat
  | [] => 0
  | x :: r => uptoBulkEntry x + uptoBulkEntries r
def uptoBulkEntry {H : Type} : Lit × DataW H → Nat
  | (.string bytes, d) => bytes.length + uptoBulk d + 1
  | (_, d) => uptoBulk d + 1
 end
def uptoSmall : (H : Type) → List (DataW H) → Bool := fun _ ds => decide (uptoBulkAll ds ≤ 1048576)
def OpenSpec.upto (s : _root_.Go.ChangeSpec) : _root_.Go.OpenSpec := { _root_.Go.OpenSpec.ofChange s with cond := some uptoSmall }

/-- 'laws.FnPipes', WHERE WHAT IT READS IS OF BULK AT MOST 1048576: true; the input reads as it did. -/
def fnPipesUptoRow : OpenClaim := { program := "ytenhdpemfdecfaa", sum := "670bcb2fafcb36d43885712a362707f6c36e3649301a3a73d9bde814114f224a", func := "loop.example/g03307/laws.FnPipes", spec := "fnPipes", apart := false, narrowed := true }
def FnPipesUptoSaid : Prop := fnPipesUptoRow.holds Try.pinned (OpenSpec.upto fnPipesSpec)

/-- 'laws.FnFlows', WHERE WHAT IT READS IS OF BULK AT MOST 1048576: true; the input reads as it did. -/
def fnFlowsUptoRow : OpenClaim := { program := "ytenhdpemfdecfaa", sum := "670bcb2fafcb36d43885712a362707f6c36e3649301a3a73d9bde814114f224a", func := "loop.example/g03307/laws.FnFlows", spec := "fnFlows", unfollowed := true, recurses := true, apart := false, narrowed := true }
def FnFlowsUptoSaid : Prop := fnFlowsUptoRow.holds Try.pinned (OpenSpec.upto fnFlowsSpec)

/-- 'laws.FnExactWidestWay', WHERE WHAT IT READS IS OF BULK AT MOST 1048576: true; the input reads as it did. -/
def fnExactWidestWayUptoRow : OpenClaim := { program := "ytenhdpemfdecfaa", sum := "670bcb2fafcb36d43885712a362707f6c36e3649301a3a73d9bde814114f224a", func := "loop.example/g03307/laws.FnExactWidestWay", spec := "fnExactWidestWay", apart := false, narrowed := true }
def FnExactWidestWayUptoSaid : Prop := fnExactWidestWayUptoRow.holds Try.pinned (OpenSpec.upto fnExactWidestWaySpec)

/-- 'laws.FnExactFlowOk', WHERE WHAT IT READS IS OF BULK AT MOST 1048576: true; the input reads as it did. -/
def fnExactFlowOkUptoRow : OpenClaim := { program := "ytenhdpemfdecfaa", sum := "670bcb2fafcb36d43885712a362707f6c36e3649301a3a73d9bde814114f224a", func := "loop.example/g03307/laws.FnExactFlowOk", spec := "fnExactFlowOk", apart := false, narrowed := true }
def FnExactFlowOkUptoSaid : Prop := fnExactFlowOkUptoRow.holds Try.pinned (OpenSpec.upto fnExactFlowOkSpec)

/-- 'laws.FnExactFlowSize', WHERE WHAT IT READS IS OF BULK AT MOST 1048576: true; the input reads as it did. -/
def fnExactFlowSizeUptoRow : OpenClaim := { program := "ytenhdpemfdecfaa", sum := "670bcb2fafcb36d43885712a362707f6c36e3649301a3a73d9bde814114f224a", func := "loop.example/g03307/laws.FnExactFlowSize", spec := "fnExactFlowSize", apart := false, narrowed := true }
def FnExactFlowSizeUptoSaid : Prop := fnExactFlowSizeUptoRow.holds Try.pinned (OpenSpec.upto fnExactFlowSizeSpec)

/-- 'laws.FnExactGreatestFlow', WHERE WHAT IT READS IS OF BULK AT MOST 1048576: true; the input reads as it did. -/
def fnExactGreatestFlowUptoRow : OpenClaim := { program := "ytenhdpemfdecfaa", sum := "670bcb2fafcb36d43885712a362707f6c36e3649301a3a73d9bde814114f224a", func := "loop.example/g03307/laws.FnExactGreatestFlow", spec := "fnExactGreatestFlow", unfollowed := true, recurses := true, apart := false, narrowed := true }
def FnExactGreatestFlowUptoSaid : Prop := fnExactGreatestFlowUptoRow.holds Try.pinned (OpenSpec.upto fnExactGreatestFlowSpec)

/-- 'laws.FnExactFindFlow', WHERE WHAT IT READS IS OF BULK AT MOST 1048576: true; the input reads as it did. -/
def fnExactFindFlowUptoRow : OpenClaim := { program := "ytenhdpemfdecfaa", sum := "670bcb2fafcb36d43885712a362707f6c36e3649301a3a73d9bde814114f224a", func := "loop.example/g03307/laws.FnExactFindFlow", spec := "fnExactFindFlow", unfollowed := true, recurses := true, apart := false, narrowed := true }
def FnExactFindFlowUptoSaid : Prop := fnExactFindFlowUptoRow.holds Try.pinned (OpenSpec.upto fnExactFindFlowSpec)

/-- 'laws.FnExactIsUsed', WHERE WHAT IT READS IS OF BULK AT MOST 1048576: true; the input reads as it did. -/
def fnExactIsUsedUptoRow : OpenClaim := { program := "ytenhdpemfdecfaa", sum := "670bcb2fafcb36d43885712a362707f6c36e3649301a3a73d9bde814114f224a", func := "loop.example/g03307/laws.FnExactIsUsed", spec := "fnExactIsUsed", apart := false, narrowed := true }
def FnExactIsUsedUptoSaid : Prop := fnExactIsUsedUptoRow.holds Try.pinned (OpenSpec.upto fnExactIsUsedSpec)

end Rows
end Go.Proofs.Ytenhdpemfdecfaa

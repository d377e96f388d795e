/-
  No cell of these rows narrows 'for every input' (looked for: loops, veiled, ifaces, maps, wideKeys, modest, calm, conditions, laid).
  DERIVED. THE GIVEN ROWS OF THIS SEAT. 7 by the template 'for every input the law returns true; each argument reads behind the call as it read before'; 0 by the template 'total and deterministic' (their statements: YteogonlclldjlaaTotals.lean).
  GIVEN WITH THE SEED: the statements are not yours to turn. If you find one false, say at which input.
  Laid BY PROGRAM, IN A SANDBOX (cutbox-rows.mjs): the forced cells as the released guide's own fill.sh prints them over the translation 2834fdec50af5953… (all of the seat's roots in one cut). By AI agents, Wed Nov 11 2026. No macro, syntax, notation, axiom, sorry.
-/
import Derived.Test.YteogonlclldjlaaChecked
import GoSem.Claim
import GoSem.ClaimJoined
import GoSem.ClaimMapViews
import Derived.JoinedTies
import Derived.KernelRfl
namespace Go.Proofs.Yteogonlclldjlaa
/- THE CELL 'sum', in the pinned program and in every row, IS THE sha256 OF THE DUMP (.gsa) THAT YteogonlclldjlaaProg.lean LOADS. Nothing in Lean hashes anything: it is a label: what it is worth is what the hold of that sum in a sandbox is worth. -/
noncomputable def Try.pinned : Pinned := { name := "yteogonlclldjlaa", sum := "2834fdec50af5953595153b63d090b5cf692f37808b1126b6ca41942e1720a56", checked := Try.checked }
namespace Rows
def none {H : Type} : Left H := { results := [], args := [] }

/-- 'laws.FnRoofs': WHATEVER THE INPUT: true; the input reads as it did. -/
def fnRoofsSpec : ChangeSpec := { name := "fnRoofs", fn := fun _ => fun
  | [d] => { results := [.lit (.bool true)], args := [d] }
  | _ => none }
def fnRoofsRow : OpenClaim := { program := "yteogonlclldjlaa", sum := "2834fdec50af5953595153b63d090b5cf692f37808b1126b6ca41942e1720a56", func := "loop.example/g03307/laws.FnRoofs", spec := "fnRoofs", apart := false }
def FnRoofsSaid : Prop := fnRoofsRow.holds Try.pinned (OpenSpec.ofChange fnRoofsSpec)

/-- ITS FALSE NEIGHBOUR: 'it returns false'. Refute it at one input. -/
def fnRoofsWrong : ChangeSpec := { name := "fnRoofs", fn := fun _ => fun
  | [d] => { results := [.lit (.bool false)], args := [d] }
  | _ => none }
def FnRoofsWrongFalsely : Prop := fnRoofsRow.holds Try.pinned (OpenSpec.ofChange fnRoofsWrong)

/-- 'laws.FnExactRoofOk': WHATEVER THE INPUT: true; the input reads as it did. -/
def fnExactRoofOkSpec : ChangeSpec := { name := "fnExactRoofOk", fn := fun _ => fun
  | [d] => { results := [.lit (.bool true)], args := [d] }
  | _ => none }
def fnExactRoofOkRow : OpenClaim := { program := "yteogonlclldjlaa", sum := "2834fdec50af5953595153b63d090b5cf692f37808b1126b6ca41942e1720a56", func := "loop.example/g03307/laws.FnExactRoofOk", spec := "fnExactRoofOk", apart := false }
def FnExactRoofOkSaid : Prop := fnExactRoofOkRow.holds Try.pinned (OpenSpec.ofChange fnExactRoofOkSpec)

/-- ITS FALSE NEIGHBOUR: 'it returns false'. Refute it at one input. -/
def fnExactRoofOkWrong : ChangeSpec := { name := "fnExactRoofOk", fn := fun _ => fun
  | [d] => { results := [.lit (.bool false)], args := [d] }
  | _ => none }
def FnExactRoofOkWrongFalsely : Prop := fnExactRoofOkRow.holds Try.pinned (OpenSpec.ofChange fnExactRoofOkWrong)

/-- 'laws.FnExactCatch': WHATEVER THE INPUT: true; the input reads as it did. -/
def fnExactCatchSpec : ChangeSpec := { name := "fnExactCatch", fn := fun _ => fun
  | [d1, d2] => { results := [.lit (.bool true)], args := [d1, d2] }
  | _ => none }
def fnExactCatchRow : OpenClaim := { program := "yteogonlclldjlaa", sum := "2834fdec50af5953595153b63d090b5cf692f37808b1126b6ca41942e1720a56", func := "loop.example/g03307/laws.FnExactCatch", spec := "fnExactCatch", apart := false }
def FnExactCatchSaid : Prop := fnExactCatchRow.holds Try.pinned (OpenSpec.ofChange fnExactCatchSpec)

/-- ITS FALSE NEIGHBOUR: 'it returns false'. Refute it at one input. -/
def fnExactCatchWrong : ChangeSpec := { name := "fnExactCatch", fn := fun _ => fun
  | [d1, d2] => { results := [.lit (.bool false)], args := [d1, d2] }
  | _ => none }
def FnExactCatchWrongFalsely : Prop := fnExactCatchRow.holds Try.pinned (OpenSpec.ofChange fnExactCatchWrong)

/-- 'laws.FnExactCatchAll': WHATEVER THE INPUT: true; the input reads as it did. -/
def fnExactCatchAllSpec : ChangeSpec := { name := "fnExactCatchAll", fn := fun _ => fun
  | [d1, d2] => { results := [.lit (.bool true)], args := [d1, d2] }
  | _ => none }
def fnExactCatchAllRow : OpenClaim := { program := "yteogonlclldjlaa", sum := "2834fdec50af5953595153b63d090b5cf692f37808b1126b6ca41942e1720a56", func := "loop.example/g03307/laws.FnExactCatchAll", spec := "fnExactCatchAll", apart := false }
def FnExactCatchAllSaid : Prop := fnExactCatchAllRow.holds Try.pinned (OpenSpec.ofChange fnExactCatchAllSpec)

/-- ITS FALSE NEIGHBOUR: 'it returns false'. Refute it at one input. -/
def fnExactCatchAllWrong : ChangeSpec := { name := "fnExactCatchAll", fn := fun _ => fun
  | [d1, d2] => { results := [.lit (.bool false)], args := [d1, d2] }
  | _ => none }
def FnExactCatchAllWrongFalsely : Prop := fnExactCatchAllRow.holds Try.pinned (OpenSpec.ofChange fnExactCatchAllWrong)

/-- 'laws.FnExactCatchDays': WHATEVER THE INPUT: true; the input reads as it did. -/
def fnExactCatchDaysSpec : ChangeSpec := { name := "fnExactCatchDays", fn := fun _ => fun
  | [d1, d2] => { results := [.lit (.bool true)], args := [d1, d2] }
  | _ => none }
def fnExactCatchDaysRow : OpenClaim := { program := "yteogonlclldjlaa", sum := "2834fdec50af5953595153b63d090b5cf692f37808b1126b6ca41942e1720a56", func := "loop.example/g03307/laws.FnExactCatchDays", spec := "fnExactCatchDays", apart := false }
def FnExactCatchDaysSaid : Prop := fnExactCatchDaysRow.holds Try.pinned (OpenSpec.ofChange fnExactCatchDaysSpec)

/-- ITS FALSE NEIGHBOUR: 'it returns false'. Refute it at one input. -/
def fnExactCatchDaysWrong : ChangeSpec := { name := "fnExactCatchDays", fn := fun _ => fun
  | [d1, d2] => { results := [.lit (.bool false)], args := [d1, d2] }
  | _ => none }
def FnExactCatchDaysWrongFalsely : Prop := fnExactCatchDaysRow.holds Try.pinned (OpenSpec.ofChange fnExactCatchDaysWrong)

/-- 'laws.FnExactAreaFor': WHATEVER THE INPUT: true; the input reads as it did. -/
def fnExactAreaForSpec : ChangeSpec := { name := "fnExactAreaFor", fn := fun _ => fun
  | [d1, d2, d3] => { results := [.lit (.bool true)], args := [d1, d2, d3] }
  | _ => none }
def fnExactAreaForRow : OpenClaim := { program := "yteogonlclldjlaa", sum := "2834fdec50af5953595153b63d090b5cf692f37808b1126b6ca41942e1720a56", func := "loop.example/g03307/laws.FnExactAreaFor", spec := "fnExactAreaFor", apart := false }
def FnExactAreaForSaid : Prop := fnExactAreaForRow.holds Try.pinned (OpenSpec.ofChange fnExactAreaForSpec)

/-- ITS FALSE NEIGHBOUR: 'it returns false'. Refute it at one input. -/
def fnExactAreaForWrong : ChangeSpec := { name := "fnExactAreaFor", fn := fun _ => fun
  | [d1, d2, d3] => { results := [.lit (.bool false)], args := [d1, d2, d3] }
  | _ => none }
def FnExactAreaForWrongFalsely : Prop := fnExactAreaForRow.holds Try.pinned (OpenSpec.ofChange fnExactAreaForWrong)

/-- 'laws.FnExactBetterRoof': WHATEVER THE INPUT: true; the input reads as it did. -/
def fnExactBetterRoofSpec : ChangeSpec := { name := "fnExactBetterRoof", fn := fun _ => fun
  | [d1, d2] => { results := [.lit (.bool true)], args := [d1, d2] }
  | _ => none }
def fnExactBetterRoofRow : OpenClaim := { program := "yteogonlclldjlaa", sum := "2834fdec50af5953595153b63d090b5cf692f37808b1126b6ca41942e1720a56", func := "loop.example/g03307/laws.FnExactBetterRoof", spec := "fnExactBetterRoof", apart := false }
def FnExactBetterRoofSaid : Prop := fnExactBetterRoofRow.holds Try.pinned (OpenSpec.ofChange fnExactBetterRoofSpec)

/-- ITS FALSE NEIGHBOUR: 'it returns false'. Refute it at one input. -/
def fnExactBetterRoofWrong : ChangeSpec := { name := "fnExactBetterRoof", fn := fun _ => fun
  | [d1, d2] => { results := [.lit (.bool false)], args := [d1, d2] }
  | _ => none }
def FnExactBetterRoofWrongFalsely : Prop := fnExactBetterRoofRow.holds Try.pinned (OpenSpec.ofChange fnExactBetterRoofWrong)

/- THE SECOND FORM. 'bulk': how many values and letters a reading holds, each counted each time it is reached (what is shared counts as often as it is met; a slice's spare places count too). A statement '..UptoSaid' is the law's where the arguments, and the package variables that the reading takes, are together of bulk at most 1048576: NARROWER than '..Said'. Prove '..Said' where nothing that the law and all that it calls make is longer than what came in: it says more and counts as full. Else prove '..UptoSaid'. A law counts once. -/
mutual
def uptoBulk {H : Type} : DataW H → Nat
  | .lit (.string bytes) => bytes.length + 1
  | .lit _ => 1
  | .nil => 1
  | .ptr d => uptoBulk d + 1
  | .slice elems spare => uptoBulkAll elems + uptoBulkAll spare + 1
  | .agg parts => uptoBulkAll parts + 1
  | .iface _ d => uptoBulk d + 1
  | .map entries => uptoBulkEntries entries + 1
  | .held _ => 1
def uptoBulkAll {H : Type} : List (DataW H) → Nat
  | [] => 0
  | d :: r => uptoBulk d + uptoBulkAll r
def uptoBulkEntries {H : Type} : List (Lit × DataW H) → Nat
  | [] => 0
  | x :: r => uptoBulkEntry x + uptoBulkEntries r
def uptoBulkEntry {H : Type} : Lit × DataW H → Nat
  | (.string bytes, d) => bytes.length + uptoBulk d + 1
  | (_, d) => uptoBulk d + 1
 end
def uptoSmall : (H : Type) → List (DataW H) → Bool := fun _ ds => decide (uptoBulkAll ds ≤ 1048576)
def OpenSpec.upto (s : _root_.Go.ChangeSpec) : _root_.Go.OpenSpec := { _root_.Go.OpenSpec.ofChange s with cond := some uptoSmall }

/-- 'laws.FnRoofs', WHERE WHAT IT READS IS OF BULK AT MOST 1048576: true; the input reads as it did. -/
def fnRoofsUptoRow : OpenClaim := { program := "yteogonlclldjlaa", sum := "2834fdec50af5953595153b63d090b5cf692f37808b1126b6ca41942e1720a56", func := "loop.example/g03307/laws.FnRoofs", spec := "fnRoofs", apart := false, narrowed := true }
def FnRoofsUptoSaid : Prop := fnRoofsUptoRow.holds Try.pinned (OpenSpec.upto fnRoofsSpec)

/-- 'laws.FnExactRoofOk', WHERE WHAT IT READS IS OF BULK AT MOST 1048576: true; the input reads as it did. -/
def fnExactRoofOkUptoRow : OpenClaim := { program := "yteogonlclldjlaa", sum := "2834fdec50af5953595153b63d090b5cf692f37808b1126b6ca41942e1720a56", func := "loop.example/g03307/laws.FnExactRoofOk", spec := "fnExactRoofOk", apart := false, narrowed := true }
def FnExactRoofOkUptoSaid : Prop := fnExactRoofOkUptoRow.holds Try.pinned (OpenSpec.upto fnExactRoofOkSpec)

/-- 'laws.FnExactCatch', WHERE WHAT IT READS IS OF BULK AT MOST 1048576: true; the input reads as it did. -/
def fnExactCatchUptoRow : OpenClaim := { program := "yteogonlclldjlaa", sum := "2834fdec50af5953595153b63d090b5cf692f37808b1126b6ca41942e1720a56", func := "loop.example/g03307/laws.FnExactCatch", spec := "fnExactCatch", apart := false, narrowed := true }
def FnExactCatchUptoSaid : Prop := fnExactCatchUptoRow.holds Try.pinned (OpenSpec.upto fnExactCatchSpec)

/-- 'laws.FnExactCatchAll', WHERE WHAT IT READS IS OF BULK AT MOST 1048576: true; the input reads as it did. -/
def fnExactCatchAllUptoRow : OpenClaim := { program := "yteogonlclldjlaa", sum := "2834fdec50af5953595153b63d090b5cf692f37808b1126b6ca41942e1720a56", func := "loop.example/g03307/laws.FnExactCatchAll", spec := "fnExactCatchAll", apart := false, narrowed := true }
def FnExactCatchAllUptoSaid : Prop := fnExactCatchAllUptoRow.holds Try.pinned (OpenSpec.upto fnExactCatchAllSpec)

/-- 'laws.FnExactCatchDays', WHERE WHAT IT READS IS OF BULK AT MOST 1048576: true; the input reads as it did. -/
def fnExactCatchDaysUptoRow : OpenClaim := { program := "yteogonlclldjlaa", sum := "2834fdec50af5953595153b63d090b5cf692f37808b1126b6ca41942e1720a56", func := "loop.example/g03307/laws.FnExactCatchDays", spec := "fnExactCatchDays", apart := false, narrowed := true }
def FnExactCatchDaysUptoSaid : Prop := fnExactCatchDaysUptoRow.holds Try.pinned (OpenSpec.upto fnExactCatchDaysSpec)

/-- 'laws.FnExactAreaFor', WHERE WHAT IT READS IS OF BULK AT MOST 1048576: true; the input reads as it did. -/
def fnExactAreaForUptoRow : OpenClaim := { program := "yteogonlclldjlaa", sum := "2834fdec50af5953595153b63d090b5cf692f37808b1126b6ca41942e1720a56", func := "loop.example/g03307/laws.FnExactAreaFor", spec := "fnExactAreaFor", apart := false, narrowed := true }
def FnExactAreaForUptoSaid : Prop := fnExactAreaForUptoRow.holds Try.pinned (OpenSpec.upto fnExactAreaForSpec)

/-- 'laws.FnExactBetterRoof', WHERE WHAT IT READS IS OF BULK AT MOST 1048576: true; the input reads as it did. -/
def fnExactBetterRoofUptoRow : OpenClaim := { program := "yteogonlclldjlaa", sum := "2834fdec50af5953595153b63d090b5cf692f37808b1126b6ca41942e1720a56", func := "loop.example/g03307/laws.FnExactBetterRoof", spec := "fnExactBetterRoof", apart := false, narrowed := true }
def FnExactBetterRoofUptoSaid : Prop := fnExactBetterRoofUptoRow.holds Try.pinned (OpenSpec.upto fnExactBetterRoofSpec)

end Rows
end Go.Proofs.Yteogonlclldjlaa

/-
  No cell of these rows narrows 'for every input' (looked for: loops, veiled, ifaces, maps, wideKeys, modest, calm, conditions, laid).
  DERIVED. THE GIVEN ROWS OF THIS SEAT. 7 by the template 'for every input the law returns true; each argument reads behind the call as it read before'; 0 by the template 'total and deterministic' (their statements: YtmffhogefchpbaaTotals.lean).
  GIVEN WITH THE SEED: the statements are not yours to turn. If you find one false, say at which input.
  Laid BY PROGRAM, IN A SANDBOX (cutbox-rows.mjs): the forced cells as the released guide's own fill.sh prints them over the translation d1d1b6f56e9e4e62… (all of the seat's roots in one cut). By AI agents, Wed Nov 11 2026. No macro, syntax, notation, axiom, sorry.
-/
import Derived.Test.YtmffhogefchpbaaChecked
import GoSem.Claim
import GoSem.ClaimJoined
import GoSem.ClaimMapViews
import Derived.JoinedTies
import Derived.KernelRfl
namespace Go.Proofs.Ytmffhogefchpbaa
/- THE CELL 'sum', in the pinned program and in every row, IS THE sha256 OF THE DUMP (.gsa) THAT YtmffhogefchpbaaProg.lean LOADS. Nothing in Lean hashes anything: it is a label: what it is worth is what the hold of that sum in a sandbox is worth. -/
noncomputable def Try.pinned : Pinned := { name := "ytmffhogefchpbaa", sum := "d1d1b6f56e9e4e62c7a803cb22cfb2b6b2ffa7b6d9c54d933f3849d8e0e52a4c", checked := Try.checked }
namespace Rows
def none {H : Type} : Left H := { results := [], args := [] }

/-- 'laws.FnChains': WHATEVER THE INPUT: true; the input reads as it did. -/
def fnChainsSpec : ChangeSpec := { name := "fnChains", fn := fun _ => fun
  | [d] => { results := [.lit (.bool true)], args := [d] }
  | _ => none }
def fnChainsRow : OpenClaim := { program := "ytmffhogefchpbaa", sum := "d1d1b6f56e9e4e62c7a803cb22cfb2b6b2ffa7b6d9c54d933f3849d8e0e52a4c", func := "loop.example/g03307/laws.FnChains", spec := "fnChains", apart := false }
def FnChainsSaid : Prop := fnChainsRow.holds Try.pinned (OpenSpec.ofChange fnChainsSpec)

/-- ITS FALSE NEIGHBOUR: 'it returns false'. Refute it at one input. -/
def fnChainsWrong : ChangeSpec := { name := "fnChains", fn := fun _ => fun
  | [d] => { results := [.lit (.bool false)], args := [d] }
  | _ => none }
def FnChainsWrongFalsely : Prop := fnChainsRow.holds Try.pinned (OpenSpec.ofChange fnChainsWrong)

/-- 'laws.FnExactChainOk': WHATEVER THE INPUT: true; the input reads as it did. -/
def fnExactChainOkSpec : ChangeSpec := { name := "fnExactChainOk", fn := fun _ => fun
  | [d] => { results := [.lit (.bool true)], args := [d] }
  | _ => none }
def fnExactChainOkRow : OpenClaim := { program := "ytmffhogefchpbaa", sum := "d1d1b6f56e9e4e62c7a803cb22cfb2b6b2ffa7b6d9c54d933f3849d8e0e52a4c", func := "loop.example/g03307/laws.FnExactChainOk", spec := "fnExactChainOk", apart := false }
def FnExactChainOkSaid : Prop := fnExactChainOkRow.holds Try.pinned (OpenSpec.ofChange fnExactChainOkSpec)

/-- ITS FALSE NEIGHBOUR: 'it returns false'. Refute it at one input. -/
def fnExactChainOkWrong : ChangeSpec := { name := "fnExactChainOk", fn := fun _ => fun
  | [d] => { results := [.lit (.bool false)], args := [d] }
  | _ => none }
def FnExactChainOkWrongFalsely : Prop := fnExactChainOkRow.holds Try.pinned (OpenSpec.ofChange fnExactChainOkWrong)

/-- 'laws.FnExactPourInto': WHATEVER THE INPUT: true; the input reads as it did. -/
def fnExactPourIntoSpec : ChangeSpec := { name := "fnExactPourInto", fn := fun _ => fun
  | [d1, d2, d3] => { results := [.lit (.bool true)], args := [d1, d2, d3] }
  | _ => none }
def fnExactPourIntoRow : OpenClaim := { program := "ytmffhogefchpbaa", sum := "d1d1b6f56e9e4e62c7a803cb22cfb2b6b2ffa7b6d9c54d933f3849d8e0e52a4c", func := "loop.example/g03307/laws.FnExactPourInto", spec := "fnExactPourInto", apart := false }
def FnExactPourIntoSaid : Prop := fnExactPourIntoRow.holds Try.pinned (OpenSpec.ofChange fnExactPourIntoSpec)

/-- ITS FALSE NEIGHBOUR: 'it returns false'. Refute it at one input. -/
def fnExactPourIntoWrong : ChangeSpec := { name := "fnExactPourInto", fn := fun _ => fun
  | [d1, d2, d3] => { results := [.lit (.bool false)], args := [d1, d2, d3] }
  | _ => none }
def FnExactPourIntoWrongFalsely : Prop := fnExactPourIntoRow.holds Try.pinned (OpenSpec.ofChange fnExactPourIntoWrong)

/-- 'laws.FnExactTotalLevel': WHATEVER THE INPUT: true; the input reads as it did. -/
def fnExactTotalLevelSpec : ChangeSpec := { name := "fnExactTotalLevel", fn := fun _ => fun
  | [d] => { results := [.lit (.bool true)], args := [d] }
  | _ => none }
def fnExactTotalLevelRow : OpenClaim := { program := "ytmffhogefchpbaa", sum := "d1d1b6f56e9e4e62c7a803cb22cfb2b6b2ffa7b6d9c54d933f3849d8e0e52a4c", func := "loop.example/g03307/laws.FnExactTotalLevel", spec := "fnExactTotalLevel", apart := false }
def FnExactTotalLevelSaid : Prop := fnExactTotalLevelRow.holds Try.pinned (OpenSpec.ofChange fnExactTotalLevelSpec)

/-- ITS FALSE NEIGHBOUR: 'it returns false'. Refute it at one input. -/
def fnExactTotalLevelWrong : ChangeSpec := { name := "fnExactTotalLevel", fn := fun _ => fun
  | [d] => { results := [.lit (.bool false)], args := [d] }
  | _ => none }
def FnExactTotalLevelWrongFalsely : Prop := fnExactTotalLevelRow.holds Try.pinned (OpenSpec.ofChange fnExactTotalLevelWrong)

/-- 'laws.FnExactWayOf': WHATEVER THE INPUT: true; the input reads as it did. -/
def fnExactWayOfSpec : ChangeSpec := { name := "fnExactWayOf", fn := fun _ => fun
  | [d1, d2] => { results := [.lit (.bool true)], args := [d1, d2] }
  | _ => none }
def fnExactWayOfRow : OpenClaim := { program := "ytmffhogefchpbaa", sum := "d1d1b6f56e9e4e62c7a803cb22cfb2b6b2ffa7b6d9c54d933f3849d8e0e52a4c", func := "loop.example/g03307/laws.FnExactWayOf", spec := "fnExactWayOf", apart := false }
def FnExactWayOfSaid : Prop := fnExactWayOfRow.holds Try.pinned (OpenSpec.ofChange fnExactWayOfSpec)

/-- ITS FALSE NEIGHBOUR: 'it returns false'. Refute it at one input. -/
def fnExactWayOfWrong : ChangeSpec := { name := "fnExactWayOf", fn := fun _ => fun
  | [d1, d2] => { results := [.lit (.bool false)], args := [d1, d2] }
  | _ => none }
def FnExactWayOfWrongFalsely : Prop := fnExactWayOfRow.holds Try.pinned (OpenSpec.ofChange fnExactWayOfWrong)

/-- 'laws.FnExactRoomFrom': WHATEVER THE INPUT: true; the input reads as it did. -/
def fnExactRoomFromSpec : ChangeSpec := { name := "fnExactRoomFrom", fn := fun _ => fun
  | [d1, d2] => { results := [.lit (.bool true)], args := [d1, d2] }
  | _ => none }
def fnExactRoomFromRow : OpenClaim := { program := "ytmffhogefchpbaa", sum := "d1d1b6f56e9e4e62c7a803cb22cfb2b6b2ffa7b6d9c54d933f3849d8e0e52a4c", func := "loop.example/g03307/laws.FnExactRoomFrom", spec := "fnExactRoomFrom", apart := false }
def FnExactRoomFromSaid : Prop := fnExactRoomFromRow.holds Try.pinned (OpenSpec.ofChange fnExactRoomFromSpec)

/-- ITS FALSE NEIGHBOUR: 'it returns false'. Refute it at one input. -/
def fnExactRoomFromWrong : ChangeSpec := { name := "fnExactRoomFrom", fn := fun _ => fun
  | [d1, d2] => { results := [.lit (.bool false)], args := [d1, d2] }
  | _ => none }
def FnExactRoomFromWrongFalsely : Prop := fnExactRoomFromRow.holds Try.pinned (OpenSpec.ofChange fnExactRoomFromWrong)

/-- 'laws.FnExactCircleIn': WHATEVER THE INPUT: true; the input reads as it did. -/
def fnExactCircleInSpec : ChangeSpec := { name := "fnExactCircleIn", fn := fun _ => fun
  | [d] => { results := [.lit (.bool true)], args := [d] }
  | _ => none }
def fnExactCircleInRow : OpenClaim := { program := "ytmffhogefchpbaa", sum := "d1d1b6f56e9e4e62c7a803cb22cfb2b6b2ffa7b6d9c54d933f3849d8e0e52a4c", func := "loop.example/g03307/laws.FnExactCircleIn", spec := "fnExactCircleIn", apart := false }
def FnExactCircleInSaid : Prop := fnExactCircleInRow.holds Try.pinned (OpenSpec.ofChange fnExactCircleInSpec)

/-- ITS FALSE NEIGHBOUR: 'it returns false'. Refute it at one input. -/
def fnExactCircleInWrong : ChangeSpec := { name := "fnExactCircleIn", fn := fun _ => fun
  | [d] => { results := [.lit (.bool false)], args := [d] }
  | _ => none }
def FnExactCircleInWrongFalsely : Prop := fnExactCircleInRow.holds Try.pinned (OpenSpec.ofChange fnExactCircleInWrong)

/- THE SECOND FORM. 'bulk': how many values and letters a reading holds, each counted each time it is reached (what is shared counts as often as it is met; a slice's spare places count too). A statement '..UptoSaid' is the law's where the arguments, and the package variables that the reading takes, are together of bulk at most 1048576: NARROWER than '..Said'. Prove '..Said' where nothing that the law and all that it calls make is longer than what came in: it says more and counts as full. Else prove '..UptoSaid'. A law counts once. -/
mutual
def uptoBulk {H : Type} : DataW H → Nat
  | .lit (.string bytes) => bytes.length + 1
  | .lit _ => 1
  | .nil => 1
  | .ptr d => uptoBulk d + 1
  | .slice elems spare => uptoBulkAll elems + uptoBulkAll spare + 1
  | .agg parts => uptoBulkAll parts + 1
  | .iface _ d => uptoBulk d + 1
  | .map entries => uptoBulkEntries entries + 1
  | .held _ => 1
def uptoBulkAll {H : Type} : List (DataW H) → Nat
  | [] => 0
  | d :: r => uptoBulk d + uptoBulkAll r
def uptoBulkEntries {H : Type} : List (Lit × DataW H) → Nat
  | [] => 0
  | x :: r => uptoBulkEntry x + uptoBulkEntries r
def uptoBulkEntry {H : Type} : Lit × DataW H → Nat
  | (.string bytes, d) => bytes.length + uptoBulk d + 1
  | (_, d) => uptoBulk d + 1
 end
def uptoSmall : (H : Type) → List (DataW H) → Bool := fun _ ds => decide (uptoBulkAll ds ≤ 1048576)
def OpenSpec.upto (s : _root_.Go.ChangeSpec) : _root_.Go.OpenSpec := { _root_.Go.OpenSpec.ofChange s with cond := some uptoSmall }

/-- 'laws.FnChains', WHERE WHAT IT READS IS OF BULK AT MOST 1048576: true; the input reads as it did. -/
def fnChainsUptoRow : OpenClaim := { program := "ytmffhogefchpbaa", sum := "d1d1b6f56e9e4e62c7a803cb22cfb2b6b2ffa7b6d9c54d933f3849d8e0e52a4c", func := "loop.example/g03307/laws.FnChains", spec := "fnChains", apart := false, narrowed := true }
def FnChainsUptoSaid : Prop := fnChainsUptoRow.holds Try.pinned (OpenSpec.upto fnChainsSpec)

/-- 'laws.FnExactChainOk', WHERE WHAT IT READS IS OF BULK AT MOST 1048576: true; the input reads as it did. -/
def fnExactChainOkUptoRow : OpenClaim := { program := "ytmffhogefchpbaa", sum := "d1d1b6f56e9e4e62c7a803cb22cfb2b6b2ffa7b6d9c54d933f3849d8e0e52a4c", func := "loop.example/g03307/laws.FnExactChainOk", spec := "fnExactChainOk", apart := false, narrowed := true }
def FnExactChainOkUptoSaid : Prop := fnExactChainOkUptoRow.holds Try.pinned (OpenSpec.upto fnExactChainOkSpec)

/-- 'laws.FnExactPourInto', WHERE WHAT IT READS IS OF BULK AT MOST 1048576: true; the input reads as it did. -/
def fnExactPourIntoUptoRow : OpenClaim := { program := "ytmffhogefchpbaa", sum := "d1d1b6f56e9e4e62c7a803cb22cfb2b6b2ffa7b6d9c54d933f3849d8e0e52a4c", func := "loop.example/g03307/laws.FnExactPourInto", spec := "fnExactPourInto", apart := false, narrowed := true }
def FnExactPourIntoUptoSaid : Prop := fnExactPourIntoUptoRow.holds Try.pinned (OpenSpec.upto fnExactPourIntoSpec)

/-- 'laws.FnExactTotalLevel', WHERE WHAT IT READS IS OF BULK AT MOST 1048576: true; the input reads as it did. -/
def fnExactTotalLevelUptoRow : OpenClaim := { program := "ytmffhogefchpbaa", sum := "d1d1b6f56e9e4e62c7a803cb22cfb2b6b2ffa7b6d9c54d933f3849d8e0e52a4c", func := "loop.example/g03307/laws.FnExactTotalLevel", spec := "fnExactTotalLevel", apart := false, narrowed := true }
def FnExactTotalLevelUptoSaid : Prop := fnExactTotalLevelUptoRow.holds Try.pinned (OpenSpec.upto fnExactTotalLevelSpec)

/-- 'laws.FnExactWayOf', WHERE WHAT IT READS IS OF BULK AT MOST 1048576: true; the input reads as it did. -/
def fnExactWayOfUptoRow : OpenClaim := { program := "ytmffhogefchpbaa", sum := "d1d1b6f56e9e4e62c7a803cb22cfb2b6b2ffa7b6d9c54d933f3849d8e0e52a4c", func := "loop.example/g03307/laws.FnExactWayOf", spec := "fnExactWayOf", apart := false, narrowed := true }
def FnExactWayOfUptoSaid : Prop := fnExactWayOfUptoRow.holds Try.pinned (OpenSpec.upto fnExactWayOfSpec)

/-- 'laws.FnExactRoomFrom', WHERE WHAT IT READS IS OF BULK AT MOST 1048576: true; the input reads as it did. -/
def fnExactRoomFromUptoRow : OpenClaim := { program := "ytmffhogefchpbaa", sum := "d1d1b6f56e9e4e62c7a803cb22cfb2b6b2ffa7b6d9c54d933f3849d8e0e52a4c", func := "loop.example/g03307/laws.FnExactRoomFrom", spec := "fnExactRoomFrom", apart := false, narrowed := true }
def FnExactRoomFromUptoSaid : Prop := fnExactRoomFromUptoRow.holds Try.pinned (OpenSpec.upto fnExactRoomFromSpec)

/-- 'laws.FnExactCircleIn', WHERE WHAT IT READS IS OF BULK AT MOST 1048576: true; the input reads as it did. -/
def fnExactCircleInUptoRow : OpenClaim := { program := "ytmffhogefchpbaa", sum := "d1d1b6f56e9e4e62c7a803cb22cfb2b6b2ffa7b6d9c54d933f3849d8e0e52a4c", func := "loop.example/g03307/laws.FnExactCircleIn", spec := "fnExactCircleIn", apart := false, narrowed := true }
def FnExactCircleInUptoSaid : Prop := fnExactCircleInUptoRow.holds Try.pinned (OpenSpec.upto fnExactCircleInSpec)

end Rows
end Go.Proofs.Ytmffhogefchpbaa

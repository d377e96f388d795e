/-
  No cell of these rows narrows 'for every input' (looked for: loops, veiled, ifaces, maps, wideKeys, modest, calm, conditions, laid).
  DERIVED. THE GIVEN ROWS OF THIS SEAT. 12 by the template 'for every input the law returns true; each argument reads behind the call as it read before'; 0 by the template 'total and deterministic' (their statements: YtojahddamdlcpaaTotals.lean).
  GIVEN WITH THE SEED: the statements are not yours to turn. If you find one false, say at which input.
  Laid BY PROGRAM, IN A SANDBOX (cutbox-rows.mjs): the forced cells as the released guide's own fill.sh prints them over the translation e1bec7c13026863c… (all of the seat's roots in one cut). By AI agents, Wed Nov 11 2026. No macro, syntax, notation, axiom, sorry.
-/
import Derived.Test.YtojahddamdlcpaaChecked
import GoSem.Claim
import GoSem.ClaimJoined
import GoSem.ClaimMapViews
import Derived.JoinedTies
import Derived.KernelRfl
namespace Go.Proofs.Ytojahddamdlcpaa
/- THE CELL 'sum', in the pinned program and in every row, IS THE sha256 OF THE DUMP (.gsa) THAT YtojahddamdlcpaaProg.lean LOADS. Nothing in Lean hashes anything: it is a label: what it is worth is what the hold of that sum in a sandbox is worth. -/
noncomputable def Try.pinned : Pinned := { name := "ytojahddamdlcpaa", sum := "e1bec7c13026863cacaece8b86c8d5148c4314b583338cf2c8c019705512cb7f", checked := Try.checked }
namespace Rows
def none {H : Type} : Left H := { results := [], args := [] }

/-- 'laws.FnRains': WHATEVER THE INPUT: true; the input reads as it did. -/
def fnRainsSpec : ChangeSpec := { name := "fnRains", fn := fun _ => fun
  | [d] => { results := [.lit (.bool true)], args := [d] }
  | _ => none }
def fnRainsRow : OpenClaim := { program := "ytojahddamdlcpaa", sum := "e1bec7c13026863cacaece8b86c8d5148c4314b583338cf2c8c019705512cb7f", func := "loop.example/g03307/laws.FnRains", spec := "fnRains", apart := false }
def FnRainsSaid : Prop := fnRainsRow.holds Try.pinned (OpenSpec.ofChange fnRainsSpec)

/-- ITS FALSE NEIGHBOUR: 'it returns false'. Refute it at one input. -/
def fnRainsWrong : ChangeSpec := { name := "fnRains", fn := fun _ => fun
  | [d] => { results := [.lit (.bool false)], args := [d] }
  | _ => none }
def FnRainsWrongFalsely : Prop := fnRainsRow.holds Try.pinned (OpenSpec.ofChange fnRainsWrong)

/-- 'laws.FnSizes': WHATEVER THE INPUT: true; the input reads as it did. -/
def fnSizesSpec : ChangeSpec := { name := "fnSizes", fn := fun _ => fun
  | [d] => { results := [.lit (.bool true)], args := [d] }
  | _ => none }
def fnSizesRow : OpenClaim := { program := "ytojahddamdlcpaa", sum := "e1bec7c13026863cacaece8b86c8d5148c4314b583338cf2c8c019705512cb7f", func := "loop.example/g03307/laws.FnSizes", spec := "fnSizes", unfollowed := true, recurses := true, apart := false }
def FnSizesSaid : Prop := fnSizesRow.holds Try.pinned (OpenSpec.ofChange fnSizesSpec)

/-- ITS FALSE NEIGHBOUR: 'it returns false'. Refute it at one input. -/
def fnSizesWrong : ChangeSpec := { name := "fnSizes", fn := fun _ => fun
  | [d] => { results := [.lit (.bool false)], args := [d] }
  | _ => none }
def FnSizesWrongFalsely : Prop := fnSizesRow.holds Try.pinned (OpenSpec.ofChange fnSizesWrong)

/-- 'laws.FnExactTotalRain': WHATEVER THE INPUT: true; the input reads as it did. -/
def fnExactTotalRainSpec : ChangeSpec := { name := "fnExactTotalRain", fn := fun _ => fun
  | [d] => { results := [.lit (.bool true)], args := [d] }
  | _ => none }
def fnExactTotalRainRow : OpenClaim := { program := "ytojahddamdlcpaa", sum := "e1bec7c13026863cacaece8b86c8d5148c4314b583338cf2c8c019705512cb7f", func := "loop.example/g03307/laws.FnExactTotalRain", spec := "fnExactTotalRain", apart := false }
def FnExactTotalRainSaid : Prop := fnExactTotalRainRow.holds Try.pinned (OpenSpec.ofChange fnExactTotalRainSpec)

/-- ITS FALSE NEIGHBOUR: 'it returns false'. Refute it at one input. -/
def fnExactTotalRainWrong : ChangeSpec := { name := "fnExactTotalRain", fn := fun _ => fun
  | [d] => { results := [.lit (.bool false)], args := [d] }
  | _ => none }
def FnExactTotalRainWrongFalsely : Prop := fnExactTotalRainRow.holds Try.pinned (OpenSpec.ofChange fnExactTotalRainWrong)

/-- 'laws.FnExactWettestDay': WHATEVER THE INPUT: true; the input reads as it did. -/
def fnExactWettestDaySpec : ChangeSpec := { name := "fnExactWettestDay", fn := fun _ => fun
  | [d] => { results := [.lit (.bool true)], args := [d] }
  | _ => none }
def fnExactWettestDayRow : OpenClaim := { program := "ytojahddamdlcpaa", sum := "e1bec7c13026863cacaece8b86c8d5148c4314b583338cf2c8c019705512cb7f", func := "loop.example/g03307/laws.FnExactWettestDay", spec := "fnExactWettestDay", apart := false }
def FnExactWettestDaySaid : Prop := fnExactWettestDayRow.holds Try.pinned (OpenSpec.ofChange fnExactWettestDaySpec)

/-- ITS FALSE NEIGHBOUR: 'it returns false'. Refute it at one input. -/
def fnExactWettestDayWrong : ChangeSpec := { name := "fnExactWettestDay", fn := fun _ => fun
  | [d] => { results := [.lit (.bool false)], args := [d] }
  | _ => none }
def FnExactWettestDayWrongFalsely : Prop := fnExactWettestDayRow.holds Try.pinned (OpenSpec.ofChange fnExactWettestDayWrong)

/-- 'laws.FnExactWettestWeek': WHATEVER THE INPUT: true; the input reads as it did. -/
def fnExactWettestWeekSpec : ChangeSpec := { name := "fnExactWettestWeek", fn := fun _ => fun
  | [d] => { results := [.lit (.bool true)], args := [d] }
  | _ => none }
def fnExactWettestWeekRow : OpenClaim := { program := "ytojahddamdlcpaa", sum := "e1bec7c13026863cacaece8b86c8d5148c4314b583338cf2c8c019705512cb7f", func := "loop.example/g03307/laws.FnExactWettestWeek", spec := "fnExactWettestWeek", apart := false }
def FnExactWettestWeekSaid : Prop := fnExactWettestWeekRow.holds Try.pinned (OpenSpec.ofChange fnExactWettestWeekSpec)

/-- ITS FALSE NEIGHBOUR: 'it returns false'. Refute it at one input. -/
def fnExactWettestWeekWrong : ChangeSpec := { name := "fnExactWettestWeek", fn := fun _ => fun
  | [d] => { results := [.lit (.bool false)], args := [d] }
  | _ => none }
def FnExactWettestWeekWrongFalsely : Prop := fnExactWettestWeekRow.holds Try.pinned (OpenSpec.ofChange fnExactWettestWeekWrong)

/-- 'laws.FnExactHasWetPart': WHATEVER THE INPUT: true; the input reads as it did. -/
def fnExactHasWetPartSpec : ChangeSpec := { name := "fnExactHasWetPart", fn := fun _ => fun
  | [d1, d2, d3] => { results := [.lit (.bool true)], args := [d1, d2, d3] }
  | _ => none }
def fnExactHasWetPartRow : OpenClaim := { program := "ytojahddamdlcpaa", sum := "e1bec7c13026863cacaece8b86c8d5148c4314b583338cf2c8c019705512cb7f", func := "loop.example/g03307/laws.FnExactHasWetPart", spec := "fnExactHasWetPart", apart := false }
def FnExactHasWetPartSaid : Prop := fnExactHasWetPartRow.holds Try.pinned (OpenSpec.ofChange fnExactHasWetPartSpec)

/-- ITS FALSE NEIGHBOUR: 'it returns false'. Refute it at one input. -/
def fnExactHasWetPartWrong : ChangeSpec := { name := "fnExactHasWetPart", fn := fun _ => fun
  | [d1, d2, d3] => { results := [.lit (.bool false)], args := [d1, d2, d3] }
  | _ => none }
def FnExactHasWetPartWrongFalsely : Prop := fnExactHasWetPartRow.holds Try.pinned (OpenSpec.ofChange fnExactHasWetPartWrong)

/-- 'laws.FnExactIsEnough': WHATEVER THE INPUT: true; the input reads as it did. -/
def fnExactIsEnoughSpec : ChangeSpec := { name := "fnExactIsEnough", fn := fun _ => fun
  | [d] => { results := [.lit (.bool true)], args := [d] }
  | _ => none }
def fnExactIsEnoughRow : OpenClaim := { program := "ytojahddamdlcpaa", sum := "e1bec7c13026863cacaece8b86c8d5148c4314b583338cf2c8c019705512cb7f", func := "loop.example/g03307/laws.FnExactIsEnough", spec := "fnExactIsEnough", apart := false }
def FnExactIsEnoughSaid : Prop := fnExactIsEnoughRow.holds Try.pinned (OpenSpec.ofChange fnExactIsEnoughSpec)

/-- ITS FALSE NEIGHBOUR: 'it returns false'. Refute it at one input. -/
def fnExactIsEnoughWrong : ChangeSpec := { name := "fnExactIsEnough", fn := fun _ => fun
  | [d] => { results := [.lit (.bool false)], args := [d] }
  | _ => none }
def FnExactIsEnoughWrongFalsely : Prop := fnExactIsEnoughRow.holds Try.pinned (OpenSpec.ofChange fnExactIsEnoughWrong)

/-- 'laws.FnExactLeastRoom': WHATEVER THE INPUT: true; the input reads as it did. -/
def fnExactLeastRoomSpec : ChangeSpec := { name := "fnExactLeastRoom", fn := fun _ => fun
  | [d] => { results := [.lit (.bool true)], args := [d] }
  | _ => none }
def fnExactLeastRoomRow : OpenClaim := { program := "ytojahddamdlcpaa", sum := "e1bec7c13026863cacaece8b86c8d5148c4314b583338cf2c8c019705512cb7f", func := "loop.example/g03307/laws.FnExactLeastRoom", spec := "fnExactLeastRoom", unfollowed := true, recurses := true, apart := false }
def FnExactLeastRoomSaid : Prop := fnExactLeastRoomRow.holds Try.pinned (OpenSpec.ofChange fnExactLeastRoomSpec)

/-- ITS FALSE NEIGHBOUR: 'it returns false'. Refute it at one input. -/
def fnExactLeastRoomWrong : ChangeSpec := { name := "fnExactLeastRoom", fn := fun _ => fun
  | [d] => { results := [.lit (.bool false)], args := [d] }
  | _ => none }
def FnExactLeastRoomWrongFalsely : Prop := fnExactLeastRoomRow.holds Try.pinned (OpenSpec.ofChange fnExactLeastRoomWrong)

/-- 'laws.FnExactMostNeed': WHATEVER THE INPUT: true; the input reads as it did. -/
def fnExactMostNeedSpec : ChangeSpec := { name := "fnExactMostNeed", fn := fun _ => fun
  | [d] => { results := [.lit (.bool true)], args := [d] }
  | _ => none }
def fnExactMostNeedRow : OpenClaim := { program := "ytojahddamdlcpaa", sum := "e1bec7c13026863cacaece8b86c8d5148c4314b583338cf2c8c019705512cb7f", func := "loop.example/g03307/laws.FnExactMostNeed", spec := "fnExactMostNeed", unfollowed := true, recurses := true, apart := false }
def FnExactMostNeedSaid : Prop := fnExactMostNeedRow.holds Try.pinned (OpenSpec.ofChange fnExactMostNeedSpec)

/-- ITS FALSE NEIGHBOUR: 'it returns false'. Refute it at one input. -/
def fnExactMostNeedWrong : ChangeSpec := { name := "fnExactMostNeed", fn := fun _ => fun
  | [d] => { results := [.lit (.bool false)], args := [d] }
  | _ => none }
def FnExactMostNeedWrongFalsely : Prop := fnExactMostNeedRow.holds Try.pinned (OpenSpec.ofChange fnExactMostNeedWrong)

/-- 'laws.FnExactLeastStart': WHATEVER THE INPUT: true; the input reads as it did. -/
def fnExactLeastStartSpec : ChangeSpec := { name := "fnExactLeastStart", fn := fun _ => fun
  | [d] => { results := [.lit (.bool true)], args := [d] }
  | _ => none }
def fnExactLeastStartRow : OpenClaim := { program := "ytojahddamdlcpaa", sum := "e1bec7c13026863cacaece8b86c8d5148c4314b583338cf2c8c019705512cb7f", func := "loop.example/g03307/laws.FnExactLeastStart", spec := "fnExactLeastStart", unfollowed := true, recurses := true, apart := false }
def FnExactLeastStartSaid : Prop := fnExactLeastStartRow.holds Try.pinned (OpenSpec.ofChange fnExactLeastStartSpec)

/-- ITS FALSE NEIGHBOUR: 'it returns false'. Refute it at one input. -/
def fnExactLeastStartWrong : ChangeSpec := { name := "fnExactLeastStart", fn := fun _ => fun
  | [d] => { results := [.lit (.bool false)], args := [d] }
  | _ => none }
def FnExactLeastStartWrongFalsely : Prop := fnExactLeastStartRow.holds Try.pinned (OpenSpec.ofChange fnExactLeastStartWrong)

/-- 'laws.FnExactAverageCatch': WHATEVER THE INPUT: true; the input reads as it did. -/
def fnExactAverageCatchSpec : ChangeSpec := { name := "fnExactAverageCatch", fn := fun _ => fun
  | [d] => { results := [.lit (.bool true)], args := [d] }
  | _ => none }
def fnExactAverageCatchRow : OpenClaim := { program := "ytojahddamdlcpaa", sum := "e1bec7c13026863cacaece8b86c8d5148c4314b583338cf2c8c019705512cb7f", func := "loop.example/g03307/laws.FnExactAverageCatch", spec := "fnExactAverageCatch", apart := false }
def FnExactAverageCatchSaid : Prop := fnExactAverageCatchRow.holds Try.pinned (OpenSpec.ofChange fnExactAverageCatchSpec)

/-- ITS FALSE NEIGHBOUR: 'it returns false'. Refute it at one input. -/
def fnExactAverageCatchWrong : ChangeSpec := { name := "fnExactAverageCatch", fn := fun _ => fun
  | [d] => { results := [.lit (.bool false)], args := [d] }
  | _ => none }
def FnExactAverageCatchWrongFalsely : Prop := fnExactAverageCatchRow.holds Try.pinned (OpenSpec.ofChange fnExactAverageCatchWrong)

/-- 'laws.FnExactWithRoom': WHATEVER THE INPUT: true; the input reads as it did. -/
def fnExactWithRoomSpec : ChangeSpec := { name := "fnExactWithRoom", fn := fun _ => fun
  | [d1, d2] => { results := [.lit (.bool true)], args := [d1, d2] }
  | _ => none }
def fnExactWithRoomRow : OpenClaim := { program := "ytojahddamdlcpaa", sum := "e1bec7c13026863cacaece8b86c8d5148c4314b583338cf2c8c019705512cb7f", func := "loop.example/g03307/laws.FnExactWithRoom", spec := "fnExactWithRoom", apart := false }
def FnExactWithRoomSaid : Prop := fnExactWithRoomRow.holds Try.pinned (OpenSpec.ofChange fnExactWithRoomSpec)

/-- ITS FALSE NEIGHBOUR: 'it returns false'. Refute it at one input. -/
def fnExactWithRoomWrong : ChangeSpec := { name := "fnExactWithRoom", fn := fun _ => fun
  | [d1, d2] => { results := [.lit (.bool false)], args := [d1, d2] }
  | _ => none }
def FnExactWithRoomWrongFalsely : Prop := fnExactWithRoomRow.holds Try.pinned (OpenSpec.ofChange fnExactWithRoomWrong)

/- THE SECOND FORM. 'bulk': how many values and letters a reading holds, each counted each time it is reached (what is shared counts as often as it is met; a slice's spare places count too). A statement '..UptoSaid' is the law's where the arguments, and the package variables that the reading takes, are together of bulk at most 1048576: NARROWER than '..Said'. Prove '..Said' where nothing that the law and all that it calls make is longer than what came in: it says more and counts as full. Else prove '..UptoSaid'. A law counts once. -/
mutual
def uptoBulk {H : Type} : DataW H → Nat
  | .lit (.string bytes) => bytes.length + 1
  | .lit _ => 1
  | .nil => 1
  | .ptr d => uptoBulk d + 1
  | .slice elems spare => uptoBulkAll elems + uptoBulkAll spare + 1
  | .agg parts => uptoBulkAll parts + 1
  | .iface _ d => uptoBulk d + 1
  | .map entries => uptoBulkEntries entries + 1
  | .held _ => 1
def uptoBulkAll {H : Type} : List (DataW H) → Nat
  | [] => 0
  | d :: r => uptoBulk d + uptoBulkAll r
def uptoBulkEntries {H : Type} : List (Lit × DataW H) → Nat
  | [] => 0
  | x :: r => uptoBulkEntry x + uptoBulkEntries r
def uptoBulkEntry {H : Type} : Lit × DataW H → Nat
  | (.string bytes, d) => bytes.length + uptoBulk d + 1
  | (_, d) => uptoBulk d + 1
 end
def uptoSmall : (H : Type) → List (DataW H) → Bool := fun _ ds => decide (uptoBulkAll ds ≤ 1048576)
def OpenSpec.upto (s : _root_.Go.ChangeSpec) : _root_.Go.OpenSpec := { _root_.Go.OpenSpec.ofChange s with cond := some uptoSmall }

/-- 'laws.FnRains', WHERE WHAT IT READS IS OF BULK AT MOST 1048576: true; the input reads as it did. -/
def fnRainsUptoRow : OpenClaim := { program := "ytojahddamdlcpaa", sum := "e1bec7c13026863cacaece8b86c8d5148c4314b583338cf2c8c019705512cb7f", func := "loop.example/g03307/laws.FnRains", spec := "fnRains", apart := false, narrowed := true }
def FnRainsUptoSaid : Prop := fnRainsUptoRow.holds Try.pinned (OpenSpec.upto fnRainsSpec)

/-- 'laws.FnSizes', WHERE WHAT IT READS IS OF BULK AT MOST 1048576: true; the input reads as it did. -/
def fnSizesUptoRow : OpenClaim := { program := "ytojahddamdlcpaa", sum := "e1bec7c13026863cacaece8b86c8d5148c4314b583338cf2c8c019705512cb7f", func := "loop.example/g03307/laws.FnSizes", spec := "fnSizes", unfollowed := true, recurses := true, apart := false, narrowed := true }
def FnSizesUptoSaid : Prop := fnSizesUptoRow.holds Try.pinned (OpenSpec.upto fnSizesSpec)

/-- 'laws.FnExactTotalRain', WHERE WHAT IT READS IS OF BULK AT MOST 1048576: true; the input reads as it did. -/
def fnExactTotalRainUptoRow : OpenClaim := { program := "ytojahddamdlcpaa", sum := "e1bec7c13026863cacaece8b86c8d5148c4314b583338cf2c8c019705512cb7f", func := "loop.example/g03307/laws.FnExactTotalRain", spec := "fnExactTotalRain", apart := false, narrowed := true }
def FnExactTotalRainUptoSaid : Prop := fnExactTotalRainUptoRow.holds Try.pinned (OpenSpec.upto fnExactTotalRainSpec)

/-- 'laws.FnExactWettestDay', WHERE WHAT IT READS IS OF BULK AT MOST 1048576: true; the input reads as it did. -/
def fnExactWettestDayUptoRow : OpenClaim := { program := "ytojahddamdlcpaa", sum := "e1bec7c13026863cacaece8b86c8d5148c4314b583338cf2c8c019705512cb7f", func := "loop.example/g03307/laws.FnExactWettestDay", spec := "fnExactWettestDay", apart := false, narrowed := true }
def FnExactWettestDayUptoSaid : Prop := fnExactWettestDayUptoRow.holds Try.pinned (OpenSpec.upto fnExactWettestDaySpec)

/-- 'laws.FnExactWettestWeek', WHERE WHAT IT READS IS OF BULK AT MOST 1048576: true; the input reads as it did. -/
def fnExactWettestWeekUptoRow : OpenClaim := { program := "ytojahddamdlcpaa", sum := "e1bec7c13026863cacaece8b86c8d5148c4314b583338cf2c8c019705512cb7f", func := "loop.example/g03307/laws.FnExactWettestWeek", spec := "fnExactWettestWeek", apart := false, narrowed := true }
def FnExactWettestWeekUptoSaid : Prop := fnExactWettestWeekUptoRow.holds Try.pinned (OpenSpec.upto fnExactWettestWeekSpec)

/-- 'laws.FnExactHasWetPart', WHERE WHAT IT READS IS OF BULK AT MOST 1048576: true; the input reads as it did. -/
def fnExactHasWetPartUptoRow : OpenClaim := { program := "ytojahddamdlcpaa", sum := "e1bec7c13026863cacaece8b86c8d5148c4314b583338cf2c8c019705512cb7f", func := "loop.example/g03307/laws.FnExactHasWetPart", spec := "fnExactHasWetPart", apart := false, narrowed := true }
def FnExactHasWetPartUptoSaid : Prop := fnExactHasWetPartUptoRow.holds Try.pinned (OpenSpec.upto fnExactHasWetPartSpec)

/-- 'laws.FnExactIsEnough', WHERE WHAT IT READS IS OF BULK AT MOST 1048576: true; the input reads as it did. -/
def fnExactIsEnoughUptoRow : OpenClaim := { program := "ytojahddamdlcpaa", sum := "e1bec7c13026863cacaece8b86c8d5148c4314b583338cf2c8c019705512cb7f", func := "loop.example/g03307/laws.FnExactIsEnough", spec := "fnExactIsEnough", apart := false, narrowed := true }
def FnExactIsEnoughUptoSaid : Prop := fnExactIsEnoughUptoRow.holds Try.pinned (OpenSpec.upto fnExactIsEnoughSpec)

/-- 'laws.FnExactLeastRoom', WHERE WHAT IT READS IS OF BULK AT MOST 1048576: true; the input reads as it did. -/
def fnExactLeastRoomUptoRow : OpenClaim := { program := "ytojahddamdlcpaa", sum := "e1bec7c13026863cacaece8b86c8d5148c4314b583338cf2c8c019705512cb7f", func := "loop.example/g03307/laws.FnExactLeastRoom", spec := "fnExactLeastRoom", unfollowed := true, recurses := true, apart := false, narrowed := true }
def FnExactLeastRoomUptoSaid : Prop := fnExactLeastRoomUptoRow.holds Try.pinned (OpenSpec.upto fnExactLeastRoomSpec)

/-- 'laws.FnExactMostNeed', WHERE WHAT IT READS IS OF BULK AT MOST 1048576: true; the input reads as it did. -/
def fnExactMostNeedUptoRow : OpenClaim := { program := "ytojahddamdlcpaa", sum := "e1bec7c13026863cacaece8b86c8d5148c4314b583338cf2c8c019705512cb7f", func := "loop.example/g03307/laws.FnExactMostNeed", spec := "fnExactMostNeed", unfollowed := true, recurses := true, apart := false, narrowed := true }
def FnExactMostNeedUptoSaid : Prop := fnExactMostNeedUptoRow.holds Try.pinned (OpenSpec.upto fnExactMostNeedSpec)

/-- 'laws.FnExactLeastStart', WHERE WHAT IT READS IS OF BULK AT MOST 1048576: true; the input reads as it did. -/
def fnExactLeastStartUptoRow : OpenClaim := { program := "ytojahddamdlcpaa", sum := "e1bec7c13026863cacaece8b86c8d5148c4314b583338cf2c8c019705512cb7f", func := "loop.example/g03307/laws.FnExactLeastStart", spec := "fnExactLeastStart", unfollowed := true, recurses := true, apart := false, narrowed := true }
def FnExactLeastStartUptoSaid : Prop := fnExactLeastStartUptoRow.holds Try.pinned (OpenSpec.upto fnExactLeastStartSpec)

/-- 'laws.FnExactAverageCatch', WHERE WHAT IT READS IS OF BULK AT MOST 1048576: true; the input reads as it did. -/
def fnExactAverageCatchUptoRow : OpenClaim := { program := "ytojahddamdlcpaa", sum := "e1bec7c13026863cacaece8b86c8d5148c4314b583338cf2c8c019705512cb7f", func := "loop.example/g03307/laws.FnExactAverageCatch", spec := "fnExactAverageCatch", apart := false, narrowed := true }
def FnExactAverageCatchUptoSaid : Prop := fnExactAverageCatchUptoRow.holds Try.pinned (OpenSpec.upto fnExactAverageCatchSpec)

/-- 'laws.FnExactWithRoom', WHERE WHAT IT READS IS OF BULK AT MOST 1048576: true; the input reads as it did. -/
def fnExactWithRoomUptoRow : OpenClaim := { program := "ytojahddamdlcpaa", sum := "e1bec7c13026863cacaece8b86c8d5148c4314b583338cf2c8c019705512cb7f", func := "loop.example/g03307/laws.FnExactWithRoom", spec := "fnExactWithRoom", apart := false, narrowed := true }
def FnExactWithRoomUptoSaid : Prop := fnExactWithRoomUptoRow.holds Try.pinned (OpenSpec.upto fnExactWithRoomSpec)

end Rows
end Go.Proofs.Ytojahddamdlcpaa
